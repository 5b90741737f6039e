/- The contracts of Check and of the document's answer to it: an instruction may be, or it may not. -/
import Derived.Test.YtgnlplddppheiaaISmall
import Derived.Test.YtgnlplddppheiaaIShaped
import Derived.WalkKit
namespace Go.Proofs.Ytgnlplddppheiaa
open Go.RowKit
set_option linter.unusedVariables false

theorem bcell {W w1 : World} (hb : Below W.heap.size W w1) : (∀ b o, b < W.heap.size → w1.cell? ⟨b, o, none⟩ = W.cell? ⟨b, o, none⟩) ∧ (∀ b o, b < W.heap.size → w1.frozen? ⟨b, o, none⟩ = W.frozen? ⟨b, o, none⟩) :=
  ⟨fun b o h => hb.cell (p := ⟨b, o, none⟩) h, fun b o h => hb.frozen (p := ⟨b, o, none⟩) h⟩

section
variable {p lo hi n : Int} {D A B sg is : Bool}
theorem bit1 (R : Row p lo hi D A B n sg is) : (bits BinOp.and IntKind.i64 p 1 != 0) = D := by
  rcases R.out with ⟨rfl, rfl, rfl, rfl, rfl, rfl, rfl, rfl, rfl⟩ | ⟨rfl, rfl, rfl, rfl, rfl, rfl, rfl, rfl, rfl⟩ | ⟨rfl, rfl, rfl, rfl, rfl, rfl, rfl, rfl, rfl⟩ | ⟨rfl, rfl, rfl, rfl, rfl, rfl, rfl, rfl, rfl⟩ | ⟨rfl, rfl, rfl, rfl, rfl, rfl, rfl, rfl, rfl⟩ | ⟨rfl, rfl, rfl, rfl, rfl, rfl, rfl, rfl, rfl⟩ | ⟨rfl, rfl, rfl, rfl, rfl, rfl, rfl, rfl, rfl⟩ | ⟨rfl, rfl, rfl, rfl, rfl, rfl, rfl, rfl, rfl⟩ | ⟨rfl, rfl, rfl, rfl, rfl, rfl, rfl, rfl, rfl⟩ | ⟨rfl, rfl, rfl, rfl, rfl, rfl, rfl, rfl, rfl⟩ | ⟨rfl, rfl, rfl, rfl, rfl, rfl, rfl, rfl, rfl⟩
  all_goals decide
theorem bit2 (R : Row p lo hi D A B n sg is) : (bits BinOp.and IntKind.i64 p 2 != 0) = A := by
  rcases R.out with ⟨rfl, rfl, rfl, rfl, rfl, rfl, rfl, rfl, rfl⟩ | ⟨rfl, rfl, rfl, rfl, rfl, rfl, rfl, rfl, rfl⟩ | ⟨rfl, rfl, rfl, rfl, rfl, rfl, rfl, rfl, rfl⟩ | ⟨rfl, rfl, rfl, rfl, rfl, rfl, rfl, rfl, rfl⟩ | ⟨rfl, rfl, rfl, rfl, rfl, rfl, rfl, rfl, rfl⟩ | ⟨rfl, rfl, rfl, rfl, rfl, rfl, rfl, rfl, rfl⟩ | ⟨rfl, rfl, rfl, rfl, rfl, rfl, rfl, rfl, rfl⟩ | ⟨rfl, rfl, rfl, rfl, rfl, rfl, rfl, rfl, rfl⟩ | ⟨rfl, rfl, rfl, rfl, rfl, rfl, rfl, rfl, rfl⟩ | ⟨rfl, rfl, rfl, rfl, rfl, rfl, rfl, rfl, rfl⟩ | ⟨rfl, rfl, rfl, rfl, rfl, rfl, rfl, rfl, rfl⟩
  all_goals decide
theorem bit4 (R : Row p lo hi D A B n sg is) : (bits BinOp.and IntKind.i64 p 4 != 0) = B := by
  rcases R.out with ⟨rfl, rfl, rfl, rfl, rfl, rfl, rfl, rfl, rfl⟩ | ⟨rfl, rfl, rfl, rfl, rfl, rfl, rfl, rfl, rfl⟩ | ⟨rfl, rfl, rfl, rfl, rfl, rfl, rfl, rfl, rfl⟩ | ⟨rfl, rfl, rfl, rfl, rfl, rfl, rfl, rfl, rfl⟩ | ⟨rfl, rfl, rfl, rfl, rfl, rfl, rfl, rfl, rfl⟩ | ⟨rfl, rfl, rfl, rfl, rfl, rfl, rfl, rfl, rfl⟩ | ⟨rfl, rfl, rfl, rfl, rfl, rfl, rfl, rfl, rfl⟩ | ⟨rfl, rfl, rfl, rfl, rfl, rfl, rfl, rfl, rfl⟩ | ⟨rfl, rfl, rfl, rfl, rfl, rfl, rfl, rfl, rfl⟩ | ⟨rfl, rfl, rfl, rfl, rfl, rfl, rfl, rfl, rfl⟩ | ⟨rfl, rfl, rfl, rfl, rfl, rfl, rfl, rfl, rfl⟩
  all_goals decide
theorem bit32 (R : Row p lo hi D A B n sg is) : (bits BinOp.and IntKind.i64 p 32 != 0) = decide (n = 24) := by
  rcases R.out with ⟨rfl, rfl, rfl, rfl, rfl, rfl, rfl, rfl, rfl⟩ | ⟨rfl, rfl, rfl, rfl, rfl, rfl, rfl, rfl, rfl⟩ | ⟨rfl, rfl, rfl, rfl, rfl, rfl, rfl, rfl, rfl⟩ | ⟨rfl, rfl, rfl, rfl, rfl, rfl, rfl, rfl, rfl⟩ | ⟨rfl, rfl, rfl, rfl, rfl, rfl, rfl, rfl, rfl⟩ | ⟨rfl, rfl, rfl, rfl, rfl, rfl, rfl, rfl, rfl⟩ | ⟨rfl, rfl, rfl, rfl, rfl, rfl, rfl, rfl, rfl⟩ | ⟨rfl, rfl, rfl, rfl, rfl, rfl, rfl, rfl, rfl⟩ | ⟨rfl, rfl, rfl, rfl, rfl, rfl, rfl, rfl, rfl⟩ | ⟨rfl, rfl, rfl, rfl, rfl, rfl, rfl, rfl, rfl⟩ | ⟨rfl, rfl, rfl, rfl, rfl, rfl, rfl, rfl, rfl⟩
  all_goals decide
theorem none_of (R : Row p lo hi D A B n sg is) (h : is = false) : p = 0 := by
  subst h
  rcases R.out with ⟨_, _, _, _, _, _, _, _, _⟩ | ⟨_, _, _, _, _, _, _, _, _⟩ | ⟨_, _, _, _, _, _, _, _, _⟩ | ⟨_, _, _, _, _, _, _, _, _⟩ | ⟨_, _, _, _, _, _, _, _, _⟩ | ⟨_, _, _, _, _, _, _, _, _⟩ | ⟨_, _, _, _, _, _, _, _, _⟩ | ⟨_, _, _, _, _, _, _, _, _⟩ | ⟨_, _, _, _, _, _, _, _, _⟩ | ⟨_, _, _, _, _, _, _, _, _⟩ | ⟨_, _, _, _, _, _, _, _, _⟩
  all_goals simp_all
theorem some_of (R : Row p lo hi D A B n sg is) (h : is = true) : ¬ p = 0 := by
  subst h
  rcases R.out with ⟨_, _, _, _, _, _, _, _, _⟩ | ⟨_, _, _, _, _, _, _, _, _⟩ | ⟨_, _, _, _, _, _, _, _, _⟩ | ⟨_, _, _, _, _, _, _, _, _⟩ | ⟨_, _, _, _, _, _, _, _, _⟩ | ⟨_, _, _, _, _, _, _, _, _⟩ | ⟨_, _, _, _, _, _, _, _, _⟩ | ⟨_, _, _, _, _, _, _, _, _⟩ | ⟨_, _, _, _, _, _, _, _, _⟩ | ⟨_, _, _, _, _, _, _, _, _⟩ | ⟨_, _, _, _, _, _, _, _, _⟩
  all_goals simp_all
end

/-- May an instruction be, by its Op's row? -/
def mayR (is D A B : Bool) (lo hi d a b i : Int) : Bool := is && fitsB d D && fitsB a A && fitsB b B && decide (lo ≤ i) && decide (i ≤ hi)

theorem mayR_true {is D A B : Bool} {lo hi d a b i : Int} (h : mayR is D A B lo hi d a b i = true) : is = true ∧ fitsB d D = true ∧ fitsB a A = true ∧ fitsB b B = true ∧ lo ≤ i ∧ i ≤ hi := by
  unfold mayR at h
  simp only [Bool.and_eq_true, decide_eq_true_eq] at h
  obtain ⟨⟨⟨⟨⟨h1, h2⟩, h3⟩, h4⟩, h5⟩, h6⟩ := h
  exact ⟨h1, h2, h3, h4, h5, h6⟩

set_option maxHeartbeats 1000000 in
theorem check9_yes {op p lo hi n d a b i : Int} {D A B sg is : Bool} (R : Row p lo hi D A B n sg is) (hp : partsF op = p) (hm : mayR is D A B lo hi d a b i = true) (w : World) :
    Calls Try.prog 47 #[.agg #[.int .i64 op, .int .i64 d, .int .i64 a, .int .i64 b, .int .i32 i]] w fun e w' => e = .returned (.int .i64 0) ∧ Below w.heap.size w w' := by
  obtain ⟨h1, h2, h3, h4, h5, h6⟩ := mayR_true hm
  have b1 := bit1 R
  have b2 := bit2 R
  have b4 := bit4 R
  have hz := some_of R h1
  clear hm h1
  go_enter Try.func47, Try.ntmps47
  go_wp2_with (first
    | (go_at_call 54; refine (parts18 op _).mono ?_; rintro e w' ⟨rfl, rfl⟩)
    | (go_at_call 55; refine (fits21 _ _ _).mono ?_; rintro e w' ⟨rfl, rfl⟩)
    | (go_at_call 56; refine (span22 R _).mono ?_; rintro e w' ⟨rfl, rfl⟩))
  go_ret
  exact ⟨rfl, (Below.refl _ _).alloc (Nat.le_refl _) _⟩

set_option maxHeartbeats 4000000 in
theorem check9_no {op p lo hi n d a b i : Int} {D A B sg is : Bool} (R : Row p lo hi D A B n sg is) (hp : partsF op = p) (hm : mayR is D A B lo hi d a b i = false) (w : World) :
    Calls Try.prog 47 #[.agg #[.int .i64 op, .int .i64 d, .int .i64 a, .int .i64 b, .int .i32 i]] w fun e w' => e = .returned (.int .i64 1) ∧ Below w.heap.size w w' := by
  have b1 := bit1 R
  have b2 := bit2 R
  have b4 := bit4 R
  cases h1 : is
  · obtain rfl := none_of R h1
    go_enter Try.func47, Try.ntmps47
    go_wp2_with (first
      | (go_at_call 54; refine (parts18 op _).mono ?_; rintro e w' ⟨rfl, rfl⟩))
    go_ret
    exact ⟨rfl, (Below.refl _ _).alloc (Nat.le_refl _) _⟩
  · have hz := some_of R h1
    have hm' : fitsB d D = true → fitsB a A = true → fitsB b B = true → lo ≤ i → hi < i := by
      intro h2 h3 h4 h5
      unfold mayR at hm
      rw [h1, h2, h3, h4, decide_eq_true h5] at hm
      simp at hm
      exact hm
    clear hm
    subst h1
    cases h2 : fitsB d D
    · clear hm'
      go_enter Try.func47, Try.ntmps47
      go_wp2_with (first
        | (go_at_call 54; refine (parts18 op _).mono ?_; rintro e w' ⟨rfl, rfl⟩)
        | (go_at_call 55; refine (fits21 _ _ _).mono ?_; rintro e w' ⟨rfl, rfl⟩))
      go_ret
      exact ⟨rfl, (Below.refl _ _).alloc (Nat.le_refl _) _⟩
    · cases h3 : fitsB a A
      · clear hm'
        go_enter Try.func47, Try.ntmps47
        go_wp2_with (first
          | (go_at_call 54; refine (parts18 op _).mono ?_; rintro e w' ⟨rfl, rfl⟩)
          | (go_at_call 55; refine (fits21 _ _ _).mono ?_; rintro e w' ⟨rfl, rfl⟩))
        go_ret
        exact ⟨rfl, (Below.refl _ _).alloc (Nat.le_refl _) _⟩
      · cases h4 : fitsB b B
        · clear hm'
          go_enter Try.func47, Try.ntmps47
          go_wp2_with (first
            | (go_at_call 54; refine (parts18 op _).mono ?_; rintro e w' ⟨rfl, rfl⟩)
            | (go_at_call 55; refine (fits21 _ _ _).mono ?_; rintro e w' ⟨rfl, rfl⟩))
          go_ret
          exact ⟨rfl, (Below.refl _ _).alloc (Nat.le_refl _) _⟩
        · by_cases h5 : lo ≤ i
          · have h6 := hm' h2 h3 h4 h5
            clear hm'
            go_enter Try.func47, Try.ntmps47
            go_wp2_with (first
              | (go_at_call 54; refine (parts18 op _).mono ?_; rintro e w' ⟨rfl, rfl⟩)
              | (go_at_call 55; refine (fits21 _ _ _).mono ?_; rintro e w' ⟨rfl, rfl⟩)
              | (go_at_call 56; refine (span22 R _).mono ?_; rintro e w' ⟨rfl, rfl⟩))
            go_ret
            exact ⟨rfl, (Below.refl _ _).alloc (Nat.le_refl _) _⟩
          · have h6 : i < lo := by omega
            clear hm' h5
            go_enter Try.func47, Try.ntmps47
            go_wp2_with (first
              | (go_at_call 54; refine (parts18 op _).mono ?_; rintro e w' ⟨rfl, rfl⟩)
              | (go_at_call 55; refine (fits21 _ _ _).mono ?_; rintro e w' ⟨rfl, rfl⟩)
              | (go_at_call 56; refine (span22 R _).mono ?_; rintro e w' ⟨rfl, rfl⟩))
            go_ret
            exact ⟨rfl, (Below.refl _ _).alloc (Nat.le_refl _) _⟩
end Go.Proofs.Ytgnlplddppheiaa
