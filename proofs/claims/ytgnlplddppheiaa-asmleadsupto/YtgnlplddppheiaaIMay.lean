/- The contracts of the document's answer to whether an instruction may be. -/
import Derived.Test.YtgnlplddppheiaaICheck
import Derived.WalkKit
namespace Go.Proofs.Ytgnlplddppheiaa
open Go.RowKit
set_option linter.unusedVariables false

theorem below_call {w w1 : World} {o : Obj} (hb : Below (w.alloc o).heap.size (w.alloc o) w1) : Below w.heap.size w w1 :=
  ((Below.refl _ _).alloc (Nat.le_refl _) _).trans (hb.mono (by simp))
theorem below_next {w w1 w2 : World} {o : Obj} (h1 : Below w.heap.size w w1) (h2 : Below (w1.alloc o).heap.size (w1.alloc o) w2) : Below w.heap.size w w2 :=
  (h1.alloc h1.size _).trans (h2.mono (by have := h1.size; simp; omega))
theorem below_on {w w1 w2 : World} (h1 : Below w.heap.size w w1) (h2 : Below w1.heap.size w1 w2) : Below w.heap.size w w2 :=
  h1.trans (h2.mono h1.size)

/-- May an Imm be, by its bits alone (a trap's: 0 to 65535)? -/
def wideB (p lo hi i : Int) : Bool := if p = 64 then decide (0 ≤ i) && decide (i ≤ 65535) else decide (lo ≤ i) && decide (i ≤ hi)

set_option maxHeartbeats 4000000 in
theorem imm27 {p lo hi n op d a b i : Int} {D A B sg is : Bool} (R : Row p lo hi D A B n sg is) (i0 : -2147483648 ≤ i) (i1 : i ≤ 2147483647) (w : World) :
    Calls Try.prog 50 #[.agg #[.int .i64 op, .int .i64 d, .int .i64 a, .int .i64 b, .int .i32 i], .agg #[.bool D, .bool A, .bool B, .int .i64 n, .bool sg, .bool is]] w fun e w' => e = .returned (.bool (wideB p lo hi i)) ∧ Below w.heap.size w w' := by
  rcases R.out with ⟨rfl, rfl, rfl, rfl, rfl, rfl, rfl, rfl, rfl⟩ | ⟨rfl, rfl, rfl, rfl, rfl, rfl, rfl, rfl, rfl⟩ | ⟨rfl, rfl, rfl, rfl, rfl, rfl, rfl, rfl, rfl⟩ | ⟨rfl, rfl, rfl, rfl, rfl, rfl, rfl, rfl, rfl⟩ | ⟨rfl, rfl, rfl, rfl, rfl, rfl, rfl, rfl, rfl⟩ | ⟨rfl, rfl, rfl, rfl, rfl, rfl, rfl, rfl, rfl⟩ | ⟨rfl, rfl, rfl, rfl, rfl, rfl, rfl, rfl, rfl⟩ | ⟨rfl, rfl, rfl, rfl, rfl, rfl, rfl, rfl, rfl⟩ | ⟨rfl, rfl, rfl, rfl, rfl, rfl, rfl, rfl, rfl⟩ | ⟨rfl, rfl, rfl, rfl, rfl, rfl, rfl, rfl, rfl⟩ | ⟨rfl, rfl, rfl, rfl, rfl, rfl, rfl, rfl, rfl⟩
  all_goals clear R
  all_goals go_enter Try.func50, Try.ntmps50
  all_goals go_wp2
  all_goals go_ret
  all_goals (refine ⟨ret_b (b := wideB _ _ _ i) ?_, ((Below.refl _ _).alloc (Nat.le_refl _) _).alloc (by simp) _⟩)
  all_goals (rw [Bool.eq_iff_iff]; simp_all [wideB]; try omega)

theorem row46 {p lo hi n : Int} {D A B sg is : Bool} (R : Row p lo hi D A B n sg is) (hp : partsF 46 = p) : p = 64 ∧ lo = 1 ∧ hi = 5 := by
  have e : partsF 46 = 64 := by decide
  rw [e] at hp
  subst hp
  rcases R.out with ⟨h, _⟩ | ⟨h, _⟩ | ⟨h, _⟩ | ⟨h, _⟩ | ⟨h, _⟩ | ⟨h, _⟩ | ⟨h, _⟩ | ⟨h, _⟩ | ⟨h, _⟩ | ⟨h, h1, h2, _⟩ | ⟨h, _⟩
  all_goals first
    | omega
    | exact ⟨rfl, h1, h2⟩
theorem not64 {op p : Int} (hp : partsF op = p) (h : ¬ op = 46) : ¬ p = 64 := by
  intro e
  subst e
  unfold partsF at hp
  omega

set_option maxHeartbeats 4000000 in
theorem may19_yes {op p lo hi n d a b i : Int} {D A B sg is : Bool} (R : Row p lo hi D A B n sg is) (hp : partsF op = p) (i0 : -2147483648 ≤ i) (i1 : i ≤ 2147483647) (hm : mayR is D A B lo hi d a b i = true) (w : World) :
    Calls Try.prog 38 #[.agg #[.int .i64 op, .int .i64 d, .int .i64 a, .int .i64 b, .int .i32 i]] w fun e w' => e = .returned (.bool true) ∧ Below w.heap.size w w' := by
  obtain ⟨h1, h2, h3, h4, h5, h6⟩ := mayR_true hm
  clear hm
  subst h1
  by_cases ho : op = 46
  · subst ho
    obtain ⟨rfl, rfl, rfl⟩ := row46 R hp
    have hw : wideB 64 1 5 i = true := by simp [wideB]; omega
    go_enter Try.func38, Try.ntmps38
    go_wp2_with (first
      | (go_at_call 45; refine (shaped20 R hp _).mono ?_; rintro e w' ⟨rfl, hb⟩; obtain ⟨hc, hf⟩ := bcell hb; have hs : w.heap.size < w'.heap.size := by have hq := hb.size; simp at hq; omega)
      | (go_at_call 49; refine (fits26 _ _ _).mono ?_; rintro e w' ⟨rfl, rfl⟩)
      | (go_at_call 50; refine (imm27 R i0 i1 _).mono ?_; rintro e w' ⟨rfl, hb2⟩))
    go_ret
    exact ⟨rfl, below_next (below_call hb) hb2⟩
  · have hw : wideB p lo hi i = true := by
      have := not64 hp ho
      simp [wideB, this]; omega
    go_enter Try.func38, Try.ntmps38
    go_wp2_with (first
      | (go_at_call 45; refine (shaped20 R hp _).mono ?_; rintro e w' ⟨rfl, hb⟩; obtain ⟨hc, hf⟩ := bcell hb; have hs : w.heap.size < w'.heap.size := by have hq := hb.size; simp at hq; omega)
      | (go_at_call 49; refine (fits26 _ _ _).mono ?_; rintro e w' ⟨rfl, rfl⟩)
      | (go_at_call 50; refine (imm27 R i0 i1 _).mono ?_; rintro e w' ⟨rfl, hb2⟩))
    go_ret
    exact ⟨rfl, below_next (below_call hb) hb2⟩

set_option maxHeartbeats 4000000 in
theorem may19_no {op p lo hi n d a b i : Int} {D A B sg is : Bool} (R : Row p lo hi D A B n sg is) (hp : partsF op = p) (i0 : -2147483648 ≤ i) (i1 : i ≤ 2147483647) (hm : mayR is D A B lo hi d a b i = false) (w : World) :
    Calls Try.prog 38 #[.agg #[.int .i64 op, .int .i64 d, .int .i64 a, .int .i64 b, .int .i32 i]] w fun e w' => e = .returned (.bool false) ∧ Below w.heap.size w w' := by
  have hm' : is = true → fitsB d D = true → fitsB a A = true → fitsB b B = true → lo ≤ i → hi < i := by
    intro h1 h2 h3 h4 h5
    unfold mayR at hm
    rw [h1, h2, h3, h4, decide_eq_true h5] at hm
    simp at hm
    exact hm
  clear hm
  by_cases ho : op = 46
  · subst ho
    obtain ⟨rfl, rfl, rfl⟩ := row46 R hp
    have h1 : is = true := by
      cases h : is
      · exact absurd (none_of R h) (by decide)
      · rfl
    subst h1
    by_cases h5 : 1 ≤ i
    · by_cases h6 : i ≤ 5
      · cases h2 : fitsB d D
        · clear hm'
          go_enter Try.func38, Try.ntmps38
          go_wp2_with (first
            | (go_at_call 45; refine (shaped20 R hp _).mono ?_; rintro e w' ⟨rfl, hb⟩; obtain ⟨hc, hf⟩ := bcell hb; have hs : w.heap.size < w'.heap.size := by have hq := hb.size; simp at hq; omega)
            | (go_at_call 49; refine (fits26 _ _ _).mono ?_; rintro e w' ⟨rfl, rfl⟩))
          go_ret
          exact ⟨rfl, (below_call hb).alloc (below_call hb).size _⟩
        · cases h3 : fitsB a A
          · clear hm'
            go_enter Try.func38, Try.ntmps38
            go_wp2_with (first
              | (go_at_call 45; refine (shaped20 R hp _).mono ?_; rintro e w' ⟨rfl, hb⟩; obtain ⟨hc, hf⟩ := bcell hb; have hs : w.heap.size < w'.heap.size := by have hq := hb.size; simp at hq; omega)
              | (go_at_call 49; refine (fits26 _ _ _).mono ?_; rintro e w' ⟨rfl, rfl⟩))
            go_ret
            exact ⟨rfl, (below_call hb).alloc (below_call hb).size _⟩
          · cases h4 : fitsB b B
            · clear hm'
              go_enter Try.func38, Try.ntmps38
              go_wp2_with (first
                | (go_at_call 45; refine (shaped20 R hp _).mono ?_; rintro e w' ⟨rfl, hb⟩; obtain ⟨hc, hf⟩ := bcell hb; have hs : w.heap.size < w'.heap.size := by have hq := hb.size; simp at hq; omega)
                | (go_at_call 49; refine (fits26 _ _ _).mono ?_; rintro e w' ⟨rfl, rfl⟩))
              go_ret
              exact ⟨rfl, (below_call hb).alloc (below_call hb).size _⟩
            · exact absurd (hm' rfl h2 h3 h4 h5) (by omega)
      · have h7 : 5 < i := by omega
        clear hm' h6
        go_enter Try.func38, Try.ntmps38
        go_wp2_with (first
          | (go_at_call 45; refine (shaped20 R hp _).mono ?_; rintro e w' ⟨rfl, hb⟩; obtain ⟨hc, hf⟩ := bcell hb; have hs : w.heap.size < w'.heap.size := by have hq := hb.size; simp at hq; omega))
        go_ret
        exact ⟨rfl, (below_call hb).alloc (below_call hb).size _⟩
    · have h7 : i < 1 := by omega
      clear hm' h5
      go_enter Try.func38, Try.ntmps38
      go_wp2_with (first
        | (go_at_call 45; refine (shaped20 R hp _).mono ?_; rintro e w' ⟨rfl, hb⟩; obtain ⟨hc, hf⟩ := bcell hb; have hs : w.heap.size < w'.heap.size := by have hq := hb.size; simp at hq; omega))
      go_ret
      exact ⟨rfl, (below_call hb).alloc (below_call hb).size _⟩
  · cases h1 : is
    · subst h1
      clear hm'
      go_enter Try.func38, Try.ntmps38
      go_wp2_with (first
        | (go_at_call 45; refine (shaped20 R hp _).mono ?_; rintro e w' ⟨rfl, hb⟩; obtain ⟨hc, hf⟩ := bcell hb; have hs : w.heap.size < w'.heap.size := by have hq := hb.size; simp at hq; omega))
      go_ret
      exact ⟨rfl, (below_call hb).alloc (below_call hb).size _⟩
    · subst h1
      cases h2 : fitsB d D
      · clear hm'
        go_enter Try.func38, Try.ntmps38
        go_wp2_with (first
          | (go_at_call 45; refine (shaped20 R hp _).mono ?_; rintro e w' ⟨rfl, hb⟩; obtain ⟨hc, hf⟩ := bcell hb; have hs : w.heap.size < w'.heap.size := by have hq := hb.size; simp at hq; omega)
          | (go_at_call 49; refine (fits26 _ _ _).mono ?_; rintro e w' ⟨rfl, rfl⟩))
        go_ret
        exact ⟨rfl, (below_call hb).alloc (below_call hb).size _⟩
      · cases h3 : fitsB a A
        · clear hm'
          go_enter Try.func38, Try.ntmps38
          go_wp2_with (first
            | (go_at_call 45; refine (shaped20 R hp _).mono ?_; rintro e w' ⟨rfl, hb⟩; obtain ⟨hc, hf⟩ := bcell hb; have hs : w.heap.size < w'.heap.size := by have hq := hb.size; simp at hq; omega)
            | (go_at_call 49; refine (fits26 _ _ _).mono ?_; rintro e w' ⟨rfl, rfl⟩))
          go_ret
          exact ⟨rfl, (below_call hb).alloc (below_call hb).size _⟩
        · cases h4 : fitsB b B
          · clear hm'
            go_enter Try.func38, Try.ntmps38
            go_wp2_with (first
              | (go_at_call 45; refine (shaped20 R hp _).mono ?_; rintro e w' ⟨rfl, hb⟩; obtain ⟨hc, hf⟩ := bcell hb; have hs : w.heap.size < w'.heap.size := by have hq := hb.size; simp at hq; omega)
              | (go_at_call 49; refine (fits26 _ _ _).mono ?_; rintro e w' ⟨rfl, rfl⟩))
            go_ret
            exact ⟨rfl, (below_call hb).alloc (below_call hb).size _⟩
          · have hw : wideB p lo hi i = false := by
              have e := not64 hp ho
              have e2 := hm' rfl h2 h3 h4
              unfold wideB
              rw [if_neg e]
              by_cases h5 : lo ≤ i
              · simp [h5, e2 h5]
              · simp [h5]
            clear hm'
            go_enter Try.func38, Try.ntmps38
            go_wp2_with (first
              | (go_at_call 45; refine (shaped20 R hp _).mono ?_; rintro e w' ⟨rfl, hb⟩; obtain ⟨hc, hf⟩ := bcell hb; have hs : w.heap.size < w'.heap.size := by have hq := hb.size; simp at hq; omega)
              | (go_at_call 49; refine (fits26 _ _ _).mono ?_; rintro e w' ⟨rfl, rfl⟩)
              | (go_at_call 50; refine (imm27 R i0 i1 _).mono ?_; rintro e w' ⟨rfl, hb2⟩))
            go_ret
            exact ⟨rfl, below_next (below_call hb) hb2⟩

end Go.Proofs.Ytgnlplddppheiaa
