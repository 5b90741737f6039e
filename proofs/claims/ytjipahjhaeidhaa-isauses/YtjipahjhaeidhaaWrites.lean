/- The contracts of Writes and of the document's answer to it; which registers an Op reads and writes. -/
import Derived.Test.YtjipahjhaeidhaaEncode
import Derived.Test.YtjipahjhaeidhaaShapedAt
import Derived.WalkKit
namespace Go.Proofs.Ytjipahjhaeidhaa
open Go.RowKit

/-- Does an Op with these bits read D, and does it write D? -/
def rdF (p : Int) : Bool := p == 139 || p == 401
def wrF (p : Int) : Bool := p == 263 || p == 267 || p == 265 || p == 401 || p == 257
/-- What an instruction that may be writes. -/
def writesF (op p d : Int) : Int := if op = 42 then 14 else if wrF p then d else -1

theorem bit128 {p lo hi n : Int} {D A B sg is : Bool} (R : Row p lo hi D A B n sg is) : (bits BinOp.and IntKind.i64 p 128 != 0) = rdF p := by
  rcases R.out with ⟨rfl, rfl, rfl, rfl, rfl, rfl, rfl, rfl, rfl⟩ | ⟨rfl, rfl, rfl, rfl, rfl, rfl, rfl, rfl, rfl⟩ | ⟨rfl, rfl, rfl, rfl, rfl, rfl, rfl, rfl, rfl⟩ | ⟨rfl, rfl, rfl, rfl, rfl, rfl, rfl, rfl, rfl⟩ | ⟨rfl, rfl, rfl, rfl, rfl, rfl, rfl, rfl, rfl⟩ | ⟨rfl, rfl, rfl, rfl, rfl, rfl, rfl, rfl, rfl⟩ | ⟨rfl, rfl, rfl, rfl, rfl, rfl, rfl, rfl, rfl⟩ | ⟨rfl, rfl, rfl, rfl, rfl, rfl, rfl, rfl, rfl⟩ | ⟨rfl, rfl, rfl, rfl, rfl, rfl, rfl, rfl, rfl⟩ | ⟨rfl, rfl, rfl, rfl, rfl, rfl, rfl, rfl, rfl⟩ | ⟨rfl, rfl, rfl, rfl, rfl, rfl, rfl, rfl, rfl⟩
  all_goals decide
theorem bit256 {p lo hi n : Int} {D A B sg is : Bool} (R : Row p lo hi D A B n sg is) : (bits BinOp.and IntKind.i64 p 256 != 0) = wrF p := by
  rcases R.out with ⟨rfl, rfl, rfl, rfl, rfl, rfl, rfl, rfl, rfl⟩ | ⟨rfl, rfl, rfl, rfl, rfl, rfl, rfl, rfl, rfl⟩ | ⟨rfl, rfl, rfl, rfl, rfl, rfl, rfl, rfl, rfl⟩ | ⟨rfl, rfl, rfl, rfl, rfl, rfl, rfl, rfl, rfl⟩ | ⟨rfl, rfl, rfl, rfl, rfl, rfl, rfl, rfl, rfl⟩ | ⟨rfl, rfl, rfl, rfl, rfl, rfl, rfl, rfl, rfl⟩ | ⟨rfl, rfl, rfl, rfl, rfl, rfl, rfl, rfl, rfl⟩ | ⟨rfl, rfl, rfl, rfl, rfl, rfl, rfl, rfl, rfl⟩ | ⟨rfl, rfl, rfl, rfl, rfl, rfl, rfl, rfl, rfl⟩ | ⟨rfl, rfl, rfl, rfl, rfl, rfl, rfl, rfl, rfl⟩ | ⟨rfl, rfl, rfl, rfl, rfl, rfl, rfl, rfl, rfl⟩
  all_goals decide
theorem wrD {p lo hi n : Int} {D A B sg is : Bool} (R : Row p lo hi D A B n sg is) (h : ¬ p = 139) : wrF p = D := by
  rcases R.out with ⟨rfl, rfl, rfl, rfl, rfl, rfl, rfl, rfl, rfl⟩ | ⟨rfl, rfl, rfl, rfl, rfl, rfl, rfl, rfl, rfl⟩ | ⟨rfl, rfl, rfl, rfl, rfl, rfl, rfl, rfl, rfl⟩ | ⟨rfl, rfl, rfl, rfl, rfl, rfl, rfl, rfl, rfl⟩ | ⟨rfl, rfl, rfl, rfl, rfl, rfl, rfl, rfl, rfl⟩ | ⟨rfl, rfl, rfl, rfl, rfl, rfl, rfl, rfl, rfl⟩ | ⟨rfl, rfl, rfl, rfl, rfl, rfl, rfl, rfl, rfl⟩ | ⟨rfl, rfl, rfl, rfl, rfl, rfl, rfl, rfl, rfl⟩ | ⟨rfl, rfl, rfl, rfl, rfl, rfl, rfl, rfl, rfl⟩ | ⟨rfl, rfl, rfl, rfl, rfl, rfl, rfl, rfl, rfl⟩ | ⟨rfl, rfl, rfl, rfl, rfl, rfl, rfl, rfl, rfl⟩
  all_goals first
    | rfl
    | exact absurd rfl h
theorem store_of {op p : Int} (hp : partsF op = p) : p = 139 ↔ op = 37 ∨ op = 38 := by
  subst hp
  unfold partsF
  omega
theorem below_call3 {w w1 : World} {o o2 o3 : Obj} (hb : Below (((w.alloc o).alloc o2).alloc o3).heap.size (((w.alloc o).alloc o2).alloc o3) w1) : Below w.heap.size w w1 :=
  ((((Below.refl _ _).alloc (Nat.le_refl _) _).alloc (by simp) _).alloc (by simp; omega) _).trans (hb.mono (by simp; omega))

set_option maxHeartbeats 1000000 in
theorem writes16_no {op p lo hi n d a b i : Int} {D A B sg is : Bool} (R : Row p lo hi D A B n sg is) (hp : partsF op = p) (hm : mayR is D A B lo hi d a b i = false) (w : World) :
    Calls Try.prog 16 #[.agg #[.int .i64 op, .int .i64 d, .int .i64 a, .int .i64 b, .int .i32 i]] w fun e w' => e = .returned (.int .i64 (-1)) ∧ Below w.heap.size w w' := by
  go_enter Try.func16, Try.ntmps16
  go_wp2_with (first
    | (go_at_call 18; refine (parts18 op _).mono ?_; rintro e w1 ⟨rfl, rfl⟩)
    | (go_at_call 9; refine (check9_no R hp hm _).mono ?_; rintro e w1 ⟨rfl, hb⟩; obtain ⟨hc, hf⟩ := bcell hb))
  go_ret
  exact ⟨rfl, below_call hb⟩

set_option maxHeartbeats 1000000 in
theorem writes16_yes {op p lo hi n d a b i : Int} {D A B sg is : Bool} (R : Row p lo hi D A B n sg is) (hp : partsF op = p) (hm : mayR is D A B lo hi d a b i = true) (w : World) :
    Calls Try.prog 16 #[.agg #[.int .i64 op, .int .i64 d, .int .i64 a, .int .i64 b, .int .i32 i]] w fun e w' => e = .returned (.int .i64 (writesF op p d)) ∧ Below w.heap.size w w' := by
  have h256 := bit256 R
  by_cases ho : op = 42
  · have hv : writesF op p d = 14 := by unfold writesF; rw [if_pos ho]
    rw [hv]
    subst ho
    clear hv h256
    go_enter Try.func16, Try.ntmps16
    go_wp2_with (first
      | (go_at_call 18; refine (parts18 op _).mono ?_; rintro e w1 ⟨rfl, rfl⟩)
      | (go_at_call 9; refine (check9_yes R hp hm _).mono ?_; rintro e w1 ⟨rfl, hb⟩; obtain ⟨hc, hf⟩ := bcell hb))
    go_ret
    exact ⟨rfl, below_call hb⟩
  · cases hw : wrF p
    · have hv : writesF op p d = -1 := by unfold writesF; rw [if_neg ho, hw]; rfl
      rw [hv]
      clear hv
      rw [hw] at h256
      go_enter Try.func16, Try.ntmps16
      go_wp2_with (first
        | (go_at_call 18; refine (parts18 op _).mono ?_; rintro e w1 ⟨rfl, rfl⟩)
        | (go_at_call 9; refine (check9_yes R hp hm _).mono ?_; rintro e w1 ⟨rfl, hb⟩; obtain ⟨hc, hf⟩ := bcell hb))
      go_ret
      exact ⟨rfl, below_call hb⟩
    · have hv : writesF op p d = d := by unfold writesF; rw [if_neg ho, hw]; rfl
      rw [hv]
      clear hv
      rw [hw] at h256
      go_enter Try.func16, Try.ntmps16
      go_wp2_with (first
        | (go_at_call 18; refine (parts18 op _).mono ?_; rintro e w1 ⟨rfl, rfl⟩)
        | (go_at_call 9; refine (check9_yes R hp hm _).mono ?_; rintro e w1 ⟨rfl, hb⟩; obtain ⟨hc, hf⟩ := bcell hb))
      go_ret
      exact ⟨rfl, below_call hb⟩

set_option maxHeartbeats 1000000 in
theorem writes17_no {op p lo hi n d a b i : Int} {D A B sg is : Bool} (R : Row p lo hi D A B n sg is) (hp : partsF op = p) (i0 : -2147483648 ≤ i) (i1 : i ≤ 2147483647) (hm : mayR is D A B lo hi d a b i = false) (w : World) :
    Calls Try.prog 17 #[.agg #[.int .i64 op, .int .i64 d, .int .i64 a, .int .i64 b, .int .i32 i]] w fun e w' => e = .returned (.int .i64 (-1)) ∧ Below w.heap.size w w' := by
  go_enter Try.func17, Try.ntmps17
  go_wp2_with (first
    | (go_at_call 20; refine (shapedAt20 R hp _).mono ?_; rintro e w1 ⟨rfl, rfl⟩)
    | (go_at_call 19; refine (may19_no R hp i0 i1 hm _).mono ?_; rintro e w2 ⟨rfl, hb⟩; obtain ⟨hc, hf⟩ := bcell hb; have hs : w.heap.size < w2.heap.size := by have hq := hb.size; simp at hq; omega))
  go_ret
  exact ⟨rfl, below_call3 hb⟩

set_option maxHeartbeats 1000000 in
theorem writes17_yes {op p lo hi n d a b i : Int} {D A B sg is : Bool} (R : Row p lo hi D A B n sg is) (hp : partsF op = p) (i0 : -2147483648 ≤ i) (i1 : i ≤ 2147483647) (hm : mayR is D A B lo hi d a b i = true) (w : World) :
    Calls Try.prog 17 #[.agg #[.int .i64 op, .int .i64 d, .int .i64 a, .int .i64 b, .int .i32 i]] w fun e w' => e = .returned (.int .i64 (writesF op p d)) ∧ Below w.heap.size w w' := by
  by_cases ho : op = 42
  · have hv : writesF op p d = 14 := by unfold writesF; rw [if_pos ho]
    rw [hv]
    subst ho
    clear hv
    go_enter Try.func17, Try.ntmps17
    go_wp2_with (first
      | (go_at_call 20; refine (shapedAt20 R hp _).mono ?_; rintro e w1 ⟨rfl, rfl⟩)
      | (go_at_call 19; refine (may19_yes R hp i0 i1 hm _).mono ?_; rintro e w2 ⟨rfl, hb⟩; obtain ⟨hc, hf⟩ := bcell hb; have hs : w.heap.size < w2.heap.size := by have hq := hb.size; simp at hq; omega))
    go_ret
    exact ⟨rfl, below_call3 hb⟩
  · by_cases hst : p = 139
    · have hv : writesF op p d = -1 := by unfold writesF; rw [if_neg ho, hst]; rfl
      rw [hv]
      clear hv
      rcases (store_of hp).1 hst with rfl | rfl
      · clear hst ho
        go_enter Try.func17, Try.ntmps17
        go_wp2_with (first
          | (go_at_call 20; refine (shapedAt20 R hp _).mono ?_; rintro e w1 ⟨rfl, rfl⟩)
          | (go_at_call 19; refine (may19_yes R hp i0 i1 hm _).mono ?_; rintro e w2 ⟨rfl, hb⟩; obtain ⟨hc, hf⟩ := bcell hb; have hs : w.heap.size < w2.heap.size := by have hq := hb.size; simp at hq; omega))
        go_ret
        exact ⟨rfl, below_call3 hb⟩
      · clear hst ho
        go_enter Try.func17, Try.ntmps17
        go_wp2_with (first
          | (go_at_call 20; refine (shapedAt20 R hp _).mono ?_; rintro e w1 ⟨rfl, rfl⟩)
          | (go_at_call 19; refine (may19_yes R hp i0 i1 hm _).mono ?_; rintro e w2 ⟨rfl, hb⟩; obtain ⟨hc, hf⟩ := bcell hb; have hs : w.heap.size < w2.heap.size := by have hq := hb.size; simp at hq; omega))
        go_ret
        exact ⟨rfl, below_call3 hb⟩
    · have h37 : (op == 37) = false := by simp only [beq_eq_false_iff_ne]; exact fun h => hst ((store_of hp).2 (Or.inl h))
      have h38 : (op == 38) = false := by simp only [beq_eq_false_iff_ne]; exact fun h => hst ((store_of hp).2 (Or.inr h))
      have hD := wrD R hst
      cases D
      · have hv : writesF op p d = -1 := by unfold writesF; rw [if_neg ho, hD]; rfl
        rw [hv]
        clear hv hst hD
        go_enter Try.func17, Try.ntmps17
        go_wp2_with (first
          | (go_at_call 20; refine (shapedAt20 R hp _).mono ?_; rintro e w1 ⟨rfl, rfl⟩)
          | (go_at_call 19; refine (may19_yes R hp i0 i1 hm _).mono ?_; rintro e w2 ⟨rfl, hb⟩; obtain ⟨hc, hf⟩ := bcell hb; have hs : w.heap.size < w2.heap.size := by have hq := hb.size; simp at hq; omega))
        go_ret
        exact ⟨rfl, below_call3 hb⟩
      · have hv : writesF op p d = d := by unfold writesF; rw [if_neg ho, hD]; rfl
        rw [hv]
        clear hv hst hD
        go_enter Try.func17, Try.ntmps17
        go_wp2_with (first
          | (go_at_call 20; refine (shapedAt20 R hp _).mono ?_; rintro e w1 ⟨rfl, rfl⟩)
          | (go_at_call 19; refine (may19_yes R hp i0 i1 hm _).mono ?_; rintro e w2 ⟨rfl, hb⟩; obtain ⟨hc, hf⟩ := bcell hb; have hs : w.heap.size < w2.heap.size := by have hq := hb.size; simp at hq; omega))
        go_ret
        exact ⟨rfl, below_call3 hb⟩
end Go.Proofs.Ytjipahjhaeidhaa
