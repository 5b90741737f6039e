/- What goes to D: a byte of the memory. -/
import Derived.Test.YtimbnlcegcmfiaaValue
namespace Go.Proofs.Ytimbnlcegcmfiaa
open Go.RowKit
set_option linter.unusedVariables false
section
variable {w : World} {N p q r : Nat} {sl : Value} {s : St}

set_option maxHeartbeats 4000000 in
theorem value_load1_yes (h : IsM w N p q r sl s) (d b i : Int) (a : Nat) (ha : a < 16) (A : Nat) (hA : adr s a i = (A : Int)) (hok : A < 262144) :
    Calls Try.prog 72 #[.pointer (some ⟨p, 0, none⟩), .agg #[.int .i64 36, .int .i64 d, .int .i64 a, .int .i64 b, .int .i32 i]] w fun e w' => e = .returned (.tuple #[.int .u32 ((s.mem A).toNat : Int), .int .i64 0]) ∧ Below w.heap.size w w' := by
  have hp := h.plt
  have hc := h.c19
  have hB := (h.alloc (.cells #[.int .i64 36, .int .i64 d, .int .i64 a, .int .i64 b, .int .i32 i] 74)).drew
  have hb0 := (below_box w (.cells #[.int .i64 36, .int .i64 d, .int .i64 a, .int .i64 b, .int .i32 i] 74)).drew
  go_enter Try.func72, Try.ntmps72
  go_wp2
  go_region_with (first
    | (go_at_call 69; with_reducible refine (address69 hB _ _ _ _ a ha).mono ?_; rintro e w1 ⟨rfl, hb1⟩; rw [hA]; have hM1 := (hB.below hb1).mem; have hc1 := (hB.below hb1).c19)
    | (go_at_call 78; with_reducible refine (load1_yes hM1 hok).mono ?_; rintro e w2 ⟨rfl, rfl⟩))
  all_goals go_wp2_with (first | (go_at_call 67; with_reducible refine (mtrap67_0 _).mono ?_; rintro e w3 ⟨rfl, rfl⟩))
  all_goals go_ret2
  all_goals exact ⟨rfl, hb0.trans (hb1.mono (by simp))⟩

set_option maxHeartbeats 4000000 in
theorem value_load1_no (h : IsM w N p q r sl s) (d b i : Int) (a : Nat) (ha : a < 16) (A : Nat) (hA : adr s a i = (A : Int)) (hlt : A < 4294967296) (hok : ¬ (A < 262144)) :
    Calls Try.prog 72 #[.pointer (some ⟨p, 0, none⟩), .agg #[.int .i64 36, .int .i64 d, .int .i64 a, .int .i64 b, .int .i32 i]] w fun e w' => e = .returned (.tuple #[.int .u32 0, .int .i64 5]) ∧ Below w.heap.size w w' := by
  have hp := h.plt
  have hc := h.c19
  have hB := (h.alloc (.cells #[.int .i64 36, .int .i64 d, .int .i64 a, .int .i64 b, .int .i32 i] 74)).drew
  have hb0 := (below_box w (.cells #[.int .i64 36, .int .i64 d, .int .i64 a, .int .i64 b, .int .i32 i] 74)).drew
  go_enter Try.func72, Try.ntmps72
  go_wp2
  go_region_with (first
    | (go_at_call 69; with_reducible refine (address69 hB _ _ _ _ a ha).mono ?_; rintro e w1 ⟨rfl, hb1⟩; rw [hA]; have hM1 := (hB.below hb1).mem; have hc1 := (hB.below hb1).c19)
    | (go_at_call 78; with_reducible refine (load1_no hM1 hlt hok).mono ?_; rintro e w2 ⟨rfl, rfl⟩))
  all_goals go_wp2_with (first | (go_at_call 67; with_reducible refine (mtrap67_1 _).mono ?_; rintro e w3 ⟨rfl, rfl⟩))
  all_goals go_ret2
  all_goals exact ⟨rfl, hb0.trans (hb1.mono (by simp))⟩

end
end Go.Proofs.Ytimbnlcegcmfiaa
