/- Where it goes on. -/
import Derived.Test.YtimbnlcegcmfiaaGive
namespace Go.Proofs.Ytimbnlcegcmfiaa
open Go.RowKit
set_option linter.unusedVariables false
section
variable {w : World} {N p q r : Nat} {sl : Value} {s : St}
theorem ret_j {a b : Int} (h : a = b) : Ending.returned (.int .i64 a) = .returned (.int .i64 b) := by rw [h]

set_option maxHeartbeats 2000000 in
theorem branch50_plain (h : IsM w N p q r sl s) (hO : Ok s) (op d b i : Int) (a : Nat) (ha : a < 16) (ho : op = 39 ∨ op = 40 ∨ op = 41 ∨ op = 43) (i0 : -8388608 ≤ i) (i1 : i ≤ 8388607) :
    Calls Try.prog 50 #[.pointer (some ⟨p, 0, none⟩), .agg #[.int .i64 op, .int .i64 d, .int .i64 a, .int .i64 b, .int .i32 i], .int .i64 (s.pc + 4)] w fun e w' => e = .returned (.int .i64 (brF s op a i)) ∧ Below w.heap.size w w' := by
  have hp := h.plt
  have hc := h.reg a ha
  obtain ⟨x0, x1⟩ := hO.regs a ha
  have p0 := hO.pc0
  have p1 := hO.pc1
  have hb0 := below_box w (.cells #[.int .i64 op, .int .i64 d, .int .i64 a, .int .i64 b, .int .i32 i] 74)
  rcases ho with rfl | rfl | rfl | rfl
  · by_cases hz : s.reg a = 0
    · have hz1 : (s.reg a != 0) = false := by simp [hz]
      go_enter Try.func50, Try.ntmps50
      go_wp2
      go_quiet (fail)
      go_wp2
      go_ret
      exact ⟨ret_j (by simp [brF, hz]), hb0.trans ((below_drewN _ _).mono (by simp))⟩
    · have hz1 : (s.reg a != 0) = true := by simp [hz]
      go_enter Try.func50, Try.ntmps50
      go_wp2
      go_quiet (fail)
      go_wp2
      go_ret
      exact ⟨ret_j (by simp [brF, hz]), hb0.trans ((below_drewN _ _).mono (by simp))⟩
  · by_cases hz : s.reg a = 0
    · have hz1 : (s.reg a == 0) = true := by simp [hz]
      go_enter Try.func50, Try.ntmps50
      go_wp2
      go_quiet (fail)
      go_wp2
      go_ret
      exact ⟨ret_j (by simp [brF, hz]), hb0.trans ((below_drewN _ _).mono (by simp))⟩
    · have hz1 : (s.reg a == 0) = false := by simp [hz]
      go_enter Try.func50, Try.ntmps50
      go_wp2
      go_quiet (fail)
      go_wp2
      go_ret
      exact ⟨ret_j (by simp [brF, hz]), hb0.trans ((below_drewN _ _).mono (by simp))⟩
  · go_enter Try.func50, Try.ntmps50
    go_wp2
    go_quiet (fail)
    go_wp2
    go_ret
    exact ⟨ret_j (by simp [brF]), hb0.trans ((below_drewN _ _).mono (by simp))⟩
  · go_enter Try.func50, Try.ntmps50
    go_wp2
    go_quiet (fail)
    go_wp2
    go_ret
    exact ⟨ret_j (by simp [brF]), hb0.trans ((below_drewN _ _).mono (by simp))⟩

set_option maxHeartbeats 2000000 in
theorem branch50_call (h : IsM w N p q r sl s) (hO : Ok s) (d b i : Int) (a : Nat) (ha : a < 16) (i0 : -8388608 ≤ i) (i1 : i ≤ 8388607) :
    Calls Try.prog 50 #[.pointer (some ⟨p, 0, none⟩), .agg #[.int .i64 42, .int .i64 d, .int .i64 a, .int .i64 b, .int .i32 i], .int .i64 (s.pc + 4)] w fun e w' => e = .returned (.int .i64 (brF s 42 a i)) ∧ IsM w' N p q r sl { s with reg := upd s.reg 14 ((s.pc + 4) % 4294967296) } ∧ Kept (Mine p r sl) w w' := by
  have hp := h.plt
  have hc := h.reg a ha
  obtain ⟨x0, x1⟩ := hO.regs a ha
  have p0 := hO.pc0
  have p1 := hO.pc1
  have hn := mine_new h
  have hb0 := below_box w (.cells #[.int .i64 42, .int .i64 d, .int .i64 a, .int .i64 b, .int .i32 i] 74)
  have hB := h.alloc (.cells #[.int .i64 42, .int .i64 d, .int .i64 a, .int .i64 b, .int .i32 i] 74)
  go_enter Try.func50, Try.ntmps50
  go_wp2
  go_quiet (fail)
  go_wp2_with (first
    | (go_at_call 71; refine (write71_some (hB.below (below_drewN _ _)) 14 (by omega) (by omega) _).mono ?_; rintro e w1 ⟨rfl, hM1, hK1⟩; obtain ⟨hc1, hs1⟩ := kept_cells ((Kept.of_below (below_drewN _ _)).trans hK1) hn))
  go_ret
  exact ⟨ret_j (by simp [brF]), hM1, kept_box ((Kept.of_below (below_drewN _ _)).trans hK1)⟩
end
end Go.Proofs.Ytimbnlcegcmfiaa
