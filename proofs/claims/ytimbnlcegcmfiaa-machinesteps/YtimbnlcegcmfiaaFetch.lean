/- The instruction at the place. -/
import Derived.Test.YtimbnlcegcmfiaaGive
import Derived.Test.YtimbnlcegcmfiaaDec
import Derived.Laws.DeepStrings4
import Derived.Test.YtimbnlcegcmfiaaQuietTail
import Derived.Deep.QuietTactic
namespace Go.Proofs.Ytimbnlcegcmfiaa
open Go.RowKit
set_option linter.unusedVariables false
section
variable {w : World} {N p q r : Nat} {sl : Value} {s : St}

/-- May an instruction begin there? -/
def placeB (c : ByteArray) (k : Int) : Bool := decide (0 ≤ k) && decide (k < c.size) && decide (k % 4 = 0)

theorem isPlace30 (k : Int) (c : ByteArray) (w : World) :
    Calls Try.prog 30 #[.int .i64 k, .string c] w fun e w' => e = .returned (.bool (placeB c k)) ∧ w' = w := by
  by_cases h1 : 0 ≤ k
  · by_cases h2 : k < c.size
    · go_enter Try.func30, Try.ntmps30
      go_wp2
      go_ret
      exact ⟨ret_b (by unfold placeB; simp [h1, h2]; by_cases h3 : k % 4 = 0 <;> simp [h3]), rfl⟩
    · go_enter Try.func30, Try.ntmps30
      go_wp2
      go_ret
      exact ⟨ret_b (by unfold placeB; rw [show decide (k < (c.size : Int)) = false from decide_eq_false (by omega)]; simp), rfl⟩
  · go_enter Try.func30, Try.ntmps30
    go_wp2
    go_ret
    exact ⟨ret_b (by unfold placeB; rw [show decide (0 ≤ k) = false from decide_eq_false (by omega)]; simp), rfl⟩

theorem fetch32_none (h : IsM w N p q r sl s) (hb : placeB s.code s.pc = false) :
    Calls Try.prog 32 #[.pointer (some ⟨p, 0, none⟩)] w fun e w' => e = .returned (.tuple #[.agg #[.int .i64 0, .int .i64 0, .int .i64 0, .int .i64 0, .int .i32 0], .int .i64 1]) ∧ Below w.heap.size w w' := by
  have hp := h.plt
  have hc0 := h.c0
  have hc2 := h.c2
  go_enter Try.func32, Try.ntmps32
  go_wp2
  go_quiet (exact Calls.quiet_of_same (isPlace30 _ _ _))
  go_wp2
  refine bodyPost_ret (v := .tuple #[.agg #[.int .i64 0, .int .i64 0, .int .i64 0, .int .i64 0, .int .i32 0], .int .i64 1]) (by simp [results, Try.results32, go_sem]) rfl ⟨rfl, ?_⟩
  exact ((((((below_box w _).trans ((below_drewN _ _).mono (by simp))).setCell (Nat.le_refl _) _).setCell (Nat.le_refl _) _).setCell (Nat.le_refl _) _).setCell (Nat.le_refl _) _).setCell (Nat.le_refl _) _

theorem below_set5 {w w1 : World} (hb : Below w.heap.size w w1) (v0 v1 v2 v3 v4 : Value) :
    Below w.heap.size w (((((w1.setCell ⟨w.heap.size, 0, none⟩ v0).setCell ⟨w.heap.size, 1, none⟩ v1).setCell ⟨w.heap.size, 2, none⟩ v2).setCell ⟨w.heap.size, 3, none⟩ v3).setCell ⟨w.heap.size, 4, none⟩ v4) :=
  ((((hb.setCell (Nat.le_refl _) _).setCell (Nat.le_refl _) _).setCell (Nat.le_refl _) _).setCell (Nat.le_refl _) _).setCell (Nat.le_refl _) _

theorem mixed : Try.prog.follows .mixedOrders = true := by kernel_rfl

/-- The cells of the new instruction of zeros, behind a call that has turned nothing. -/
theorem zero_kept {w W w1 : World} (hb : Below W.heap.size W w1) (hd : Below (w.alloc (.cells #[.int .i64 0, .int .i64 0, .int .i64 0, .int .i64 0, .int .i32 0] 74)).heap.size (w.alloc (.cells #[.int .i64 0, .int .i64 0, .int .i64 0, .int .i64 0, .int .i32 0] 74)) W) :
    ZeroAt w1 w.heap.size ∧ (∀ o, w1.frozen? ⟨w.heap.size, o, none⟩ = false) ∧ Below w.heap.size w w1 := by
  have hz : Below (w.alloc (.cells #[.int .i64 0, .int .i64 0, .int .i64 0, .int .i64 0, .int .i32 0] 74)).heap.size (w.alloc (.cells #[.int .i64 0, .int .i64 0, .int .i64 0, .int .i64 0, .int .i32 0] 74)) w1 := hd.trans (hb.mono hd.size)
  obtain ⟨hc, hf⟩ := bcell hz
  have hl : w.heap.size < (w.alloc (.cells #[.int .i64 0, .int .i64 0, .int .i64 0, .int .i64 0, .int .i32 0] 74)).heap.size := by simp
  refine ⟨⟨?_, ?_, ?_, ?_, ?_⟩, fun o => ?_, below_box2 hz⟩
  all_goals first | (rw [hc _ _ hl]; simp [go_sem]) | (rw [hf _ _ hl]; simp [go_sem])

set_option maxRecDepth 100000 in
set_option maxHeartbeats 1000000 in
theorem fetch32_yes (h : IsM w N p q r sl s) (hO : Ok s) (k : Nat) (hk : s.pc = (k : Int)) (hb : placeB s.code s.pc = true) (hl : k + 4 ≤ s.code.size) (hu : uOk (codeWord s.code k) = true) :
    Calls Try.prog 32 #[.pointer (some ⟨p, 0, none⟩)] w fun e w' => e = .returned (.tuple #[.agg #[.int .i64 (uOp (codeWord s.code k)), .int .i64 (uD (codeWord s.code k)), .int .i64 (uA (codeWord s.code k)), .int .i64 (uB (codeWord s.code k)), .int .i32 (uI (codeWord s.code k))], .int .i64 0]) ∧ Below w.heap.size w w' := by
  have hp := h.plt
  have hc0 := h.c0
  have hc2 := h.c2
  have hs := hO.csize
  rw [hk] at hc2 hb
  have k1 : (k : Int) ≤ 1048572 := by omega
  have hw4 : IntKind.i64.wrap ((k : Int) + 4) = (k : Int) + 4 := by simp [IntKind.wrap, IntKind.bits, IntKind.signed]; omega
  have k2 : (k : Int) + 4 ≤ (s.code.size : Int) := by omega
  have hsz : Hid (∀ j, j < 4 → j < (s.code.extract k (k + 4)).size) := fun j hj => by rw [ByteArray.size_extract]; omega
  have hdec : ∀ u, u = codeWord s.code k → ∀ w, Calls Try.prog 48 #[.int .u32 u] w fun e w' => e = .returned (.tuple #[.agg #[.int .i64 (uOp (codeWord s.code k)), .int .i64 (uD (codeWord s.code k)), .int .i64 (uA (codeWord s.code k)), .int .i64 (uB (codeWord s.code k)), .int .i32 (uI (codeWord s.code k))], .int .i64 0]) ∧ Below w.heap.size w w' := by
    rintro u rfl w
    exact dec48_yes _ (codeWord_lo _ _) (codeWord_hi _ _) hu w
  clear h hO hu
  haveI := after_some
  go_enter Try.func32, Try.ntmps32
  go_wp2
  go_quiet (exact Calls.quiet_of_same (isPlace30 _ _ _))
  go_wp2
  go_quiet (fail)
  go_wp2
  refine region_after 21 mixed (by kernel_rfl) ?_
  simp only [List.take_succ_cons, List.take_zero, List.drop_succ_cons, List.drop_zero]
  repeat quiet_step (exact Calls.after _ (hdec _ (codeWord_up (hsz.out 0 (by decide)) (hsz.out 1 (by decide)) (hsz.out 2 (by decide)) (hsz.out 3 (by decide))) _))
  refine wpQuiet_nil ?_
  intro w1 hb1
  obtain ⟨⟨k0, k1, k2, k3, k4⟩, hz, hb2⟩ := zero_kept (w := w) hb1 ⟨rfl, rfl, rfl, Nat.le_refl _, fun _ _ => rfl⟩
  have z0 := hz 0
  have z1 := hz 1
  have z2 := hz 2
  have z3 := hz 3
  have z4 := hz 4
  clear hz hb1
  go_wp2
  refine bodyPost_ret (v := .tuple #[.agg #[.int .i64 (uOp (codeWord s.code k)), .int .i64 (uD (codeWord s.code k)), .int .i64 (uA (codeWord s.code k)), .int .i64 (uB (codeWord s.code k)), .int .i32 (uI (codeWord s.code k))], .int .i64 0]) (by simp [results, Try.results32, go_sem, k0, k1, k2, k3, k4]) rfl ⟨rfl, below_set5 hb2 _ _ _ _ _⟩

set_option maxRecDepth 100000 in
set_option maxHeartbeats 1000000 in
theorem fetch32_no (h : IsM w N p q r sl s) (hO : Ok s) (k : Nat) (hk : s.pc = (k : Int)) (hb : placeB s.code s.pc = true) (hl : k + 4 ≤ s.code.size) (hu : uOk (codeWord s.code k) = false) :
    Calls Try.prog 32 #[.pointer (some ⟨p, 0, none⟩)] w fun e w' => e = .returned (.tuple #[.agg #[.int .i64 0, .int .i64 0, .int .i64 0, .int .i64 0, .int .i32 0], .int .i64 1]) ∧ Below w.heap.size w w' := by
  have hp := h.plt
  have hc0 := h.c0
  have hc2 := h.c2
  have hs := hO.csize
  rw [hk] at hc2 hb
  have k1 : (k : Int) ≤ 1048572 := by omega
  have hw4 : IntKind.i64.wrap ((k : Int) + 4) = (k : Int) + 4 := by simp [IntKind.wrap, IntKind.bits, IntKind.signed]; omega
  have k2 : (k : Int) + 4 ≤ (s.code.size : Int) := by omega
  have hsz : Hid (∀ j, j < 4 → j < (s.code.extract k (k + 4)).size) := fun j hj => by rw [ByteArray.size_extract]; omega
  have hdec : ∀ u, u = codeWord s.code k → ∀ w, Calls Try.prog 48 #[.int .u32 u] w fun e w' => e = .returned (.tuple #[.agg #[.int .i64 0, .int .i64 0, .int .i64 0, .int .i64 0, .int .i32 0], .int .i64 1]) ∧ Below w.heap.size w w' := by
    rintro u rfl w
    exact dec48_no _ (codeWord_lo _ _) (codeWord_hi _ _) hu w
  clear h hO hu
  haveI := after_some
  go_enter Try.func32, Try.ntmps32
  go_wp2
  go_quiet (exact Calls.quiet_of_same (isPlace30 _ _ _))
  go_wp2
  go_quiet (fail)
  go_wp2
  refine region_after 21 mixed (by kernel_rfl) ?_
  simp only [List.take_succ_cons, List.take_zero, List.drop_succ_cons, List.drop_zero]
  repeat quiet_step (exact Calls.after _ (hdec _ (codeWord_up (hsz.out 0 (by decide)) (hsz.out 1 (by decide)) (hsz.out 2 (by decide)) (hsz.out 3 (by decide))) _))
  refine wpQuiet_nil ?_
  intro w1 hb1
  obtain ⟨⟨k0, k1, k2, k3, k4⟩, hz, hb2⟩ := zero_kept (w := w) hb1 ⟨rfl, rfl, rfl, Nat.le_refl _, fun _ _ => rfl⟩
  have z0 := hz 0
  have z1 := hz 1
  have z2 := hz 2
  have z3 := hz 3
  have z4 := hz 4
  clear hz hb1
  go_wp2
  refine bodyPost_ret (v := .tuple #[.agg #[.int .i64 0, .int .i64 0, .int .i64 0, .int .i64 0, .int .i32 0], .int .i64 1]) (by simp [results, Try.results32, go_sem, k0, k1, k2, k3, k4]) rfl ⟨rfl, below_set5 hb2 _ _ _ _ _⟩

end
end Go.Proofs.Ytimbnlcegcmfiaa
