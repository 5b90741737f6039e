/- The question that each law asks besides is answered as it must. -/
import Derived.Test.YtimbnlcegcmfiaaCode
namespace Go.Proofs.Ytimbnlcegcmfiaa
open Go.RowKit
set_option linter.unusedVariables false

/-- The image of the four instructions. -/
def wakeIm : Im := ⟨outS wakeL, ⟨#[]⟩, 0, 0, 0⟩
theorem wake_may : wakeIm.may = true := by kernel_rfl
theorem wake_kind : (stepN 4 (initS wakeIm ⟨#[97]⟩)).kind = 1 := by kernel_rfl
theorem wake_exit : (stepN 4 (initS wakeIm ⟨#[97]⟩)).exit = 0 := by kernel_rfl
theorem wake_trap : (stepN 4 (initS wakeIm ⟨#[97]⟩)).trap = 0 := by kernel_rfl
theorem wake_out : (stepN 4 (initS wakeIm ⟨#[97]⟩)).out = [98] := by kernel_rfl
theorem wake_used : (stepN 4 (initS wakeIm ⟨#[97]⟩)).used = 1 := by kernel_rfl

theorem wake_run (w : World) :
    Calls Try.prog 23 #[.agg #[.string (outS wakeL), .string ⟨#[]⟩, .int .i64 0, .int .i64 0, .int .i64 0], .string ⟨#[97]⟩, .int .i64 4] w fun e w' => e = .returned (.tuple #[.agg #[.int .i64 1, .int .i32 0, .int .i64 0, .string ⟨#[98]⟩, .int .i64 1], .int .i64 0]) ∧ Below w.heap.size w w' := by
  have h := run23_ok wakeIm ⟨#[97]⟩ 4 wake_may (by decide) (by decide) w
  unfold endV at h
  rw [wake_kind, wake_exit, wake_trap, wake_out, wake_used] at h
  exact h

set_option maxHeartbeats 1000000 in
theorem awake13 (w : World) :
    Calls Try.prog 13 #[] w fun e w' => e = .returned (.bool true) ∧ Below w.heap.size w w' := by
  have hcode := code31 w.heap.size (w.alloc (.cells wakeA 74)) (by simp) (fun j v hj => by
    have hb2 : (w.alloc (.cells wakeA 74)).heap[w.heap.size]? = some (.cells wakeA 74) := Deep.blk_alloc_new w (.cells wakeA 74)
    simp only [World.cell?, hb2]
    exact hj)
  unfold wakeA at hcode
  go_enter Try.func13, Try.ntmps13
  go_wp2_with (first
    | (go_at_call 31; refine hcode.mono ?_; rintro e w1 ⟨rfl, hb1⟩)
    | (go_at_call 23; refine (wake_run _).mono ?_; rintro e w2 ⟨rfl, hb2⟩))
  go_ret
  exact ⟨rfl, ((below_box2 hb1).trans (hb2.mono (by have := hb1.size; simp at this; omega))).alloc (by have := hb1.size; have := hb2.size; simp at *; omega) _⟩
end Go.Proofs.Ytimbnlcegcmfiaa
