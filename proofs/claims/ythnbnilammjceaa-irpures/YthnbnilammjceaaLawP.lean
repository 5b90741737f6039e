/- The law IrPures. -/
import Derived.Test.YthnbnilammjceaaWk
namespace Go.Proofs.Ythnbnilammjceaa
open Go.RowKit Go.Maps
set_option linter.unusedVariables false
set_option linter.unusedSimpArgs false

set_option maxRecDepth 20000 in
set_option maxHeartbeats 8000000 in
theorem pures7 {w : World} {x : In} (hx : In.ok w x) : Calls Try.prog 7 #[x.val] w fun e w' => e = .returned (.bool true) ∧ Below w.heap.size w w' := by
  have HX := hid' hx
  obtain ⟨op, dst, av, args, imm, alu, wide, xv, pred⟩ := x
  obtain ⟨ha, hal, hq, hql, hi1, hi2⟩ := hx
  dsimp only at *
  obtain ⟨ao, ac, rfl⟩ := ha.len
  obtain ⟨qo, qc, rfl⟩ := hq.len
  obtain ⟨w0, ew0⟩ : ∃ w0, w0 = w.alloc (.cells #[.int .i64 op, .int .i64 dst, .slice ao args.length ac, .int .i32 imm, .int .i64 alu, .int .i64 wide, .slice qo pred.length qc] 47) := ⟨_, rfl⟩
  have HW0 := hid' ew0
  have hx := fun t : After w0 => xbox (w := w) (by rw [← ew0]; exact t.2)
  have y0 := fun t => (hx t).2.1
  have y1 := fun t => (hx t).2.2.1
  have y2 := fun t => (hx t).2.2.2.1
  have y3 := fun t => (hx t).2.2.2.2.1
  have y4 := fun t => (hx t).2.2.2.2.2.1
  have y5 := fun t => (hx t).2.2.2.2.2.2.1
  have y6 := fun t => (hx t).2.2.2.2.2.2.2
  have K23 : ∀ t : After w0, _ := fun t => Calls.after t (pure23 (HX.out.on (hx t).1))
  have K24 : ∀ t : After w0, _ := fun t => Calls.after t (pure24 (HX.out.on (hx t).1))
  have K11 : ∀ t : After w0, _ := fun t => Calls.after t (awake11 t.1)
  have HB0 : Hid (Below w.heap.size w w0) := by unfold Hid; rw [ew0]; exact below1 _ _
  have hne := after_some w0
  unfold In.val at *
  dsimp only at *
  generalize pureF op alu = q at *
  clear ha hq hx ew0 HX
  have hqq : (q == q) = true := by simp
  go_enter Try.func7, Try.ntmps7
  go_wp2_with fail
  rw [← HW0.out]
  refine region_after 8 mixed (by kernel_rfl) ?_
  simp only [List.take_succ_cons, List.take_zero, List.drop_succ_cons, List.drop_zero]
  repeat (first | go_big_quiet_step (first | with_reducible exact K23 _ | with_reducible exact K24 _ | with_reducible exact K11 _) | quiet_step (first | with_reducible exact K23 _ | with_reducible exact K24 _ | with_reducible exact K11 _))
  refine wpQuiet_nil ?_
  intro w6 hb6
  clear K23 K24 K11 y0 y1 y2 y3 y4 y5 y6
  go_wp2
  go_ret
  exact ⟨rfl, below_up HB0.out hb6⟩
end Go.Proofs.Ythnbnilammjceaa
