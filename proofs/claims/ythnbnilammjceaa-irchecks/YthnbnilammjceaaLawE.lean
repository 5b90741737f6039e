/- The law IrFuncs, over what the document's Func tells. -/
import Derived.Test.YthnbnilammjceaaWk
namespace Go.Proofs.Ythnbnilammjceaa
open Go.RowKit Go.Maps
set_option linter.unusedVariables false
set_option linter.unusedSimpArgs false

theorem errno9 (b : Bool) (w : World) : Calls Try.prog 9 #[.bool b] w fun e w' => e = .returned (.int .i64 (errF b)) ∧ w' = w := by
  cases b
  all_goals
    go_enter Try.func9, Try.ntmps9
    go_wp2
    go_ret
    exact ⟨rfl, rfl⟩
set_option maxRecDepth 20000 in
set_option maxHeartbeats 8000000 in
theorem funcs4_of {w : World} {p : Pg} {f : Fn} (hp : Pg.ok w p) (hf : Fn.ok w f)
    (h13 : ∀ W, Pg.ok W p → Fn.ok W f → Calls Try.prog 13 #[p.val, f.val] W fun e w' => e = .returned (.bool (fnF p f)) ∧ Below W.heap.size W w') :
    Calls Try.prog 4 #[p.val, f.val] w fun e w' => e = .returned (.bool true) ∧ Below w.heap.size w w' := by
  have HP := hid' hp
  have HF := hid' hf
  have H13 := hid' h13
  have h12 := fun W (h1 : Pg.ok W p) (h2 : Fn.ok W f) => checkFunc12 h1 h2
  have H12 := hid' h12
  obtain ⟨nm, ps, rs, sl, bv, bl⟩ := f
  obtain ⟨fv, funcs, gl, dv, data, main⟩ := p
  obtain ⟨bo, bc, eb⟩ := hf.b.len
  obtain ⟨fo, fc, ef⟩ := hp.f.len
  obtain ⟨dd, dc, ed⟩ := hp.d.len
  dsimp only at *
  subst eb ef ed
  clear hf hp h12 h13
  obtain ⟨w0, ew0⟩ : ∃ w0, w0 = (w.alloc (.cells #[.slice fo funcs.length fc, .int .i64 gl, .slice dd data.length dc, .int .i64 main] 25)).alloc (.cells #[.string nm, .int .i64 ps, .int .i64 rs, .int .i64 sl, .slice bo bl.length bc] 33) := ⟨_, rfl⟩
  have HW0 := hid' ew0
  have hx := fun t : After w0 => boxpf (w := w) (by rw [← ew0]; exact t.2)
  have y0 := fun t => (hx t).2.1.1
  have y1 := fun t => (hx t).2.1.2.1
  have y2 := fun t => (hx t).2.1.2.2.1
  have y3 := fun t => (hx t).2.1.2.2.2
  have z0 := fun t => (hx t).2.2.1
  have z1 := fun t => (hx t).2.2.2.1
  have z2 := fun t => (hx t).2.2.2.2.1
  have z3 := fun t => (hx t).2.2.2.2.2.1
  have z4 := fun t => (hx t).2.2.2.2.2.2
  have K12 : ∀ t : After w0, _ := fun t => Calls.after t (H12.out t.1 (HP.out.on (hx t).1.2) (HF.out.on (hx t).1.2))
  have K13 : ∀ t : After w0, _ := fun t => Calls.after t (H13.out t.1 (HP.out.on (hx t).1.2) (HF.out.on (hx t).1.2))
  have K11 : ∀ t : After w0, _ := fun t => Calls.after t (awake11 t.1)
  have HB0 : Hid (Below w.heap.size w w0) := by unfold Hid; rw [ew0]; exact below2 _ _ _
  have hne := after_some w0
  unfold Fn.val Pg.val at *
  dsimp only at *
  generalize fnF ⟨.slice fo funcs.length fc, funcs, gl, .slice dd data.length dc, data, main⟩ ⟨nm, ps, rs, sl, .slice bo bl.length bc, bl⟩ = q at *
  have K9 : ∀ t : After w0, _ := fun t => Calls.after t ((errno9 q t.1).mono fun _ w' h => ⟨h.1, by rw [h.2]; exact Below.refl _ _⟩)
  generalize errF q = eq at *
  clear hx ew0 HP HF H12 H13
  have hqq : (eq == eq) = true := by simp
  go_enter Try.func4, Try.ntmps4
  go_wp2_with fail
  rw [← HW0.out]
  refine region_after 11 mixed (by kernel_rfl) ?_
  simp only [List.take_succ_cons, List.take_zero, List.drop_succ_cons, List.drop_zero]
  repeat (first | go_big_quiet_step (first | with_reducible exact K12 _ | with_reducible exact K13 _ | with_reducible exact K9 _ | with_reducible exact K11 _) | quiet_step (first | with_reducible exact K12 _ | with_reducible exact K13 _ | with_reducible exact K9 _ | with_reducible exact K11 _))
  refine wpQuiet_nil ?_
  intro w6 hb6
  clear K12 K13 K9 K11 y0 y1 y2 y3 z0 z1 z2 z3 z4
  go_wp2
  go_ret
  exact ⟨rfl, below_up HB0.out hb6⟩
end Go.Proofs.Ythnbnilammjceaa
