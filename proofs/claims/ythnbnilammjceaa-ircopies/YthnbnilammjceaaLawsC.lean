/- The law IrCopies. -/
import Derived.Test.YthnbnilammjceaaWk
import Derived.Test.YthnbnilammjceaaSpo2
import Derived.Test.YthnbnilammjceaaSam4
namespace Go.Proofs.Ythnbnilammjceaa
open Go.RowKit Go.Maps
set_option linter.unusedVariables false
set_option linter.unusedSimpArgs false

theorem five {w W : World} {v0 v1 v2 v3 v4 : Value} {T : TypeId} (hb : Below (w.alloc (.cells #[v0, v1, v2, v3, v4] T)).heap.size (w.alloc (.cells #[v0, v1, v2, v3, v4] T)) W) {b : Nat} (hB : b = w.heap.size) :
    W.cell? ⟨b, 0, none⟩ = some v0 ∧ W.cell? ⟨b, 1, none⟩ = some v1 ∧ W.cell? ⟨b, 2, none⟩ = some v2 ∧ W.cell? ⟨b, 3, none⟩ = some v3 ∧ W.cell? ⟨b, 4, none⟩ = some v4 := by
  subst hB
  exact (fbox hb).2.2
theorem copy19u {w : World} {x : Fn} (hx : Fn.ok w x) : Calls Try.prog 19 #[.agg #[.string x.nm, .int .i64 x.params, .int .i64 x.regs, .int .i64 x.slots, x.bv]] w fun e w' => ∃ y : Fn, e = .returned (.agg #[.string y.nm, .int .i64 y.params, .int .i64 y.regs, .int .i64 y.slots, y.bv]) ∧ LikeF x y ∧ OwnF w' w.heap.size y ∧ Below w.heap.size w w' := copy19 hx
set_option maxRecDepth 20000 in
set_option maxHeartbeats 8000000 in
theorem copies6_of {w : World} {f g : Fn} (hf : Fn.ok w f) (hg : Fn.ok w g) (h20 : ∀ (W : World) (x y : Fn), Fn.ok W x → Fn.ok W y → Calls Try.prog 20 #[x.val, y.val] W fun e w' => e = .returned (.bool (eqF x y)) ∧ Below W.heap.size W w') :
    Calls Try.prog 6 #[f.val, g.val] w fun e w' => e = .returned (.bool true) ∧ Below w.heap.size w w' := by
  have HF := hid' hf
  have HG := hid' hg
  have H20 := hid' h20
  have C1 : Hid (∀ W, Below w.heap.size w W → Calls Try.prog 19 #[f.val] W fun e w' => ∃ y : Fn, e = .returned y.val ∧ LikeF f y ∧ OwnF w' W.heap.size y ∧ Below W.heap.size W w') := fun W hW => copy19 (HF.out.on hW)
  obtain ⟨nm, ps, rs, sl, bv, bl⟩ := f
  obtain ⟨nm', ps', rs', sl', bv', bl'⟩ := g
  obtain ⟨fo, fc, ef⟩ := hf.b.len
  obtain ⟨go, gc, eg⟩ := hg.b.len
  dsimp only at *
  subst ef eg
  unfold Fn.val at C1 ⊢
  dsimp only at C1 ⊢
  clear hf hg h20
  go_enter Try.func6, Try.ntmps6
  go_wp2_with (first
    | (go_at_call 19; refine (copy19u (x := ⟨cn, cp, cr, cs, .slice ca cb.length cc, cb⟩) (HO1.out.ok.on (below1 _ _))).mono ?_; rintro e3 w3 ⟨d, rfl, ld, od, hb3⟩; obtain ⟨dn, dp, dr, ds, dv, db⟩ := d; obtain ⟨da, dc, ed⟩ := (od.b.src bl4).len; dsimp only at ed; subst ed; have HL3 := hid' ld; have HO3 := hid' od; have HB3 := hid' hb3; clear ld od hb3)
    | (go_at_call 19; refine (C1.out _ (below2 _ _ _)).mono ?_; rintro e1 w1 ⟨c, rfl, lc, oc, hb1⟩; obtain ⟨cn, cp, cr, cs, cv, cb⟩ := c; obtain ⟨ca, cc, ec⟩ := (oc.b.src bl4).len; dsimp only at ec; subst ec; have HL1 := hid' lc; have HO1 := hid' oc; have HB1 := hid' hb1; clear lc oc hb1))
  obtain ⟨w4, ew4⟩ : ∃ w4, w4 = w3.alloc (.cells #[.string dn, .int .i64 dp, .int .i64 dr, .int .i64 ds, .slice da db.length dc] 33) := ⟨_, rfl⟩
  rw [← ew4]
  have HW4 := hid' ew4
  have HD : Hid (∀ W, Below w4.heap.size w4 W → Below (w3.alloc (.cells #[.string dn, .int .i64 dp, .int .i64 dr, .int .i64 ds, .slice da db.length dc] 33)).heap.size (w3.alloc (.cells #[.string dn, .int .i64 dp, .int .i64 dr, .int .i64 ds, .slice da db.length dc] 33)) W) := fun W hW => by rw [← HW4.out]; exact hW
  have H3 : Hid (∀ W, Below w4.heap.size w4 W → Below w3.heap.size w3 W) := fun W hW => below_up (below1 _ _) (HD.out W hW)
  have HC : Hid (∀ W, Below w4.heap.size w4 W → Below (w1.alloc (.cells #[.string cn, .int .i64 cp, .int .i64 cr, .int .i64 cs, .slice ca cb.length cc] 33)).heap.size (w1.alloc (.cells #[.string cn, .int .i64 cp, .int .i64 cr, .int .i64 cs, .slice ca cb.length cc] 33)) W) := fun W hW => below_up HB3.out (H3.out W hW)
  have H1 : Hid (∀ W, Below w4.heap.size w4 W → Below w1.heap.size w1 W) := fun W hW => below_up (below1 _ _) (HC.out W hW)
  have HG2 : Hid (∀ W, Below w4.heap.size w4 W → Below ((w.alloc (.cells #[.string nm, .int .i64 ps, .int .i64 rs, .int .i64 sl, .slice fo bl.length fc] 33)).alloc (.cells #[.string nm', .int .i64 ps', .int .i64 rs', .int .i64 sl', .slice go bl'.length gc] 33)).heap.size ((w.alloc (.cells #[.string nm, .int .i64 ps, .int .i64 rs, .int .i64 sl, .slice fo bl.length fc] 33)).alloc (.cells #[.string nm', .int .i64 ps', .int .i64 rs', .int .i64 sl', .slice go bl'.length gc] 33)) W) := fun W hW => below_up HB1.out (H1.out W hW)
  have HF2 : Hid (∀ W, Below w4.heap.size w4 W → Below (w.alloc (.cells #[.string nm, .int .i64 ps, .int .i64 rs, .int .i64 sl, .slice fo bl.length fc] 33)).heap.size (w.alloc (.cells #[.string nm, .int .i64 ps, .int .i64 rs, .int .i64 sl, .slice fo bl.length fc] 33)) W) := fun W hW => below_up (below1 _ _) (HG2.out W hW)
  have H0 : Hid (∀ W, Below w4.heap.size w4 W → Below w.heap.size w W) := fun W hW => below_up (below1 _ _) (HF2.out W hW)
  have yf := fun t : After w4 => five (HF2.out t.1 t.2) rfl
  have yg := fun t : After w4 => five (HG2.out t.1 t.2) (b := w.heap.size + 1) (by simp)
  have yc := fun t : After w4 => five (HC.out t.1 t.2) rfl
  have f0 := fun t => (yf t).1
  have f1 := fun t => (yf t).2.1
  have f2 := fun t => (yf t).2.2.1
  have f3 := fun t => (yf t).2.2.2.1
  have f4 := fun t => (yf t).2.2.2.2
  have g0 := fun t => (yg t).1
  have g1 := fun t => (yg t).2.1
  have g2 := fun t => (yg t).2.2.1
  have g3 := fun t => (yg t).2.2.2.1
  have g4 := fun t => (yg t).2.2.2.2
  have c0 := fun t => (yc t).1
  have c1 := fun t => (yc t).2.1
  have c2 := fun t => (yc t).2.2.1
  have c3 := fun t => (yc t).2.2.2.1
  have c4 := fun t => (yc t).2.2.2.2
  clear yf yg yc
  have K20a : ∀ t : After w4, _ := fun t => Calls.after t (H20.out t.1 ⟨cn, cp, cr, cs, .slice ca cb.length cc, cb⟩ ⟨nm, ps, rs, sl, .slice fo bl.length fc, bl⟩ (HO1.out.ok.on (H1.out t.1 t.2)) (HF.out.on (H0.out t.1 t.2)))
  have K21a : ∀ t : After w4, _ := fun t => Calls.after t (same21 (w := t.1) (x := ⟨cn, cp, cr, cs, .slice ca cb.length cc, cb⟩) (y := ⟨nm, ps, rs, sl, .slice fo bl.length fc, bl⟩) (HO1.out.ok.on (H1.out t.1 t.2)) (HF.out.on (H0.out t.1 t.2)))
  have K21b : ∀ t : After w4, _ := fun t => Calls.after t (same21 (w := t.1) (x := ⟨nm, ps, rs, sl, .slice fo bl.length fc, bl⟩) (y := ⟨nm', ps', rs', sl', .slice go bl'.length gc, bl'⟩) (HF.out.on (H0.out t.1 t.2)) (HG.out.on (H0.out t.1 t.2)))
  have K20b : ∀ t : After w4, _ := fun t => Calls.after t (H20.out t.1 ⟨nm, ps, rs, sl, .slice fo bl.length fc, bl⟩ ⟨nm', ps', rs', sl', .slice go bl'.length gc, bl'⟩ (HF.out.on (H0.out t.1 t.2)) (HG.out.on (H0.out t.1 t.2)))
  rw [HL1.out.eq] at K20a K21a
  generalize eqF ⟨nm, ps, rs, sl, .slice fo bl.length fc, bl⟩ ⟨nm', ps', rs', sl', .slice go bl'.length gc, bl'⟩ = q at *
  unfold Fn.val at K20a K21a K20b K21b
  dsimp only at K20a K21a K20b K21b
  have hne := after_some w4
  have hz : Hid (((w.alloc (.cells #[.string nm, .int .i64 ps, .int .i64 rs, .int .i64 sl, .slice fo bl.length fc] 33)).alloc (.cells #[.string nm', .int .i64 ps', .int .i64 rs', .int .i64 sl', .slice go bl'.length gc] 33)).heap.size = w.heap.size + 2) := by unfold Hid; simp
  have hz1 : w.heap.size + 2 ≤ w1.heap.size := by have := HB1.out.size; rw [hz.out] at this; exact this
  have hz3 : w1.heap.size < w3.heap.size := by have := HB3.out.size; simp at this; omega
  have HEQ : Hid (eqF ⟨dn, dp, dr, ds, .slice da db.length dc, db⟩ ⟨nm, ps, rs, sl, .slice fo bl.length fc, bl⟩ = true) := (HL1.out.trans HL3.out).eq
  clear ew4
  cases q
  all_goals
    refine region_after 18 mixed (by kernel_rfl) ?_
    simp only [List.take_succ_cons, List.take_zero, List.drop_succ_cons, List.drop_zero]
    repeat (first | go_big_quiet_step (first | with_reducible exact K20a _ | with_reducible exact K21a _ | with_reducible exact K21b _ | with_reducible exact K20b _) | quiet_step (first | with_reducible exact K20a _ | with_reducible exact K21a _ | with_reducible exact K21b _ | with_reducible exact K20b _))
    refine wpQuiet_nil ?_
    intro w5 hb5
    have q0 := c0 ⟨w5, hb5⟩
    have q1 := c1 ⟨w5, hb5⟩
    have q2 := c2 ⟨w5, hb5⟩
    have q3 := c3 ⟨w5, hb5⟩
    have q4 := c4 ⟨w5, hb5⟩
    have r0 := f0 ⟨w5, hb5⟩
    have r1 := f1 ⟨w5, hb5⟩
    have r2 := f2 ⟨w5, hb5⟩
    have r3 := f3 ⟨w5, hb5⟩
    have r4 := f4 ⟨w5, hb5⟩
    obtain ⟨s0, s1, s2, s3, s4⟩ := five (HD.out w5 hb5) (b := w3.heap.size) rfl
    dsimp only at q0 q1 q2 q3 q4 r0 r1 r2 r3 r4
    have HB5 := hid' hb5
    have hz5 : w3.heap.size < w5.heap.size := by have := (HD.out w5 hb5).size; simp at this; omega
    clear hb5 f0 f1 f2 f3 f4 g0 g1 g2 g3 g4 c0 c1 c2 c3 c4 K20a K21a K20b K21b
    have H22 : Hid (Calls Try.prog 22 #[.agg #[.string cn, .int .i64 cp, .int .i64 cr, .int .i64 cs, .slice ca cb.length cc]] w5 fun e w' => e = .returned (.tuple #[]) ∧ Kept (fun k => w.heap.size + 2 ≤ k ∧ k < w1.heap.size) w5 w') := by
      have := spoilt22 (x := ⟨cn, cp, cr, cs, .slice ca cb.length cc, cb⟩) HO1.out (H1.out w5 HB5.out)
      rw [hz.out] at this
      exact this
    have HK : Hid (∀ w6, Kept (fun k => w.heap.size + 2 ≤ k ∧ k < w1.heap.size) w5 w6 → Below w.heap.size w w6) := fun w6 K => (H0.out w5 HB5.out).trans (K.below (H0.out w5 HB5.out).size (fun k e => by omega))
    have HF6 : Hid (∀ w6, Kept (fun k => w.heap.size + 2 ≤ k ∧ k < w1.heap.size) w5 w6 → Calls Try.prog 20 #[.agg #[.string dn, .int .i64 dp, .int .i64 dr, .int .i64 ds, .slice da db.length dc], .agg #[.string nm, .int .i64 ps, .int .i64 rs, .int .i64 sl, .slice fo bl.length fc]] w6 fun e w' => e = .returned (.bool true) ∧ Below w6.heap.size w6 w') := fun w6 K => by
      have h := H20.out w6 ⟨dn, dp, dr, ds, .slice da db.length dc, db⟩ ⟨nm, ps, rs, sl, .slice fo bl.length fc, bl⟩ (((HO3.out.kept (S := fun _ => False) (Kept.of_below (H3.out w5 HB5.out)) (fun _ _ _ e => e)).kept K (fun k a _ e => by simp at a; omega)).ok) (HF.out.on (HK.out w6 K))
      rw [HEQ.out] at h
      exact h
    go_wp2_with (first
      | (go_at_call 11; refine (awake11 _).mono ?_; rintro e8 w8 ⟨rfl, hb8⟩)
      | (go_at_call 20; refine (HF6.out _ K6).mono ?_; rintro e7 w7 ⟨rfl, hb7⟩)
      | (go_at_call 22; refine H22.out.mono ?_; rintro e6 w6 ⟨rfl, K6⟩; have kc := fun b o (h : b < w5.heap.size) (hn : ¬ (w.heap.size + 2 ≤ b ∧ b < w1.heap.size)) => K6.cell (b := b) (o := o) h hn; rw [← kc _ _ (by omega) (by omega)] at r0 r1 r2 r3 r4 s0 s1 s2 s3 s4))
    go_ret
    exact ⟨rfl, below_up (below_up (HK.out _ K6) hb7) hb8⟩
theorem copies6 {w : World} {f g : Fn} (hf : Fn.ok w f) (hg : Fn.ok w g) : Calls Try.prog 6 #[f.val, g.val] w fun e w' => e = .returned (.bool true) ∧ Below w.heap.size w w' :=
  copies6_of hf hg (fun _ _ _ h1 h2 => same20 h1 h2)
end Go.Proofs.Ythnbnilammjceaa
