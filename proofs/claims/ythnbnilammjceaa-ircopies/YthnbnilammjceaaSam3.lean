/- Alike: blocks and functions, the program's. -/
import Derived.Test.YthnbnilammjceaaSam2
namespace Go.Proofs.Ythnbnilammjceaa
open Go.RowKit Go.Maps
set_option linter.unusedVariables false
set_option linter.unusedSimpArgs false

set_option maxRecDepth 20000 in
set_option maxHeartbeats 8000000 in
theorem sameBlock40 {w : World} {x y : Bl} (hx : Bl.ok w x) (hy : Bl.ok w y) : Calls Try.prog 40 #[x.val, y.val] w fun e w' => e = .returned (.bool (eqB x y)) ∧ Below w.heap.size w w' := by
  have HA : Hid (∀ W, Below w.heap.size w W → Calls Try.prog 52 #[x.tv, y.tv] W fun e w' => e = .returned (.bool (eqL x.to y.to)) ∧ Below W.heap.size W w') := fun W hW => equal52 (hx.t.on hW) (hy.t.on hW) hx.tl hy.tl
  have HP : Hid (∀ W, Below w.heap.size w W → Calls Try.prog 53 #[x.cv, y.cv, .func (.func 54) #[] #[]] W fun e w' => e = .returned (.bool (all2 eqI x.code y.code)) ∧ Below W.heap.size W w') := fun W hW => equalFunc53 (hx.c.on hW) (hy.c.on hW) hx.cl hy.cl (fun z hz => (hx.ins z hz).on hW) (fun z hz => (hy.ins z hz).on hW) (fun W' hW' a b ha hb => sameInstr54 (ha.on hW') (hb.on hW'))
  unfold eqB
  generalize eqL x.to y.to = r6 at *
  generalize all2 eqI x.code y.code = r7 at *
  obtain ⟨cv, code, en, arg, tv, to⟩ := x
  obtain ⟨cv', code', en', arg', tv', to'⟩ := y
  obtain ⟨ax, ac, e1⟩ := hx.c.len
  obtain ⟨qx, qc, e2⟩ := hx.t.len
  obtain ⟨ay, ad, e3⟩ := hy.c.len
  obtain ⟨qy, qd, e4⟩ := hy.t.len
  dsimp only at *
  subst e1 e2 e3 e4
  clear hx hy
  unfold Bl.val
  dsimp only
  by_cases g1 : ¬ en = en'
  · rw [decide_eq_false g1]
    have dg1 : (en == en') = false := by simp [g1]
    clear HA HP
    go_enter Try.func40, Try.ntmps40
    go_wp2
    go_ret
    exact ⟨by simp, below2 _ _ _⟩
  replace g1 := Classical.not_not.1 g1
  subst g1
  by_cases g2 : ¬ arg = arg'
  · rw [decide_eq_false g2]
    have dg2 : (arg == arg') = false := by simp [g2]
    clear HA HP
    go_enter Try.func40, Try.ntmps40
    go_wp2
    go_ret
    exact ⟨by simp, below2 _ _ _⟩
  replace g2 := Classical.not_not.1 g2
  subst g2
  simp only [decide_true, Bool.true_and]
  cases r6
  · go_enter Try.func40, Try.ntmps40
    go_wp2_with (first
      | (go_at_call 53; refine (HP.out _ HB1.out).mono ?_; rintro e2 w2 ⟨rfl, hb2⟩)
      | (go_at_call 52; refine (HA.out _ (below2 _ _ _)).mono ?_; rintro e1 w1 ⟨rfl, hb1⟩; obtain ⟨hc1, hf1⟩ := bcell hb1; have hs1 := hb1.size; have HB1 := hid' (below_on (below2 _ _ _) hb1 (by simp; omega))))
    go_ret
    exact ⟨by simp, HB1.out⟩
  · go_enter Try.func40, Try.ntmps40
    go_wp2_with (first
      | (go_at_call 53; refine (HP.out _ HB1.out).mono ?_; rintro e2 w2 ⟨rfl, hb2⟩)
      | (go_at_call 52; refine (HA.out _ (below2 _ _ _)).mono ?_; rintro e1 w1 ⟨rfl, hb1⟩; obtain ⟨hc1, hf1⟩ := bcell hb1; have hs1 := hb1.size; have HB1 := hid' (below_on (below2 _ _ _) hb1 (by simp; omega))))
    go_ret
    exact ⟨by simp, below_up HB1.out hb2⟩

set_option maxRecDepth 20000 in
set_option maxHeartbeats 8000000 in
theorem same21 {w : World} {x y : Fn} (hx : Fn.ok w x) (hy : Fn.ok w y) : Calls Try.prog 21 #[x.val, y.val] w fun e w' => e = .returned (.bool (eqF x y)) ∧ Below w.heap.size w w' := by
  have HP : Hid (∀ W, Below w.heap.size w W → Calls Try.prog 39 #[x.bv, y.bv, .func (.func 40) #[] #[]] W fun e w' => e = .returned (.bool (all2 eqB x.blocks y.blocks)) ∧ Below W.heap.size W w') := fun W hW => equalFunc39 (hx.b.on hW) (hy.b.on hW) hx.bl hy.bl (fun z hz => (hx.bls z hz).on hW) (fun z hz => (hy.bls z hz).on hW) (fun W' hW' a b ha hb => sameBlock40 (ha.on hW') (hb.on hW'))
  unfold eqF
  generalize all2 eqB x.blocks y.blocks = r7 at *
  obtain ⟨nm, ps, rs, sl, bv, bl⟩ := x
  obtain ⟨nm', ps', rs', sl', bv', bl'⟩ := y
  obtain ⟨ax, ac, e1⟩ := hx.b.len
  obtain ⟨ay, ad, e3⟩ := hy.b.len
  dsimp only at *
  subst e1 e3
  clear hx hy
  unfold Fn.val
  dsimp only
  by_cases g0 : ¬ nm = nm'
  · rw [decide_eq_false g0]
    have dg0 := toList_ne g0
    clear HP
    go_enter Try.func21, Try.ntmps21
    go_wp2
    go_ret
    exact ⟨by simp, below2 _ _ _⟩
  replace g0 := Classical.not_not.1 g0
  subst g0
  by_cases g1 : ¬ ps = ps'
  · rw [decide_eq_false g1]
    have dg1 : (ps == ps') = false := by simp [g1]
    clear HP
    go_enter Try.func21, Try.ntmps21
    go_wp2
    go_ret
    exact ⟨by simp, below2 _ _ _⟩
  replace g1 := Classical.not_not.1 g1
  subst g1
  by_cases g2 : ¬ rs = rs'
  · rw [decide_eq_false g2]
    have dg2 : (rs == rs') = false := by simp [g2]
    clear HP
    go_enter Try.func21, Try.ntmps21
    go_wp2
    go_ret
    exact ⟨by simp, below2 _ _ _⟩
  replace g2 := Classical.not_not.1 g2
  subst g2
  by_cases g3 : ¬ sl = sl'
  · rw [decide_eq_false g3]
    have dg3 : (sl == sl') = false := by simp [g3]
    clear HP
    go_enter Try.func21, Try.ntmps21
    go_wp2
    go_ret
    exact ⟨by simp, below2 _ _ _⟩
  replace g3 := Classical.not_not.1 g3
  subst g3
  simp only [decide_true, Bool.true_and]
  go_enter Try.func21, Try.ntmps21
  go_wp2_with (go_at_call 39; refine (HP.out _ (below2 _ _ _)).mono ?_; rintro e2 w2 ⟨rfl, hb2⟩)
  go_ret
  exact ⟨by simp, below_on (below2 _ _ _) hb2 (by simp; omega)⟩
end Go.Proofs.Ythnbnilammjceaa
