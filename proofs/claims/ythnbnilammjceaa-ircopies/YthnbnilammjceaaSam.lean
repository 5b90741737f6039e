/- Alike: instructions. -/
import Derived.Test.YthnbnilammjceaaLsts
namespace Go.Proofs.Ythnbnilammjceaa
open Go.RowKit Go.Maps
set_option linter.unusedVariables false
set_option linter.unusedSimpArgs false

def eqI (x y : In) : Bool := decide (x.op = y.op) && (decide (x.dst = y.dst) && (decide (x.imm = y.imm) && (decide (x.alu = y.alu) && (decide (x.wide = y.wide) && (eqL x.args y.args && eqL x.pred y.pred)))))

set_option maxRecDepth 20000 in
set_option maxHeartbeats 8000000 in
theorem sameInstr38 {w : World} {x y : In} (hx : In.ok w x) (hy : In.ok w y) : Calls Try.prog 38 #[x.val, y.val] w fun e w' => e = .returned (.bool (eqI x y)) ∧ Below w.heap.size w w' := by
  have HA : Hid (∀ W, Below w.heap.size w W → Calls Try.prog 18 #[x.av, y.av] W fun e w' => e = .returned (.bool (eqL x.args y.args)) ∧ Below W.heap.size W w') := fun W hW => sameInts18 (hx.a.on hW) (hy.a.on hW) hx.al hy.al
  have HP : Hid (∀ W, Below w.heap.size w W → Calls Try.prog 18 #[x.pv, y.pv] W fun e w' => e = .returned (.bool (eqL x.pred y.pred)) ∧ Below W.heap.size W w') := fun W hW => sameInts18 (hx.p.on hW) (hy.p.on hW) hx.pl hy.pl
  unfold eqI
  generalize eqL x.args y.args = r6 at *
  generalize eqL x.pred y.pred = r7 at *
  obtain ⟨op, dst, av, args, imm, alu, wide, xv, pred⟩ := x
  obtain ⟨op', dst', av', args', imm', alu', wide', xv', pred'⟩ := y
  obtain ⟨ax, ac, e1⟩ := hx.a.len
  obtain ⟨qx, qc, e2⟩ := hx.p.len
  obtain ⟨ay, ad, e3⟩ := hy.a.len
  obtain ⟨qy, qd, e4⟩ := hy.p.len
  dsimp only at *
  subst e1 e2 e3 e4
  clear hx hy
  unfold In.val
  dsimp only
  by_cases g1 : ¬ op = op'
  · rw [decide_eq_false g1]
    have dg1 : (op == op') = false := by simp [g1]
    clear HA HP
    go_enter Try.func38, Try.ntmps38
    go_wp2
    go_ret
    exact ⟨by simp, below2 _ _ _⟩
  replace g1 := Classical.not_not.1 g1
  subst g1
  by_cases g2 : ¬ dst = dst'
  · rw [decide_eq_false g2]
    have dg2 : (dst == dst') = false := by simp [g2]
    clear HA HP
    go_enter Try.func38, Try.ntmps38
    go_wp2
    go_ret
    exact ⟨by simp, below2 _ _ _⟩
  replace g2 := Classical.not_not.1 g2
  subst g2
  by_cases g3 : ¬ imm = imm'
  · rw [decide_eq_false g3]
    have dg3 : (imm == imm') = false := by simp [g3]
    clear HA HP
    go_enter Try.func38, Try.ntmps38
    go_wp2
    go_ret
    exact ⟨by simp, below2 _ _ _⟩
  replace g3 := Classical.not_not.1 g3
  subst g3
  by_cases g4 : ¬ alu = alu'
  · rw [decide_eq_false g4]
    have dg4 : (alu == alu') = false := by simp [g4]
    clear HA HP
    go_enter Try.func38, Try.ntmps38
    go_wp2
    go_ret
    exact ⟨by simp, below2 _ _ _⟩
  replace g4 := Classical.not_not.1 g4
  subst g4
  by_cases g5 : ¬ wide = wide'
  · rw [decide_eq_false g5]
    have dg5 : (wide == wide') = false := by simp [g5]
    clear HA HP
    go_enter Try.func38, Try.ntmps38
    go_wp2
    go_ret
    exact ⟨by simp, below2 _ _ _⟩
  replace g5 := Classical.not_not.1 g5
  subst g5
  simp only [decide_true, Bool.true_and]
  cases r6
  · go_enter Try.func38, Try.ntmps38
    go_wp2_with (first
      | (go_at_call 18; refine (HP.out _ HB1.out).mono ?_; rintro e2 w2 ⟨rfl, hb2⟩)
      | (go_at_call 18; refine (HA.out _ (below2 _ _ _)).mono ?_; rintro e1 w1 ⟨rfl, hb1⟩; obtain ⟨hc1, hf1⟩ := bcell hb1; have hs1 := hb1.size; have HB1 := hid' (below_on (below2 _ _ _) hb1 (by simp; omega))))
    go_ret
    exact ⟨by simp, HB1.out⟩
  · go_enter Try.func38, Try.ntmps38
    go_wp2_with (first
      | (go_at_call 18; refine (HP.out _ HB1.out).mono ?_; rintro e2 w2 ⟨rfl, hb2⟩)
      | (go_at_call 18; refine (HA.out _ (below2 _ _ _)).mono ?_; rintro e1 w1 ⟨rfl, hb1⟩; obtain ⟨hc1, hf1⟩ := bcell hb1; have hs1 := hb1.size; have HB1 := hid' (below_on (below2 _ _ _) hb1 (by simp; omega))))
    go_ret
    exact ⟨by simp, below_up HB1.out hb2⟩

set_option maxRecDepth 20000 in
set_option maxHeartbeats 8000000 in
theorem sameInstr54 {w : World} {x y : In} (hx : In.ok w x) (hy : In.ok w y) : Calls Try.prog 54 #[x.val, y.val] w fun e w' => e = .returned (.bool (eqI x y)) ∧ Below w.heap.size w w' := by
  have HA : Hid (∀ W, Below w.heap.size w W → Calls Try.prog 52 #[x.av, y.av] W fun e w' => e = .returned (.bool (eqL x.args y.args)) ∧ Below W.heap.size W w') := fun W hW => equal52 (hx.a.on hW) (hy.a.on hW) hx.al hy.al
  have HP : Hid (∀ W, Below w.heap.size w W → Calls Try.prog 52 #[x.pv, y.pv] W fun e w' => e = .returned (.bool (eqL x.pred y.pred)) ∧ Below W.heap.size W w') := fun W hW => equal52 (hx.p.on hW) (hy.p.on hW) hx.pl hy.pl
  unfold eqI
  generalize eqL x.args y.args = r6 at *
  generalize eqL x.pred y.pred = r7 at *
  obtain ⟨op, dst, av, args, imm, alu, wide, xv, pred⟩ := x
  obtain ⟨op', dst', av', args', imm', alu', wide', xv', pred'⟩ := y
  obtain ⟨ax, ac, e1⟩ := hx.a.len
  obtain ⟨qx, qc, e2⟩ := hx.p.len
  obtain ⟨ay, ad, e3⟩ := hy.a.len
  obtain ⟨qy, qd, e4⟩ := hy.p.len
  dsimp only at *
  subst e1 e2 e3 e4
  clear hx hy
  unfold In.val
  dsimp only
  by_cases g1 : ¬ op = op'
  · rw [decide_eq_false g1]
    have dg1 : (op == op') = false := by simp [g1]
    clear HA HP
    go_enter Try.func54, Try.ntmps54
    go_wp2
    go_ret
    exact ⟨by simp, below2 _ _ _⟩
  replace g1 := Classical.not_not.1 g1
  subst g1
  by_cases g2 : ¬ dst = dst'
  · rw [decide_eq_false g2]
    have dg2 : (dst == dst') = false := by simp [g2]
    clear HA HP
    go_enter Try.func54, Try.ntmps54
    go_wp2
    go_ret
    exact ⟨by simp, below2 _ _ _⟩
  replace g2 := Classical.not_not.1 g2
  subst g2
  by_cases g3 : ¬ imm = imm'
  · rw [decide_eq_false g3]
    have dg3 : (imm == imm') = false := by simp [g3]
    clear HA HP
    go_enter Try.func54, Try.ntmps54
    go_wp2
    go_ret
    exact ⟨by simp, below2 _ _ _⟩
  replace g3 := Classical.not_not.1 g3
  subst g3
  by_cases g4 : ¬ alu = alu'
  · rw [decide_eq_false g4]
    have dg4 : (alu == alu') = false := by simp [g4]
    clear HA HP
    go_enter Try.func54, Try.ntmps54
    go_wp2
    go_ret
    exact ⟨by simp, below2 _ _ _⟩
  replace g4 := Classical.not_not.1 g4
  subst g4
  by_cases g5 : ¬ wide = wide'
  · rw [decide_eq_false g5]
    have dg5 : (wide == wide') = false := by simp [g5]
    clear HA HP
    go_enter Try.func54, Try.ntmps54
    go_wp2
    go_ret
    exact ⟨by simp, below2 _ _ _⟩
  replace g5 := Classical.not_not.1 g5
  subst g5
  simp only [decide_true, Bool.true_and]
  cases r6
  · go_enter Try.func54, Try.ntmps54
    go_wp2_with (first
      | (go_at_call 52; refine (HP.out _ HB1.out).mono ?_; rintro e2 w2 ⟨rfl, hb2⟩)
      | (go_at_call 52; refine (HA.out _ (below2 _ _ _)).mono ?_; rintro e1 w1 ⟨rfl, hb1⟩; obtain ⟨hc1, hf1⟩ := bcell hb1; have hs1 := hb1.size; have HB1 := hid' (below_on (below2 _ _ _) hb1 (by simp; omega))))
    go_ret
    exact ⟨by simp, HB1.out⟩
  · go_enter Try.func54, Try.ntmps54
    go_wp2_with (first
      | (go_at_call 52; refine (HP.out _ HB1.out).mono ?_; rintro e2 w2 ⟨rfl, hb2⟩)
      | (go_at_call 52; refine (HA.out _ (below2 _ _ _)).mono ?_; rintro e1 w1 ⟨rfl, hb1⟩; obtain ⟨hc1, hf1⟩ := bcell hb1; have hs1 := hb1.size; have HB1 := hid' (below_on (below2 _ _ _) hb1 (by simp; omega))))
    go_ret
    exact ⟨by simp, below_up HB1.out hb2⟩
end Go.Proofs.Ythnbnilammjceaa
