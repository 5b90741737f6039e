/- Alike: functions, the document's. -/
import Derived.Test.YthnbnilammjceaaSam3
import Derived.Test.YthnbnilammjceaaFree2
namespace Go.Proofs.Ythnbnilammjceaa
open Go.RowKit Go.Maps
set_option linter.unusedVariables false
set_option linter.unusedSimpArgs false

theorem boxff {w W : World} {v0 v1 v2 v3 v4 u0 u1 u2 u3 u4 : Value} {T U : TypeId} (hb : Below ((w.alloc (.cells #[v0, v1, v2, v3, v4] T)).alloc (.cells #[u0, u1, u2, u3, u4] U)).heap.size ((w.alloc (.cells #[v0, v1, v2, v3, v4] T)).alloc (.cells #[u0, u1, u2, u3, u4] U)) W) :
    w.heap.size + 1 < W.heap.size ∧ Below w.heap.size w W ∧ W.cell? ⟨w.heap.size, 4, none⟩ = some v4 ∧ W.cell? ⟨w.heap.size + 1, 4, none⟩ = some u4 := by
  refine ⟨by have := hb.size; simp at this; omega, (below2 _ _ _).trans (hb.mono (by simp; omega)), ?_, ?_⟩ <;> (rw [hb.cell (by simp <;> omega)]; simp [go_sem])
theorem boxbb {w W : World} {v0 v1 v2 v3 u0 u1 u2 u3 : Value} {T U : TypeId} (hb : Below ((w.alloc (.cells #[v0, v1, v2, v3] T)).alloc (.cells #[u0, u1, u2, u3] U)).heap.size ((w.alloc (.cells #[v0, v1, v2, v3] T)).alloc (.cells #[u0, u1, u2, u3] U)) W) :
    w.heap.size + 1 < W.heap.size ∧ Below w.heap.size w W ∧ W.cell? ⟨w.heap.size, 0, none⟩ = some v0 ∧ W.cell? ⟨w.heap.size + 1, 0, none⟩ = some u0 := by
  refine ⟨by have := hb.size; simp at this; omega, (below2 _ _ _).trans (hb.mono (by simp; omega)), ?_, ?_⟩ <;> (rw [hb.cell (by simp <;> omega)]; simp [go_sem])

/-- What x, y := .. leaves, step by step: nothing, one box, two, the first box filled (or the second, if that is x's). -/
def same6 (wr : World) (cs : Array Value) : Nat → World
  | 0 => wr.drew
  | 1 => wr.drew.alloc (.cells #[.slice none 0 0, .int .i64 0, .int .i64 0, .slice none 0 0] 54)
  | 2 => (wr.drew.alloc (.cells #[.slice none 0 0, .int .i64 0, .int .i64 0, .slice none 0 0] 54)).alloc (.cells #[.slice none 0 0, .int .i64 0, .int .i64 0, .slice none 0 0] 54)
  | 3 => (((((wr.drew.alloc (.cells #[.slice none 0 0, .int .i64 0, .int .i64 0, .slice none 0 0] 54)).alloc (.cells #[.slice none 0 0, .int .i64 0, .int .i64 0, .slice none 0 0] 54)).setCell ⟨wr.heap.size, 0, none⟩ (cs.getD 0 undef)).setCell ⟨wr.heap.size, 1, none⟩ (cs.getD 1 undef)).setCell ⟨wr.heap.size, 2, none⟩ (cs.getD 2 undef)).setCell ⟨wr.heap.size, 3, none⟩ (cs.getD 3 undef)
  | _ => (((((wr.drew.alloc (.cells #[.slice none 0 0, .int .i64 0, .int .i64 0, .slice none 0 0] 54)).alloc (.cells #[.slice none 0 0, .int .i64 0, .int .i64 0, .slice none 0 0] 54)).setCell ⟨wr.heap.size + 1, 0, none⟩ (cs.getD 0 undef)).setCell ⟨wr.heap.size + 1, 1, none⟩ (cs.getD 1 undef)).setCell ⟨wr.heap.size + 1, 2, none⟩ (cs.getD 2 undef)).setCell ⟨wr.heap.size + 1, 3, none⟩ (cs.getD 3 undef)
theorem same6_below (wr : World) (cs : Array Value) (s : Nat) : Below wr.heap.size wr (same6 wr cs s) := by
  have hd : Below wr.heap.size wr wr.drew := ⟨rfl, rfl, rfl, Nat.le_refl _, fun _ _ => rfl⟩
  have h2 := (hd.alloc hd.size (.cells #[.slice none 0 0, .int .i64 0, .int .i64 0, .slice none 0 0] 54)).alloc (hd.alloc hd.size _).size (.cells #[.slice none 0 0, .int .i64 0, .int .i64 0, .slice none 0 0] 54)
  have set : ∀ {b o : Nat} {v : Value} {w : World}, Below wr.heap.size wr w → wr.heap.size ≤ b → Below wr.heap.size wr (w.setCell ⟨b, o, none⟩ v) := fun {b o v w} h hb => h.trans (((Kept.rfl (fun k => k = b) w).set (.inl rfl) v).below h.size (fun k e => by omega))
  match s with
  | 0 => exact hd
  | 1 => exact hd.alloc hd.size _
  | 2 => exact h2
  | 3 => exact set (set (set (set h2 (by omega)) (by omega)) (by omega)) (by omega)
  | _ + 4 => exact set (set (set (set h2 (by omega)) (by omega)) (by omega)) (by omega)
theorem same6_3 (wr : World) (c0 c1 c2 c3 : Value) : (same6 wr #[c0, c1, c2, c3] 3).heap.size = wr.heap.size + 2 ∧ Below wr.heap.size wr (same6 wr #[c0, c1, c2, c3] 3) ∧
    (same6 wr #[c0, c1, c2, c3] 3).cell? ⟨wr.heap.size, 0, none⟩ = some c0 ∧ (same6 wr #[c0, c1, c2, c3] 3).cell? ⟨wr.heap.size, 1, none⟩ = some c1 ∧ (same6 wr #[c0, c1, c2, c3] 3).cell? ⟨wr.heap.size, 2, none⟩ = some c2 ∧ (same6 wr #[c0, c1, c2, c3] 3).cell? ⟨wr.heap.size, 3, none⟩ = some c3 ∧
    (same6 wr #[c0, c1, c2, c3] 3).cell? ⟨wr.heap.size + 1, 0, none⟩ = some (.slice none 0 0) ∧ (same6 wr #[c0, c1, c2, c3] 3).cell? ⟨wr.heap.size + 1, 1, none⟩ = some (.int .i64 0) ∧ (same6 wr #[c0, c1, c2, c3] 3).cell? ⟨wr.heap.size + 1, 2, none⟩ = some (.int .i64 0) ∧ (same6 wr #[c0, c1, c2, c3] 3).cell? ⟨wr.heap.size + 1, 3, none⟩ = some (.slice none 0 0) ∧
    ∀ j, (same6 wr #[c0, c1, c2, c3] 3).frozen? ⟨wr.heap.size + 1, j, none⟩ = false := by
  refine ⟨by simp [same6, World.setCell], same6_below _ _ _, ?_, ?_, ?_, ?_, ?_, ?_, ?_, ?_, fun j => ?_⟩ <;> simp [same6, go_sem]
theorem same6_4 (wr : World) (c0 c1 c2 c3 : Value) : (same6 wr #[c0, c1, c2, c3] 4).heap.size = wr.heap.size + 2 ∧ Below wr.heap.size wr (same6 wr #[c0, c1, c2, c3] 4) ∧
    (same6 wr #[c0, c1, c2, c3] 4).cell? ⟨wr.heap.size + 1, 0, none⟩ = some c0 ∧ (same6 wr #[c0, c1, c2, c3] 4).cell? ⟨wr.heap.size + 1, 1, none⟩ = some c1 ∧ (same6 wr #[c0, c1, c2, c3] 4).cell? ⟨wr.heap.size + 1, 2, none⟩ = some c2 ∧ (same6 wr #[c0, c1, c2, c3] 4).cell? ⟨wr.heap.size + 1, 3, none⟩ = some c3 ∧
    (same6 wr #[c0, c1, c2, c3] 4).cell? ⟨wr.heap.size, 0, none⟩ = some (.slice none 0 0) ∧ (same6 wr #[c0, c1, c2, c3] 4).cell? ⟨wr.heap.size, 1, none⟩ = some (.int .i64 0) ∧ (same6 wr #[c0, c1, c2, c3] 4).cell? ⟨wr.heap.size, 2, none⟩ = some (.int .i64 0) ∧ (same6 wr #[c0, c1, c2, c3] 4).cell? ⟨wr.heap.size, 3, none⟩ = some (.slice none 0 0) ∧
    ∀ j, (same6 wr #[c0, c1, c2, c3] 4).frozen? ⟨wr.heap.size, j, none⟩ = false := by
  refine ⟨by simp [same6, World.setCell], same6_below _ _ _, ?_, ?_, ?_, ?_, ?_, ?_, ?_, ?_, fun j => ?_⟩ <;> simp [same6, go_sem]
theorem bset4 {wr V : World} {b : Nat} {v0 v1 v2 v3 : Value} (h : Below wr.heap.size wr V) (hb : wr.heap.size ≤ b) : Below wr.heap.size wr ((((V.setCell ⟨b, 0, none⟩ v0).setCell ⟨b, 1, none⟩ v1).setCell ⟨b, 2, none⟩ v2).setCell ⟨b, 3, none⟩ v3) :=
  h.trans ((((((Kept.rfl (fun k => k = b) V).set (.inl rfl) v0).set (.inl rfl) v1).set (.inl rfl) v2).set (.inl rfl) v3).below h.size (fun k e => by omega))

set_option maxRecDepth 40000 in
set_option maxHeartbeats 20000000 in
theorem same20 {w : World} {x y : Fn} (hx : Fn.ok w x) (hy : Fn.ok w y) : Calls Try.prog 20 #[x.val, y.val] w fun e w' => e = .returned (.bool (eqF x y)) ∧ Below w.heap.size w w' := by
  generalize hR : eqF x y = R
  have HR : Hid (R = (decide (x.nm = y.nm) && (decide (x.params = y.params) && (decide (x.regs = y.regs) && (decide (x.slots = y.slots) && all2 eqB x.blocks y.blocks))))) := hR.symm
  clear hR
  have HBX := hid' hx.bls
  have HBY := hid' hy.bls
  obtain ⟨nm, ps, rs, sl, bv, bl⟩ := x
  obtain ⟨nm', ps', rs', sl', bv', bl'⟩ := y
  obtain ⟨ax, ac, e1, hfx⟩ := hx.b.form bl4
  obtain ⟨ay, ad, e3, hfy⟩ := hy.b.form bl4
  have hlx := hx.bl
  have hly := hy.bl
  dsimp only at *
  subst e1 e3
  have HFX := hid' hfx
  have HFY := hid' hfy
  unfold big at hlx hly
  clear hx hy hfx hfy
  unfold Fn.val
  dsimp only
  by_cases g0 : ¬ nm = nm'
  · have HF0 : Hid (R = false) := by unfold Hid; rw [HR.out, decide_eq_false g0]; rfl
    have dg0 := toList_ne g0
    clear HR
    go_enter Try.func20, Try.ntmps20
    go_wp2
    go_ret
    exact ⟨by rw [HF0.out]; rfl, below2 _ _ _⟩
  replace g0 := Classical.not_not.1 g0
  subst g0
  by_cases g1 : ¬ ps = ps'
  · have HF0 : Hid (R = false) := by unfold Hid; rw [HR.out, decide_eq_false g1]; simp
    have dg : (ps == ps') = false := by simp [g1]
    clear HR
    go_enter Try.func20, Try.ntmps20
    go_wp2
    go_ret
    exact ⟨by rw [HF0.out]; rfl, below2 _ _ _⟩
  replace g1 := Classical.not_not.1 g1
  subst g1
  by_cases g2 : ¬ rs = rs'
  · have HF0 : Hid (R = false) := by unfold Hid; rw [HR.out, decide_eq_false g2]; simp
    have dg : (rs == rs') = false := by simp [g2]
    clear HR
    go_enter Try.func20, Try.ntmps20
    go_wp2
    go_ret
    exact ⟨by rw [HF0.out]; rfl, below2 _ _ _⟩
  replace g2 := Classical.not_not.1 g2
  subst g2
  by_cases g3 : ¬ sl = sl'
  · have HF0 : Hid (R = false) := by unfold Hid; rw [HR.out, decide_eq_false g3]; simp
    have dg : (sl == sl') = false := by simp [g3]
    clear HR
    go_enter Try.func20, Try.ntmps20
    go_wp2
    go_ret
    exact ⟨by rw [HF0.out]; rfl, below2 _ _ _⟩
  replace g3 := Classical.not_not.1 g3
  subst g3
  by_cases hl : ¬ bl.length = bl'.length
  · have HF0 : Hid (R = false) := by unfold Hid; rw [HR.out, all2_len hl]; simp
    have dg : ((bl.length : Int) == (bl'.length : Nat)) = false := beq_eq_false_iff_ne.2 (by omega)
    clear HR
    go_enter Try.func20, Try.ntmps20
    go_wp2
    go_ret
    exact ⟨by rw [HF0.out]; rfl, below2 _ _ _⟩
  replace hl := Classical.not_not.1 hl
  have HL := hid' hl
  have HRA : Hid (R = all2 eqB bl bl') := by unfold Hid; rw [HR.out]; simp
  have NO : Hid (∀ k (h1 : k < bl.length) (h2 : k < bl'.length), eqB bl[k] bl'[k] = false → R = false) := fun k h1 h2 h => by rw [HRA.out]; exact all2_no k h1 h2 h
  have YES : Hid ((∀ k (h1 : k < bl.length) (h2 : k < bl'.length), eqB bl[k] bl'[k] = true) → R = true) := fun h => by rw [HRA.out]; exact all2_yes HL.out h
  rw [← hl]
  clear HR HRA hl
  go_enter Try.func20, Try.ntmps20
  go_wp2
  go_loopw [5] (fun i wr => ∃ k : Nat, k ≤ bl.length ∧ i = .int .i64 k ∧ (∀ j (h1 : j < bl.length) (h2 : j < bl'.length), j < k → eqB bl[j] bl'[j] = true) ∧ Below ((w.alloc (.cells #[.string nm, .int .i64 ps, .int .i64 rs, .int .i64 sl, .slice ax bl.length ac] 33)).alloc (.cells #[.string nm, .int .i64 ps, .int .i64 rs, .int .i64 sl, .slice ay bl.length ad] 33)).heap.size ((w.alloc (.cells #[.string nm, .int .i64 ps, .int .i64 rs, .int .i64 sl, .slice ax bl.length ac] 33)).alloc (.cells #[.string nm, .int .i64 ps, .int .i64 rs, .int .i64 sl, .slice ay bl.length ad] 33)) wr) (fun i _ => bl.length - (intOf i).toNat)
  case atStart => exact ⟨0, Nat.zero_le _, rfl, fun j _ _ hj => by omega, Below.refl _ _⟩
  case round =>
    obtain ⟨k, hk, rfl, hok, hbw⟩ := hrel
    have HK := hid' hok
    have HB := hid' hbw
    obtain ⟨hsz, hB0, f4, g4⟩ := boxff hbw
    have HB0 := hid' hB0
    clear hok hbw hB0
    by_cases hlt : k < bl.length
    · have hlt2 : k < bl'.length := by rw [← HL.out]; exact hlt
      obtain ⟨b1, o1, rfl, hb1, hc1, hx1⟩ := HFX.out k hlt
      obtain ⟨b2, o2, rfl, hb2, hc2, hx2⟩ := HFY.out k hlt2
      rw [← HL.out] at hc2
      have y4 : ∀ t : After wr, t.1.cell? ⟨w.heap.size, 4, none⟩ = some (.slice (some ⟨b1, o1, none⟩) bl.length ac) := fun t => keep_cell f4 t.2
      have z4 : ∀ t : After wr, t.1.cell? ⟨w.heap.size + 1, 4, none⟩ = some (.slice (some ⟨b2, o2, none⟩) bl.length ad) := fun t => keep_cell g4 t.2
      have hfx := fun t : After wr => bl_cells (hx1 t.1 (below_up HB0.out t.2))
      have hfy := fun t : After wr => bl_cells (hx2 t.1 (below_up HB0.out t.2))
      have hk1 := HBX.out _ (List.getElem_mem hlt)
      have hk2 := HBY.out _ (List.getElem_mem hlt2)
      obtain ⟨cx, cxc, ea, hcx⟩ := hk1.c.form in7
      obtain ⟨tx, txc, eb⟩ := hk1.t.len
      obtain ⟨cy, cyc, ec, hcy⟩ := hk2.c.form in7
      obtain ⟨ty, tyc, ed⟩ := hk2.t.len
      have c0 : ∀ t : After wr, t.1.cell? ⟨b1, o1 + k * 4, none⟩ = some (.slice cx bl[k].code.length cxc) := fun t => by rw [← ea]; exact (hfx t).1
      have c1 : ∀ t : After wr, t.1.cell? ⟨b1, o1 + k * 4 + 1, none⟩ = some (.int .i64 bl[k].en) := fun t => (hfx t).2.1
      have c2 : ∀ t : After wr, t.1.cell? ⟨b1, o1 + k * 4 + 2, none⟩ = some (.int .i64 bl[k].arg) := fun t => (hfx t).2.2.1
      have c3 : ∀ t : After wr, t.1.cell? ⟨b1, o1 + k * 4 + 3, none⟩ = some (.slice tx bl[k].to.length txc) := fun t => by rw [← eb]; exact (hfx t).2.2.2
      have d0 : ∀ t : After wr, t.1.cell? ⟨b2, o2 + k * 4, none⟩ = some (.slice cy bl'[k].code.length cyc) := fun t => by rw [← ec]; exact (hfy t).1
      have d1 : ∀ t : After wr, t.1.cell? ⟨b2, o2 + k * 4 + 1, none⟩ = some (.int .i64 bl'[k].en) := fun t => (hfy t).2.1
      have d2 : ∀ t : After wr, t.1.cell? ⟨b2, o2 + k * 4 + 2, none⟩ = some (.int .i64 bl'[k].arg) := fun t => (hfy t).2.2.1
      have d3 : ∀ t : After wr, t.1.cell? ⟨b2, o2 + k * 4 + 3, none⟩ = some (.slice ty bl'[k].to.length tyc) := fun t => by rw [← ed]; exact (hfy t).2.2.2
      have hne := after_some wr
      have HT1 : Hid (Src icell w (.slice tx bl[k].to.length txc) bl[k].to) := by unfold Hid; rw [← eb]; exact hk1.t
      have HT2 : Hid (Src icell w (.slice ty bl'[k].to.length tyc) bl'[k].to) := by unfold Hid; rw [← ed]; exact hk2.t
      have HTL1 := hid' hk1.tl
      have HTL2 := hid' hk2.tl
      have HC1 : Hid (Src In.cells w (.slice cx bl[k].code.length cxc) bl[k].code) := by unfold Hid; rw [← ea]; exact hk1.c
      have HC2 : Hid (Src In.cells w (.slice cy bl'[k].code.length cyc) bl'[k].code) := by unfold Hid; rw [← ec]; exact hk2.c
      have HCI1 := hid' hk1.ins
      have HCI2 := hid' hk2.ins
      have hcl1 := hk1.cl
      have hcl2 := hk2.cl
      unfold big at hcl1 hcl2
      have HCX := hid' hcx
      have HCY := hid' hcy
      clear hk1 hk2 ea eb ec ed hx1 hx2 hfx hfy hcx hcy
      go_wp2_with fail
      refine region_mix (same6 wr #[.slice cx bl[k].code.length cxc, .int .i64 bl[k].en, .int .i64 bl[k].arg, .slice tx bl[k].to.length txc]) 10 3 mixed (by kernel_rfl) rfl (same6_below wr _) ?_
      simp only [List.take_succ_cons, List.take_zero, List.drop_succ_cons, List.drop_zero]
      repeat (
        refine wpFree_step (fun K hK => ?_)
        go_simp
        first
          | (refine hK _ ?_; clear hK K)
          | (apply Exists.intro
             refine ⟨fun _ => ?_, hK _ ?_⟩
             (with_reducible rfl)
             clear hK K))
      refine wpFree_nil ?_
      refine headX_two (same6 wr _) (p0 := .pointer (some ⟨wr.heap.size, 0, none⟩)) (p1 := .pointer (some ⟨wr.heap.size + 1, 0, none⟩)) rfl rfl rfl (by omega) (by kernel_rfl) (by kernel_rfl) (by kernel_rfl) (by kernel_rfl) ?_ ?_ ?_ ?_ ?_ ?_
      · intro a
        exact ⟨by simp [go_sem], by simp [go_sem, same6], by simp [go_sem, same6]⟩
      · intro a
        exact ⟨by simp [go_sem], by simp [go_sem, same6], by simp [go_sem, same6]⟩
      · exact ⟨by simp [go_sem], by simp [go_sem, same6]⟩
      · exact ⟨by simp [go_sem], by simp [go_sem, same6]⟩
      · refine ⟨by kernel_rfl, ?_⟩
        obtain ⟨hsV, hbV, x0, x1, x2, x3, p0, p1, p2, p3, pf⟩ := same6_3 wr (.slice cx bl[k].code.length cxc) (.int .i64 bl[k].en) (.int .i64 bl[k].arg) (.slice tx bl[k].to.length txc)
        generalize same6 wr _ 3 = V at *
        have HB4 : Hid (Below wr.heap.size wr ((((V.setCell ⟨wr.heap.size + 1, 0, none⟩ (.slice cy bl'[k].code.length cyc)).setCell ⟨wr.heap.size + 1, 1, none⟩ (.int .i64 bl'[k].en)).setCell ⟨wr.heap.size + 1, 2, none⟩ (.int .i64 bl'[k].arg)).setCell ⟨wr.heap.size + 1, 3, none⟩ (.slice ty bl'[k].to.length tyc))) := bset4 hbV (by omega)
        have HS4 : Hid (((((V.setCell ⟨wr.heap.size + 1, 0, none⟩ (.slice cy bl'[k].code.length cyc)).setCell ⟨wr.heap.size + 1, 1, none⟩ (.int .i64 bl'[k].en)).setCell ⟨wr.heap.size + 1, 2, none⟩ (.int .i64 bl'[k].arg)).setCell ⟨wr.heap.size + 1, 3, none⟩ (.slice ty bl'[k].to.length tyc)).heap.size = wr.heap.size + 2) := by unfold Hid; simp [World.setCell, hsV]
        clear c0 c1 c2 c3 d0 d1 d2 d3 y4 z4 hbV
        by_cases g1 : ¬ bl[k].en = bl'[k].en
        · have HF0 : Hid (R = false) := NO.out k hlt hlt2 (by unfold eqB; rw [decide_eq_false g1]; rfl)
          have dg : (bl[k].en == bl'[k].en) = false := by simp [g1]
          go_wp2_with fail
          go_ret
          exact ⟨by rw [HF0.out]; rfl, below_up HB0.out HB4.out⟩
        replace g1 := Classical.not_not.1 g1
        by_cases g2 : ¬ bl[k].arg = bl'[k].arg
        · have HF0 : Hid (R = false) := NO.out k hlt hlt2 (by unfold eqB; rw [decide_eq_false g2]; simp)
          have dg : (bl[k].arg == bl'[k].arg) = false := by simp [g2]
          rw [g1] at x1
          go_wp2_with fail
          go_ret
          exact ⟨by rw [HF0.out]; rfl, below_up HB0.out HB4.out⟩
        replace g2 := Classical.not_not.1 g2
        have H18 : Hid (∀ W, Below w.heap.size w W → Calls Try.prog 18 #[.slice tx bl[k].to.length txc, .slice ty bl'[k].to.length tyc] W fun e w' => e = .returned (.bool (eqL bl[k].to bl'[k].to)) ∧ Below W.heap.size W w') := fun W hW => sameInts18 (HT1.out.on hW) (HT2.out.on hW) HTL1.out HTL2.out
        have HEQ : Hid (eqB bl[k] bl'[k] = (eqL bl[k].to bl'[k].to && all2 eqI bl[k].code bl'[k].code)) := by unfold Hid eqB; rw [g1, g2]; simp
        rw [g1] at x1
        rw [g2] at x2
        have XB : Hid (∀ w5, Below ((((V.setCell ⟨wr.heap.size + 1, 0, none⟩ (.slice cy bl'[k].code.length cyc)).setCell ⟨wr.heap.size + 1, 1, none⟩ (.int .i64 bl'[k].en)).setCell ⟨wr.heap.size + 1, 2, none⟩ (.int .i64 bl'[k].arg)).setCell ⟨wr.heap.size + 1, 3, none⟩ (.slice ty bl'[k].to.length tyc)).heap.size ((((V.setCell ⟨wr.heap.size + 1, 0, none⟩ (.slice cy bl'[k].code.length cyc)).setCell ⟨wr.heap.size + 1, 1, none⟩ (.int .i64 bl'[k].en)).setCell ⟨wr.heap.size + 1, 2, none⟩ (.int .i64 bl'[k].arg)).setCell ⟨wr.heap.size + 1, 3, none⟩ (.slice ty bl'[k].to.length tyc)) w5 → w5.cell? ⟨wr.heap.size, 0, none⟩ = some (.slice cx bl[k].code.length cxc) ∧ w5.cell? ⟨wr.heap.size + 1, 0, none⟩ = some (.slice cy bl'[k].code.length cyc)) := fun w5 h5 => by
          constructor
          · rw [h5.cell (by rw [HS4.out]; simp)]; simp [go_sem, x0]
          · rw [h5.cell (by rw [HS4.out]; simp)]; simp [go_sem, p0, p1, p2, p3]
        generalize hq : eqL bl[k].to bl'[k].to = q at *
        clear hq
        cases q
        · have HF0 : Hid (R = false) := NO.out k hlt hlt2 (by rw [HEQ.out]; rfl)
          go_wp2_with (go_at_call 18; refine (H18.out _ (below_up HB0.out HB4.out)).mono ?_; rintro e5 w5 ⟨rfl, hb5⟩)
          go_ret
          exact ⟨by rw [HF0.out]; rfl, below_up (below_up HB0.out HB4.out) hb5⟩
        by_cases hcl : ¬ bl[k].code.length = bl'[k].code.length
        · have HF0 : Hid (R = false) := NO.out k hlt hlt2 (by rw [HEQ.out, all2_len hcl]; rfl)
          have dg : ((bl[k].code.length : Int) == (bl'[k].code.length : Nat)) = false := beq_eq_false_iff_ne.2 (by omega)
          go_wp2_with (go_at_call 18; refine (H18.out _ (below_up HB0.out HB4.out)).mono ?_; rintro e5 w5 ⟨rfl, hb5⟩; obtain ⟨u0, v0⟩ := XB.out w5 hb5)
          go_ret
          exact ⟨by rw [HF0.out]; rfl, below_up (below_up HB0.out HB4.out) hb5⟩
        replace hcl := Classical.not_not.1 hcl
        have HCL := hid' hcl
        have NO2 : Hid (∀ j (h1 : j < bl[k].code.length) (h2 : j < bl'[k].code.length), eqI bl[k].code[j] bl'[k].code[j] = false → R = false) := fun j h1 h2 h => NO.out k hlt hlt2 (by rw [HEQ.out, all2_no j h1 h2 h]; rfl)
        have YES2 : Hid ((∀ j (h1 : j < bl[k].code.length) (h2 : j < bl'[k].code.length), eqI bl[k].code[j] bl'[k].code[j] = true) → ∀ j (h1 : j < bl.length) (h2 : j < bl'.length), j < k + 1 → eqB bl[j] bl'[j] = true) := fun h j h1 h2 hj => by
          by_cases e : j = k
          · subst e; rw [HEQ.out, all2_yes HCL.out h]; rfl
          · exact HK.out j h1 h2 (by omega)
        have dg : ((bl[k].code.length : Int) == (bl'[k].code.length : Nat)) = true := beq_iff_eq.2 (by omega)
        clear HK HEQ
        generalize bl[k].code = code at *
        generalize bl'[k].code = code' at *
        go_wp2_with (go_at_call 18; refine (H18.out _ (below_up HB0.out HB4.out)).mono ?_; rintro e5 w5 ⟨rfl, hb5⟩; obtain ⟨u0, v0⟩ := XB.out w5 hb5)
        have HB5 : Hid (Below w.heap.size w w5) := below_up (below_up HB0.out HB4.out) hb5
        have HW5 := hid' (below_up HB4.out hb5)
        clear dg p0 p1 p2 p3 pf x0 x1 x2 x3 XB H18 hb5 hsV HS4
        go_loopw [8] (fun i wr' => ∃ q : Nat, q ≤ code.length ∧ i = .int .i64 q ∧ (∀ j (h1 : j < code.length) (h2 : j < code'.length), j < q → eqI code[j] code'[j] = true) ∧ Below w5.heap.size w5 wr') (fun i _ => code.length - (intOf i).toNat)
        case atStart => exact ⟨0, Nat.zero_le _, rfl, fun j _ _ hj => by omega, Below.refl _ _⟩
        case round =>
          obtain ⟨q, hq, rfl, hok, hb6⟩ := hrel
          have HOK := hid' hok
          have HB6 := hid' hb6
          have HB7 := hid' (below_up HB5.out hb6)
          have u1 := keep_cell u0 hb6
          have v1 := keep_cell v0 hb6
          clear hok hb6 u0 v0
          by_cases hqt : q < code.length
          · have hqt2 : q < code'.length := by rw [← HCL.out]; exact hqt
            obtain ⟨b3, o3, rfl, hb3, hc3, hx3⟩ := HCX.out q hqt
            obtain ⟨b4, o4, rfl, hb4, hc4, hx4⟩ := HCY.out q hqt2
            have hi1 := HCI1.out _ (List.getElem_mem hqt)
            have hi2 := HCI2.out _ (List.getElem_mem hqt2)
            obtain ⟨au, ac1, ea⟩ := hi1.a.len
            obtain ⟨pu, pc1, eb⟩ := hi1.p.len
            obtain ⟨av, ac2, ec⟩ := hi2.a.len
            obtain ⟨pv, pc2, ed⟩ := hi2.p.len
            have K38 : ∀ t : After wr, Calls Try.prog 38 #[code[q].val, code'[q].val] t.1 fun e w' => e = .returned (.bool (eqI code[q] code'[q])) ∧ ∃ t' : After wr, w' = t'.1 := fun t => Calls.after t (sameInstr38 (hi1.on (below_up HB7.out t.2)) (hi2.on (below_up HB7.out t.2)))
            unfold In.val at K38
            rw [ea, eb, ec, ed] at K38
            have i0 : ∀ t : After wr, t.1.cell? ⟨b3, o3 + q * 7, none⟩ = some (.int .i64 code[q].op) := fun t => (in_cells (hx3 t.1 (below_up HB7.out t.2))).1
            have i1 : ∀ t : After wr, t.1.cell? ⟨b3, o3 + q * 7 + 1, none⟩ = some (.int .i64 code[q].dst) := fun t => (in_cells (hx3 t.1 (below_up HB7.out t.2))).2.1
            have i2 : ∀ t : After wr, t.1.cell? ⟨b3, o3 + q * 7 + 2, none⟩ = some (.slice au code[q].args.length ac1) := fun t => by rw [← ea]; exact (in_cells (hx3 t.1 (below_up HB7.out t.2))).2.2.1
            have i3 : ∀ t : After wr, t.1.cell? ⟨b3, o3 + q * 7 + 3, none⟩ = some (.int .i32 code[q].imm) := fun t => (in_cells (hx3 t.1 (below_up HB7.out t.2))).2.2.2.1
            have i4 : ∀ t : After wr, t.1.cell? ⟨b3, o3 + q * 7 + 4, none⟩ = some (.int .i64 code[q].alu) := fun t => (in_cells (hx3 t.1 (below_up HB7.out t.2))).2.2.2.2.1
            have i5 : ∀ t : After wr, t.1.cell? ⟨b3, o3 + q * 7 + 5, none⟩ = some (.int .i64 code[q].wide) := fun t => (in_cells (hx3 t.1 (below_up HB7.out t.2))).2.2.2.2.2.1
            have i6 : ∀ t : After wr, t.1.cell? ⟨b3, o3 + q * 7 + 6, none⟩ = some (.slice pu code[q].pred.length pc1) := fun t => by rw [← eb]; exact (in_cells (hx3 t.1 (below_up HB7.out t.2))).2.2.2.2.2.2
            have j0 : ∀ t : After wr, t.1.cell? ⟨b4, o4 + q * 7, none⟩ = some (.int .i64 code'[q].op) := fun t => (in_cells (hx4 t.1 (below_up HB7.out t.2))).1
            have j1 : ∀ t : After wr, t.1.cell? ⟨b4, o4 + q * 7 + 1, none⟩ = some (.int .i64 code'[q].dst) := fun t => (in_cells (hx4 t.1 (below_up HB7.out t.2))).2.1
            have j2 : ∀ t : After wr, t.1.cell? ⟨b4, o4 + q * 7 + 2, none⟩ = some (.slice av code'[q].args.length ac2) := fun t => by rw [← ec]; exact (in_cells (hx4 t.1 (below_up HB7.out t.2))).2.2.1
            have j3 : ∀ t : After wr, t.1.cell? ⟨b4, o4 + q * 7 + 3, none⟩ = some (.int .i32 code'[q].imm) := fun t => (in_cells (hx4 t.1 (below_up HB7.out t.2))).2.2.2.1
            have j4 : ∀ t : After wr, t.1.cell? ⟨b4, o4 + q * 7 + 4, none⟩ = some (.int .i64 code'[q].alu) := fun t => (in_cells (hx4 t.1 (below_up HB7.out t.2))).2.2.2.2.1
            have j5 : ∀ t : After wr, t.1.cell? ⟨b4, o4 + q * 7 + 5, none⟩ = some (.int .i64 code'[q].wide) := fun t => (in_cells (hx4 t.1 (below_up HB7.out t.2))).2.2.2.2.2.1
            have j6 : ∀ t : After wr, t.1.cell? ⟨b4, o4 + q * 7 + 6, none⟩ = some (.slice pv code'[q].pred.length pc2) := fun t => by rw [← ed]; exact (in_cells (hx4 t.1 (below_up HB7.out t.2))).2.2.2.2.2.2
            have m0 := fun t : After wr => keep_cell u1 t.2
            have m1 := fun t : After wr => keep_cell v1 t.2
            have HNO := hid' (NO2.out q hqt hqt2)
            have HN : Hid (eqI code[q] code'[q] = true → ∀ j (h1 : j < code.length) (h2 : j < code'.length), j < q + 1 → eqI code[j] code'[j] = true) := fun he j h1 h2 hj => by
              by_cases e : j = q
              · subst e; exact he
              · exact HOK.out j h1 h2 (by omega)
            have hne := after_some wr
            clear hi1 hi2 ea eb ec ed hx3 hx4
            generalize eqI code[q] code'[q] = r at *
            generalize code[q] = x at *
            generalize code'[q] = y at *
            go_wp2_with fail
            refine region_after 11 mixed (by kernel_rfl) ?_
            simp only [List.take_succ_cons, List.take_zero, List.drop_succ_cons, List.drop_zero]
            repeat (first | go_big_quiet_step (with_reducible exact K38 _) | quiet_step (with_reducible exact K38 _))
            refine wpQuiet_nil ?_
            intro w6 hb8
            have HB8 := hid' hb8
            clear K38 i0 i1 i2 i3 i4 i5 i6 j0 j1 j2 j3 j4 j5 j6 m0 m1 hb8
            cases r
            · go_wp2_with fail
              go_ret
              exact ⟨by rw [HNO.out (by trivial)]; rfl, below_up HB7.out HB8.out⟩
            · go_wp2_with fail
              go_roundw
              case rel => exact ⟨q + 1, by omega, by go_num, HN.out (by trivial), below_up HB6.out HB8.out⟩
              case measure => simp [intOf]; omega
          · have e : q = code.length := by omega
            subst e
            have HY := hid' (YES2.out (fun j h1 h2 => HOK.out j h1 h2 h1))
            go_wp2_with fail
            go_roundw
            case rel => exact ⟨k + 1, by omega, by go_num, HY.out, below_on HB.out (below_up HW5.out HB6.out) HB.out.size⟩
            case measure => simp [intOf]; omega
      · refine ⟨by kernel_rfl, ?_⟩
        obtain ⟨hsV, hbV, x0, x1, x2, x3, p0, p1, p2, p3, pf⟩ := same6_4 wr (.slice cx bl[k].code.length cxc) (.int .i64 bl[k].en) (.int .i64 bl[k].arg) (.slice tx bl[k].to.length txc)
        generalize same6 wr _ 4 = V at *
        have HB4 : Hid (Below wr.heap.size wr ((((V.setCell ⟨wr.heap.size, 0, none⟩ (.slice cy bl'[k].code.length cyc)).setCell ⟨wr.heap.size, 1, none⟩ (.int .i64 bl'[k].en)).setCell ⟨wr.heap.size, 2, none⟩ (.int .i64 bl'[k].arg)).setCell ⟨wr.heap.size, 3, none⟩ (.slice ty bl'[k].to.length tyc))) := bset4 hbV (by omega)
        have HS4 : Hid (((((V.setCell ⟨wr.heap.size, 0, none⟩ (.slice cy bl'[k].code.length cyc)).setCell ⟨wr.heap.size, 1, none⟩ (.int .i64 bl'[k].en)).setCell ⟨wr.heap.size, 2, none⟩ (.int .i64 bl'[k].arg)).setCell ⟨wr.heap.size, 3, none⟩ (.slice ty bl'[k].to.length tyc)).heap.size = wr.heap.size + 2) := by unfold Hid; simp [World.setCell, hsV]
        clear c0 c1 c2 c3 d0 d1 d2 d3 y4 z4 hbV
        by_cases g1 : ¬ bl[k].en = bl'[k].en
        · have HF0 : Hid (R = false) := NO.out k hlt hlt2 (by unfold eqB; rw [decide_eq_false g1]; rfl)
          have dg : (bl[k].en == bl'[k].en) = false := by simp [g1]
          go_wp2_with fail
          go_ret
          exact ⟨by rw [HF0.out]; rfl, below_up HB0.out HB4.out⟩
        replace g1 := Classical.not_not.1 g1
        by_cases g2 : ¬ bl[k].arg = bl'[k].arg
        · have HF0 : Hid (R = false) := NO.out k hlt hlt2 (by unfold eqB; rw [decide_eq_false g2]; simp)
          have dg : (bl[k].arg == bl'[k].arg) = false := by simp [g2]
          rw [g1] at x1
          go_wp2_with fail
          go_ret
          exact ⟨by rw [HF0.out]; rfl, below_up HB0.out HB4.out⟩
        replace g2 := Classical.not_not.1 g2
        have H18 : Hid (∀ W, Below w.heap.size w W → Calls Try.prog 18 #[.slice tx bl[k].to.length txc, .slice ty bl'[k].to.length tyc] W fun e w' => e = .returned (.bool (eqL bl[k].to bl'[k].to)) ∧ Below W.heap.size W w') := fun W hW => sameInts18 (HT1.out.on hW) (HT2.out.on hW) HTL1.out HTL2.out
        have HEQ : Hid (eqB bl[k] bl'[k] = (eqL bl[k].to bl'[k].to && all2 eqI bl[k].code bl'[k].code)) := by unfold Hid eqB; rw [g1, g2]; simp
        rw [g1] at x1
        rw [g2] at x2
        have XB : Hid (∀ w5, Below ((((V.setCell ⟨wr.heap.size, 0, none⟩ (.slice cy bl'[k].code.length cyc)).setCell ⟨wr.heap.size, 1, none⟩ (.int .i64 bl'[k].en)).setCell ⟨wr.heap.size, 2, none⟩ (.int .i64 bl'[k].arg)).setCell ⟨wr.heap.size, 3, none⟩ (.slice ty bl'[k].to.length tyc)).heap.size ((((V.setCell ⟨wr.heap.size, 0, none⟩ (.slice cy bl'[k].code.length cyc)).setCell ⟨wr.heap.size, 1, none⟩ (.int .i64 bl'[k].en)).setCell ⟨wr.heap.size, 2, none⟩ (.int .i64 bl'[k].arg)).setCell ⟨wr.heap.size, 3, none⟩ (.slice ty bl'[k].to.length tyc)) w5 → w5.cell? ⟨wr.heap.size + 1, 0, none⟩ = some (.slice cx bl[k].code.length cxc) ∧ w5.cell? ⟨wr.heap.size, 0, none⟩ = some (.slice cy bl'[k].code.length cyc)) := fun w5 h5 => by
          constructor
          · rw [h5.cell (by rw [HS4.out]; simp)]; simp [go_sem, x0]
          · rw [h5.cell (by rw [HS4.out]; simp)]; simp [go_sem, p0, p1, p2, p3]
        generalize hq : eqL bl[k].to bl'[k].to = q at *
        clear hq
        cases q
        · have HF0 : Hid (R = false) := NO.out k hlt hlt2 (by rw [HEQ.out]; rfl)
          go_wp2_with (go_at_call 18; refine (H18.out _ (below_up HB0.out HB4.out)).mono ?_; rintro e5 w5 ⟨rfl, hb5⟩)
          go_ret
          exact ⟨by rw [HF0.out]; rfl, below_up (below_up HB0.out HB4.out) hb5⟩
        by_cases hcl : ¬ bl[k].code.length = bl'[k].code.length
        · have HF0 : Hid (R = false) := NO.out k hlt hlt2 (by rw [HEQ.out, all2_len hcl]; rfl)
          have dg : ((bl[k].code.length : Int) == (bl'[k].code.length : Nat)) = false := beq_eq_false_iff_ne.2 (by omega)
          go_wp2_with (go_at_call 18; refine (H18.out _ (below_up HB0.out HB4.out)).mono ?_; rintro e5 w5 ⟨rfl, hb5⟩; obtain ⟨u0, v0⟩ := XB.out w5 hb5)
          go_ret
          exact ⟨by rw [HF0.out]; rfl, below_up (below_up HB0.out HB4.out) hb5⟩
        replace hcl := Classical.not_not.1 hcl
        have HCL := hid' hcl
        have NO2 : Hid (∀ j (h1 : j < bl[k].code.length) (h2 : j < bl'[k].code.length), eqI bl[k].code[j] bl'[k].code[j] = false → R = false) := fun j h1 h2 h => NO.out k hlt hlt2 (by rw [HEQ.out, all2_no j h1 h2 h]; rfl)
        have YES2 : Hid ((∀ j (h1 : j < bl[k].code.length) (h2 : j < bl'[k].code.length), eqI bl[k].code[j] bl'[k].code[j] = true) → ∀ j (h1 : j < bl.length) (h2 : j < bl'.length), j < k + 1 → eqB bl[j] bl'[j] = true) := fun h j h1 h2 hj => by
          by_cases e : j = k
          · subst e; rw [HEQ.out, all2_yes HCL.out h]; rfl
          · exact HK.out j h1 h2 (by omega)
        have dg : ((bl[k].code.length : Int) == (bl'[k].code.length : Nat)) = true := beq_iff_eq.2 (by omega)
        clear HK HEQ
        generalize bl[k].code = code at *
        generalize bl'[k].code = code' at *
        go_wp2_with (go_at_call 18; refine (H18.out _ (below_up HB0.out HB4.out)).mono ?_; rintro e5 w5 ⟨rfl, hb5⟩; obtain ⟨u0, v0⟩ := XB.out w5 hb5)
        have HB5 : Hid (Below w.heap.size w w5) := below_up (below_up HB0.out HB4.out) hb5
        have HW5 := hid' (below_up HB4.out hb5)
        clear dg p0 p1 p2 p3 pf x0 x1 x2 x3 XB H18 hb5 hsV HS4
        go_loopw [8] (fun i wr' => ∃ q : Nat, q ≤ code.length ∧ i = .int .i64 q ∧ (∀ j (h1 : j < code.length) (h2 : j < code'.length), j < q → eqI code[j] code'[j] = true) ∧ Below w5.heap.size w5 wr') (fun i _ => code.length - (intOf i).toNat)
        case atStart => exact ⟨0, Nat.zero_le _, rfl, fun j _ _ hj => by omega, Below.refl _ _⟩
        case round =>
          obtain ⟨q, hq, rfl, hok, hb6⟩ := hrel
          have HOK := hid' hok
          have HB6 := hid' hb6
          have HB7 := hid' (below_up HB5.out hb6)
          have u1 := keep_cell u0 hb6
          have v1 := keep_cell v0 hb6
          clear hok hb6 u0 v0
          by_cases hqt : q < code.length
          · have hqt2 : q < code'.length := by rw [← HCL.out]; exact hqt
            obtain ⟨b3, o3, rfl, hb3, hc3, hx3⟩ := HCX.out q hqt
            obtain ⟨b4, o4, rfl, hb4, hc4, hx4⟩ := HCY.out q hqt2
            have hi1 := HCI1.out _ (List.getElem_mem hqt)
            have hi2 := HCI2.out _ (List.getElem_mem hqt2)
            obtain ⟨au, ac1, ea⟩ := hi1.a.len
            obtain ⟨pu, pc1, eb⟩ := hi1.p.len
            obtain ⟨av, ac2, ec⟩ := hi2.a.len
            obtain ⟨pv, pc2, ed⟩ := hi2.p.len
            have K38 : ∀ t : After wr, Calls Try.prog 38 #[code[q].val, code'[q].val] t.1 fun e w' => e = .returned (.bool (eqI code[q] code'[q])) ∧ ∃ t' : After wr, w' = t'.1 := fun t => Calls.after t (sameInstr38 (hi1.on (below_up HB7.out t.2)) (hi2.on (below_up HB7.out t.2)))
            unfold In.val at K38
            rw [ea, eb, ec, ed] at K38
            have i0 : ∀ t : After wr, t.1.cell? ⟨b3, o3 + q * 7, none⟩ = some (.int .i64 code[q].op) := fun t => (in_cells (hx3 t.1 (below_up HB7.out t.2))).1
            have i1 : ∀ t : After wr, t.1.cell? ⟨b3, o3 + q * 7 + 1, none⟩ = some (.int .i64 code[q].dst) := fun t => (in_cells (hx3 t.1 (below_up HB7.out t.2))).2.1
            have i2 : ∀ t : After wr, t.1.cell? ⟨b3, o3 + q * 7 + 2, none⟩ = some (.slice au code[q].args.length ac1) := fun t => by rw [← ea]; exact (in_cells (hx3 t.1 (below_up HB7.out t.2))).2.2.1
            have i3 : ∀ t : After wr, t.1.cell? ⟨b3, o3 + q * 7 + 3, none⟩ = some (.int .i32 code[q].imm) := fun t => (in_cells (hx3 t.1 (below_up HB7.out t.2))).2.2.2.1
            have i4 : ∀ t : After wr, t.1.cell? ⟨b3, o3 + q * 7 + 4, none⟩ = some (.int .i64 code[q].alu) := fun t => (in_cells (hx3 t.1 (below_up HB7.out t.2))).2.2.2.2.1
            have i5 : ∀ t : After wr, t.1.cell? ⟨b3, o3 + q * 7 + 5, none⟩ = some (.int .i64 code[q].wide) := fun t => (in_cells (hx3 t.1 (below_up HB7.out t.2))).2.2.2.2.2.1
            have i6 : ∀ t : After wr, t.1.cell? ⟨b3, o3 + q * 7 + 6, none⟩ = some (.slice pu code[q].pred.length pc1) := fun t => by rw [← eb]; exact (in_cells (hx3 t.1 (below_up HB7.out t.2))).2.2.2.2.2.2
            have j0 : ∀ t : After wr, t.1.cell? ⟨b4, o4 + q * 7, none⟩ = some (.int .i64 code'[q].op) := fun t => (in_cells (hx4 t.1 (below_up HB7.out t.2))).1
            have j1 : ∀ t : After wr, t.1.cell? ⟨b4, o4 + q * 7 + 1, none⟩ = some (.int .i64 code'[q].dst) := fun t => (in_cells (hx4 t.1 (below_up HB7.out t.2))).2.1
            have j2 : ∀ t : After wr, t.1.cell? ⟨b4, o4 + q * 7 + 2, none⟩ = some (.slice av code'[q].args.length ac2) := fun t => by rw [← ec]; exact (in_cells (hx4 t.1 (below_up HB7.out t.2))).2.2.1
            have j3 : ∀ t : After wr, t.1.cell? ⟨b4, o4 + q * 7 + 3, none⟩ = some (.int .i32 code'[q].imm) := fun t => (in_cells (hx4 t.1 (below_up HB7.out t.2))).2.2.2.1
            have j4 : ∀ t : After wr, t.1.cell? ⟨b4, o4 + q * 7 + 4, none⟩ = some (.int .i64 code'[q].alu) := fun t => (in_cells (hx4 t.1 (below_up HB7.out t.2))).2.2.2.2.1
            have j5 : ∀ t : After wr, t.1.cell? ⟨b4, o4 + q * 7 + 5, none⟩ = some (.int .i64 code'[q].wide) := fun t => (in_cells (hx4 t.1 (below_up HB7.out t.2))).2.2.2.2.2.1
            have j6 : ∀ t : After wr, t.1.cell? ⟨b4, o4 + q * 7 + 6, none⟩ = some (.slice pv code'[q].pred.length pc2) := fun t => by rw [← ed]; exact (in_cells (hx4 t.1 (below_up HB7.out t.2))).2.2.2.2.2.2
            have m0 := fun t : After wr => keep_cell u1 t.2
            have m1 := fun t : After wr => keep_cell v1 t.2
            have HNO := hid' (NO2.out q hqt hqt2)
            have HN : Hid (eqI code[q] code'[q] = true → ∀ j (h1 : j < code.length) (h2 : j < code'.length), j < q + 1 → eqI code[j] code'[j] = true) := fun he j h1 h2 hj => by
              by_cases e : j = q
              · subst e; exact he
              · exact HOK.out j h1 h2 (by omega)
            have hne := after_some wr
            clear hi1 hi2 ea eb ec ed hx3 hx4
            generalize eqI code[q] code'[q] = r at *
            generalize code[q] = x at *
            generalize code'[q] = y at *
            go_wp2_with fail
            refine region_after 11 mixed (by kernel_rfl) ?_
            simp only [List.take_succ_cons, List.take_zero, List.drop_succ_cons, List.drop_zero]
            repeat (first | go_big_quiet_step (with_reducible exact K38 _) | quiet_step (with_reducible exact K38 _))
            refine wpQuiet_nil ?_
            intro w6 hb8
            have HB8 := hid' hb8
            clear K38 i0 i1 i2 i3 i4 i5 i6 j0 j1 j2 j3 j4 j5 j6 m0 m1 hb8
            cases r
            · go_wp2_with fail
              go_ret
              exact ⟨by rw [HNO.out (by trivial)]; rfl, below_up HB7.out HB8.out⟩
            · go_wp2_with fail
              go_roundw
              case rel => exact ⟨q + 1, by omega, by go_num, HN.out (by trivial), below_up HB6.out HB8.out⟩
              case measure => simp [intOf]; omega
          · have e : q = code.length := by omega
            subst e
            have HY := hid' (YES2.out (fun j h1 h2 => HOK.out j h1 h2 h1))
            go_wp2_with fail
            go_roundw
            case rel => exact ⟨k + 1, by omega, by go_num, HY.out, below_on HB.out (below_up HW5.out HB6.out) HB.out.size⟩
            case measure => simp [intOf]; omega
    · have e : k = bl.length := by omega
      subst e
      have HR1 : Hid (R = true) := YES.out (fun j h1 h2 => HK.out j h1 h2 h1)
      go_wp2
      go_ret
      exact ⟨by rw [HR1.out]; rfl, HB0.out⟩
end Go.Proofs.Ythnbnilammjceaa
