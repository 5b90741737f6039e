/- CheckFunc and Check. -/
import Derived.Test.YtiehlkhpblldaaaH30
set_option linter.unusedVariables false
set_option linter.unusedSimpArgs false
set_option maxRecDepth 20000
set_option maxHeartbeats 8000000
namespace Go.Proofs.Ytiehlkhpblldaaa
open Go.RowKit Go.Maps

def errF (b : Bool) : Int := if b then 0 else 1
set_option maxHeartbeats 16000000 in
theorem checkFunc12 {w : World} {p : Pg} {f : Fn} (hp : Pg.ok w p) (hf : Fn.ok w f) :
    Calls Try.prog 22 #[p.val, f.val] w fun e w' => e = .returned (.int .i64 (errF (fnF p f))) ∧ Below w.heap.size w w' := by
  have H27 : Hid (∀ W, Below w.heap.size w W → Calls Try.prog 38 #[f.val] W fun e w' => e = .returned (.bool (sizF f)) ∧ Below W.heap.size W w') := fun W hW => sizesFit27 (hf.on hW)
  have H28 : Hid (∀ W, Below w.heap.size w W → sizF f = true → Calls Try.prog 39 #[f.val] W fun e w' => e = .returned (.bool (endsF f)) ∧ Below W.heap.size W w') := fun W hW hs => endsFit28 (hf.on hW) (siz_regs hs).1 (siz_regs hs).2.1
  have H14 : Hid (∀ W, Below w.heap.size w W → Calls Try.prog 40 #[f.val] W (PredR f.blocks W)) := fun W hW => preds14 (hf.on hW)
  have H29 : Hid (∀ W, Below w.heap.size w W → sizF f = true → ∀ (P : Nat) (pv : Value) (k : Nat) (hk : k < f.blocks.length), IsPl W P p f.regs f.slots pv → Src icell W pv ((predsF f.blocks).getD k []) → Calls Try.prog 41 #[.pointer (some ⟨P, 0, none⟩), f.blocks[k].cv] W fun e w' => e = .returned (.bool (blkOK p f k)) ∧ Below W.heap.size W w') := fun W hW hs P pv k hk hi hsr => by
    have hb := (hf.bls _ (List.getElem_mem hk)).on hW
    rw [blk_is hk]
    have hle : ((predsF f.blocks).getD k []).length * 8 ≤ big := by
      have h1 : k < (predsF f.blocks).length := by unfold predsF; rw [predsN_len]; exact hk
      have h2 : (predsF f.blocks).getD k [] = (predsF f.blocks)[k] := by simp [h1]
      rw [h2]
      have h3 := inv_predsN f.blocks f.blocks.length _ (List.getElem_mem h1)
      have h4 := h3.2.2.2
      have h5 := (siz_regs hs).2.2.2
      unfold predsF at *
      unfold big
      omega
    exact codeFits29 hi (hp.on hW) hsr hle (siz_regs hs).1 (siz_regs hs).2.1 hb.c hb.cl hb.ins
  have HBL := hid' hf
  have HNC : Hid (∀ k, k < f.blocks.length → blkOK p f k = false → codesF p f = false) := fun k hk h => codes_no hk h
  have HYC : Hid ((∀ k, k < f.blocks.length → blkOK p f k = true) → codesF p f = true) := fun h => codes_yes h
  unfold fnF
  obtain ⟨nm, ps, rs, sl, bv, bl⟩ := f
  obtain ⟨fv, funcs, gl, dv, data, main⟩ := p
  obtain ⟨bo, bc, eb, hfb⟩ := hf.b.form bl4
  obtain ⟨fo, fc, ef⟩ := hp.f.len
  obtain ⟨dd, dc, ed⟩ := hp.d.len
  have hbl := hf.bl
  dsimp only at *
  subst eb ef ed
  have HF := hid' hfb
  unfold big at hbl
  clear hf hp hfb
  unfold Fn.val Pg.val at *
  dsimp only at *
  generalize hq1 : sizF ⟨nm, ps, rs, sl, .slice bo bl.length bc, bl⟩ = q1
  have HQ1 := hid' hq1
  rw [hq1] at H27 H28 H29
  generalize hq2 : endsF ⟨nm, ps, rs, sl, .slice bo bl.length bc, bl⟩ = q2
  rw [hq2] at H28
  clear hq1 hq2
  cases q1
  · clear H28 H14 H29
    go_enter Try.func22, Try.ntmps22
    go_wp2_with (go_at_call 38; refine (H27.out _ (below2 _ _ _)).mono ?_; rintro e1 w1 ⟨rfl, hb1⟩)
    go_ret
    exact ⟨rfl, below_on (below2 _ _ _) hb1 (by simp; omega)⟩
  obtain ⟨hr0, hr1, hn1, hn4⟩ := siz_regs HQ1.out
  dsimp only at hr0 hr1 hn1 hn4
  have H28' := fun W hW => H28.out W hW (by trivial)
  have H29' := fun W hW => H29.out W hW (by trivial)
  have H29h := hid' H29'
  clear H28 H29 H29' HQ1
  cases q2
  · clear H14
    go_enter Try.func22, Try.ntmps22
    go_wp2_with (first
      | (go_at_call 38; refine (H27.out _ (below2 _ _ _)).mono ?_; rintro e1 w1 ⟨rfl, hb1⟩; have HB1 := hid' hb1; obtain ⟨_, _, g0, g1, g2, g3, g4⟩ := boxpf hb1)
      | (go_at_call 39; refine (H28' _ (below_on (below2 _ _ _) HB1.out (by simp; omega))).mono ?_; rintro e1 w2 ⟨rfl, hb2⟩))
    go_ret
    exact ⟨rfl, below_on (below_on (below2 _ _ _) HB1.out (by simp; omega)) hb2 (by have := HB1.out.size; simp at this; omega)⟩
  obtain ⟨w0, ew0⟩ : ∃ w0, w0 = (w.alloc (.cells #[.slice fo funcs.length fc, .int .i64 gl, .slice dd data.length dc, .int .i64 main] 25)).alloc (.cells #[.string nm, .int .i64 ps, .int .i64 rs, .int .i64 sl, .slice bo bl.length bc] 49) := ⟨_, rfl⟩
  have HW0 := hid' ew0
  have HBW0 : Hid (Below w.heap.size w w0) := by unfold Hid; rw [ew0]; exact below2 _ _ _
  have hz0 : w0.heap.size = w.heap.size + 1 + 1 := by rw [ew0]; simp
  have HBX : Hid (∀ W, Below w0.heap.size w0 W → _) := fun W hW => boxpf (w := w) (W := W) (by rw [← ew0]; exact hW)
  clear ew0
  by_cases hz : (predsF bl).getD 0 [] = []
  · rw [decide_eq_true hz]
    simp only [Bool.true_and]
    have HZ := hid' hz
    clear hz
    go_enter Try.func22, Try.ntmps22
    go_wp2_with (first
      | (go_at_call 38; refine (H27.out _ (below2 _ _ _)).mono ?_; rintro e1 w1 ⟨rfl, hb1⟩; have HB1 : Hid (Below w0.heap.size w0 w1) := (by unfold Hid; rw [HW0.out]; exact hb1); obtain ⟨_, _, g0, g1, g2, g3, g4⟩ := HBX.out _ HB1.out)
      | (go_at_call 39; refine (H28' _ (below_up HBW0.out HB1.out)).mono ?_; rintro e1 w2 ⟨rfl, hb2⟩; have HB2 : Hid (Below w0.heap.size w0 w2) := below_on HB1.out hb2 HB1.out.size; clear g0 g1 g2 g3 g4; obtain ⟨_, _, g0, g1, g2, g3, g4⟩ := HBX.out _ HB2.out)
      | (go_at_call 40; refine (H14.out _ (below_up HBW0.out HB2.out)).mono ?_; rintro e1 w3 ⟨g, vs, rfl, hpm, hb3⟩; have HPM := hid' hpm; have HB3 : Hid (Below w0.heap.size w0 w3) := below_on HB2.out hb3 HB2.out.size; clear g0 g1 g2 g3 g4; refine of_mark ?_))
    unfold Mark
    have hm5 := HBX.out _ HB3.out
    obtain ⟨⟨hs3, hB3⟩, _, _, _, _, _, k4⟩ := hm5
    have hpm := HPM.out
    have hLl : (predsF bl).length = bl.length := by unfold predsF; rw [predsN_len]
    have hvl : vs.length = bl.length := by rw [hpm.len, hLl]
    have HAT : Hid (∀ W, Below w3.heap.size w3 W → ∀ k (hk : k < bl.length), ∃ ao cap, W.cell? ⟨g, k, none⟩ = some (.slice ao ((predsF bl).getD k []).length cap) ∧ Src icell W (.slice ao ((predsF bl).getD k []).length cap) ((predsF bl).getD k [])) := fun W hW k hk => by
      have h1 := HPM.out.on hW
      have e1 : (predsF bl).getD k [] = (predsF bl)[k]'(by rw [hLl]; exact hk) := by simp [hLl, hk]
      have h2 : Src icell W (vs[k]'(by rw [hvl]; exact hk)) ((predsF bl).getD k []) := by rw [e1]; exact Own.src ic1 (h1.el k (by rw [hvl]; exact hk) (by rw [hLl]; exact hk))
      obtain ⟨ao, cap, e⟩ := h2.len
      refine ⟨ao, cap, ?_, by rw [← e]; exact h2⟩
      have h3 := h1.row
      rw [hLl] at h3
      rw [World.ownsRow.cellAt h3 k (by omega), List.getElem?_eq_getElem (by rw [hvl]; exact hk), e]
    have hg3 := hpm.g
    have hglt : g < w3.heap.size := hg3.2
    obtain ⟨ao0, cap0, r0, _⟩ := HAT.out w3 (Below.refl _ _) 0 (by omega)
    have hn1' : (0 : Int) < bl.length := by omega
    clear hpm hg3
    rw [HZ.out] at r0
    simp only [List.length_nil] at r0
    go_wp2_with fail
    go_loopw [27] (fun i wr => ∃ k : Nat, k ≤ bl.length ∧ i = .int .i64 k ∧ (∀ j, j < k → blkOK ⟨.slice fo funcs.length fc, funcs, gl, .slice dd data.length dc, data, main⟩ ⟨nm, ps, rs, sl, .slice bo bl.length bc, bl⟩ j = true) ∧ Below w3.heap.size w3 wr) (fun i _ => bl.length - (intOf i).toNat)
    case atStart => exact ⟨0, Nat.zero_le _, rfl, fun j hj => by omega, Below.refl _ _⟩
    case round =>
      obtain ⟨k, hk, rfl, hok, hbw⟩ := hrel
      have HK := hid' hok
      have HB := hid' hbw
      have hb0 : Below w0.heap.size w0 wr := below_on HB3.out hbw HB3.out.size
      obtain ⟨⟨hsz, hB0⟩, ⟨p0, p1, p2, p3⟩, ⟨f0, f1, f2, f3, f4⟩⟩ := HBX.out _ hb0
      have HB0 := hid' hB0
      clear hok hbw hB0
      by_cases hlt : k < bl.length
      · obtain ⟨b, o, rfl, hb1, hc1, hx⟩ := HF.out k hlt
        obtain ⟨c0, c1, c2, c3⟩ := bl_cells (hx wr HB0.out)
        have ho := HBL.out.bls _ (List.getElem_mem hlt)
        obtain ⟨co, cc, ec⟩ := ho.c.len
        obtain ⟨tt, tc, et⟩ := ho.t.len
        obtain ⟨wx, ewx⟩ : ∃ wx, wx = wr.alloc (.cells #[.slice co bl[k].code.length cc, .int .i64 bl[k].en, .int .i64 bl[k].arg, .slice tt bl[k].to.length tc] 54) := ⟨_, rfl⟩
        have HWX := hid' ewx
        have hrx : Below wr.heap.size wr wx := by rw [ewx]; exact below1 _ _
        have hxt := fun t : After wx => below_up hrx t.2
        have h3t := fun t : After wx => below_up HB.out (hxt t)
        have h0t := fun t : After wx => HBX.out t.1 (below_on hb0 (hxt t) hb0.size)
        have y0 : ∀ t : After wx, t.1.cell? ⟨w.heap.size, 0, none⟩ = some (.slice fo funcs.length fc) := fun t => (h0t t).2.1.1
        have y1 : ∀ t : After wx, t.1.cell? ⟨w.heap.size, 1, none⟩ = some (.int .i64 gl) := fun t => (h0t t).2.1.2.1
        have y2 : ∀ t : After wx, t.1.cell? ⟨w.heap.size, 2, none⟩ = some (.slice dd data.length dc) := fun t => (h0t t).2.1.2.2.1
        have y3 : ∀ t : After wx, t.1.cell? ⟨w.heap.size, 3, none⟩ = some (.int .i64 main) := fun t => (h0t t).2.1.2.2.2
        have z0 : ∀ t : After wx, t.1.cell? ⟨w.heap.size + 1, 0, none⟩ = some (.string nm) := fun t => (h0t t).2.2.1
        have z1 : ∀ t : After wx, t.1.cell? ⟨w.heap.size + 1, 1, none⟩ = some (.int .i64 ps) := fun t => (h0t t).2.2.2.1
        have z2 : ∀ t : After wx, t.1.cell? ⟨w.heap.size + 1, 2, none⟩ = some (.int .i64 rs) := fun t => (h0t t).2.2.2.2.1
        have z3 : ∀ t : After wx, t.1.cell? ⟨w.heap.size + 1, 3, none⟩ = some (.int .i64 sl) := fun t => (h0t t).2.2.2.2.2.1
        have z4 : ∀ t : After wx, t.1.cell? ⟨w.heap.size + 1, 4, none⟩ = some (.slice (some ⟨b, o, none⟩) bl.length bc) := fun t => (h0t t).2.2.2.2.2.2
        obtain ⟨ak, ck, _, _⟩ := HAT.out wx (below_up HB.out hrx) k hlt
        have hpk : ∃ ak ck, ∀ t : After wx, t.1.cell? ⟨g, k, none⟩ = some (.slice ak ((predsF bl).getD k []).length ck) ∧ Src icell t.1 (.slice ak ((predsF bl).getD k []).length ck) ((predsF bl).getD k []) := by
          obtain ⟨a, c, e1, e2⟩ := HAT.out wx (below_up HB.out hrx) k hlt
          exact ⟨a, c, fun t => ⟨keep_cell e1 t.2, e2.on t.2⟩⟩
        obtain ⟨ak, ck, hpk⟩ := hpk
        have yp := fun t => (hpk t).1
        have HPS : Hid (∀ t : After wx, _) := fun t => (hpk t).2
        have HBC : Hid (∀ t : After wx, t.1.cell? ⟨wr.heap.size, 0, none⟩ = some (.slice co bl[k].code.length cc)) := fun t => by
          rw [t.2.cell (by rw [ewx]; simp), ewx]
          simp [go_sem]
        have HWT : Hid (∀ t : After wx, Below w.heap.size w t.1) := fun t => below_up HB0.out (hxt t)
        have H3T : Hid (∀ t : After wx, Below w3.heap.size w3 t.1) := h3t
        have HRT := fun W hW P pv hi hs => H29h.out W hW P pv k hlt hi hs
        rw [ec] at HRT
        have HN : Hid (blkOK ⟨.slice fo funcs.length fc, funcs, gl, .slice dd data.length dc, data, main⟩ ⟨nm, ps, rs, sl, .slice (some ⟨b, o, none⟩) bl.length bc, bl⟩ k = true → ∀ j, j < k + 1 → blkOK ⟨.slice fo funcs.length fc, funcs, gl, .slice dd data.length dc, data, main⟩ ⟨nm, ps, rs, sl, .slice (some ⟨b, o, none⟩) bl.length bc, bl⟩ j = true) := fun he j hj => by
          by_cases e : j = k
          · subst e; exact he
          · exact HK.out j (by omega)
        have HNO := hid' (HNC.out k hlt)
        rw [ec] at c0
        rw [et] at c3
        clear hx ho ec et hxt h3t h0t hpk ewx hrx
        generalize blkOK ⟨.slice fo funcs.length fc, funcs, gl, .slice dd data.length dc, data, main⟩ ⟨nm, ps, rs, sl, .slice (some ⟨b, o, none⟩) bl.length bc, bl⟩ k = q at *
        generalize (predsF bl).getD k [] = pk at *
        generalize bl[k] = x at *
        have hne := after_some wx
        have hnw : ¬ b = wr.heap.size := by have := HB0.out.size; omega
        go_wp2_with fail
        rw [← HWX.out]
        refine region_after 7 mixed (by kernel_rfl) ?_
        simp only [List.take_succ_cons, List.take_zero, List.drop_succ_cons, List.drop_zero]
        repeat (first | go_big_quiet_step (fail) | quiet_step (fail))
        refine wpQuiet_nil ?_
        intro w6 hb6
        have hbc : w6.cell? ⟨wr.heap.size, 0, none⟩ = some (.slice co x.code.length cc) := HBC.out ⟨w6, hb6⟩
        have hpss : Src icell w6 (.slice ak pk.length ck) pk := HPS.out ⟨w6, hb6⟩
        have HW6 : Hid (Below w.heap.size w w6) := HWT.out ⟨w6, hb6⟩
        have H36 : Hid (Below w3.heap.size w3 w6) := H3T.out ⟨w6, hb6⟩
        have hwr6 : wr.heap.size < w6.heap.size := World.block_lt_of_cell? w6 _ hbc
        have hcall := HRT (w6.alloc (.cells #[.slice fo funcs.length fc, .int .i64 gl, .slice dd data.length dc, .int .i64 main, .string nm, .int .i64 ps, .int .i64 rs, .int .i64 sl, .slice (some ⟨b, o, none⟩) bl.length bc, .slice ak pk.length ck] 103)) (below_up HW6.out (below1 _ _)) w6.heap.size (.slice ak pk.length ck) ⟨by simp, by simp [go_sem], by simp [go_sem], by simp [go_sem], by simp [go_sem], by simp [go_sem]⟩ (hpss.on (below1 _ _))
        have hnr : ¬ wr.heap.size = w6.heap.size := by omega
        clear y0 y1 y2 y3 z0 z1 z2 z3 z4 yp HBC HPS HWT H3T hb6 hpss HRT hne
        cases q
        · go_wp2_with (go_at_call 41; refine hcall.mono ?_; rintro e1 w7 ⟨rfl, hb7⟩)
          go_ret
          exact ⟨by rw [HNO.out (by trivial)]; rfl, below_up (below_up HW6.out (below1 _ _)) hb7⟩
        · go_wp2_with (go_at_call 41; refine hcall.mono ?_; rintro e1 w7 ⟨rfl, hb7⟩)
          go_roundw
          case rel => exact ⟨k + 1, by omega, by go_num, HN.out (by trivial), below_up (below_up H36.out (below1 _ _)) hb7⟩
          case measure => simp [intOf]; omega
      · have e : k = bl.length := by omega
        subst e
        have HR := hid' (HYC.out HK.out)
        go_wp2_with fail
        go_ret
        exact ⟨by rw [HR.out]; rfl, HB0.out⟩
  · rw [decide_eq_false hz]
    have hzz : 0 < ((predsF bl).getD 0 []).length := List.length_pos_iff.2 hz
    go_enter Try.func22, Try.ntmps22
    go_wp2_with (first
      | (go_at_call 38; refine (H27.out _ (below2 _ _ _)).mono ?_; rintro e1 w1 ⟨rfl, hb1⟩; have HB1 : Hid (Below w0.heap.size w0 w1) := (by unfold Hid; rw [HW0.out]; exact hb1); obtain ⟨_, _, g0, g1, g2, g3, g4⟩ := HBX.out _ HB1.out)
      | (go_at_call 39; refine (H28' _ (below_up HBW0.out HB1.out)).mono ?_; rintro e1 w2 ⟨rfl, hb2⟩; have HB2 : Hid (Below w0.heap.size w0 w2) := below_on HB1.out hb2 HB1.out.size; clear g0 g1 g2 g3 g4; obtain ⟨_, _, g0, g1, g2, g3, g4⟩ := HBX.out _ HB2.out)
      | (go_at_call 40; refine (H14.out _ (below_up HBW0.out HB2.out)).mono ?_; rintro e1 w3 ⟨g, vs, rfl, hpm, hb3⟩; have HPM := hid' hpm; have HB3 : Hid (Below w0.heap.size w0 w3) := below_on HB2.out hb3 HB2.out.size; clear g0 g1 g2 g3 g4; refine of_mark ?_))
    unfold Mark
    have hm5 := HBX.out _ HB3.out
    obtain ⟨⟨hs3, hB3⟩, _, _, _, _, _, k4⟩ := hm5
    have hpm := HPM.out
    have hLl : (predsF bl).length = bl.length := by unfold predsF; rw [predsN_len]
    have hvl : vs.length = bl.length := by rw [hpm.len, hLl]
    have HAT : Hid (∀ W, Below w3.heap.size w3 W → ∀ k (hk : k < bl.length), ∃ ao cap, W.cell? ⟨g, k, none⟩ = some (.slice ao ((predsF bl).getD k []).length cap) ∧ Src icell W (.slice ao ((predsF bl).getD k []).length cap) ((predsF bl).getD k [])) := fun W hW k hk => by
      have h1 := HPM.out.on hW
      have e1 : (predsF bl).getD k [] = (predsF bl)[k]'(by rw [hLl]; exact hk) := by simp [hLl, hk]
      have h2 : Src icell W (vs[k]'(by rw [hvl]; exact hk)) ((predsF bl).getD k []) := by rw [e1]; exact Own.src ic1 (h1.el k (by rw [hvl]; exact hk) (by rw [hLl]; exact hk))
      obtain ⟨ao, cap, e⟩ := h2.len
      refine ⟨ao, cap, ?_, by rw [← e]; exact h2⟩
      have h3 := h1.row
      rw [hLl] at h3
      rw [World.ownsRow.cellAt h3 k (by omega), List.getElem?_eq_getElem (by rw [hvl]; exact hk), e]
    have hg3 := hpm.g
    have hglt : g < w3.heap.size := hg3.2
    obtain ⟨ao0, cap0, r0, _⟩ := HAT.out w3 (Below.refl _ _) 0 (by omega)
    have hn1' : (0 : Int) < bl.length := by omega
    clear hpm hg3
    have hz' : (0 : Int) < ((predsF bl).getD 0 []).length := by omega
    generalize ((predsF bl).getD 0 []).length = z0 at *
    go_wp2_with fail
    go_ret
    exact ⟨rfl, hB3⟩
end Go.Proofs.Ytiehlkhpblldaaa
namespace Go.Proofs.Ytiehlkhpblldaaa
open Go.RowKit Go.Maps

/-- May a program be? -/
def pgF (p : Pg) : Bool := mayF p && p.funcs.all (fnF p)
theorem check15 {w : World} {p : Pg} (hp : Pg.ok w p) :
    Calls Try.prog 15 #[p.val] w fun e w' => e = .returned (.int .i64 (errF (pgF p))) ∧ Below w.heap.size w w' := by
  have H25 : Hid (∀ W, Below w.heap.size w W → Calls Try.prog 21 #[p.val] W fun e w' => e = .returned (.bool (mayF p)) ∧ Below W.heap.size W w') := fun W hW => mayBe25 (hp.on hW)
  have H12 : Hid (∀ W, Below w.heap.size w W → ∀ k (hk : k < p.funcs.length), Calls Try.prog 22 #[p.val, (p.funcs[k]).val] W fun e w' => e = .returned (.int .i64 (errF (fnF p p.funcs[k]))) ∧ Below W.heap.size W w') := fun W hW k hk => checkFunc12 (hp.on hW) ((hp.fns _ (List.getElem_mem hk)).on hW)
  have HNO : Hid (∀ k (hk : k < p.funcs.length), fnF p p.funcs[k] = false → p.funcs.all (fnF p) = false) := fun k hk h => all_no k hk h
  have HYES : Hid ((∀ k (hk : k < p.funcs.length), fnF p p.funcs[k] = true) → p.funcs.all (fnF p) = true) := fun h => all_yes h
  have HFN := hid' hp.fns
  unfold pgF
  generalize fnF p = F at *
  obtain ⟨fv, funcs, gl, dv, data, main⟩ := p
  obtain ⟨fo, fc, ef, hff⟩ := hp.f.form fn5
  obtain ⟨dd, dc, ed⟩ := hp.d.len
  have hfl := hp.fl
  dsimp only at *
  subst ef ed
  have HF := hid' hff
  unfold big at hfl
  clear hp hff
  generalize hq : mayF ⟨.slice fo funcs.length fc, funcs, gl, .slice dd data.length dc, data, main⟩ = q at *
  clear hq
  unfold Pg.val at *
  dsimp only at *
  cases q
  · clear H12
    go_enter Try.func15, Try.ntmps15
    go_wp2_with (go_at_call 21; refine (H25.out _ (below1 _ _)).mono ?_; rintro e1 w1 ⟨rfl, hb1⟩)
    go_ret
    exact ⟨rfl, below_up (below1 _ _) hb1⟩
  · go_enter Try.func15, Try.ntmps15
    go_wp2_with (go_at_call 21; refine (H25.out _ (below1 _ _)).mono ?_; rintro e1 w1 ⟨rfl, hb1⟩; have HB1 := hid' hb1; obtain ⟨_, _, g0, g1, g2, g3⟩ := pbox hb1)
    go_loopw [12] (fun i wr => ∃ k : Nat, k ≤ funcs.length ∧ i = .int .i64 k ∧ (∀ j (hj : j < funcs.length), j < k → F funcs[j] = true) ∧ Below (w.alloc (.cells #[.slice fo funcs.length fc, .int .i64 gl, .slice dd data.length dc, .int .i64 main] 25)).heap.size (w.alloc (.cells #[.slice fo funcs.length fc, .int .i64 gl, .slice dd data.length dc, .int .i64 main] 25)) wr) (fun i _ => funcs.length - (intOf i).toNat)
    case atStart => exact ⟨0, Nat.zero_le _, rfl, fun j _ hj => by omega, HB1.out⟩
    case round =>
      obtain ⟨k, hk, rfl, hok, hbw⟩ := hrel
      have HK := hid' hok
      have HB := hid' hbw
      obtain ⟨hsz, hB0, p0, p1, p2, p3⟩ := pbox hbw
      have HB0 := hid' hB0
      clear hok hbw hB0 g0 g1 g2 g3
      by_cases hlt : k < funcs.length
      · obtain ⟨b, o, rfl, hb1, hc1, hx⟩ := HF.out k hlt
        obtain ⟨c0, c1, c2, c3, c4⟩ := fn_cells (hx wr HB0.out)
        have ho := HFN.out _ (List.getElem_mem hlt)
        obtain ⟨bo, bc, eb⟩ := ho.b.len
        have HC := fun W hW => H12.out W hW k hlt
        have HN : Hid (F funcs[k] = true → ∀ j (hj : j < funcs.length), j < k + 1 → F funcs[j] = true) := fun he j hj hjk => by
          by_cases e : j = k
          · subst e; exact he
          · exact HK.out j hj (by omega)
        have HNO2 := hid' (HNO.out k hlt)
        unfold Fn.val at HC
        rw [eb] at c4 HC
        have hnb : ¬ b = wr.heap.size := by have := HB0.out.size; omega
        have hnw : ¬ w.heap.size = wr.heap.size := by omega
        clear hx ho eb
        generalize F funcs[k] = q at *
        generalize funcs[k] = x at *
        unfold errF at HC
        cases q
        · rw [if_neg (by decide)] at HC
          go_wp2_with (go_at_call 22; refine (HC _ (HB0.out.alloc HB0.out.size _)).mono ?_; rintro e1 w2 ⟨rfl, hb2⟩)
          go_ret
          exact ⟨by rw [HNO2.out (by trivial)]; rfl, below_on (HB0.out.alloc HB0.out.size _) hb2 (by have := HB0.out.size; simp; omega)⟩
        · rw [if_pos rfl] at HC
          go_wp2_with (go_at_call 22; refine (HC _ (HB0.out.alloc HB0.out.size _)).mono ?_; rintro e1 w2 ⟨rfl, hb2⟩)
          go_roundw
          case rel => exact ⟨k + 1, by omega, by go_num, HN.out (by trivial), below_on (HB.out.alloc HB.out.size _) hb2 (by have := HB.out.size; simp at this ⊢; omega)⟩
          case measure => simp [intOf]; omega
      · have e : k = funcs.length := by omega
        subst e
        have HR := hid' (HYES.out (fun k hk => HK.out k hk hk))
        go_wp2_with fail
        go_ret
        exact ⟨by rw [HR.out]; rfl, HB0.out⟩

end Go.Proofs.Ytiehlkhpblldaaa
