/- Doms. -/
import Derived.Test.YtgkaeoieclegjaaPo
import Derived.Test.YtgkaeoieclegjaaWd
import Derived.Test.YtgkaeoieclegjaaNf
namespace Go.Proofs.Ytgkaeoieclegjaa
open Go Go.RowKit Go.Maps
set_option linter.unusedVariables false
set_option linter.unusedSimpArgs false
/-- What Doms leaves. -/
def DomsR (bl : List Bl) (w : World) (e : Ending) (w' : World) : Prop :=
  ∃ (q : Nat) (D : Nat → Option Nat), e = .returned (.slice (some ⟨q, 0, none⟩) bl.length bl.length) ∧ w.heap.size ≤ q ∧ RowI w' q bl.length (fun b => oi (D b)) ∧ DomOk bl D ∧ Below w.heap.size w w'
set_option maxRecDepth 20000 in
set_option maxHeartbeats 8000000 in
theorem doms10 {w : World} {f : Fn} (h : Fn.ok w f) (hn : 0 < f.blocks.length) : Calls Try.prog 10 #[f.val] w (DomsR f.blocks w) := by
  have HOK := hid' h
  have hbl := h.bl
  obtain ⟨nm, ps, rs, sl, bv, bl⟩ := f
  obtain ⟨hb, _, _, _⟩ := h
  dsimp only at *
  obtain ⟨ao, cap, rfl, _⟩ := hb.form bl4
  have hbl2 := hbl
  unfold big at hbl
  have H25 : Hid (∀ w1, Below w.heap.size w w1 → Calls Try.prog 25 #[.agg #[.string nm, .int .i64 ps, .int .i64 rs, .int .i64 sl, .slice ao bl.length cap]] w1 (WdR bl w1)) := fun w1 hb => walked25 (HOK.out.on hb)
  have H28 : Hid (∀ w1, Below w.heap.size w w1 → Calls Try.prog 28 #[.agg #[.string nm, .int .i64 ps, .int .i64 rs, .int .i64 sl, .slice ao bl.length cap]] w1 (RpR bl w1)) := fun w1 hb => rpreds28 (HOK.out.on hb)
  unfold Fn.val
  dsimp only
  clear hb
  go_enter Try.func10, Try.ntmps10
  obtain ⟨w0, ew0⟩ : ∃ w0, w0 = w.alloc (.cells #[.string nm, .int .i64 ps, .int .i64 rs, .int .i64 sl, .slice ao bl.length cap] 24) := ⟨_, rfl⟩
  have hb0 : Below w.heap.size w w0 := by rw [ew0]; exact below1 _ _
  have hC : Hid (∀ W : World, Below w0.heap.size w0 W → W.cell? ⟨w.heap.size, 0, none⟩ = some (.string nm) ∧ W.cell? ⟨w.heap.size, 1, none⟩ = some (.int .i64 ps) ∧ W.cell? ⟨w.heap.size, 2, none⟩ = some (.int .i64 rs) ∧ W.cell? ⟨w.heap.size, 3, none⟩ = some (.int .i64 sl) ∧ W.cell? ⟨w.heap.size, 4, none⟩ = some (.slice ao bl.length cap)) := fun W hW => by
    rw [ew0] at hW
    obtain ⟨_, _, m0, m1, m2, m3, m4⟩ := fbox (W := W) (w := w) (T := 24) hW
    exact ⟨m0, m1, m2, m3, m4⟩
  have HB0 := hid' hb0
  have h25 := hid' (H25.out w0 hb0)
  go_upto_region 1 with fail
  rw [← ew0]
  clear ew0 hb0
  obtain ⟨k0, k1, k2, k3, k4⟩ := hC.out w0 (Below.refl _ _)
  go_upto_region 2 with (go_at_call 25; refine h25.out.mono ?_; rintro e1 w1 ⟨cv, lv, pv, fv, m, blk, par, tried, left, rfl, hW, hb1, _, hpos⟩; obtain ⟨p1, p2, p3, p4⟩ := hpos hn; obtain ⟨co, cc, ecv⟩ := hW.came.len; obtain ⟨lo, lc, elv⟩ := hW.leftS.len; simp only [List.length_map, List.length_range, ints] at ecv elv; rw [p2] at elv; subst ecv elv; obtain ⟨gp, fp, rfl, hrp, hfp⟩ := hW.place; obtain ⟨gf, ff, rfl, hrf, hff⟩ := hW.from_; have HW := hid' hW; have HB1 := hid' hb1; have HP1 := hid' p1; have HP2 := hid' p2; have HP3 := hid' p3; have HP4 := hid' p4; clear hW hb1 p1 p2 p3 p4 hpos hrp hfp hrf hff)
  obtain ⟨w2, ew2⟩ : ∃ w2, w2 = w1.alloc (.cells #[.slice co m cc, .slice lo m lc, .slice (some ⟨gp, 0, none⟩) bl.length bl.length, .slice (some ⟨gf, 0, none⟩) bl.length bl.length] 47) := ⟨_, rfl⟩
  have hb2 : Below w1.heap.size w1 w2 := by rw [ew2]; exact below1 _ _
  have hC2 : Hid (∀ W : World, Below w2.heap.size w2 W → W.cell? ⟨w1.heap.size, 0, none⟩ = some (.slice co m cc) ∧ W.cell? ⟨w1.heap.size, 1, none⟩ = some (.slice lo m lc) ∧ W.cell? ⟨w1.heap.size, 2, none⟩ = some (.slice (some ⟨gp, 0, none⟩) bl.length bl.length) ∧ W.cell? ⟨w1.heap.size, 3, none⟩ = some (.slice (some ⟨gf, 0, none⟩) bl.length bl.length)) := fun W hW => by
    rw [ew2] at hW
    have h := hW.block w1.heap.size (by simp)
    rw [heap_alloc_new] at h
    have q := fun o => cell_of_row W w1.heap.size o _ 47 (0, 0) h
    exact ⟨q 0, q 1, q 2, q 3⟩
  have HB2 : Hid (Below w0.heap.size w0 w2) := below_up HB1.out hb2
  have HW2 := hid' (HW.out.on hb2)
  rw [← ew2]
  clear ew2 hb2 HW
  have hn8 : bl.length * 8 ≤ big := by unfold big; omega
  obtain ⟨j0, j1, j2, j3, j4⟩ := hC.out w2 HB2.out
  go_upto_region 3 with (go_at_call 26; refine (nones26 bl.length hn8).mono ?_; rintro e2 w3 ⟨q, rfl, hq, hR3, hb3⟩; have HQ := hid' hq; have HR3 := hid' hR3; have HB3 := hid' hb3; clear hq hR3 hb3)
  have HE3 : Hid (Below w0.heap.size w0 w3) := below_up HB2.out HB3.out
  obtain ⟨y0, y1, y2, y3, y4⟩ := hC.out w3 HE3.out
  obtain ⟨x0, x1, x2, x3⟩ := hC2.out w3 HB3.out
  have hmet := HP3.out
  have hb0' := HP1.out
  have ht : ((fun b => toL bl.length (succN bl b)) (blk 0)).length ≤ tried 0 := by
    show (toL bl.length (succN bl (blk 0))).length ≤ tried 0
    rw [show blk 0 = 0 from hb0']
    simpa [toL] using HP4.out
  have HPRE := hid' (pre_ok hn hbl2 hb0' HW2.out.lt hmet ht)
  have H27 : ∀ (g4 : Nat) (vs4 : List Value) (w4 : World), PM w4 w3.drew.heap.size g4 vs4 (rpF bl) → Below w3.heap.size w3 w4 → Calls Try.prog 27 #[.agg #[.slice co m cc, .slice lo m lc, .slice (some ⟨gp, 0, none⟩) bl.length bl.length, .slice (some ⟨gf, 0, none⟩) bl.length bl.length], .slice (some ⟨g4, 0, none⟩) bl.length bl.length] w4 (DnR (hmet.dfs ht) w4) := fun g4 vs4 w4 hP hB => by
    have hW4 := HW2.out.on (below_up HB3.out hB)
    exact dominators27 (g := hmet.dfs ht) (fun w5 hb5 => newFinder39 (hW4.on hb5) hbl2 (fun j h0 hj => by
      have hj' : j < m := hj
      have h9 : par j < j := hmet.par_lt j h0 hj'
      show par j < m
      omega)) hW4 hbl2 hP (by simp [rpF, predsF_len]) HPRE.out hmet.at_
  have H27 := hid' H27
  have HT := hid' ht
  clear hb0'
  go_cut [16, 17, 18] (fun dv nv iv wx => ∃ (gd : Nat) (dom : Nat → Option Nat), dv = .slice (some ⟨gd, 0, none⟩) m m ∧ nv = .int .i64 m ∧ iv = .int .i64 0 ∧ w3.heap.size ≤ gd ∧ RowI wx gd m (fun j => oi (dom j)) ∧ dom 0 = none ∧ (∀ j, 0 < j → j < m → ∃ d, dom j = some d ∧ (hmet.dfs ht).Idom d j) ∧ Below w3.heap.size w3 wx)
  case first =>
    go_region_law (first
      | (refine step_call rfl 28 #[.tmp 14] #[24] rfl #[.agg #[.string nm, .int .i64 ps, .int .i64 rs, .int .i64 sl, .slice ao bl.length cap]] (by simp [Act.eval, Act.put]) (fun W => by simp [go_sem, Try.func28]) ?_; refine (H28.out _ (below_up HB0.out (bdw' HE3.out))).mono ?_; rintro e4 w4 ⟨g4, vs4, rfl, hP4, hb4⟩; refine ⟨_, rfl, ?_⟩; have HPM := hid' hP4; have HB4 : Hid (Below w3.heap.size w3 w4) := (Below.trans (bdw' (Below.refl _ _)) hb4); obtain ⟨z0, z1, z2, z3⟩ := hC2.out w4 (below_up HB3.out HB4.out); clear hP4 hb4)
      | (refine step_call rfl 27 #[.tmp 13, .tmp 15] #[47, 35] rfl #[.agg #[.slice co m cc, .slice lo m lc, .slice (some ⟨gp, 0, none⟩) bl.length bl.length, .slice (some ⟨gf, 0, none⟩) bl.length bl.length], .slice (some ⟨g4, 0, none⟩) bl.length bl.length] (by simp [Act.eval, Act.put]) (fun W => by simp [go_sem, Try.func27]) ?_; refine (H27.out _ _ _ HPM.out HB4.out).mono ?_; rintro e5 w5 ⟨gd, dom, rfl, hgd, hRd, hd0, hdd, hb5⟩; refine ⟨_, rfl, ?_⟩; have HGD := hid' hgd; have HRD := hid' hRd; have HD0 := hid' hd0; have HDD := hid' hdd; have HB5 := hid' hb5; clear hgd hRd hd0 hdd hb5))
    all_goals go_wp2_with fail
    all_goals go_meet
    all_goals exact ⟨gd, dom, rfl, rfl, rfl, Nat.le_trans HB4.out.size HGD.out, HRD.out, HD0.out, HDD.out, below_up HB4.out HB5.out⟩
  case rest =>
    obtain ⟨gd, dom, rfl, rfl, rfl, hgd, hRd, hd0, hdd, hb⟩ := hcut
    have HRD := hid' hRd
    have HD0 := hid' hd0
    have HDD := hid' hdd
    have HB := hid' hb
    have HRQ := hid' (HR3.out.on hb)
    have hql := HR3.out.lt
    clear hRd hd0 hdd hb y0 y1 y2 y3 y4 x0 x1 x2 x3 j0 j1 j2 j3 j4
    go_wp2_with fail
    go_loopw [18] (fun iv wr => ∃ (i : Nat) (D : Nat → Option Nat), i ≤ m ∧ iv = .int .i64 i ∧ RowI wr q bl.length (fun b => oi (D b)) ∧ Kept (fun k => k = q) wc wr ∧ (∀ j, j < i → D (blk j) = (dom j).map blk) ∧ (∀ b, (∀ j, j < i → blk j ≠ b) → D b = none)) (fun iv _ => m - (intOf iv).toNat)
    case atStart => exact ⟨0, fun _ => none, Nat.zero_le _, rfl, HRQ.out, Kept.rfl _ _, fun j hj => by omega, fun _ _ => rfl⟩
    case round =>
      obtain ⟨i, D, hi, rfl, hR, hK, hD, hD2⟩ := hrel
      have hmn := HW2.out.le
      have HR := hid' hR
      have HK := hid' hK
      have HD := hid' hD
      have HD2 := hid' hD2
      have hqq := HQ.out
      have hwq : Below w2.heap.size w2 wr := (below_up HB3.out HB.out).trans (hK.below (below_up HB3.out HB.out).size (fun k e => by omega))
      have HWQ := hid' hwq
      obtain ⟨x0, x1, x2, x3⟩ := hC2.out wr hwq
      by_cases him : i < m
      · have cd := HRD.out.cell him
        have hgq : gd ≠ q := by omega
        have cd2 := (hK.cell (b := gd) (o := i) HRD.out.lt hgq).trans cd
        have hbi := HW2.out.lt i him
        obtain ⟨cao, ccap, ec, hcc⟩ := (HW2.out.on hwq).came.ints
        injection ec with ec1 ec2 ec3
        subst ec1 ec3
        clear ec2
        obtain ⟨cb, coff, rfl, _, hcle, hcell⟩ := hcc i (by simpa using him)
        have q0 := hcell wr (Below.refl _ _)
        simp only [List.getElem_map, List.getElem_range] at q0
        have qf := hR.fro (blk i)
        have qc := hR.cell hbi
        simp only [List.length_map, List.length_range] at hcle
        have HCC := hid' hcc
        clear hcc hcell hR hK hD hD2 hwq cd
        cases hdi : dom i with
        | none =>
          rw [hdi, oi_none] at cd2
          have HDI := hid' hdi
          clear hdi
          go_wp2_with fail
          go_roundw
          case rel =>
            refine ⟨i + 1, D, by omega, by go_num, HR.out, HK.out, fun j hj => ?_, fun b hb => HD2.out b (fun j hj => hb j (by omega))⟩
            by_cases e : j = i
            · subst e
              rw [HDI.out, HD2.out (blk j) (fun k hk e2 => by have := HP3.out.inj k j (by omega) him e2; omega)]
              rfl
            · exact HD.out j (by omega)
          case measure => simp [intOf]; omega
        | some d =>
          rw [hdi, oi_some] at cd2
          have hi0 : 0 < i := by
            apply Classical.byContradiction
            intro h0
            have : i = 0 := by omega
            subst this
            rw [HD0.out] at hdi
            cases hdi
          obtain ⟨d', e1, hid2⟩ := HDD.out i hi0 him
          rw [hdi] at e1
          injection e1 with e1
          subst e1
          have hdl : d < i := Dfs.idom_lt (g := hmet.dfs ht) him hid2
          have hdm : d < m := by omega
          obtain ⟨cb', coff', ecb, _, _, hcell2⟩ := HCC.out d (by simpa using hdm)
          injection ecb with ecb
          injection ecb with ecb ecb2
          subst ecb ecb2
          have q1 := hcell2 wr (Below.refl _ _)
          simp only [List.getElem_map, List.getElem_range] at q1
          have HDI := hid' hdi
          clear hdi hcell2 hid2
          go_wp2_with fail
          go_region
          have hrow : RowI (wr.setCell ⟨q, blk i, none⟩ (.int .i64 (blk d))).drew q bl.length (fun b => oi (Dfs.upd D (blk i) (some (blk d)) b)) :=
            (HR.out.set (blk i) (blk d)).congr (fun j _ => by simp only [Dfs.upd]; split <;> rfl)
          have HROW := hid' hrow
          have HK2 := hid' ((HK.out.set (a := ⟨q, blk i, none⟩) (.inl (Eq.refl _)) (.int .i64 (blk d))).drew)
          clear hrow
          generalize (wr.setCell ⟨q, blk i, none⟩ (.int .i64 (blk d))).drew = w8 at *
          go_wp2_with fail
          go_roundw
          case rel =>
            refine ⟨i + 1, Dfs.upd D (blk i) (some (blk d)), by omega, by go_num, HROW.out, HK2.out, fun j hj => ?_, fun b hb => ?_⟩
            · by_cases e : j = i
              · subst e
                rw [Dfs.upd_same, HDI.out]
                rfl
              · rw [Dfs.upd_ne _ _ (fun e2 => e (HP3.out.inj j i (by omega) him e2))]
                exact HD.out j (by omega)
            · rw [Dfs.upd_ne _ _ (fun e2 => hb i (by omega) e2.symm)]
              exact HD2.out b (fun j hj => hb j (by omega))
          case measure => simp [intOf]; omega
      · have ei : i = m := by omega
        subst ei
        have hbt := (below_up (below_up HB0.out HE3.out) HB.out).trans (HK.out.below (below_up (below_up HB0.out HE3.out) HB.out).size (fun k e => by
          have := HB0.out.size
          have := HB2.out.size
          omega))
        have HBT := hid' hbt
        have hqw : w.heap.size ≤ q := by
          have := HB0.out.size
          have := HB2.out.size
          omega
        clear hR hK hD hD2 hbt hwq
        go_wp2_with fail
        go_ret
        exact ⟨q, D, rfl, hqw, HR.out, dom_ok hn HP1.out HW2.out.lt hmet ht HD0.out HDD.out HD.out (fun b _ hb => HD2.out b hb), HBT.out⟩
end Go.Proofs.Ytgkaeoieclegjaa
