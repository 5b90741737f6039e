/- Frontiers: the walk. -/
import Derived.Test.YtgkaeoieclegjaaFg
namespace Go.Proofs.Ytgkaeoieclegjaa
open Go Go.RowKit Go.Maps
set_option linter.unusedVariables false
set_option linter.unusedSimpArgs false
/-- Those that the first i predecessors give b. -/
def Got (bl : List Bl) (b : Nat) (pl : List Int) (i : Nat) (a : Nat) : Prop := ∃ j p : Nat, j < i ∧ pl[j]? = some (p : Int) ∧ Ch bl b p a
theorem got_all {bl : List Bl} {b a : Nat} (hb : b < bl.length) (hn : 0 < bl.length) : Got bl b ((rpF bl).getD b []) ((rpF bl).getD b []).length a ↔ InF bl a b := by
  rw [inF_ch hb]
  constructor
  · rintro ⟨j, p, hj, hp, hc⟩
    obtain ⟨m, h1, h2, h3, h4⟩ := (rpF_mem bl hb).1 (List.mem_of_getElem? hp)
    obtain rfl : p = m := by omega
    exact ⟨p, h1, h3, hc⟩
  · rintro ⟨m, h1, h2, hc⟩
    have hm : (m : Int) ∈ (rpF bl).getD b [] := (rpF_mem bl hb).2 ⟨m, h1, rfl, h2, (reach_way hn).2 hc.1.2.1⟩
    obtain ⟨j, hj, e⟩ := List.getElem_of_mem hm
    exact ⟨j, m, hj, by rw [List.getElem?_eq_getElem hj, e], hc⟩
theorem got_next {bl : List Bl} {b i p : Nat} {pl : List Int} (hp : pl[i]? = some (p : Int)) (a : Nat) : Got bl b pl (i + 1) a ↔ Got bl b pl i a ∨ Ch bl b p a := by
  constructor
  · rintro ⟨j, q, hj, hq, hc⟩
    by_cases e : j = i
    · subst e
      rw [hp] at hq
      injection hq with hq
      obtain rfl : p = q := by omega
      exact .inr hc
    · exact .inl ⟨j, q, by omega, hq, hc⟩
  · rintro (⟨j, q, hj, hq, hc⟩ | hc)
    · exact ⟨j, q, by omega, hq, hc⟩
    · exact ⟨i, p, by omega, hp, hc⟩
set_option maxRecDepth 20000 in
set_option maxHeartbeats 16000000 in
theorem front17 {w : World} {f : Fn} (h : Fn.ok w f) : Calls Try.prog 17 #[f.val] w (FrR f.blocks w) := by
  have H32 : Hid (∀ W, Below w.heap.size w W → _) := fun W hW => isGreat32 (h.on hW)
  have H10 : Hid (∀ W, Below w.heap.size w W → Calls Try.prog 10 #[f.val] W (DomsR f.blocks W)) := fun W hW => doms10a (h.on hW)
  have H28 : Hid (∀ W, Below w.heap.size w W → Calls Try.prog 28 #[f.val] W (RpR f.blocks W)) := fun W hW => rpreds28 (h.on hW)
  have hbl := h.bl
  obtain ⟨nm, ps, rs, sl, bv, bl⟩ := f
  obtain ⟨bo, bc, eb⟩ := h.b.len
  dsimp only at *
  subst eb
  have hbl2 := hbl
  unfold big at hbl
  unfold Fn.val at *
  dsimp only at *
  clear h
  obtain ⟨w0, ew0⟩ : ∃ w0, w0 = w.alloc (.cells #[.string nm, .int .i64 ps, .int .i64 rs, .int .i64 sl, .slice bo bl.length bc] 24) := ⟨_, rfl⟩
  have HW0 := hid' ew0
  have HB0 : Hid (Below w.heap.size w w0) := by unfold Hid; rw [ew0]; exact below1 _ _
  have HBX : Hid (∀ W, Below w0.heap.size w0 W → _) := fun W hW => fbox (w := w) (W := W) (by rw [← ew0]; exact hW)
  clear ew0
  go_enter Try.func17, Try.ntmps17
  go_upto_region 1 with fail
  rw [← HW0.out]
  obtain ⟨_, _, i0, i1, i2, i3, i4⟩ := HBX.out w0 (Below.refl _ _)
  have h32 := hid' (H32.out w0 HB0.out)
  go_upto_region 3 with (go_at_call 32; refine h32.out.mono ?_; rintro e1 w1 ⟨R, rfl, hb1, hR⟩; have HB1 := hid' hb1; have HR := hid' hR; clear hb1 hR; cases R)
  rotate_left 1
  · go_wp2_with fail
    go_ret
    exact .inl ⟨rfl, fun h => (by have := HR.out h.1 h.2; cases this), below_up HB0.out HB1.out⟩
  · obtain ⟨_, _, j0, j1, j2, j3, j4⟩ := HBX.out w1 HB1.out
    clear i0 i1 i2 i3 i4 HR h32
    go_upto_region 4 with (go_at_call 10; refine (H10.out _ (below_up HB0.out HB1.out)).mono ?_; rintro e1 w3 ⟨q, D, rfl, hq, hRI, hDO, hb3⟩; have HRI := hid' hRI; have HDO := hid' hDO; have HB3 := hid' (below_up HB1.out hb3); clear hq hRI hDO hb3)
    obtain ⟨wa, hma, hpa, hba, hsa⟩ := make_sl w3 (base := w3.heap.size) hbl2 (Nat.le_refl _)
    obtain ⟨_, _, k0, k1, k2, k3, k4⟩ := HBX.out w3 HB3.out
    have HPA := hid' hpa
    have HBA := hid' (below_up HB3.out hba)
    have HRIA := hid' (HRI.out.on hba)
    have hqB := HRI.out.lt
    clear j0 j1 j2 j3 j4 hpa hba
    go_upto_region 5 with fail
    obtain ⟨_, _, j0, j1, j2, j3, j4⟩ := HBX.out wa HBA.out
    clear k0 k1 k2 k3 k4 hma
    go_upto_region 6 with (go_at_call 28; refine (H28.out _ (below_up HB0.out HBA.out)).mono ?_; rintro e1 wb ⟨rg, vr, rfl, hpr, hbb⟩; have HPR := hid' hpr; have HBB := hid' hbb; clear hpr hbb)
    have hsB : wa.heap.size = w3.heap.size + 1 := hsa
    have hrl : (rpF bl).length = bl.length := by unfold rpF; rw [List.length_map, predsF_len]
    have hst : FrI bl.length wa wb w3.heap.size w3.heap.size (fun a => inL (InF bl a) 0) (List.replicate bl.length svz) wb := by
      refine ⟨?_, fun j hj b hb => ?_, Kept.rfl _ _, HBB.out.mono (by omega)⟩
      · have h1 := HPA.out.on HBB.out
        have e : (List.range bl.length).map (fun a => inL (InF bl a) 0) = List.replicate bl.length [] := by
          refine List.ext_getElem (by simp) (fun i h1 h2 => by simp [inL_zero])
        rw [e]
        exact h1
      · rw [List.getElem_replicate] at hb
        cases hb
    have HST := hid' hst
    have HWA := hid' (below_up HB0.out HBA.out)
    obtain ⟨num, hnum⟩ := HDO.out.fall
    have HNUM := hid' hnum
    clear hst hnum j0 j1 j2 j3 j4 HPA HRI
    go_wp2_with fail
    go_loopw [20] (fun iv wr => ∃ (b : Nat) (vs : List Value), b ≤ bl.length ∧ iv = .int .i64 b ∧ FrI bl.length wa wb w3.heap.size w3.heap.size (fun a => inL (InF bl a) b) vs wr) (fun iv _ => bl.length - (intOf iv).toNat)
    case atStart => exact ⟨0, _, Nat.zero_le _, rfl, HST.out⟩
    case round =>
      obtain ⟨b, vs, hb, rfl, hF⟩ := hrel
      have HF := hid' hF
      clear hF
      by_cases hbn : b < bl.length
      · have hPr := HPR.out.keptB HF.out.kept
        obtain ⟨ao, cap, ev, hc0, _⟩ := hPr.read (k := b) (by omega)
        have hv : b < vr.length := by rw [HPR.out.len]; omega
        have HS : Hid (∀ W, Kept (fun k => k < wa.heap.size) wb W → Src icell W (.slice ao (rpF bl)[b].length cap) (rpF bl)[b]) := fun W hK => by
          have h1 := Own.src ic1 ((HPR.out.keptB hK).el b hv (by omega))
          rw [ev] at h1
          exact h1
        have epl : (rpF bl).getD b [] = (rpF bl)[b] := by simp [hrl, hbn]
        have HALL := hid' (fun a => got_all (bl := bl) (b := b) (a := a) hbn (by omega))
        have HPM : Hid (∀ x ∈ (rpF bl)[b], ∃ m : Nat, m < bl.length ∧ x = m ∧ (b : Int) ∈ succN bl m ∧ reN bl m = true) := fun x hx => (rpF_mem bl hbn).1 (by rw [epl]; exact hx)
        rw [epl] at HALL
        have hpll : (rpF bl)[b].length * 8 ≤ 140737488351232 := by
          have h1 : b < (predsF bl).length := by rw [predsF_len]; exact hbn
          have h2 := predsF_bound bl (List.getElem_mem h1)
          have e : (rpF bl)[b] = keepF (reN bl) ((predsF bl)[b]) := by unfold rpF; simp
          rw [e]
          have h3 := keepF_len (reN bl) ((predsF bl)[b])
          omega
        clear hPr ev epl
        generalize (rpF bl)[b]'(by omega) = pl at *
        go_wp2_with fail
        go_loopw [27] (fun jv wr2 => ∃ (i : Nat) (vs : List Value), i ≤ pl.length ∧ jv = .int .i64 i ∧ FrI bl.length wa wb w3.heap.size w3.heap.size (frF bl b (Got bl b pl i)) vs wr2) (fun jv _ => pl.length - (intOf jv).toNat)
        case atStart =>
          refine ⟨0, vs, Nat.zero_le _, rfl, ?_⟩
          have h1 := HF.out
          have e : (List.range bl.length).map (fun a => inL (InF bl a) b) = (List.range bl.length).map (frF bl b (Got bl b pl 0)) := by
            rw [frF_begin]
            exact frF_congr fun a _ => ⟨fun h => h.elim, fun ⟨j, _, hj, _⟩ => by omega⟩
          exact ⟨by rw [← e]; exact h1.pm, h1.ap, h1.kept, h1.below⟩
        case round =>
          obtain ⟨i, vs, hi, rfl, hF⟩ := hrel
          have HF := hid' hF
          clear hF hc0
          by_cases hil : i < pl.length
          · obtain ⟨aoS, capS, eS, hcS⟩ := (HS.out _ HF.out.kept).ints
            injection eS with eS1 _ eS3
            subst eS1 eS3
            obtain ⟨pb, poff, rfl, _, hple, hpcell⟩ := hcS i hil
            have q0 := hpcell wr (Below.refl _ _)
            obtain ⟨p, hpn, ep, hpe, hpr⟩ := HPM.out _ (List.getElem_mem hil)
            rw [ep] at q0
            have hpi : pl[i]? = some (p : Int) := by rw [List.getElem?_eq_getElem hil, ep]
            have hway : WayB bl p := (reach_way (by omega)).1 hpr
            have HRUN := hid' (Run.begin HDO.out hbn hpn hway hpe)
            have HNX := hid' (got_next (bl := bl) (b := b) hpi)
            have hwb : WayB bl b := .snoc hway (toL_mem.2 ⟨hbn, hpe⟩) trivial
            have HWB := hid' hwb
            clear hcS hpcell ep hpe hpr hpi hway hwb
            go_wp2_with fail
            go_loopw [8] (fun av wr3 => ∃ (o : Option Nat) (vs : List Value), av = .int .i64 (oi o) ∧ Run bl D b p o ∧ FrI bl.length wa wb w3.heap.size w3.heap.size (frF bl b (fun x => Got bl b pl i x ∨ Past bl b p o x)) vs wr3) (fun av _ => if intOf av < 0 then 0 else num (intOf av).toNat + 1)
            case atStart =>
              refine ⟨some p, vs, rfl, HRUN.out, ?_⟩
              have h1 := HF.out
              have e : (List.range bl.length).map (frF bl b (Got bl b pl i)) = (List.range bl.length).map (frF bl b (fun x => Got bl b pl i x ∨ Past bl b p (some p) x)) := frF_congr fun a _ => ⟨.inl, fun h => h.elim id (fun h => absurd h past_none)⟩
              exact ⟨by rw [← e]; exact h1.pm, h1.ap, h1.kept, h1.below⟩
            case round =>
              obtain ⟨o, vs, rfl, hRun, hF⟩ := hrel
              have HF := hid' hF
              have HRun := hid' hRun
              clear hF hRun
              have hrow : RowI wr q bl.length (fun b => oi (D b)) := World.rowIs.of_block HRIA.out (HF.out.below.block q hqB)
              have hdb := hrow.cell hbn
              have hFI : FrI bl.length wa wb w3.heap.size w3.heap.size (frF bl b (fun x => Got bl b pl i x ∨ Past bl b p o x)) vs wr := HF.out
              by_cases hoD : o = D b
              · have t1 : (oi o != oi (D b)) = false := by rw [hoD]; simp
                have HFE : Hid (FrI bl.length wa wb w3.heap.size w3.heap.size (frF bl b (Got bl b pl (i + 1))) vs wr) := by
                  have e : (List.range bl.length).map (frF bl b (fun x => Got bl b pl i x ∨ Past bl b p o x)) = (List.range bl.length).map (frF bl b (Got bl b pl (i + 1))) := frF_congr fun a ha => by
                    rw [HNX.out a, hoD, Run.done HDO.out hbn ha]
                  exact ⟨by rw [← e]; exact hFI.pm, hFI.ap, hFI.kept, hFI.below⟩
                clear hoD hrow hFI
                generalize oi o = ov at *
                generalize oi (D b) = ob at *
                go_wp2_with fail
                go_roundw
                case rel => exact ⟨i + 1, vs, by omega, by go_num, HFE.out⟩
                case measure => simp [intOf]; omega
              · have hex : ∃ c, o = some c := by
                  cases ho : o with
                  | some c => exact ⟨c, rfl⟩
                  | none =>
                    exfalso
                    cases hD : D b with
                    | none => exact hoD (by rw [ho, hD])
                    | some d =>
                      obtain ⟨c, e, _⟩ := HRun.out.dom d hD
                      rw [ho] at e
                      cases e
                obtain ⟨c, rfl⟩ := hex
                obtain ⟨hcn, hcp⟩ := HRun.out.up c rfl
                have t1 : ((c : Int) != oi (D b)) = true := bne_iff_ne.2 fun e => hoD (oi_inj (by rw [oi_some]; exact e))
                have hqc := hrow.cell hcn
                obtain ⟨hst1, hst2, hst3⟩ := Run.step HDO.out hbn HWB.out HRun.out hoD
                have HST1 := hid' hst1
                have HST3 := hid' hst3
                obtain ⟨ao', cp', b7, cap7, w7, hc7, hs7, hr7, hg7, hf7, hF7, hb7⟩ := hFI.push (c := c) (x := (b : Int)) hcn (Nat.le_trans frF_len (by omega)) hbl2 (by omega) (by omega) HBB.out.size
                have h33 := oends33 hs7 (by have := frF_len (bl := bl) (b := b) (a := c) (S := fun x => Got bl b pl i x ∨ Past bl b p (some c) x); unfold big; omega) (b : Int)
                have hlen : (frF bl b (fun x => Got bl b pl i x ∨ Past bl b p (some c) x) c).length ≤ 4398046511104 := Nat.le_trans frF_len (by omega)
                rw [oi_some]
                generalize oi (D b) = ob at *
                by_cases hin : Got bl b pl i c ∨ Past bl b p (some c) c
                · rw [decide_eq_true (frF_last.2 hin)] at h33
                  have H33 := hid' h33
                  have HFE : Hid (FrI bl.length wa wb w3.heap.size w3.heap.size (frF bl b (Got bl b pl (i + 1))) vs wr) := by
                    have hgc : Got bl b pl i c := hin.resolve_right fun h => h.2 c rfl (tab_self hcp.1)
                    have e : (List.range bl.length).map (frF bl b (fun x => Got bl b pl i x ∨ Past bl b p (some c) x)) = (List.range bl.length).map (frF bl b (Got bl b pl (i + 1))) := frF_congr fun a ha => by
                      rw [HNX.out a]
                      constructor
                      · rintro (h | h)
                        · exact .inl h
                        · exact .inr h.1
                      · rintro (h | h)
                        · exact .inl h
                        · by_cases ht : TabB bl a c
                          · obtain ⟨j, q', hj, hq', hc'⟩ := hgc
                            exact .inl ⟨j, q', hj, hq', ch_up hc' h ht⟩
                          · exact .inr ⟨h, fun c' e => by injection e with e; subst e; exact ht⟩
                    exact ⟨by rw [← e]; exact hFI.pm, hFI.ap, hFI.kept, hFI.below⟩
                  clear hin hr7 hg7 hf7 hF7 hb7 hst1 hst2 hst3 hrow hqc hFI hs7 h33
                  generalize (frF bl b (fun x => Got bl b pl i x ∨ Past bl b p (some c) x) c).length = fl at *
                  go_wp2_with (go_at_call 33; refine H33.out.mono ?_; rintro e1 w9 ⟨rfl, rfl⟩)
                  go_roundw
                  case rel => exact ⟨i + 1, vs, by omega, by go_num, HFE.out⟩
                  case measure => simp [intOf]; omega
                · rw [decide_eq_false (fun h => hin (frF_last.1 h))] at h33
                  have H33 := hid' h33
                  have HFN : Hid (∃ vs', FrI bl.length wa wb w3.heap.size w3.heap.size (frF bl b (fun x => Got bl b pl i x ∨ Past bl b p (D c) x)) vs' (w7.setCell ⟨w3.heap.size, c, none⟩ (.slice (some ⟨b7, 0, none⟩) ((frF bl b (fun x => Got bl b pl i x ∨ Past bl b p (some c) x) c).length + 1) cap7))) := by
                    obtain ⟨vs', h1⟩ := hF7
                    rw [frF_push hin] at h1
                    have e : (List.range bl.length).map (frF bl b (fun x => (Got bl b pl i x ∨ Past bl b p (some c) x) ∨ x = c)) = (List.range bl.length).map (frF bl b (fun x => Got bl b pl i x ∨ Past bl b p (D c) x)) := frF_congr fun a ha => by
                      rw [HST3.out a ha, or_assoc]
                    exact ⟨vs', by rw [← e]; exact h1.pm, h1.ap, h1.kept, h1.below⟩
                  have HR7 := hid' (hr7 26)
                  have hrow7 : RowI w7 q bl.length (fun b => oi (D b)) := World.rowIs.of_block HRIA.out ((HF.out.below.trans hb7).block q hqB)
                  have hq7 := hrow7.cell hcn
                  have hqg : q ≠ w3.heap.size := by omega
                  have hqg2 := Ne.symm hqg
                  have HMS : Hid ((if intOf (.int .i64 (oi (D c))) < 0 then 0 else num (intOf (.int .i64 (oi (D c)))).toNat + 1) < num c + 1) := by
                    unfold Hid
                    cases hD : D c with
                    | none => simp [oi_none, intOf]
                    | some d =>
                      have := HNUM.out c d hcn hD
                      rw [oi_some]
                      have h1 : ¬ (intOf (.int .i64 (d : Int)) < 0) := by simp [intOf]
                      rw [if_neg h1]
                      simp [intOf]
                      exact this
                  clear hin hr7 hF7 hb7 hst1 hst2 hst3 hrow hFI hs7 h33 hrow7 hqc
                  generalize (frF bl b (fun x => Got bl b pl i x ∨ Past bl b p (some c) x) c).length = fl at *
                  generalize hod : oi (D c) = od at *
                  have HOD := hid' hod
                  clear hod
                  go_wp2_with (first | (go_at_call 33; refine H33.out.mono ?_; rintro e1 w9 ⟨rfl, rfl⟩) | (at_builtin; refine of_mark ?_))
                  unfold Mark
                  refine wpList_append_run rfl (.tmp 51) (.tmp 53) rfl (.slice ao' fl cp') (.slice (some ⟨w9.heap.size, 0, none⟩) 1 1) _ (by rfl) (by rfl) HR7.out ?_
                  go_wp2_with fail
                  go_roundw
                  case rel =>
                    obtain ⟨vs', h1⟩ := HFN.out
                    exact ⟨D c, vs', by rw [HOD.out], HST1.out, h1⟩
                  case measure =>
                    have h1 : ¬ (intOf (.int .i64 (c : Int)) < 0) := by simp [intOf]
                    rw [if_neg h1]
                    exact HMS.out
          · have e : i = pl.length := by omega
            subst e
            have HFE : Hid (FrI bl.length wa wb w3.heap.size w3.heap.size (fun a => inL (InF bl a) (b + 1)) vs wr) := by
              have h1 := HF.out
              exact ⟨by rw [← frF_end (fun a _ => HALL.out a)]; exact h1.pm, h1.ap, h1.kept, h1.below⟩
            go_wp2_with fail
            go_roundw
            case rel => exact ⟨b + 1, vs, by omega, by go_num, HFE.out⟩
            case measure => simp [intOf]; omega
      · have e : b = bl.length := by omega
        subst e
        have hfin : Below w.heap.size w wr := HWA.out.trans (HF.out.below.mono (Nat.le_trans HB0.out.size HB3.out.size))
        go_wp2_with fail
        go_ret
        exact .inr ⟨w3.heap.size, w3.heap.size, vs, rfl, HF.out.pm, hfin⟩
end Go.Proofs.Ytgkaeoieclegjaa
