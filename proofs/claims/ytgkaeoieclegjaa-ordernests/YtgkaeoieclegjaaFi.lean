/- The document's Frontiers. -/
import Derived.Test.YtgkaeoieclegjaaFg
import Derived.BigQuiet
namespace Go.Proofs.Ytgkaeoieclegjaa
open Go Go.RowKit Go.Maps
set_option linter.unusedVariables false
set_option linter.unusedSimpArgs false
/-- The lists, in the round of a and b. -/
noncomputable def gF (bl : List Bl) (a b x : Nat) : List Int := if x < a then inL (InF bl x) bl.length else if x = a then inL (InF bl a) b else []
theorem gF_at {bl : List Bl} {a b : Nat} : gF bl a b a = inL (InF bl a) b := by unfold gF; rw [if_neg (Nat.lt_irrefl a), if_pos rfl]
theorem gF_yes {bl : List Bl} {a b : Nat} (h : InF bl a b) : Dfs.upd (gF bl a b) a (gF bl a b a ++ [(b : Int)]) = gF bl a (b + 1) := by
  funext x
  by_cases e : x = a
  · subst e
    rw [Dfs.upd_same, gF_at, gF_at, inL_yes h]
  · rw [Dfs.upd_ne _ _ e]
    unfold gF
    rw [if_neg e, if_neg e]
theorem gF_no {bl : List Bl} {a b : Nat} (h : ¬ InF bl a b) : gF bl a b = gF bl a (b + 1) := by
  funext x
  unfold gF
  rw [inL_no h]
theorem gF_next {bl : List Bl} {a : Nat} : gF bl a bl.length = gF bl (a + 1) 0 := by
  funext x
  unfold gF
  by_cases h1 : x < a
  · rw [if_pos h1, if_pos (by omega)]
  · by_cases h2 : x = a
    · rw [if_neg h1, if_pos h2, if_pos (by omega), h2]
    · rw [if_neg h1, if_neg h2, if_neg (by omega)]
      split
      · rfl
      · rfl
theorem gF_zero {bl : List Bl} : (List.range bl.length).map (gF bl 0 0) = List.replicate bl.length [] := by
  refine List.ext_getElem (by simp) (fun i h1 h2 => ?_)
  simp only [List.getElem_map, List.getElem_range, List.getElem_replicate]
  unfold gF
  rw [if_neg (Nat.not_lt_zero i)]
  split
  · rfl
  · rfl
theorem gF_last {bl : List Bl} : (List.range bl.length).map (gF bl bl.length 0) = (List.range bl.length).map (fun a => inL (InF bl a) bl.length) :=
  List.map_congr_left fun a ha => by
    unfold gF
    rw [if_pos (List.mem_range.1 ha)]
/-- One of the first i predecessors is dominated. -/
def Sm (bl : List Bl) (a : Nat) (pl : List Int) (i : Nat) : Prop := ∃ j p : Nat, j < i ∧ pl[j]? = some (p : Int) ∧ TabB bl a p
theorem sm_next {bl : List Bl} {a i p : Nat} {pl : List Int} (hp : pl[i]? = some (p : Int)) : Sm bl a pl (i + 1) ↔ Sm bl a pl i ∨ TabB bl a p := by
  constructor
  · rintro ⟨j, q, hj, hq, hc⟩
    by_cases e : j = i
    · subst e
      rw [hp] at hq
      injection hq with hq
      obtain rfl : p = q := by omega
      exact .inr hc
    · exact .inl ⟨j, q, by omega, hq, hc⟩
  · rintro (⟨j, q, hj, hq, hc⟩ | hc)
    · exact ⟨j, q, by omega, hq, hc⟩
    · exact ⟨i, p, by omega, hp, hc⟩
theorem sm_all {bl : List Bl} {a b : Nat} (hb : b < bl.length) : Sm bl a ((predsF bl).getD b []) ((predsF bl).getD b []).length ↔ ∃ m : Nat, m < bl.length ∧ (b : Int) ∈ succN bl m ∧ TabB bl a m := by
  constructor
  · rintro ⟨j, p, hj, hp, hc⟩
    obtain ⟨m, h1, h2, h3⟩ := (predsF_mem bl hb).1 (List.mem_of_getElem? hp)
    obtain rfl : p = m := by omega
    exact ⟨p, h1, h3, hc⟩
  · rintro ⟨m, h1, h2, hc⟩
    have hm : (m : Int) ∈ (predsF bl).getD b [] := (predsF_mem bl hb).2 ⟨m, h1, rfl, h2⟩
    obtain ⟨j, hj, e⟩ := List.getElem_of_mem hm
    exact ⟨j, m, hj, by rw [List.getElem?_eq_getElem hj, e], hc⟩
theorem FrI.on {n : Nat} {wa wb : World} {B g : Nat} {F : Nat → List Int} {vs : List Value} {W W' : World} (h : FrI n wa wb B g F vs W) (hB : B ≤ wa.heap.size) (hb : Below W.heap.size W W') : FrI n wa wb B g F vs W' :=
  ⟨h.pm.on hb, h.ap, h.kept.trans (Kept.of_below hb), below_on h.below hb (Nat.le_trans hB h.below.size)⟩
theorem inF_yes {bl : List Bl} {a b : Nat} {s r t : Bool} (hn : 0 < bl.length) (hs : s = true ↔ ∃ m : Nat, m < bl.length ∧ (b : Int) ∈ succN bl m ∧ TabB bl a m) (hr : r = reN bl b) (ht : t = true ↔ TabB bl a b) : (s && (r && (decide (a = b) || !t))) = true ↔ InF bl a b := by
  have h1 := reach_way (bl := bl) hn (b := b)
  rw [← hr] at h1
  unfold InF
  rw [← hs, ← h1, ← ht]
  simp only [Bool.and_eq_true, Bool.or_eq_true, decide_eq_true_eq, Bool.not_eq_true', Bool.not_eq_true]
/-- What the document's Frontiers tells. -/
def FdR (bl : List Bl) (w : World) (e : Ending) (w' : World) : Prop :=
  ∃ (g B : Nat) (vs : List Value), e = .returned (.slice (some ⟨g, 0, none⟩) bl.length bl.length) ∧ PM w' B g vs ((List.range bl.length).map (fun a => inL (InF bl a) bl.length)) ∧ Below w.heap.size w w'
set_option maxRecDepth 20000 in
set_option maxHeartbeats 16000000 in
theorem front19 {w : World} {f : Fn} (h : Fn.ok w f) : Calls Try.prog 19 #[f.val] w (FdR f.blocks w) := by
  have H15 : Hid (∀ W, Below w.heap.size w W → Calls Try.prog 15 #[f.val] W (TabR f.blocks W)) := fun W hW => table15 (h.on hW)
  have H24 : Hid (∀ W, Below w.heap.size w W → Calls Try.prog 24 #[f.val] W (RchR f.blocks W)) := fun W hW => reached17 (h.on hW)
  have H34 : Hid (∀ W, Below w.heap.size w W → Calls Try.prog 34 #[f.val] W (PredR f.blocks W)) := fun W hW => preds15 (h.on hW)
  have hbl := h.bl
  obtain ⟨nm, ps, rs, sl, bv, bl⟩ := f
  obtain ⟨bo, bc, eb⟩ := h.b.len
  dsimp only at *
  subst eb
  have hbl2 := hbl
  unfold big at hbl
  unfold Fn.val at *
  dsimp only at *
  clear h
  obtain ⟨w0, ew0⟩ : ∃ w0, w0 = w.alloc (.cells #[.string nm, .int .i64 ps, .int .i64 rs, .int .i64 sl, .slice bo bl.length bc] 24) := ⟨_, rfl⟩
  have HW0 := hid' ew0
  have HB0 : Hid (Below w.heap.size w w0) := by unfold Hid; rw [ew0]; exact below1 _ _
  have HBX : Hid (∀ W, Below w0.heap.size w0 W → _) := fun W hW => fbox (w := w) (W := W) (by rw [← ew0]; exact hW)
  clear ew0
  go_enter Try.func19, Try.ntmps19
  go_upto_region 1 with fail
  rw [← HW0.out]
  obtain ⟨_, _, i0, i1, i2, i3, i4⟩ := HBX.out w0 (Below.refl _ _)
  go_upto_region 2 with (go_at_call 15; refine (H15.out _ HB0.out).mono ?_; rintro e1 w1 ⟨tg, tcap, gs, t, rfl, htc, hT, ht, hb1⟩; have HT := hid' hT; have Ht := hid' ht; have HB1 := hid' hb1; clear hT ht hb1)
  obtain ⟨_, _, j0, j1, j2, j3, j4⟩ := HBX.out w1 HB1.out
  clear i0 i1 i2 i3 i4
  go_upto_region 3 with (go_at_call 24; refine (H24.out _ (below_up HB0.out HB1.out)).mono ?_; rintro e1 w2 ⟨ra, rcap, rfl, hsrc, hb2, hge, B0, hown⟩; have HRO := hid' hown; have HB2 := hid' (below_up HB1.out hb2); have HT2 := hid' (HT.out.on hb2); clear hsrc hb2 hge hown)
  obtain ⟨_, _, i0, i1, i2, i3, i4⟩ := HBX.out w2 HB2.out
  clear j0 j1 j2 j3 j4
  go_upto_region 4 with (go_at_call 34; refine (H34.out _ (below_up HB0.out HB2.out)).mono ?_; rintro e1 w3 ⟨pg, vp, rfl, hP, hb3⟩; have HP := hid' hP; have HB3 := hid' (below_up HB2.out hb3); have HT3 := hid' (HT2.out.on hb3); have HRO3 := hid' ((Kept.of_below (S := fun _ => False) hb3).owns HRO.out (fun _ _ e => e)); clear hP hb3)
  obtain ⟨_, _, j0, j1, j2, j3, j4⟩ := HBX.out w3 HB3.out
  clear i0 i1 i2 i3 i4
  obtain ⟨w4, hm4, hp4, hb4, hs4⟩ := make_sl w3 (base := w3.heap.size) hbl2 (Nat.le_refl _)
  have HP4 := hid' hp4
  have HB4 := hid' (below_up HB3.out hb4)
  have hst : FrI bl.length w4 w4 w3.heap.size w3.heap.size (gF bl 0 0) (List.replicate bl.length svz) w4 := by
    refine ⟨by rw [gF_zero]; exact hp4, fun j hj b hb => by omega, Kept.rfl _ _, Below.refl _ _⟩
  have HST := hid' hst
  have HX4 : Hid (Below w3.heap.size w3 w4) := hb4
  have hrl := reach_len bl
  have HRL := hid' hrl
  have hppl : (predsF bl).length = bl.length := predsF_len bl
  clear hst hp4 hb4 hrl
  go_wp2_with fail
  go_loopw [7] (fun iv wr => ∃ (a : Nat) (vs : List Value), a ≤ bl.length ∧ iv = .int .i64 a ∧ FrI bl.length w4 w4 w3.heap.size w3.heap.size (gF bl a 0) vs wr) (fun iv _ => bl.length - (intOf iv).toNat)
  case atStart => exact ⟨0, _, Nat.zero_le _, rfl, HST.out⟩
  case round =>
    obtain ⟨a, vs, ha, rfl, hF⟩ := hrel
    have HF := hid' hF
    have h3r : Below w3.heap.size w3 wr := HX4.out.trans hF.below
    obtain ⟨_, _, c0, c1, c2, c3, c4⟩ := HBX.out wr (below_up HB3.out h3r)
    clear hF
    by_cases han : a < bl.length
    · go_wp2_with fail
      go_loopw [8] (fun iv wr => ∃ (b : Nat) (vs : List Value), b ≤ bl.length ∧ iv = .int .i64 b ∧ FrI bl.length w4 w4 w3.heap.size w3.heap.size (gF bl a b) vs wr) (fun iv _ => bl.length - (intOf iv).toNat)
      case atStart => exact ⟨0, vs, Nat.zero_le _, rfl, HF.out⟩
      case round =>
        obtain ⟨b, vs, hb, rfl, hF⟩ := hrel
        have HF := hid' hF
        have h3r : Below w3.heap.size w3 wr := HX4.out.trans hF.below
        have H3R := hid' h3r
        obtain ⟨_, _, d0, d1, d2, d3, d4⟩ := HBX.out wr (below_up HB3.out h3r)
        clear hF h3r c0 c1 c2 c3 c4
        by_cases hbn : b < bl.length
        · have HPR := hid' (HP.out.on H3R.out)
          obtain ⟨ao, cap, ev, hc0, hsp⟩ := HPR.out.read (k := b) (by omega)
          have epl : (predsF bl).getD b [] = (predsF bl)[b] := by simp [hppl, hbn]
          have HALL := hid' (sm_all (bl := bl) (a := a) (b := b) hbn)
          have HPM : Hid (∀ x ∈ (predsF bl)[b], ∃ m : Nat, m < bl.length ∧ x = m ∧ (b : Int) ∈ succN bl m) := fun x hx => (predsF_mem bl hbn).1 (by rw [epl]; exact hx)
          rw [epl] at HALL
          have hpll : (predsF bl)[b].length ≤ 2199023255552 := by
            have h2 := predsF_bound bl (List.getElem_mem (by omega : b < (predsF bl).length))
            omega
          have HSP := hid' hsp
          obtain ⟨rb, rbc, era, hrb, hrble, hrbcell⟩ := own_cells4 HRO3.out HRL.out (by omega)
          subst era
          have HRE : Hid (∀ j, j < bl.length → wr.cell? ⟨rb, j, none⟩ = some (.bool (reN bl j))) := fun j hj => keep_cell (hrbcell j hj) H3R.out
          have HTW := hid' (HT3.out.on H3R.out)
          clear epl hsp ev hrb hrbcell
          generalize (predsF bl)[b]'(by omega) = pl at *
          go_wp2_with fail
          go_loopw [9, 10] (fun sv iv wr2 => ∃ (s : Bool) (i : Nat), i ≤ pl.length ∧ sv = .bool s ∧ iv = .int .i64 i ∧ (s = true ↔ Sm bl a pl i) ∧ Below wr.heap.size wr wr2) (fun _ iv _ => pl.length - (intOf iv).toNat)
          case atStart => exact ⟨false, 0, Nat.zero_le _, rfl, rfl, ⟨fun h => (by cases h), fun ⟨j, _, hj, _⟩ => by omega⟩, Below.refl _ _⟩
          case round =>
            obtain ⟨s, i, hi, rfl, rfl, hs, hb5⟩ := hrel
            have HSM := hid' hs
            have HB5 := hid' hb5
            have r0 := keep_cell hc0 hb5
            have r1 := keep_cell (HTW.out.out a han) hb5
            clear hs hb5 d0 d1 d2 d3 d4
            by_cases hil : i < pl.length
            · obtain ⟨aoS, capS, eS, hcS⟩ := (HSP.out.on HB5.out).ints
              injection eS with eS1 _ eS3
              subst eS1 eS3
              obtain ⟨pb, poff, rfl, _, hple, hpcell⟩ := hcS i hil
              have q0 := hpcell wr (Below.refl _ _)
              obtain ⟨p, hpn, ep, hpe⟩ := HPM.out _ (List.getElem_mem hil)
              rw [ep] at q0
              have hpi : pl[i]? = some (p : Int) := by rw [List.getElem?_eq_getElem hil, ep]
              have HNX := hid' (sm_next (bl := bl) (a := a) hpi)
              have q1 := keep_cell (HRE.out p hpn) HB5.out
              have q2 := keep_cell ((HTW.out.row a han).cell hpn) HB5.out
              have HTP := hid' (Ht.out a p han hpn)
              have HRP := hid' (reach_way (bl := bl) (by omega) (b := p))
              clear hcS hpcell ep hpe hpi
              cases s with
              | true =>
                have HN : Hid (Sm bl a pl (i + 1)) := HNX.out.2 (.inl (HSM.out.1 rfl))
                clear q1 q2
                go_wp2_with fail
                go_quiet (fail)
                have HB6 := hid' (bdrew HB5.out nq)
                go_wp2_with fail
                go_roundw
                case rel => exact ⟨true, i + 1, by omega, rfl, by go_num, ⟨fun _ => HN.out, fun _ => by first | rfl | trivial⟩, HB6.out⟩
                case measure => simp [intOf]; omega
              | false =>
                have hns : ¬ Sm bl a pl i := fun h => by have := HSM.out.2 h; cases this
                cases hre : reN bl p with
                | false =>
                  rw [hre] at q1
                  have HN : Hid (false = true ↔ Sm bl a pl (i + 1)) := ⟨fun h => (by cases h), fun h => by
                    rcases HNX.out.1 h with h | h
                    · exact absurd h hns
                    · have := HRP.out.2 h.2.1
                      rw [hre] at this
                      cases this⟩
                  clear q2 hns hre
                  go_wp2_with fail
                  go_quiet (fail)
                  have HB6 := hid' (bdrew HB5.out nq)
                  go_wp2_with fail
                  go_roundw
                  case rel => exact ⟨false, i + 1, by omega, rfl, by go_num, HN.out, HB6.out⟩
                  case measure => simp [intOf]; omega
                | true =>
                  rw [hre] at q1
                  have HN : Hid (t a p = true ↔ Sm bl a pl (i + 1)) := HTP.out.trans ⟨fun h => HNX.out.2 (.inr h), fun h => (HNX.out.1 h).resolve_left hns⟩
                  clear hns hre
                  generalize t a p = tap at *
                  go_wp2_with fail
                  go_quiet (fail)
                  have HB6 := hid' (bdrew HB5.out nq)
                  go_wp2_with fail
                  go_roundw
                  case rel => exact ⟨tap, i + 1, by omega, rfl, by go_num, HN.out, HB6.out⟩
                  case measure => simp [intOf]; omega
            · have e : i = pl.length := by omega
              subst e
              have q1 := keep_cell (HRE.out b hbn) HB5.out
              have q2 := keep_cell ((HTW.out.row a han).cell hbn) HB5.out
              have hFw := HF.out.on (by omega) HB5.out
              have hv := inF_yes (bl := bl) (a := a) (b := b) (by omega) (HSM.out.trans HALL.out) rfl (Ht.out a b han hbn)
              cases s with
              | false =>
                have HFE : Hid (FrI bl.length w4 w4 w3.heap.size w3.heap.size (gF bl a (b + 1)) vs wr) := by
                  have hno : ¬ InF bl a b := fun h => by have := hv.2 h; rw [Bool.false_and] at this; cases this
                  rw [gF_no hno] at hFw
                  exact hFw
                clear hv hFw
                go_wp2_with fail
                go_roundw
                case rel => exact ⟨b + 1, vs, by omega, by go_num, HFE.out⟩
                case measure => simp [intOf]; omega
              | true =>
                cases hre : reN bl b with
                | false =>
                  rw [hre] at q1 hv
                  have HFE : Hid (FrI bl.length w4 w4 w3.heap.size w3.heap.size (gF bl a (b + 1)) vs wr) := by
                    have hno : ¬ InF bl a b := fun h => by have := hv.2 h; simp at this
                    rw [gF_no hno] at hFw
                    exact hFw
                  clear hv hFw
                  go_wp2_with fail
                  go_roundw
                  case rel => exact ⟨b + 1, vs, by omega, by go_num, HFE.out⟩
                  case measure => simp [intOf]; omega
                | true =>
                  rw [hre] at q1 hv
                  by_cases hab : a = b
                  · have t1 : ((a : Int) == b) = true := beq_iff_eq.2 (by omega)
                    have hyes : InF bl a b := hv.1 (by rw [decide_eq_true hab]; rfl)
                    clear hab
                    have hgl : (gF bl a b a).length ≤ bl.length := by
                      rw [gF_at]
                      exact Nat.le_trans (inL_len _ _) (by omega)
                    obtain ⟨ao', cp', b7, cap7, w7, hc7, hs7, hr7, hg7, hf7, hF7, hb7⟩ := hFw.push (c := a) (x := (b : Int)) han hgl hbl2 (by omega) (by omega) (Nat.le_refl _)
                    rw [gF_yes hyes] at hF7
                    have HF7 := hid' hF7
                    have HR7 := hid' (hr7 26)
                    clear hv hFw hyes hF7 hr7 hs7 hb7
                    generalize (gF bl a b a).length = fl at *
                    go_wp2_with (at_builtin; refine of_mark ?_)
                    unfold Mark
                    refine wpList_append_run rfl (.tmp 99) (.tmp 101) rfl (.slice ao' fl cp') (.slice (some ⟨wr.heap.size, 0, none⟩) 1 1) _ (by rfl) (by rfl) HR7.out ?_
                    go_wp2_with fail
                    go_roundw
                    case rel =>
                      obtain ⟨vs', h1⟩ := HF7.out
                      exact ⟨b + 1, vs', by omega, by go_num, h1⟩
                    case measure => simp [intOf]; omega
                  · have t1 : ((a : Int) == b) = false := beq_eq_false_iff_ne.2 (by omega)
                    rw [decide_eq_false hab] at hv
                    cases htab : t a b with
                    | true =>
                      rw [htab] at q2 hv
                      have HFE : Hid (FrI bl.length w4 w4 w3.heap.size w3.heap.size (gF bl a (b + 1)) vs wr) := by
                        have hno : ¬ InF bl a b := fun h => by have := hv.2 h; simp at this
                        rw [gF_no hno] at hFw
                        exact hFw
                      clear hv hFw
                      go_wp2_with fail
                      go_roundw
                      case rel => exact ⟨b + 1, vs, by omega, by go_num, HFE.out⟩
                      case measure => simp [intOf]; omega
                    | false =>
                      rw [htab] at q2 hv
                      have hyes : InF bl a b := hv.1 (by rfl)
                      have hgl : (gF bl a b a).length ≤ bl.length := by
                        rw [gF_at]
                        exact Nat.le_trans (inL_len _ _) (by omega)
                      obtain ⟨ao', cp', b7, cap7, w7, hc7, hs7, hr7, hg7, hf7, hF7, hb7⟩ := hFw.push (c := a) (x := (b : Int)) han hgl hbl2 (by omega) (by omega) (Nat.le_refl _)
                      rw [gF_yes hyes] at hF7
                      have HF7 := hid' hF7
                      have HR7 := hid' (hr7 26)
                      clear hv hFw hyes hF7 hr7 hs7 hb7
                      generalize (gF bl a b a).length = fl at *
                      go_wp2_with (at_builtin; refine of_mark ?_)
                      unfold Mark
                      refine wpList_append_run rfl (.tmp 99) (.tmp 101) rfl (.slice ao' fl cp') (.slice (some ⟨wr.heap.size, 0, none⟩) 1 1) _ (by rfl) (by rfl) HR7.out ?_
                      go_wp2_with fail
                      go_roundw
                      case rel =>
                        obtain ⟨vs', h1⟩ := HF7.out
                        exact ⟨b + 1, vs', by omega, by go_num, h1⟩
                      case measure => simp [intOf]; omega
        · have e : b = bl.length := by omega
          subst e
          have HFE := HF.out
          rw [gF_next] at HFE
          have HFE := hid' HFE
          go_wp2_with fail
          go_roundw
          case rel => exact ⟨a + 1, vs, by omega, by go_num, HFE.out⟩
          case measure => simp [intOf]; omega
    · have e : a = bl.length := by omega
      subst e
      have hpm := HF.out.pm
      rw [gF_last] at hpm
      have hfin : Below w.heap.size w wr := below_up HB0.out (below_up HB3.out h3r)
      go_wp2_with fail
      go_ret
      exact ⟨w3.heap.size, w3.heap.size, vs, rfl, hpm, hfin⟩
end Go.Proofs.Ytgkaeoieclegjaa
