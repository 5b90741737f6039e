/- The law OrderWalks. -/
import Derived.Test.YtgkaeoieclegjaaWy
import Derived.Test.YtgkaeoieclegjaaBf
namespace Go.Proofs.Ytgkaeoieclegjaa
open Go Go.RowKit Go.Maps
set_option linter.unusedVariables false
set_option linter.unusedSimpArgs false
theorem nodup_len {l : List Nat} {n : Nat} (h : l.Nodup) (hl : ∀ x, x ∈ l → x < n) : l.length ≤ n :=
  pigeon n l.length (fun i => l.getD i 0) (fun i hi => by
    have e : l.getD i 0 = l[i] := by simp [hi]
    show l.getD i 0 < n
    rw [e]
    exact hl _ (List.getElem_mem hi)) (fun i j hi hj e => by
    have e1 : l.getD i 0 = l[i] := by simp [hi]
    have e2 : l.getD j 0 = l[j] := by simp [hj]
    change l.getD i 0 = l.getD j 0 at e
    rw [e1, e2] at e
    have hp := List.pairwise_iff_getElem.1 h
    apply Classical.byContradiction
    intro hne
    by_cases hij : i < j
    · exact hp i j hi hj hij e
    · exact hp j i hj hi (by omega) e.symm)
set_option maxRecDepth 20000 in
set_option maxHeartbeats 16000000 in
theorem walks6 {w : World} {f : Fn} (hf : Fn.ok w f) : Calls Try.prog 6 #[f.val] w fun e w' => e = .returned (.bool true) ∧ Below w.heap.size w w' := by
  have HOK := hid' hf
  have hb0 : Below w.heap.size w (w.alloc (.cells #[.string f.nm, .int .i64 f.params, .int .i64 f.regs, .int .i64 f.slots, f.bv] 24)) := below1 _ _
  have h9 := hid' (bare9 (hf.on hb0))
  have hbl : f.blocks.length * 64 ≤ big := hf.bl
  obtain ⟨nm, ps, rs, sl, bv, bl⟩ := f
  obtain ⟨bo, bc, eb⟩ := hf.b.len
  dsimp only at *
  subst eb
  unfold big at hbl
  unfold Fn.val at *
  dsimp only at *
  clear hf hb0
  have hs0 : (w.alloc (.cells #[.string nm, .int .i64 ps, .int .i64 rs, .int .i64 sl, .slice bo bl.length bc] 24)).heap.size = w.heap.size + 1 := by simp
  have hn0 := heap_alloc_new w (.cells #[.string nm, .int .i64 ps, .int .i64 rs, .int .i64 sl, .slice bo bl.length bc] 24)
  have HB0 := hid' (below1 w (.cells #[.string nm, .int .i64 ps, .int .i64 rs, .int .i64 sl, .slice bo bl.length bc] 24))
  go_enter Try.func6, Try.ntmps6
  go_upto_region 2 with (go_at_call 9; refine h9.out.mono ?_; rintro e1 w9 ⟨hv, rfl, hown, hb9⟩; obtain ⟨ho, hcap, ehv⟩ := (Own.src bl4 hown).len; subst ehv; have hbox := (hb9.block w.heap.size (by rw [hs0]; omega)).trans hn0; have hf0 := frozen_of_row w9 w.heap.size 0 _ 24 hbox; have hf1 := frozen_of_row w9 w.heap.size 1 _ 24 hbox; have hf2 := frozen_of_row w9 w.heap.size 2 _ 24 hbox; have hf3 := frozen_of_row w9 w.heap.size 3 _ 24 hbox; have hf4 := frozen_of_row w9 w.heap.size 4 _ 24 hbox; have hc := fun o => cell_of_row w9 w.heap.size o _ 24 (0, 0) hbox; have hc0 := hc 0; have hc1 := hc 1; have hc2 := hc 2; have hc3 := hc 3; have hc4 := hc 4; simp at hc0 hc1 hc2 hc3 hc4; rw [hs0] at hown; have HBG := hid' (bg_begin HOK.out hbox (below_up HB0.out hb9) hown); have HCV := hid' (bare_cv (bl := bl)); have HNN : Hid (bl.length * 64 ≤ big → (List.map bareB bl).length * 64 ≤ big) := (fun h => (by rw [List.length_map]; exact h)); clear hown hb9 hbox hc; dsimp only at HBG HNN; generalize List.map bareB bl = bb at *)
  have HBG2 := HBG.out
  unfold put5 at HBG2
  have hbb : bb.length * 64 ≤ big := HNN.out (by unfold big; omega)
  clear HBG hc0 hc1 hc2 hc3 hc4 hf0 hf1 hf2 hf3 hf4 hs0 hn0 HB0 h9 HNN
  generalize ((((w9.setCell ⟨w.heap.size, 0, none⟩ (.string ⟨#[]⟩)).setCell ⟨w.heap.size, 1, none⟩ (.int .i64 0)).setCell ⟨w.heap.size, 2, none⟩ (.int .i64 1)).setCell ⟨w.heap.size, 3, none⟩ (.int .i64 0)).setCell ⟨w.heap.size, 4, none⟩ (.slice ho bb.length hcap) = w2 at *
  have HBG := hid' HBG2
  obtain ⟨c0, c1, c2, c3, c4⟩ := HBG2.cells
  have hbw := HBG2.below
  clear HBG2 w9 HOK
  have H11 : Hid (∀ W, Below w2.heap.size w2 W → Calls Try.prog 11 #[.agg #[.string ⟨#[]⟩, .int .i64 0, .int .i64 1, .int .i64 0, .slice ho bb.length hcap]] W (MayR bb W)) := fun W hW => may11 (HBG.out.ok.on hW) HCV.out
  have h22 := post22 HBG.out.ok
  have H23 : Hid (∀ W, Below w2.heap.size w2 W → Calls Try.prog 23 #[.agg #[.string ⟨#[]⟩, .int .i64 0, .int .i64 1, .int .i64 0, .slice ho bb.length hcap]] W (PoR bb W)) := fun W hW => post23 (HBG.out.ok.on hW)
  have H10 : Hid (∀ W, Below w2.heap.size w2 W → Calls Try.prog 10 #[.agg #[.string ⟨#[]⟩, .int .i64 0, .int .i64 1, .int .i64 0, .slice ho bb.length hcap]] W (DomsR bb W)) := fun W hW => doms10a (HBG.out.ok.on hW)
  unfold Fn.val at h22
  dsimp only at h22
  have H22 := hid' h22
  clear h22
  have hbb2 := hbb
  unfold big at hbb
  go_upto_region 3 with (go_at_call 22; refine H22.out.mono ?_; rintro e1 w4 ⟨v4, left, met, rfl, hs4, hr4, hb4⟩; have HS4 := hid' hs4; have HR4 := hid' hr4; have HB4 := hid' hb4; clear hs4 hr4 hb4)
  obtain ⟨d0, d1, d2, d3, d4⟩ := (HBG.out.on HB4.out).cells
  clear c0 c1 c2 c3 c4
  go_upto_region 5 with (go_at_call 11; refine (H11.out _ HB4.out).mono ?_; rintro e1 w3 ⟨R, rfl, hR, hb3⟩; have HB3 := hid' (below_up HB4.out hb3); have HS3 := hid' (HS4.out.on hb3); have HMR := hid' hR; clear hR hb3; cases R)
  · go_wp2_with (go_at_call 12; refine (awake12 _).mono ?_; rintro e1 w5 ⟨rfl, hb5⟩)
    go_ret
    exact ⟨rfl, below_up (below_up hbw HB3.out) hb5⟩
  · obtain ⟨e0, e1, e2, e3, e4⟩ := (HBG.out.on HB3.out).cells
    have hn0 : 0 < bb.length := by
      obtain ⟨_, h1, _⟩ := HMR.out (by first | rfl | trivial)
      omega
    obtain ⟨hnd, hlt, hall, hdom⟩ := end_of hn0 (HR4.out hn0)
    have hll := nodup_len hnd hlt
    have hil : (ints left).length = left.length := by simp [ints]
    have HND := hid' hnd
    have HLT := hid' hlt
    have HALL := hid' hall
    have HDM := hid' hdom
    have HIL := hid' hil
    clear d0 d1 d2 d3 d4 HS4 HMR hnd hlt hall hdom hil
    go_upto_region 7 with (first
      | (go_at_call 23; refine (H23.out _ HB3.out).mono ?_; rintro e1 w5 ⟨v5, l5, met5, rfl, hs5, hr5, hb5⟩; have hee := RunsS.end_eq (HR4.out hn0) (hr5 hn0) rfl rfl; injection hee with _ hee; injection hee with _ hee; subst hee; have hs13 := sameInts18 (HS3.out.on hb5) hs5 (by rw [HIL.out]; unfold big; omega) (by rw [HIL.out]; unfold big; omega); rw [show eqL (ints left) (ints left) = true from decide_eq_true rfl] at hs13; have H13 := hid' hs13; have HB5 := hid' (below_up HB3.out hb5); have HS5 := hid' (HS3.out.on hb5); clear hs5 hr5 hb5 hs13)
      | (go_at_call 13; refine H13.out.mono ?_; rintro e1 w6 ⟨rfl, hb6⟩; have HB6 := hid' (below_up HB5.out hb6); have HS6 := hid' (HS5.out.on hb6); clear hb6))
    obtain ⟨d0, d1, d2, d3, d4⟩ := (HBG.out.on HB6.out).cells
    clear e0 e1 e2 e3 e4 H13 H11
    go_upto_region 8 with (go_at_call 10; refine (H10.out _ HB6.out).mono ?_; rintro e1 w7 ⟨q, D, rfl, hq, hRI, hDO, hb7⟩; have HRI := hid' hRI; have HDO := hid' hDO; have HB7 := hid' (below_up HB6.out hb7); have HS7 := hid' (HS6.out.on hb7); clear hq hRI hDO hb7)
    obtain ⟨e0, e1, e2, e3, e4⟩ := (HBG.out.on HB7.out).cells
    obtain ⟨w8, hm8, hR8, hb8, hs8⟩ := make_ints w7 (n := bb.length) (by unfold big; omega)
    have HR8 := hid' hR8
    have HB8 := hid' hb8
    have hqlt := HRI.out.lt
    obtain ⟨ao, cap, ev4⟩ := HS7.out.len
    rw [HIL.out] at ev4
    subst ev4
    clear d0 d1 d2 d3 d4 hR8 hb8
    go_wp2_with fail
    go_loopw [6] (fun iv wr => ∃ (i : Nat) (at_ : Nat → Int), i ≤ left.length ∧ iv = .int .i64 i ∧ RowI wr w7.heap.size bb.length at_ ∧ (∀ j x : Nat, j < i → left[j]? = some x → at_ x = j) ∧ Below w7.heap.size w7 wr) (fun iv _ => left.length - (intOf iv).toNat)
    case atStart => exact ⟨0, _, Nat.zero_le _, rfl, HR8.out, fun j x hj => by omega, HB8.out⟩
    case round =>
      obtain ⟨i, at_, hi, rfl, hR, hA, hb⟩ := hrel
      have HR := hid' hR
      have HA := hid' hA
      have HB := hid' hb
      have HSr := hid' (HS7.out.on hb)
      clear hR hA hb
      by_cases hil : i < left.length
      · obtain ⟨aoS, capS, eS, hcS⟩ := HSr.out.ints
        injection eS with eS1 _ eS3
        subst eS1 eS3
        obtain ⟨pb, poff, rfl, _, hple, hpcell⟩ := hcS i (by rw [HIL.out]; exact hil)
        have q0 := hpcell wr (Below.refl _ _)
        have ex : (ints left)[i]'(by rw [HIL.out]; exact hil) = (left[i] : Int) := by simp [ints]
        rw [ex] at q0
        rw [HIL.out] at hple
        have hxl := HLT.out _ (List.getElem_mem hil)
        have hxi : left[i]? = some left[i] := List.getElem?_eq_getElem hil
        have HNX : Hid (∀ j x : Nat, j < i + 1 → left[j]? = some x → Dfs.upd at_ left[i] (i : Int) x = j) := fun j x hj hx => by
          by_cases e : x = left[i]
          · subst e
            rw [Dfs.upd_same]
            have hp := List.pairwise_iff_getElem.1 HND.out
            obtain ⟨hjl, hjx⟩ := List.getElem?_eq_some_iff.1 hx
            have : j = i := by
              apply Classical.byContradiction
              intro hne
              exact hp j i hjl hil (by omega) hjx
            omega
          · rw [Dfs.upd_ne _ _ e]
            refine HA.out j x ?_ hx
            apply Classical.byContradiction
            intro hne
            have : j = i := by omega
            subst this
            rw [hxi] at hx
            injection hx with hx
            exact e hx.symm
        have qa := HR.out.cell hxl
        have qf := HR.out.fro left[i]
        clear hcS hpcell ex hxi
        generalize left[i] = x at *
        go_wp2_with fail
        go_roundw
        case rel => exact ⟨i + 1, _, by omega, by go_num, HR.out.set x (i : Int), HNX.out, HB.out.trans ((setK wr w7.heap.size x _).below HB.out.size (fun q e => by subst e; exact Nat.le_refl _))⟩
        case measure => simp [intOf]; omega
      · have e : i = left.length := by omega
        subst e
        go_wp2_with fail
        go_loopw [7] (fun iv wr2 => ∃ (i : Nat), i ≤ left.length ∧ iv = .int .i64 i ∧ wr2 = wr) (fun iv _ => left.length - (intOf iv).toNat)
        case atStart => exact ⟨0, Nat.zero_le _, rfl, rfl⟩
        case round =>
          obtain ⟨i, hi2, rfl, hw2⟩ := hrel
          subst hw2
          have HRr := hid' (HRI.out.on HB.out)
          by_cases hil : i < left.length
          · obtain ⟨aoS, capS, eS, hcS⟩ := HSr.out.ints
            injection eS with eS1 _ eS3
            subst eS1 eS3
            obtain ⟨pb, poff, rfl, _, hple, hpcell⟩ := hcS i (by rw [HIL.out]; exact hil)
            have q0 := hpcell _ (Below.refl _ _)
            have ex : (ints left)[i]'(by rw [HIL.out]; exact hil) = (left[i] : Int) := by simp [ints]
            rw [ex] at q0
            rw [HIL.out] at hple
            have hxl := HLT.out _ (List.getElem_mem hil)
            have hxi : left[i]? = some left[i] := List.getElem?_eq_getElem hil
            have qd := HRr.out.cell hxl
            clear hcS hpcell ex
            generalize left[i] = x at *
            cases hD : D x with
            | none =>
              rw [hD, oi_none] at qd
              clear hD hxi
              go_wp2_with fail
              go_roundw
              case rel => exact ⟨i + 1, by omega, by go_num, by trivial⟩
              case measure => simp [intOf]; omega
            | some k =>
              rw [hD, oi_some] at qd
              obtain ⟨y1, y2, y3, y4, _⟩ := HDO.out.yes x k hxl hD
              obtain ⟨j, hj, ej⟩ := List.getElem_of_mem (HALL.out k y1 y2)
              have hji : i < j := by
                apply Classical.byContradiction
                intro hno
                exact HDM.out i x hxi k y4 y3 j (by omega) (by rw [List.getElem?_eq_getElem hj, ej])
              have qa := HR.out.cell y1
              have ea := HA.out j k hj (by rw [List.getElem?_eq_getElem hj, ej])
              rw [ea] at qa
              have t1 : ((k : Int) ≥ 0) := by omega
              have t2 : ¬ ((j : Int) ≤ i) := by omega
              clear hD hxi y2 y3 y4 ej ea
              go_wp2_with fail
              go_roundw
              case rel => exact ⟨i + 1, by omega, by go_num, by trivial⟩
              case measure => simp [intOf]; omega
          · have e : i = left.length := by omega
            subst e
            have hfin := below_up (below_up hbw HB7.out) HB.out
            have HFIN := hid' hfin
            clear hfin
            go_wp2_with (go_at_call 12; refine (awake12 _).mono ?_; rintro e1 w9 ⟨rfl, hb9⟩)
            go_ret
            exact ⟨rfl, below_up HFIN.out hb9⟩
end Go.Proofs.Ytgkaeoieclegjaa
