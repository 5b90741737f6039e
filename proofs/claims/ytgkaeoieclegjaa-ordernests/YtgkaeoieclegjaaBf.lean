/- The law OrderTree. -/
import Derived.Test.YtgkaeoieclegjaaBe
namespace Go.Proofs.Ytgkaeoieclegjaa
open Go Go.RowKit Go.Maps
set_option linter.unusedVariables false
set_option linter.unusedSimpArgs false
theorem run_len (bl : List Bl) : ∀ (n : Nat) (sn : List Bool) (st : List Int), (runR bl n sn st).length = sn.length
  | 0, sn, st => rfl
  | n + 1, sn, st => by
    unfold runR
    cases st.getLast? with
    | none => rfl
    | some i =>
      dsimp only
      rw [run_len bl n]
      unfold popS
      rw [fold_len]
theorem reach_len (bl : List Bl) : (reachF bl).length = bl.length := by
  unfold reachF
  by_cases h : bl.length = 0
  · rw [if_pos h, h]; rfl
  · rw [if_neg h, run_len]; simp
theorem doms_up {bl : List Bl} {D : Nat → Option Nat} (h : DomOk bl D) {a b d : Nat} (hb : b < bl.length) (e : D b = some d) (hw : WayB bl b) (hne : a ≠ b) : DomsI bl a b ↔ DomsI bl a d := by
  obtain ⟨y1, y2, y3, y4, y5⟩ := h.yes b d hb e
  constructor
  · rintro ⟨c, d', h1, h2, h3, h4, h5, h6, h7⟩
    obtain rfl : c = a := by omega
    obtain rfl : d' = b := by omega
    exact ⟨c, d, rfl, rfl, h3, y1, h5, y2, y5 c h3 h5 h7 hne⟩
  · rintro ⟨c, d', h1, h2, h3, h4, h5, h6, h7⟩
    obtain rfl : c = a := by omega
    obtain rfl : d' = d := by omega
    exact ⟨c, b, rfl, rfl, h3, hb, h5, hw, domB_trans h7 y3⟩
theorem doms_self {bl : List Bl} {b : Nat} (hb : b < bl.length) (hw : WayB bl b) : DomsI bl b b := ⟨b, b, rfl, rfl, hb, hb, hw, hw, fun h => h.last rfl⟩
theorem bool_of (p : Prop) : ∃ R : Bool, R = true ↔ p := by
  by_cases h : p
  · exact ⟨true, ⟨fun _ => h, fun _ => rfl⟩⟩
  · exact ⟨false, ⟨fun e => (by cases e), fun e => absurd e h⟩⟩
set_option maxRecDepth 20000 in
set_option maxHeartbeats 16000000 in
theorem tree8 {w : World} {f : Fn} (hf : Fn.ok w f) : Calls Try.prog 8 #[f.val] w fun e w' => e = .returned (.bool true) ∧ Below w.heap.size w w' := by
  have HOK := hid' hf
  have hb0 : Below w.heap.size w (w.alloc (.cells #[.string f.nm, .int .i64 f.params, .int .i64 f.regs, .int .i64 f.slots, f.bv] 24)) := below1 _ _
  have h9 := hid' (bare9 (hf.on hb0))
  have hbl : f.blocks.length * 64 ≤ big := hf.bl
  obtain ⟨nm, ps, rs, sl, bv, bl⟩ := f
  obtain ⟨bo, bc, eb⟩ := hf.b.len
  dsimp only at *
  subst eb
  unfold big at hbl
  unfold Fn.val at *
  dsimp only at *
  clear hf hb0
  have hs0 : (w.alloc (.cells #[.string nm, .int .i64 ps, .int .i64 rs, .int .i64 sl, .slice bo bl.length bc] 24)).heap.size = w.heap.size + 1 := by simp
  have hn0 := heap_alloc_new w (.cells #[.string nm, .int .i64 ps, .int .i64 rs, .int .i64 sl, .slice bo bl.length bc] 24)
  have HB0 := hid' (below1 w (.cells #[.string nm, .int .i64 ps, .int .i64 rs, .int .i64 sl, .slice bo bl.length bc] 24))
  go_enter Try.func8, Try.ntmps8
  go_upto_region 2 with (go_at_call 9; refine h9.out.mono ?_; rintro e1 w9 ⟨hv, rfl, hown, hb9⟩; obtain ⟨ho, hcap, ehv⟩ := (Own.src bl4 hown).len; subst ehv; have hbox := (hb9.block w.heap.size (by rw [hs0]; omega)).trans hn0; have hf0 := frozen_of_row w9 w.heap.size 0 _ 24 hbox; have hf1 := frozen_of_row w9 w.heap.size 1 _ 24 hbox; have hf2 := frozen_of_row w9 w.heap.size 2 _ 24 hbox; have hf3 := frozen_of_row w9 w.heap.size 3 _ 24 hbox; have hf4 := frozen_of_row w9 w.heap.size 4 _ 24 hbox; have hc := fun o => cell_of_row w9 w.heap.size o _ 24 (0, 0) hbox; have hc0 := hc 0; have hc1 := hc 1; have hc2 := hc 2; have hc3 := hc 3; have hc4 := hc 4; simp at hc0 hc1 hc2 hc3 hc4; rw [hs0] at hown; have HBG := hid' (bg_begin HOK.out hbox (below_up HB0.out hb9) hown); have HCV := hid' (bare_cv (bl := bl)); have HNN : Hid (bl.length * 64 ≤ big → (List.map bareB bl).length * 64 ≤ big) := (fun h => (by rw [List.length_map]; exact h)); clear hown hb9 hbox hc; dsimp only at HBG HNN; generalize List.map bareB bl = bb at *)
  have HBG2 := HBG.out
  unfold put5 at HBG2
  have hbb : bb.length * 64 ≤ big := HNN.out (by unfold big; omega)
  clear HBG hc0 hc1 hc2 hc3 hc4 hf0 hf1 hf2 hf3 hf4 hs0 hn0 HB0 h9 HNN
  generalize ((((w9.setCell ⟨w.heap.size, 0, none⟩ (.string ⟨#[]⟩)).setCell ⟨w.heap.size, 1, none⟩ (.int .i64 0)).setCell ⟨w.heap.size, 2, none⟩ (.int .i64 1)).setCell ⟨w.heap.size, 3, none⟩ (.int .i64 0)).setCell ⟨w.heap.size, 4, none⟩ (.slice ho bb.length hcap) = w2 at *
  have HBG := hid' HBG2
  obtain ⟨c0, c1, c2, c3, c4⟩ := HBG2.cells
  have hbw := HBG2.below
  clear HBG2 w9 HOK
  have H11 := hid' (may11 HBG.out.ok HCV.out)
  have H10 : Hid (∀ W, Below w2.heap.size w2 W → Calls Try.prog 10 #[.agg #[.string ⟨#[]⟩, .int .i64 0, .int .i64 1, .int .i64 0, .slice ho bb.length hcap]] W (DomsR bb W)) := fun W hW => doms10a (HBG.out.ok.on hW)
  have H24 : Hid (∀ W, Below w2.heap.size w2 W → Calls Try.prog 24 #[.agg #[.string ⟨#[]⟩, .int .i64 0, .int .i64 1, .int .i64 0, .slice ho bb.length hcap]] W (RchR bb W)) := fun W hW => reached17 (HBG.out.ok.on hW)
  have H16 : Hid (∀ W, Below w2.heap.size w2 W → ∀ (a b : Int) (R : Bool), (R = true ↔ DomsI bb a b) → Calls Try.prog 16 #[.agg #[.string ⟨#[]⟩, .int .i64 0, .int .i64 1, .int .i64 0, .slice ho bb.length hcap], .int .i64 a, .int .i64 b] W fun e w' => e = .returned (.bool R) ∧ Below W.heap.size W w') := fun W hW a b R h => dominates16 (HBG.out.ok.on hW) a b h
  unfold Fn.val at H11
  dsimp only at H11
  go_upto_region 4 with (go_at_call 11; refine H11.out.mono ?_; rintro e1 w3 ⟨R, rfl, hR, hb3⟩; have HB3 := hid' hb3; clear hR hb3; cases R)
  · go_wp2_with (go_at_call 12; refine (awake12 _).mono ?_; rintro e1 w4 ⟨rfl, hb4⟩)
    go_ret
    exact ⟨rfl, below_up (below_up hbw HB3.out) hb4⟩
  · obtain ⟨d0, d1, d2, d3, d4⟩ := (HBG.out.on HB3.out).cells
    clear c0 c1 c2 c3 c4
    go_upto_region 5 with (go_at_call 10; refine (H10.out _ HB3.out).mono ?_; rintro e1 w4 ⟨q, D, rfl, hq, hRI, hDO, hb4⟩; have HRI := hid' hRI; have HDO := hid' hDO; have HB4 := hid' (below_up HB3.out hb4); clear hq hRI hDO hb4)
    obtain ⟨e0, e1, e2, e3, e4⟩ := (HBG.out.on HB4.out).cells
    clear d0 d1 d2 d3 d4
    go_upto_region 6 with (go_at_call 24; refine (H24.out _ HB4.out).mono ?_; rintro e1 w5 ⟨ra, rcap, rfl, hsrc, hb5, _, _⟩; have HSR := hid' hsrc; have HB5 := hid' (below_up HB4.out hb5); have HRI5 := hid' (HRI.out.on hb5); clear hsrc hb5)
    clear HRI HB4 HB3 e0 e1 e2 e3 e4
    have hrl := reach_len bb
    obtain ⟨ra', rc', era, hrf⟩ := HSR.out.form bc1
    rw [hrl] at era
    injection era with era1 _ era3
    subst era1 era3
    have HRF := hid' hrf
    have HRL := hid' hrl
    unfold big at hbb
    clear hrf hrl HSR H11 H10 H24
    go_wp2_with fail
    go_loopw [5] (fun i wr => ∃ k : Nat, k ≤ bb.length ∧ i = .int .i64 k ∧ Below w5.heap.size w5 wr) (fun i _ => bb.length - (intOf i).toNat)
    case atStart => exact ⟨0, Nat.zero_le _, rfl, Below.refl _ _⟩
    case round =>
      obtain ⟨k, hk, rfl, hbr⟩ := hrel
      have HBR := hid' hbr
      have HRIr := hid' (HRI5.out.on hbr)
      clear hbr
      by_cases hlt : k < bb.length
      · obtain ⟨b1, o1, rfl, hb1, hc1, hx1⟩ := HRF.out k (by rw [HRL.out]; exact hlt)
        rw [HRL.out] at hc1
        have hdn := HDO.out.no k hlt
        have hre : reN bb k = true ↔ WayB bb k := reach_way (by omega)
        have hgd : (reachF bb)[k]'(by rw [HRL.out]; exact hlt) = reN bb k := by
          unfold reN
          simp [HRL.out, hlt]
        have za : ∀ W, Below wr.heap.size wr W → W.cell? ⟨b1, o1 + k, none⟩ = some (.bool (reN bb k)) := fun W hW => by
          have := hx1 W (below_up HBR.out hW) 0 (by omega)
          rw [hgd] at this
          simpa [bcl] using this
        have ya : ∀ W, Below wr.heap.size wr W → W.cell? ⟨q, k, none⟩ = some (.int .i64 (oi (D k))) := fun W hW => (HRIr.out.on hW).cell hlt
        have ZA := hid' za
        have YA := hid' ya
        clear hx1 hgd za ya
        cases hDk : D k with
        | none =>
          have y0 := YA.out wr (Below.refl _ _)
          rw [hDk, oi_none] at y0
          have z0 := ZA.out wr (Below.refl _ _)
          have t1 : ((-1 : Int) < 0) := by omega
          have YN : Hid (∀ W, Below wr.heap.size wr W → W.cell? ⟨q, k, none⟩ = some (.int .i64 (-1))) := fun W hW => by
            have := YA.out W hW
            rw [hDk, oi_none] at this
            exact this
          clear ZA YA
          by_cases hk0 : k = 0
          · clear z0 hdn hre hDk
            subst hk0
            go_wp2_with fail
            go_quiet (fail)
            have HBQ : Hid (Below wr.heap.size wr (wr.drewN nq)) := ⟨rfl, rfl, rfl, Nat.le_refl _, fun _ _ => rfl⟩
            have y1 := YN.out _ HBQ.out
            generalize wr.drewN nq = w6 at *
            go_wp2_with fail
            go_loopw [6] (fun i wr' => i = .int .i64 0 ∧ wr' = w6) (fun i _ => 0)
            case atStart => exact ⟨rfl, rfl⟩
            case round =>
              obtain ⟨rfl, rfl⟩ := hrel
              go_wp2_with fail
              go_roundw
              case rel => exact ⟨0 + 1, by omega, by go_num, below_up HBR.out HBQ.out⟩
              case measure => simp [intOf]; omega
          · have t2 : ((k : Int) == 0) = false := by simp; omega
            have t3 : reN bb k = false := by
              cases e : reN bb k with
              | false => rfl
              | true => exact absurd (hre.1 e) ((hdn.1 hDk).resolve_left hk0)
            rw [t3] at z0
            clear t3 hdn hre hDk
            go_wp2_with fail
            go_quiet (fail)
            have HBQ : Hid (Below wr.heap.size wr (wr.drewN nq)) := ⟨rfl, rfl, rfl, Nat.le_refl _, fun _ _ => rfl⟩
            have y1 := YN.out _ HBQ.out
            generalize wr.drewN nq = w6 at *
            go_wp2_with fail
            go_loopw [6] (fun i wr' => i = .int .i64 0 ∧ wr' = w6) (fun i _ => 0)
            case atStart => exact ⟨rfl, rfl⟩
            case round =>
              obtain ⟨rfl, rfl⟩ := hrel
              go_wp2_with fail
              go_roundw
              case rel => exact ⟨k + 1, by omega, by go_num, below_up HBR.out HBQ.out⟩
              case measure => simp [intOf]; omega
        | some d =>
          have y0 := YA.out wr (Below.refl _ _)
          rw [hDk, oi_some] at y0
          have z0 := ZA.out wr (Below.refl _ _)
          have hno : ¬ (k = 0 ∨ ¬ WayB bb k) := fun h => by
            have := hdn.2 h
            rw [hDk] at this
            cases this
          have hk0 : k ≠ 0 := fun h => hno (.inl h)
          have hway : WayB bb k := Classical.byContradiction fun h => hno (.inr h)
          rw [hre.2 hway] at z0
          have t1 : ¬ ((d : Int) < 0) := by omega
          have t2 : ((k : Int) == 0) = false := by simp; omega
          have t4 : ((d : Int) ≥ 0) := by omega
          have YN : Hid (∀ W, Below wr.heap.size wr W → W.cell? ⟨q, k, none⟩ = some (.int .i64 d)) := fun W hW => by
            have := YA.out W hW
            rw [hDk, oi_some] at this
            exact this
          have HUP : Hid (∀ a : Nat, a ≠ k → (DomsI bb a k ↔ DomsI bb a d)) := fun a ha => doms_up HDO.out hlt hDk hway ha
          have HSF := hid' (doms_self hlt hway)
          clear ZA YA hdn hre hno hDk hway
          go_wp2_with fail
          go_quiet (fail)
          have HBQ : Hid (Below wr.heap.size wr (wr.drewN nq)) := ⟨rfl, rfl, rfl, Nat.le_refl _, fun _ _ => rfl⟩
          have y1 := YN.out _ HBQ.out
          generalize wr.drewN nq = w6 at *
          clear y0 z0
          go_wp2_with fail
          go_loopw [6] (fun i wr' => ∃ a : Nat, a ≤ bb.length ∧ i = .int .i64 a ∧ Below w6.heap.size w6 wr') (fun i _ => bb.length - (intOf i).toNat)
          case atStart => exact ⟨0, Nat.zero_le _, rfl, Below.refl _ _⟩
          case round =>
            obtain ⟨a, ha, rfl, hba⟩ := hrel
            have HBA := hid' hba
            have HWR := hid' (below_up HBQ.out hba)
            have HW5 := hid' (below_up HBR.out (below_up HBQ.out hba))
            have y2 := YN.out wr (below_up HBQ.out hba)
            clear hba
            by_cases hal : a < bb.length
            · have hne := after_some wr
              obtain ⟨R, hR⟩ := bool_of (DomsI bb a k)
              have HB2 : Hid (Below w2.heap.size w2 wr) := below_up HB5.out HW5.out
              have ya : ∀ t : After wr, t.1.cell? ⟨q, k, none⟩ = some (.int .i64 d) := fun t => YN.out t.1 (below_up HWR.out t.2)
              have bx := fun t : After wr => (HBG.out.on (below_up HB2.out t.2)).cells
              have x0 := fun t : After wr => (bx t).1
              have x1 := fun t : After wr => (bx t).2.1
              have x2 := fun t : After wr => (bx t).2.2.1
              have x3 := fun t : After wr => (bx t).2.2.2.1
              have x4 := fun t : After wr => (bx t).2.2.2.2
              have KA : ∀ t : After wr, _ := fun t => Calls.after t (H16.out t.1 (below_up HB2.out t.2) a k R hR)
              by_cases hak : a = k
              · have hR1 : R = true := hR.2 (by rw [hak]; exact HSF.out)
                subst hR1
                subst hak
                have t5 : ((a : Int) == a) = true := by simp
                clear bx hR
                go_wp2_with fail
                refine region_after 16 mixed (by kernel_rfl) ?_
                simp only [List.take_succ_cons, List.take_zero, List.drop_succ_cons, List.drop_zero]
                repeat (first | go_big_quiet_step (with_reducible exact KA _) | quiet_step (with_reducible exact KA _))
                refine wpQuiet_nil ?_
                intro w7 hb7
                have HB7 := hid' (below_up HBA.out hb7)
                clear KA ya x0 x1 x2 x3 x4 hb7
                go_wp2_with fail
                go_roundw
                case rel => exact ⟨a + 1, by omega, by go_num, HB7.out⟩
                case measure => simp [intOf]; omega
              · have t5 : ((a : Int) == k) = false := beq_eq_false_iff_ne.2 (by omega)
                have KB : ∀ t : After wr, _ := fun t => Calls.after t (H16.out t.1 (below_up HB2.out t.2) a d R (hR.trans (HUP.out a hak)))
                have t6 : (R != R) = false := by simp
                clear bx hR hak
                go_wp2_with fail
                refine region_after 16 mixed (by kernel_rfl) ?_
                simp only [List.take_succ_cons, List.take_zero, List.drop_succ_cons, List.drop_zero]
                repeat (first | go_big_quiet_step (first | with_reducible exact KA _ | with_reducible exact KB _) | quiet_step (first | with_reducible exact KA _ | with_reducible exact KB _))
                refine wpQuiet_nil ?_
                intro w7 hb7
                have HB7 := hid' (below_up HBA.out hb7)
                clear KA KB ya x0 x1 x2 x3 x4 hb7
                go_wp2_with fail
                go_roundw
                case rel => exact ⟨a + 1, by omega, by go_num, HB7.out⟩
                case measure => simp [intOf]; omega
            · have e : a = bb.length := by omega
              subst e
              go_wp2_with fail
              go_roundw
              case rel => exact ⟨k + 1, by omega, by go_num, HW5.out⟩
              case measure => simp [intOf]; omega
      · have e : k = bb.length := by omega
        subst e
        go_wp2_with (go_at_call 12; refine (awake12 _).mono ?_; rintro e1 w7 ⟨rfl, hb7⟩)
        go_ret
        exact ⟨rfl, below_up (below_up (below_up hbw HB5.out) HBR.out) hb7⟩
end Go.Proofs.Ytgkaeoieclegjaa
