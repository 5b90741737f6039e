/- The law OrderDoms. -/
import Derived.Test.YtgkaeoieclegjaaTn
namespace Go.Proofs.Ytgkaeoieclegjaa
open Go Go.RowKit Go.Maps
set_option linter.unusedVariables false
set_option linter.unusedSimpArgs false
theorem RowI.src {w : World} {g n : Nat} {f : Nat → Int} (h : RowI w g n f) : Src icell w (.slice (some ⟨g, 0, none⟩) n n) ((List.range n).map f) :=
  .inr ⟨g, 0, n, by simp, h.lt, by simp, fun j u hj => by
    rw [flat_i, List.getElem?_map, List.getElem?_map] at hj
    have hjn : j < n := by
      apply Classical.byContradiction
      intro hn
      rw [List.getElem?_eq_none (by simp; omega)] at hj
      cases hj
    rw [List.getElem?_range hjn] at hj
    rw [Nat.zero_add, h.cell hjn]
    exact hj⟩
theorem tab_domsI {bl : List Bl} {a b : Nat} (ha : a < bl.length) (hb : b < bl.length) : TabB bl a b ↔ DomsI bl a b := by
  rw [tab_dom]
  constructor
  · rintro ⟨h1, h2, h3⟩
    exact ⟨a, b, rfl, rfl, ha, hb, h1, h2, h3⟩
  · rintro ⟨c, d, h1, h2, h3, h4, h5, h6, h7⟩
    obtain rfl : c = a := by omega
    obtain rfl : d = b := by omega
    exact ⟨h5, h6, h7⟩
set_option maxRecDepth 20000 in
set_option maxHeartbeats 16000000 in
theorem doms3 {w : World} {f : Fn} (hf : Fn.ok w f) : Calls Try.prog 3 #[f.val] w fun e w' => e = .returned (.bool true) ∧ Below w.heap.size w w' := by
  have HOK := hid' hf
  have hb0 : Below w.heap.size w (w.alloc (.cells #[.string f.nm, .int .i64 f.params, .int .i64 f.regs, .int .i64 f.slots, f.bv] 24)) := below1 _ _
  have h9 := hid' (bare9 (hf.on hb0))
  have hbl : f.blocks.length * 64 ≤ big := hf.bl
  obtain ⟨nm, ps, rs, sl, bv, bl⟩ := f
  obtain ⟨bo, bc, eb⟩ := hf.b.len
  dsimp only at *
  subst eb
  unfold big at hbl
  unfold Fn.val at *
  dsimp only at *
  clear hf hb0
  have hs0 : (w.alloc (.cells #[.string nm, .int .i64 ps, .int .i64 rs, .int .i64 sl, .slice bo bl.length bc] 24)).heap.size = w.heap.size + 1 := by simp
  have hn0 := heap_alloc_new w (.cells #[.string nm, .int .i64 ps, .int .i64 rs, .int .i64 sl, .slice bo bl.length bc] 24)
  have HB0 := hid' (below1 w (.cells #[.string nm, .int .i64 ps, .int .i64 rs, .int .i64 sl, .slice bo bl.length bc] 24))
  go_enter Try.func3, Try.ntmps3
  go_upto_region 2 with (go_at_call 9; refine h9.out.mono ?_; rintro e1 w9 ⟨hv, rfl, hown, hb9⟩; obtain ⟨ho, hcap, ehv⟩ := (Own.src bl4 hown).len; subst ehv; have hbox := (hb9.block w.heap.size (by rw [hs0]; omega)).trans hn0; have hf0 := frozen_of_row w9 w.heap.size 0 _ 24 hbox; have hf1 := frozen_of_row w9 w.heap.size 1 _ 24 hbox; have hf2 := frozen_of_row w9 w.heap.size 2 _ 24 hbox; have hf3 := frozen_of_row w9 w.heap.size 3 _ 24 hbox; have hf4 := frozen_of_row w9 w.heap.size 4 _ 24 hbox; have hc := fun o => cell_of_row w9 w.heap.size o _ 24 (0, 0) hbox; have hc0 := hc 0; have hc1 := hc 1; have hc2 := hc 2; have hc3 := hc 3; have hc4 := hc 4; simp at hc0 hc1 hc2 hc3 hc4; rw [hs0] at hown; have HBG := hid' (bg_begin HOK.out hbox (below_up HB0.out hb9) hown); have HCV := hid' (bare_cv (bl := bl)); have HNN : Hid (bl.length * 64 ≤ big → (List.map bareB bl).length * 64 ≤ big) := (fun h => (by rw [List.length_map]; exact h)); clear hown hb9 hbox hc; dsimp only at HBG HNN; generalize List.map bareB bl = bb at *)
  have HBG2 := HBG.out
  unfold put5 at HBG2
  have hbb : bb.length * 64 ≤ big := HNN.out (by unfold big; omega)
  clear HBG hc0 hc1 hc2 hc3 hc4 hf0 hf1 hf2 hf3 hf4 hs0 hn0 HB0 h9 HNN
  generalize ((((w9.setCell ⟨w.heap.size, 0, none⟩ (.string ⟨#[]⟩)).setCell ⟨w.heap.size, 1, none⟩ (.int .i64 0)).setCell ⟨w.heap.size, 2, none⟩ (.int .i64 1)).setCell ⟨w.heap.size, 3, none⟩ (.int .i64 0)).setCell ⟨w.heap.size, 4, none⟩ (.slice ho bb.length hcap) = w2 at *
  have HBG := hid' HBG2
  obtain ⟨c0, c1, c2, c3, c4⟩ := HBG2.cells
  have hbw := HBG2.below
  clear HBG2 w9 HOK
  have H11 : Hid (∀ W, Below w2.heap.size w2 W → Calls Try.prog 11 #[.agg #[.string ⟨#[]⟩, .int .i64 0, .int .i64 1, .int .i64 0, .slice ho bb.length hcap]] W (MayR bb W)) := fun W hW => may11 (HBG.out.ok.on hW) HCV.out
  have H10 := hid' (doms10a HBG.out.ok)
  have H14 : Hid (∀ W, Below w2.heap.size w2 W → Calls Try.prog 14 #[.agg #[.string ⟨#[]⟩, .int .i64 0, .int .i64 1, .int .i64 0, .slice ho bb.length hcap]] W (DocR bb W)) := fun W hW => doms14 (HBG.out.ok.on hW)
  have H15 : Hid (∀ W, Below w2.heap.size w2 W → Calls Try.prog 15 #[.agg #[.string ⟨#[]⟩, .int .i64 0, .int .i64 1, .int .i64 0, .slice ho bb.length hcap]] W (TabR bb W)) := fun W hW => table15 (HBG.out.ok.on hW)
  have H16 : Hid (∀ W, Below w2.heap.size w2 W → ∀ (a b : Int) (R : Bool), (R = true ↔ DomsI bb a b) → Calls Try.prog 16 #[.agg #[.string ⟨#[]⟩, .int .i64 0, .int .i64 1, .int .i64 0, .slice ho bb.length hcap], .int .i64 a, .int .i64 b] W fun e w' => e = .returned (.bool R) ∧ Below W.heap.size W w') := fun W hW a b R h => dominates16 (HBG.out.ok.on hW) a b h
  unfold Fn.val at H10
  dsimp only at H10
  go_upto_region 3 with (go_at_call 10; refine H10.out.mono ?_; rintro e1 w4 ⟨q, D, rfl, hq, hRI, hDO, hb4⟩; have HRI := hid' hRI; have HDO := hid' hDO; have HB4 := hid' hb4; clear hq hRI hDO hb4)
  obtain ⟨d0, d1, d2, d3, d4⟩ := (HBG.out.on HB4.out).cells
  clear c0 c1 c2 c3 c4
  go_upto_region 5 with (go_at_call 11; refine (H11.out _ HB4.out).mono ?_; rintro e1 w3 ⟨R, rfl, hR, hb3⟩; have HB3 := hid' (below_up HB4.out hb3); have HRI3 := hid' (HRI.out.on hb3); clear hR hb3; cases R)
  · go_wp2_with (go_at_call 12; refine (awake12 _).mono ?_; rintro e1 w5 ⟨rfl, hb5⟩)
    go_ret
    exact ⟨rfl, below_up (below_up hbw HB3.out) hb5⟩
  · obtain ⟨e0, e1, e2, e3, e4⟩ := (HBG.out.on HB3.out).cells
    have hbb8 : bb.length * 8 ≤ big := by unfold big at hbb ⊢; omega
    clear d0 d1 d2 d3 d4 HRI
    go_upto_region 7 with (first
      | (go_at_call 14; refine (H14.out _ HB3.out).mono ?_; rintro e1 w5 ⟨v5, l5, rfl, hs5, hl5, hd5, hb5⟩; have hs13 := sameInts18 (HRI3.out.on hb5).src hs5 (by simp; exact hbb8) (by rw [hl5]; exact hbb8); rw [hd5 D HDO.out, show eqL (List.map (fun b => oi (D b)) (List.range bb.length)) (List.map (fun b => oi (D b)) (List.range bb.length)) = true from decide_eq_true rfl] at hs13; have H13 := hid' hs13; have HB5 := hid' (below_up HB3.out hb5); clear hs5 hl5 hd5 hb5 hs13)
      | (go_at_call 13; refine H13.out.mono ?_; rintro e1 w6 ⟨rfl, hb6⟩; have HB6 := hid' (below_up HB5.out hb6); clear hb6))
    obtain ⟨d0, d1, d2, d3, d4⟩ := (HBG.out.on HB6.out).cells
    clear e0 e1 e2 e3 e4 H14 H13 H10 H11 HRI3
    go_upto_region 8 with (go_at_call 15; refine (H15.out _ HB6.out).mono ?_; rintro e1 w7 ⟨tg, tcap, gs, t, rfl, htc, hT, ht, hb7⟩; have HT := hid' hT; have Ht := hid' ht; have HB7 := hid' (below_up HB6.out hb7); clear hT ht hb7)
    unfold big at hbb
    clear d0 d1 d2 d3 d4 H15 HB6 HB5
    go_wp2_with fail
    go_loopw [5] (fun i wr => ∃ a : Nat, a ≤ bb.length ∧ i = .int .i64 a ∧ Below w7.heap.size w7 wr) (fun i _ => bb.length - (intOf i).toNat)
    case atStart => exact ⟨0, Nat.zero_le _, rfl, Below.refl _ _⟩
    case round =>
      obtain ⟨a, ha, rfl, hbr⟩ := hrel
      have HBR := hid' hbr
      clear hbr
      by_cases hal : a < bb.length
      · go_wp2_with fail
        go_loopw [6] (fun i wr2 => ∃ b : Nat, b ≤ bb.length ∧ i = .int .i64 b ∧ Below wr.heap.size wr wr2) (fun i _ => bb.length - (intOf i).toNat)
        case atStart => exact ⟨0, Nat.zero_le _, rfl, Below.refl _ _⟩
        case round =>
          obtain ⟨b, hb, rfl, hba⟩ := hrel
          have HBA := hid' hba
          have HB8 := hid' (below_up HBR.out hba)
          clear hba
          by_cases hbl1 : b < bb.length
          · have HB2 : Hid (Below w2.heap.size w2 wr) := below_up HB7.out HB8.out
            have hne := after_some wr
            have hq := HT.out.out a hal
            have hq2 := (HT.out.row a hal).cell hbl1
            have y0 : ∀ s : After wr, s.1.cell? ⟨tg, a, none⟩ = some (.slice (some ⟨gs a, 0, none⟩) bb.length bb.length) := fun s => keep_cell hq (below_up HB8.out s.2)
            have y1 : ∀ s : After wr, s.1.cell? ⟨gs a, b, none⟩ = some (.bool (t a b)) := fun s => keep_cell hq2 (below_up HB8.out s.2)
            have bx := fun s : After wr => (HBG.out.on (below_up HB2.out s.2)).cells
            have x0 := fun s : After wr => (bx s).1
            have x1 := fun s : After wr => (bx s).2.1
            have x2 := fun s : After wr => (bx s).2.2.1
            have x3 := fun s : After wr => (bx s).2.2.2.1
            have x4 := fun s : After wr => (bx s).2.2.2.2
            have KA : ∀ s : After wr, _ := fun s => Calls.after s (H16.out s.1 (below_up HB2.out s.2) a b (t a b) ((Ht.out a b hal hbl1).trans (tab_domsI hal hbl1)))
            have t6 : (t a b != t a b) = false := by simp
            clear bx hq hq2
            go_wp2_with fail
            refine region_after 11 mixed (by kernel_rfl) ?_
            simp only [List.take_succ_cons, List.take_zero, List.drop_succ_cons, List.drop_zero]
            repeat (first | go_big_quiet_step (with_reducible exact KA _) | quiet_step (with_reducible exact KA _))
            refine wpQuiet_nil ?_
            intro w9 hb9
            have HB9 := hid' (below_up HBA.out hb9)
            clear KA y0 y1 x0 x1 x2 x3 x4 hb9
            go_wp2_with fail
            go_roundw
            case rel => exact ⟨b + 1, by omega, by go_num, HB9.out⟩
            case measure => simp [intOf]; omega
          · have e : b = bb.length := by omega
            subst e
            go_wp2_with fail
            go_roundw
            case rel => exact ⟨a + 1, by omega, by go_num, HB8.out⟩
            case measure => simp [intOf]; omega
      · have e : a = bb.length := by omega
        subst e
        have HB2 : Hid (Below w2.heap.size w2 wr) := below_up HB7.out HBR.out
        obtain ⟨c0, c1, c2, c3, c4⟩ := (HBG.out.on HB2.out).cells
        have h16a := hid' (H16.out wr HB2.out (-1) 0 false ⟨fun h => (by cases h), fun ⟨c, d, h1, _⟩ => by omega⟩)
        go_wp2_with (go_at_call 16; refine h16a.out.mono ?_; rintro e1 w9 ⟨rfl, hb9⟩; have HB9 := hid' (below_up HB2.out hb9); clear hb9; refine of_mark ?_)
        unfold Mark
        obtain ⟨g0, g1, g2, g3, g4⟩ := (HBG.out.on HB9.out).cells
        have h16b := hid' (H16.out w9 HB9.out 0 bb.length false ⟨fun h => (by cases h), fun ⟨c, d, _, h2, _, h4, _⟩ => by omega⟩)
        clear c0 c1 c2 c3 c4
        go_wp2_with (go_at_call 16; refine h16b.out.mono ?_; rintro e1 w10 ⟨rfl, hb10⟩; have HB10 := hid' (below_up HB9.out hb10); clear hb10; refine of_mark ?_)
        unfold Mark
        go_wp2_with (go_at_call 12; refine (awake12 _).mono ?_; rintro e1 w11 ⟨rfl, hb11⟩)
        go_ret
        exact ⟨rfl, below_up (below_up hbw HB10.out) hb11⟩
end Go.Proofs.Ytgkaeoieclegjaa
