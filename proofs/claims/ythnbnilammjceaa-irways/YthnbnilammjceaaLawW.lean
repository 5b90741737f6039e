/- The law IrWays. -/
import Derived.Test.YthnbnilammjceaaWk
import Derived.Deep.DeepCutAuto
import Derived.Deep.CutBlock
namespace Go.Proofs.Ythnbnilammjceaa
open Go.RowKit Go.Maps
set_option linter.unusedVariables false
set_option linter.unusedSimpArgs false

/-- Predecessors, wherever they lie. -/
def PS (W : World) (v : Value) (bl : List Bl) : Prop := ∃ b, v = .slice (some ⟨b, 0, none⟩) bl.length bl.length ∧ b < W.heap.size ∧ ∀ k, k < bl.length → ∃ u, W.cell? ⟨b, k, none⟩ = some u ∧ Src icell W u ((predsF bl).getD k [])
theorem PS.on {W W' : World} {v : Value} {bl : List Bl} (h : PS W v bl) (hb : Below W.heap.size W W') : PS W' v bl := by
  obtain ⟨b, e, hl, hk⟩ := h
  refine ⟨b, e, Nat.lt_of_lt_of_le hl hb.size, fun k h => ?_⟩
  obtain ⟨u, h1, h2⟩ := hk k h
  exact ⟨u, keep_cell h1 hb, h2.on hb⟩
theorem PM.ps {W : World} {B g : Nat} {vs : List Value} {bl : List Bl} (h : PM W B g vs (predsF bl)) : PS W (.slice (some ⟨g, 0, none⟩) bl.length bl.length) bl := by
  have hL : (predsF bl).length = bl.length := by unfold predsF; rw [predsN_len]
  have hv : vs.length = bl.length := by rw [h.len, hL]
  refine ⟨g, rfl, h.g.2, fun k hk => ⟨vs[k]'(by rw [hv]; exact hk), ?_, ?_⟩⟩
  · have h3 := h.row
    rw [hL] at h3
    rw [World.ownsRow.cellAt h3 k (by omega), List.getElem?_eq_getElem (by rw [hv]; exact hk)]
  · have e1 : (predsF bl).getD k [] = (predsF bl)[k]'(by rw [hL]; exact hk) := by simp [hL, hk]
    rw [e1]
    exact Own.src ic1 (h.el k (by rw [hv]; exact hk) (by rw [hL]; exact hk))
def PSR (bl : List Bl) (w : World) (e : Ending) (w' : World) : Prop := ∃ b, e = .returned (.slice (some ⟨b, 0, none⟩) bl.length bl.length) ∧ PS w' (.slice (some ⟨b, 0, none⟩) bl.length bl.length) bl ∧ Below w.heap.size w w'
theorem psr {bl : List Bl} {w : World} {e : Ending} {w' : World} (h : PredR bl w e w') : PSR bl w e w' := by
  obtain ⟨g, vs, rfl, hp, hb⟩ := h
  exact ⟨g, rfl, hp.ps, hb⟩
theorem run_len (bl : List Bl) : ∀ (n : Nat) (sn : List Bool) (st : List Int), (runR bl n sn st).length = sn.length
  | 0, sn, st => rfl
  | n + 1, sn, st => by
    unfold runR
    cases st.getLast? with
    | none => rfl
    | some i =>
      dsimp only
      rw [run_len bl n]
      unfold popS
      rw [fold_len]
theorem reach_len (bl : List Bl) : (reachF bl).length = bl.length := by
  unfold reachF
  by_cases h : bl.length = 0
  · rw [if_pos h, h]; rfl
  · rw [if_neg h, run_len]; simp
theorem pred_le {w : World} {f : Fn} (h : Fn.ok w f) (k : Nat) (hk : k < f.blocks.length) : ((predsF f.blocks).getD k []).length * 8 ≤ big := by
  have h1 : k < (predsF f.blocks).length := by unfold predsF; rw [predsN_len]; exact hk
  have h2 : (predsF f.blocks).getD k [] = (predsF f.blocks)[k] := by simp [h1]
  rw [h2]
  have h3 := inv_predsN f.blocks f.blocks.length _ (List.getElem_mem h1)
  have h4 := h3.2.2.2
  have h5 := h.bl
  unfold predsF at *
  unfold big at *
  omega

set_option maxRecDepth 20000 in
set_option maxHeartbeats 16000000 in
theorem ways5 {w : World} {f : Fn} (hf : Fn.ok w f) : Calls Try.prog 5 #[f.val] w fun e w' => e = .returned (.bool true) ∧ Below w.heap.size w w' := by
  have H14 : Hid (∀ W, Below w.heap.size w W → Calls Try.prog 14 #[f.val] W (PSR f.blocks W)) := fun W hW => (preds14 (hf.on hW)).mono fun _ _ h => psr h
  have H15 : Hid (∀ W, Below w.heap.size w W → Calls Try.prog 15 #[f.val] W (PSR f.blocks W)) := fun W hW => (preds15 (hf.on hW)).mono fun _ _ h => psr h
  have H16 : Hid (∀ W, Below w.heap.size w W → Calls Try.prog 16 #[f.val] W (RchR f.blocks W)) := fun W hW => reached16 (hf.on hW)
  have H17 : Hid (∀ W, Below w.heap.size w W → Calls Try.prog 17 #[f.val] W (RchR f.blocks W)) := fun W hW => reached17 (hf.on hW)
  have HLE : Hid (∀ k, k < f.blocks.length → ((predsF f.blocks).getD k []).length * 8 ≤ big) := fun k hk => pred_le hf k hk
  have hbl := hf.bl
  obtain ⟨nm, ps, rs, sl, bv, bl⟩ := f
  obtain ⟨bo, bc, eb⟩ := hf.b.len
  dsimp only at *
  subst eb
  unfold big at hbl
  unfold Fn.val at *
  dsimp only at *
  clear hf
  obtain ⟨w0, ew0⟩ : ∃ w0, w0 = w.alloc (.cells #[.string nm, .int .i64 ps, .int .i64 rs, .int .i64 sl, .slice bo bl.length bc] 33) := ⟨_, rfl⟩
  have HW0 := hid' ew0
  have HB0 : Hid (Below w.heap.size w w0) := by unfold Hid; rw [ew0]; exact below1 _ _
  have HBX : Hid (∀ W, Below w0.heap.size w0 W → _) := fun W hW => fbox (w := w) (W := W) (by rw [← ew0]; exact hW)
  have HD : Hid (Below w0.heap.size w0 w0.drew) := (Below.refl _ _).drew
  have hlt0 : w.heap.size < w0.heap.size := by rw [ew0]; simp
  clear ew0
  go_enter Try.func5, Try.ntmps5
  go_wp2_with fail
  rw [← HW0.out]
  obtain ⟨_, _, a0, a1, a2, a3, a4⟩ := HBX.out w0 (Below.refl _ _)
  go_cut [3, 4] (fun a b wx => PS wx a bl ∧ PS wx b bl ∧ Below w0.heap.size w0 wx)
  case first =>
    go_region_with (first
      | (go_at_call 14; refine (H14.out _ (below_up HB0.out HD.out)).mono ?_; rintro e1 w14 ⟨g14, rfl, hp14, hb14⟩; obtain ⟨hs14, _, b0, b1, b2, b3, b4⟩ := HBX.out w14 (below_up HD.out hb14))
      | (go_at_call 15; refine (H15.out _ (below_up HB0.out (below_up HD.out hb14))).mono ?_; rintro e1 w15 ⟨g15, rfl, hp15, hb15⟩))
    all_goals
      have HX : Hid (PS w15 (.slice (some ⟨g14, 0, none⟩) bl.length bl.length) bl ∧ PS w15 (.slice (some ⟨g15, 0, none⟩) bl.length bl.length) bl ∧ Below w0.heap.size w0 w15) := ⟨hp14.on hb15, hp15, below_up (below_up HD.out hb14) hb15⟩
      clear hp14 hp15 hb14 hb15 b0 b1 b2 b3 b4
      go_wp2_with fail
      go_meet
      exact HX.out
  case rest =>
    obtain ⟨hpa, hpb, hbx⟩ := hcut
    obtain ⟨ba, rfl, hba, hca⟩ := hpa
    obtain ⟨bb, rfl, hbb, hcb⟩ := hpb
    have HBC := hid' hbx
    obtain ⟨hsc, _, d0, d1, d2, d3, d4⟩ := HBX.out wc hbx
    have HDC : Hid (Below wc.heap.size wc wc.drew) := (Below.refl _ _).drew
    have HWC : Hid (Below w.heap.size w wc) := below_up HB0.out hbx
    have HCA : Hid (∀ W, Below wc.heap.size wc W → ∀ k, k < bl.length → ∃ u, W.cell? ⟨ba, k, none⟩ = some u ∧ Src icell W u ((predsF bl).getD k [])) := fun W hW k hk => by
      obtain ⟨u, h1, h2⟩ := hca k hk
      exact ⟨u, keep_cell h1 hW, h2.on hW⟩
    have HCB : Hid (∀ W, Below wc.heap.size wc W → ∀ k, k < bl.length → ∃ u, W.cell? ⟨bb, k, none⟩ = some u ∧ Src icell W u ((predsF bl).getD k [])) := fun W hW k hk => by
      obtain ⟨u, h1, h2⟩ := hcb k hk
      exact ⟨u, keep_cell h1 hW, h2.on hW⟩
    clear hca hcb hbx a0 a1 a2 a3 a4
    generalize wc = w8 at *
    go_wp2_with fail
    go_cut [5, 6] (fun a b wx => Src bcl wx a (reachF bl) ∧ Src bcl wx b (reachF bl) ∧ Below w8.heap.size w8 wx)
    case first =>
      go_region_with (first
        | (go_at_call 16; refine (H16.out _ (below_up HWC.out HDC.out)).mono ?_; rintro e1 w16 ⟨g16, n16, rfl, hp16, hb16⟩; obtain ⟨hs16, _, b0, b1, b2, b3, b4⟩ := HBX.out w16 (below_up HBC.out (below_up HDC.out hb16)))
        | (go_at_call 17; refine (H17.out _ (below_up HWC.out (below_up HDC.out hb16))).mono ?_; rintro e1 w17 ⟨g17, n17, rfl, hp17, hb17⟩))
      all_goals
        have HX : Hid (Src bcl w17 (.slice g16 bl.length n16) (reachF bl) ∧ Src bcl w17 (.slice g17 bl.length n17) (reachF bl) ∧ Below w8.heap.size w8 w17) := ⟨hp16.on hb17, hp17, below_up (below_up HDC.out hb16) hb17⟩
        clear hp16 hp17 hb16 hb17 b0 b1 b2 b3 b4
        go_wp2_with fail
        go_meet
        exact HX.out
    case rest =>
      obtain ⟨hra, hrb, hby⟩ := hcut
      obtain ⟨ra, na, ea, hfa⟩ := hra.form bc1
      obtain ⟨rb, nb, eb, hfb⟩ := hrb.form bc1
      rw [reach_len] at ea eb
      subst ea eb
      have HFA := hid' hfa
      have HFB := hid' hfb
      have HY := hid' hby
      have hrl := reach_len bl
      have HRL := hid' hrl
      have HAW : Hid (Below w.heap.size w wc) := below_up HWC.out hby
      clear hra hrb hfa hfb hby hrl d0 d1 d2 d3 d4
      go_wp2_with fail
      go_loopw [7] (fun i wr => ∃ k : Nat, k ≤ bl.length ∧ i = .int .i64 k ∧ Below wc.heap.size wc wr) (fun i _ => bl.length - (intOf i).toNat)
      case atStart => exact ⟨0, Nat.zero_le _, rfl, Below.refl _ _⟩
      case round =>
        obtain ⟨k, hk, rfl, hbw⟩ := hrel
        have HB := hid' hbw
        clear hbw
        by_cases hlt : k < bl.length
        · obtain ⟨b1, o1, rfl, hb1, hc1, hx1⟩ := HFA.out k (by rw [HRL.out]; exact hlt)
          obtain ⟨b2, o2, rfl, hb2, hc2, hx2⟩ := HFB.out k (by rw [HRL.out]; exact hlt)
          rw [HRL.out] at hc1 hc2
          obtain ⟨ua, hua, hsa⟩ := HCA.out wr (below_up HY.out HB.out) k hlt
          obtain ⟨ub, hub, hsb⟩ := HCB.out wr (below_up HY.out HB.out) k hlt
          have ya : ∀ t : After wr, t.1.cell? ⟨ba, k, none⟩ = some ua := fun t => keep_cell hua t.2
          have yb : ∀ t : After wr, t.1.cell? ⟨bb, k, none⟩ = some ub := fun t => keep_cell hub t.2
          have za : ∀ t : After wr, t.1.cell? ⟨b1, o1 + k, none⟩ = some (.bool ((reachF bl)[k]'(by rw [HRL.out]; exact hlt))) := fun t => by
            have := hx1 t.1 (below_up HB.out t.2) 0 (by omega)
            simpa [bcl] using this
          have zb : ∀ t : After wr, t.1.cell? ⟨b2, o2 + k, none⟩ = some (.bool ((reachF bl)[k]'(by rw [HRL.out]; exact hlt))) := fun t => by
            have := hx2 t.1 (below_up HB.out t.2) 0 (by omega)
            simpa [bcl] using this
          have e18 : eqL ((predsF bl).getD k []) ((predsF bl).getD k []) = true := decide_eq_true rfl
          have K18 : ∀ t : After wr, _ := fun t => Calls.after t (sameInts18 (hsa.on t.2) (hsb.on t.2) (HLE.out k hlt) (HLE.out k hlt))
          simp only [e18] at K18
          have hne := after_some wr
          clear hx1 hx2 hua hub hsa hsb e18
          generalize (reachF bl)[k]'(by rw [HRL.out]; exact hlt) = q at *
          have hqq : (q == q) = true := by simp
          go_wp2_with fail
          refine region_after 20 mixed (by kernel_rfl) ?_
          simp only [List.take_succ_cons, List.take_zero, List.drop_succ_cons, List.drop_zero]
          repeat (first | go_big_quiet_step (with_reducible exact K18 _) | quiet_step (with_reducible exact K18 _))
          refine wpQuiet_nil ?_
          intro w6 hb6
          have HB6 := hid' (below_up HB.out hb6)
          clear K18 ya yb za zb hb6
          go_wp2
          go_roundw
          case rel => exact ⟨k + 1, by omega, by go_num, HB6.out⟩
          case measure => simp [intOf]; omega
        · have e : k = bl.length := by omega
          subst e
          go_wp2_with (go_at_call 11; refine (awake11 _).mono ?_; rintro e1 w7 ⟨rfl, hb7⟩)
          go_ret
          exact ⟨rfl, below_up (below_up HAW.out HB.out) hb7⟩
end Go.Proofs.Ythnbnilammjceaa
