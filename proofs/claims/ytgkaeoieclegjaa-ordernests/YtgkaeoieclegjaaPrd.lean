/- Preds: the program's and the document's. -/
import Derived.Test.YtgkaeoieclegjaaLsts
import Derived.Test.YtgkaeoieclegjaaPm
import Derived.Deep.AppendLies
namespace Go.Proofs.Ytgkaeoieclegjaa
open Go.RowKit Go.Maps
set_option linter.unusedVariables false
set_option linter.unusedSimpArgs false

def Mark (p : Prop) : Prop := p
theorem of_mark {p : Prop} (h : Mark p) : p := h
/-- What Preds leaves. -/
def PredR (bl : List Bl) (w : World) (e : Ending) (w' : World) : Prop :=
  ∃ (g : Nat) (vs : List Value), e = .returned (.slice (some ⟨g, 0, none⟩) bl.length bl.length) ∧ PM w' (w.heap.size + 1) g vs (predsF bl) ∧ Below w.heap.size w w'
theorem blk_yes {f : Fn} {n : Int} (h : blkB f n = true) : 0 ≤ n ∧ n < f.blocks.length := of_decide_eq_true h
theorem blk_no {f : Fn} {n : Int} (h : blkB f n = false) : ¬ (0 ≤ n ∧ n < f.blocks.length) := of_decide_eq_false h

/-- In the midst: block k's round, m of its successors done. -/
structure PMid (w0 : World) (bl : List Bl) (k m : Nat) (to : List Int) (g : Nat) (wr : World) (vs : List Value) (L : List (List Int)) : Prop where
  is : L = addB (predsN bl k) k (to.take m)
  pm : PM wr w0.heap.size g vs L
  below : Below w0.heap.size w0 wr
theorem PMid.len {w0 : World} {bl : List Bl} {k m : Nat} {to : List Int} {g : Nat} {wr : World} {vs : List Value} {L : List (List Int)} (h : PMid w0 bl k m to g wr vs L) : L.length = bl.length := by
  rw [h.is, addB_len, predsN_len]
theorem PMid.inv {w0 : World} {bl : List Bl} {k m : Nat} {to : List Int} {g : Nat} {wr : World} {vs : List Value} {L : List (List Int)} (h : PMid w0 bl k m to g wr vs L) : ∀ l ∈ L, Inv k l := by
  rw [h.is]
  exact inv_addB _ (inv_predsN bl k)
theorem PMid.stay {w0 : World} {bl : List Bl} {k m : Nat} {to : List Int} {g : Nat} {wr wr' : World} {vs : List Value} {L : List (List Int)} (h : PMid w0 bl k m to g wr vs L) (hm : m < to.length) (he : addP L k to[m] = L) (hb : Below wr.heap.size wr wr') :
    PMid w0 bl k (m + 1) to g wr' vs L :=
  ⟨by rw [addB_snoc _ _ _ _ hm, ← h.is, he], h.pm.on hb, below_on h.below hb h.below.size⟩
/-- What stands at tn. -/
theorem PMid.at_ {w0 : World} {bl : List Bl} {k m : Nat} {to : List Int} {g : Nat} {wr : World} {vs : List Value} {L : List (List Int)} (h : PMid w0 bl k m to g wr vs L) {tn : Nat} (ht : tn < bl.length) :
    ∃ (h1 : tn < vs.length) (h2 : tn < L.length), wr.cell? ⟨g, tn, none⟩ = some vs[tn] ∧ Own 3 1 icell wr w0.heap.size vs[tn] L[tn] ∧ Inv k L[tn] ∧ L.getD tn [] = L[tn] ∧ wr.frozen? ⟨g, tn, none⟩ = false ∧ g < wr.heap.size ∧ w0.heap.size ≤ g := by
  have h2 : tn < L.length := by rw [h.len]; exact ht
  have h1 : tn < vs.length := by rw [h.pm.len]; exact h2
  exact ⟨h1, h2, (World.ownsRow.cellAt h.pm.row tn (by omega)).trans (List.getElem?_eq_getElem h1), h.pm.el tn h1 h2, h.inv _ (List.getElem_mem h2), by simp [h2], World.ownsRow.frozenAt h.pm.row tn, h.pm.g.2, h.pm.g.1⟩

set_option maxRecDepth 20000 in
set_option maxHeartbeats 8000000 in
theorem preds14 {w : World} {f : Fn} (h : Fn.ok w f) : Calls Try.prog 43 #[f.val] w (PredR f.blocks w) := by
  obtain ⟨nm, ps, rs, sl, bv, bl⟩ := f
  obtain ⟨hb, hbl, _, hbs⟩ := h
  dsimp only at *
  have HSRC := hid' hb
  obtain ⟨ao, cap, rfl, hf⟩ := hb.form bl4
  have HF := hid' hf
  have HS := hid' hbs
  obtain ⟨w0, ew0⟩ : ∃ w0, w0 = w.alloc (.cells #[.string nm, .int .i64 ps, .int .i64 rs, .int .i64 sl, .slice ao bl.length cap] 24) := ⟨_, rfl⟩
  have HW0 := hid' ew0
  have hz0 : w0.heap.size = w.heap.size + 1 := by rw [ew0]; simp
  obtain ⟨w1, hm, hpm, hbw, hs1⟩ := make_sl w0 (base := w0.heap.size) hbl (Nat.le_refl _)
  have HPM := hid' hpm
  have HBW := hid' hbw
  rw [hz0] at hm
  rw [ew0] at hm
  obtain ⟨ti3, hi3, z0', z1', z2'⟩ := info_parts info3
  have HI3 := hid' hi3
  unfold big at hbl
  unfold Fn.val
  rw [ew0] at hbw
  obtain ⟨_, _, m0, m1, m2, m3, m4⟩ := fbox hbw
  clear hf hb hbs hpm hbw ew0
  go_enter Try.func43, Try.ntmps43
  go_wp2_with fail
  clear hm m0 m1 m2 m3 m4
  go_loopw [15] (fun i wr => ∃ (k : Nat) (vs : List Value), k ≤ bl.length ∧ i = .int .i64 k ∧ PM wr w0.heap.size (w.heap.size + 1) vs (predsN bl k) ∧ Below w0.heap.size w0 wr) (fun i _ => bl.length - (intOf i).toNat)
  case atStart => exact ⟨0, _, Nat.zero_le _, rfl, by rw [← hz0]; exact HPM.out, HBW.out⟩
  case round =>
    obtain ⟨k, vs, hk, rfl, hP, hbr⟩ := hrel
    have HP := hid' hP
    have HB := hid' hbr
    have hbx : Below (w.alloc (.cells #[.string nm, .int .i64 ps, .int .i64 rs, .int .i64 sl, .slice ao bl.length cap] 24)).heap.size (w.alloc (.cells #[.string nm, .int .i64 ps, .int .i64 rs, .int .i64 sl, .slice ao bl.length cap] 24)) wr := by rw [← HW0.out]; exact hbr
    obtain ⟨hsz, hB0, f0, f1, f2, f3, f4⟩ := fbox hbx
    have HB0 := hid' hB0
    clear hP hbr hbx hB0
    by_cases hlt : k < bl.length
    · obtain ⟨b, o, rfl, hb1, hc1, hx⟩ := HF.out k hlt
      obtain ⟨c0, c1, c2, c3⟩ := bl_cells (hx wr HB0.out)
      have HX : Hid (∀ W, Below w.heap.size w W → W.cell? ⟨b, o + k * 4 + 3, none⟩ = some bl[k].tv) := fun W hW => (bl_cells (hx W hW)).2.2.2
      have ho := HS.out _ (List.getElem_mem hlt)
      have htl := ho.tl
      obtain ⟨co, cc, ec⟩ := ho.c.len
      obtain ⟨tt, tc, et, hft⟩ := ho.t.ints
      have HT := hid' hft
      have HPS := hid' (predsN_succ bl k hlt)
      rw [ec] at c0
      rw [et] at c3 HX
      unfold big at htl
      clear hx ho ec et hft
      generalize bl[k].to = to at *
      generalize bl[k] = x at *
      have hne : ¬ w.heap.size = wr.heap.size := by omega
      have hnb : ¬ b = wr.heap.size := by have := HB0.out.size; omega
      go_wp2_with fail
      go_loopw [23] (fun i wr' => ∃ (m : Nat) (vs' : List Value) (L : List (List Int)), m ≤ to.length ∧ i = .int .i64 m ∧ PMid w0 bl k m to (w.heap.size + 1) wr' vs' L) (fun i _ => to.length - (intOf i).toNat)
      case atStart => exact ⟨0, vs, predsN bl k, Nat.zero_le _, rfl, rfl, HP.out.on (below1 _ _), HB.out.alloc HB.out.size _⟩
      case round =>
        obtain ⟨m, vs', L, hmk, rfl, hM⟩ := hrel
        have HM := hid' hM
        have hbx : Below (w.alloc (.cells #[.string nm, .int .i64 ps, .int .i64 rs, .int .i64 sl, .slice (some ⟨b, o, none⟩) bl.length cap] 24)).heap.size (w.alloc (.cells #[.string nm, .int .i64 ps, .int .i64 rs, .int .i64 sl, .slice (some ⟨b, o, none⟩) bl.length cap] 24)) wr := by rw [← HW0.out]; exact hM.below
        obtain ⟨isz, iB0, i0, i1, i2, i3, i4⟩ := fbox hbx
        have IB0 := hid' iB0
        have t3 := HX.out _ iB0
        clear hM hbx iB0
        by_cases hmt : m < to.length
        · obtain ⟨tb, tof, rfl, htb, htc, hcx⟩ := HT.out m hmt
          have tcell := hcx wr IB0.out
          clear hcx
          have HSTAY : Hid (∀ W, Below wr.heap.size wr W → addP L k to[m] = L → PMid w0 bl k (m + 1) to (w.heap.size + 1) W vs' L) := fun W hW he => HM.out.stay hmt he hW
          have HIS : Hid (addB (predsN bl k) k (to.take (m + 1)) = addP L k to[m]) := by unfold Hid; rw [addB_snoc _ _ _ _ hmt, ← HM.out.is]
          have hq32 := fun W => isBlock32 ⟨nm, ps, rs, sl, .slice (some ⟨b, o, none⟩) bl.length cap, bl⟩ to[m] W w HSRC.out
          cases hq : blkB ⟨nm, ps, rs, sl, .slice (some ⟨b, o, none⟩) bl.length cap, bl⟩ to[m]
          · have HO := hid' (addP_out (L := L) (b := k) (to := to[m]) (by rw [HM.out.len]; exact blk_no hq))
            rw [hq] at hq32
            unfold Fn.val at hq32
            dsimp only at hq32
            clear hq
            generalize to[m] = t at *
            go_wp2_with (go_at_call 50; refine (hq32 _).mono ?_; rintro e1 w2 ⟨rfl, hb2⟩)
            go_roundw
            case rel => exact ⟨m + 1, vs', L, by omega, by go_num, HSTAY.out _ hb2 HO.out⟩
            case measure => simp [intOf]; omega
          · obtain ⟨g0, g1⟩ := blk_yes hq
            dsimp only at g1
            rw [hq] at hq32
            unfold Fn.val at hq32
            dsimp only at hq32
            clear hq
            generalize to[m] = t at *
            obtain ⟨tn, rfl⟩ : ∃ tn : Nat, t = tn := ⟨t.toNat, by omega⟩
            have htn : tn < bl.length := by omega
            obtain ⟨q1, q2, q3, q4, q5, q6, q7, q8, q9⟩ := HM.out.at_ htn
            have HO4 := hid' q4
            have HI5 := hid' q5
            have hqq : decide (L[tn].getLast? = some (k : Int)) = hasF L[tn] k := inv_last q5
            have hll : L[tn].length * 8 ≤ big := by have := q5.2.2.2; unfold big; omega
            have H33 : Hid (∀ W, Below wr.heap.size wr W → Calls Try.prog 51 #[vs'[tn], .int .i64 k] W fun e w' => e = .returned (.bool (hasF L[tn] k)) ∧ w' = W) := fun W hW => by
              have := endsWith33 ((Own.src ic1 HO4.out).on hW) hll k
              rw [hqq] at this
              exact this
            clear q4 q5 hqq hll
            cases hh : hasF L[tn] k
            · rw [hh] at H33
              have HNEW := hid' (addP_new (L := L) (b := k) (to := tn) ⟨by omega, by rw [HM.out.len]; exact_mod_cast htn⟩ (by rw [Int.toNat_natCast, q6]; exact hh))
              have hnl : L[tn].length ≤ k := HI5.out.2.2.1 (of_decide_eq_false hh)
              clear hh
              go_wp2_with (first
                | (go_at_call 50; refine (hq32 _).mono ?_; rintro e1 w2 ⟨rfl, hb2⟩; obtain ⟨hc2, hf2⟩ := bcell hb2; have hs2 := hb2.size; have HB2 := hid' hb2)
                | (go_at_call 51; refine (H33.out _ HB2.out).mono ?_; rintro e3 w3 ⟨rfl, rfl⟩)
                | (at_builtin; refine of_mark ?_))
              unfold Mark
              have hP2 := HM.out.pm.on HB2.out
              have hO2 := hP2.el tn q1 q2
              refine wpList_append_own_at _ rfl _ _ 26 rfl w0.heap.size 3 ti3 (.int .i64 0) 1 8 Try.underlying26 HI3.out z0' z1' z2' rfl (by decide) vs'[tn] _ _ rfl (World.ownsRow.alloc hO2 _) ⟨w3.heap.size, 0, none⟩ 1 1 [.int .i64 k] rfl rfl (cell_one_new _ _ _) (by intro x hx; simp at hx; rw [hx]; rfl) (by unfold maxLen; omega) (by omega) (by have := hP2.g; simp; omega) ?_
              intro v' w5 hown' hgrow hnil hloc
              obtain ⟨vg, vc, ev⟩ : ∃ vg vc, v' = .slice (some ⟨vg, 0, none⟩) (L[tn].length + 1) vc := by
                rcases hown'.2 with ⟨_, e0⟩ | ⟨g5, c5, cu5, e5, _⟩
                · omega
                · exact ⟨g5, c5, e5⟩
              have HN5 : Hid (PMid w0 bl k (m + 1) to (w.heap.size + 1) (w5.setCell ⟨w.heap.size + 1, tn, none⟩ v') (vs'.set tn v') (L.set tn (L[tn] ++ [(k : Int)]))) := by
                refine ⟨?_, hP2.app q2 q1 ?_ hgrow hloc, ?_⟩
                · rw [HIS.out, HNEW.out, Int.toNat_natCast, q6]
                · unfold Own
                  rw [flat_append, List.length_append]
                  exact hown'
                · exact (below_on HM.out.below HB2.out HM.out.below.size).trans (hP2.appBelow (by have := hP2.g; omega) q2 q1 hgrow)
              have hg5 : w5.cell? ⟨w.heap.size + 1, tn, none⟩ = some vs'[tn] := by
                have h1 := (hP2.row.alloc _).kept hgrow (.inr (fun e => hP2.ng tn q1 e.symm))
                exact (World.ownsRow.cellAt h1 tn (by rw [HM.out.len]; omega)).trans (List.getElem?_eq_getElem q1)
              have hf5 : w5.frozen? ⟨w.heap.size + 1, tn, none⟩ = false := by
                have h1 := (hP2.row.alloc _).kept hgrow (.inr (fun e => hP2.ng tn q1 e.symm))
                exact World.ownsRow.frozenAt h1 tn
              subst ev
              clear hown' hgrow hnil hloc hP2 hO2 HO4 HI5 H33 HM HSTAY
              go_wp2_with fail
              go_roundw
              case rel => exact ⟨m + 1, _, _, by omega, by go_num, HN5.out⟩
              case measure => simp [intOf]; omega
            · rw [hh] at H33
              have HO := hid' (addP_has (L := L) (b := k) (to := tn) (by rw [Int.toNat_natCast, q6]; exact hh))
              clear hh
              go_wp2_with (first
                | (go_at_call 50; refine (hq32 _).mono ?_; rintro e1 w2 ⟨rfl, hb2⟩; obtain ⟨hc2, hf2⟩ := bcell hb2; have hs2 := hb2.size; have HB2 := hid' hb2)
                | (go_at_call 51; refine (H33.out _ HB2.out).mono ?_; rintro e3 w3 ⟨rfl, rfl⟩))
              go_roundw
              case rel => exact ⟨m + 1, vs', L, by omega, by go_num, HSTAY.out _ HB2.out HO.out⟩
              case measure => simp [intOf]; omega
        · have e : m = to.length := by omega
          subst e
          have HF2 : Hid (PM wr w0.heap.size (w.heap.size + 1) vs' (predsN bl (k + 1))) := by
            have h1 := HM.out.pm
            rw [HM.out.is, List.take_length] at h1
            unfold Hid
            rw [HPS.out]
            exact h1
          have HB2 := hid' HM.out.below
          go_wp2_with fail
          go_roundw
          case rel => exact ⟨k + 1, vs', by omega, by go_num, HF2.out, HB2.out⟩
          case measure => simp [intOf]; omega
    · have e : k = bl.length := by omega
      subst e
      go_wp2_with fail
      go_ret
      exact ⟨_, vs, rfl, by have h9 := HP.out; rw [hz0] at h9; exact h9, HB0.out⟩

set_option maxRecDepth 20000 in
set_option maxHeartbeats 8000000 in
theorem preds15 {w : World} {f : Fn} (h : Fn.ok w f) : Calls Try.prog 34 #[f.val] w (PredR f.blocks w) := by
  obtain ⟨nm, ps, rs, sl, bv, bl⟩ := f
  obtain ⟨hb, hbl, _, hbs⟩ := h
  dsimp only at *
  have HSRC := hid' hb
  obtain ⟨ao, cap, rfl, hf⟩ := hb.form bl4
  have HF := hid' hf
  have HS := hid' hbs
  obtain ⟨w0, ew0⟩ : ∃ w0, w0 = w.alloc (.cells #[.string nm, .int .i64 ps, .int .i64 rs, .int .i64 sl, .slice ao bl.length cap] 24) := ⟨_, rfl⟩
  have HW0 := hid' ew0
  have hz0 : w0.heap.size = w.heap.size + 1 := by rw [ew0]; simp
  obtain ⟨w1, hm, hpm, hbw, hs1⟩ := make_sl w0 (base := w0.heap.size) hbl (Nat.le_refl _)
  have HPM := hid' hpm
  have HBW := hid' hbw
  rw [hz0] at hm
  rw [ew0] at hm
  obtain ⟨ti3, hi3, z0', z1', z2'⟩ := info_parts info3
  have HI3 := hid' hi3
  unfold big at hbl
  unfold Fn.val
  rw [ew0] at hbw
  obtain ⟨_, _, m0, m1, m2, m3, m4⟩ := fbox hbw
  clear hf hb hbs hpm hbw ew0
  go_enter Try.func34, Try.ntmps34
  go_wp2_with fail
  clear hm m0 m1 m2 m3 m4
  go_loopw [4] (fun i wr => ∃ (k : Nat) (vs : List Value), k ≤ bl.length ∧ i = .int .i64 k ∧ PM wr w0.heap.size (w.heap.size + 1) vs (predsN bl k) ∧ Below w0.heap.size w0 wr) (fun i _ => bl.length - (intOf i).toNat)
  case atStart => exact ⟨0, _, Nat.zero_le _, rfl, by rw [← hz0]; exact HPM.out, HBW.out⟩
  case round =>
    obtain ⟨k, vs, hk, rfl, hP, hbr⟩ := hrel
    have HP := hid' hP
    have HB := hid' hbr
    have hbx : Below (w.alloc (.cells #[.string nm, .int .i64 ps, .int .i64 rs, .int .i64 sl, .slice ao bl.length cap] 24)).heap.size (w.alloc (.cells #[.string nm, .int .i64 ps, .int .i64 rs, .int .i64 sl, .slice ao bl.length cap] 24)) wr := by rw [← HW0.out]; exact hbr
    obtain ⟨hsz, hB0, f0, f1, f2, f3, f4⟩ := fbox hbx
    have HB0 := hid' hB0
    clear hP hbr hbx hB0
    by_cases hlt : k < bl.length
    · obtain ⟨b, o, rfl, hb1, hc1, hx⟩ := HF.out k hlt
      obtain ⟨c0, c1, c2, c3⟩ := bl_cells (hx wr HB0.out)
      have HX : Hid (∀ W, Below w.heap.size w W → W.cell? ⟨b, o + k * 4 + 3, none⟩ = some bl[k].tv) := fun W hW => (bl_cells (hx W hW)).2.2.2
      have ho := HS.out _ (List.getElem_mem hlt)
      have htl := ho.tl
      obtain ⟨co, cc, ec⟩ := ho.c.len
      obtain ⟨tt, tc, et, hft⟩ := ho.t.ints
      have HT := hid' hft
      have HPS := hid' (predsN_succ bl k hlt)
      rw [ec] at c0
      rw [et] at c3 HX
      unfold big at htl
      clear hx ho ec et hft
      generalize bl[k].to = to at *
      generalize bl[k] = x at *
      have hne : ¬ w.heap.size = wr.heap.size := by omega
      have hnb : ¬ b = wr.heap.size := by have := HB0.out.size; omega
      go_wp2_with fail
      go_loopw [5] (fun i wr' => ∃ (m : Nat) (vs' : List Value) (L : List (List Int)), m ≤ to.length ∧ i = .int .i64 m ∧ PMid w0 bl k m to (w.heap.size + 1) wr' vs' L) (fun i _ => to.length - (intOf i).toNat)
      case atStart => exact ⟨0, vs, predsN bl k, Nat.zero_le _, rfl, rfl, HP.out, HB.out⟩
      case round =>
        obtain ⟨m, vs', L, hmk, rfl, hM⟩ := hrel
        have HM := hid' hM
        have hbx : Below (w.alloc (.cells #[.string nm, .int .i64 ps, .int .i64 rs, .int .i64 sl, .slice (some ⟨b, o, none⟩) bl.length cap] 24)).heap.size (w.alloc (.cells #[.string nm, .int .i64 ps, .int .i64 rs, .int .i64 sl, .slice (some ⟨b, o, none⟩) bl.length cap] 24)) wr := by rw [← HW0.out]; exact hM.below
        obtain ⟨isz, iB0, i0, i1, i2, i3, i4⟩ := fbox hbx
        have IB0 := hid' iB0
        have t3 := HX.out _ iB0
        clear hM hbx iB0
        by_cases hmt : m < to.length
        · obtain ⟨tb, tof, rfl, htb, htc, hcx⟩ := HT.out m hmt
          have tcell := hcx wr IB0.out
          clear hcx
          have HSTAY : Hid (∀ W, Below wr.heap.size wr W → addP L k to[m] = L → PMid w0 bl k (m + 1) to (w.heap.size + 1) W vs' L) := fun W hW he => HM.out.stay hmt he hW
          have HIS : Hid (addB (predsN bl k) k (to.take (m + 1)) = addP L k to[m]) := by unfold Hid; rw [addB_snoc _ _ _ _ hmt, ← HM.out.is]
          by_cases g0 : 0 ≤ to[m]
          · by_cases g1 : to[m] < bl.length
            · generalize to[m] = t at *
              obtain ⟨tn, rfl⟩ : ∃ tn : Nat, t = tn := ⟨t.toNat, by omega⟩
              have htn : tn < bl.length := by omega
              obtain ⟨q1, q2, q3, q4, q5, q6, q7, q8, q9⟩ := HM.out.at_ htn
              have HO4 := hid' q4
              have HI5 := hid' q5
              have hll : L[tn].length * 8 ≤ big := by have := q5.2.2.2; unfold big; omega
              have H33 : Hid (∀ W, Below wr.heap.size wr W → Calls Try.prog 49 #[vs'[tn], .int .i64 k] W fun e w' => e = .returned (.bool (hasF L[tn] k)) ∧ w' = W) := fun W hW => has34 ((Own.src ic1 HO4.out).on hW) hll k
              clear q4 q5 hll
              cases hh : hasF L[tn] k
              · rw [hh] at H33
                have HNEW := hid' (addP_new (L := L) (b := k) (to := tn) ⟨by omega, by rw [HM.out.len]; exact_mod_cast htn⟩ (by rw [Int.toNat_natCast, q6]; exact hh))
                have hnl : L[tn].length ≤ k := HI5.out.2.2.1 (of_decide_eq_false hh)
                have HB2 : Hid (Below wr.heap.size wr wr) := Below.refl _ _
                clear hh
                go_wp2_with (first
                  | (go_at_call 49; refine (H33.out _ (Below.refl _ _)).mono ?_; rintro e3 w3 ⟨rfl, rfl⟩)
                  | (at_builtin; refine of_mark ?_))
                unfold Mark
                have hP2 := HM.out.pm.on HB2.out
                have hO2 := hP2.el tn q1 q2
                refine wpList_append_own_at _ rfl _ _ 26 rfl w0.heap.size 3 ti3 (.int .i64 0) 1 8 Try.underlying26 HI3.out z0' z1' z2' rfl (by decide) vs'[tn] _ _ rfl (World.ownsRow.alloc hO2 _) ⟨w3.heap.size, 0, none⟩ 1 1 [.int .i64 k] rfl rfl (cell_one_new _ _ _) (by intro x hx; simp at hx; rw [hx]; rfl) (by unfold maxLen; omega) (by omega) (by have := hP2.g; simp; omega) ?_
                intro v' w5 hown' hgrow hnil hloc
                obtain ⟨vg, vc, ev⟩ : ∃ vg vc, v' = .slice (some ⟨vg, 0, none⟩) (L[tn].length + 1) vc := by
                  rcases hown'.2 with ⟨_, e0⟩ | ⟨g5, c5, cu5, e5, _⟩
                  · omega
                  · exact ⟨g5, c5, e5⟩
                have HN5 : Hid (PMid w0 bl k (m + 1) to (w.heap.size + 1) (w5.setCell ⟨w.heap.size + 1, tn, none⟩ v') (vs'.set tn v') (L.set tn (L[tn] ++ [(k : Int)]))) := by
                  refine ⟨?_, hP2.app q2 q1 ?_ hgrow hloc, ?_⟩
                  · rw [HIS.out, HNEW.out, Int.toNat_natCast, q6]
                  · unfold Own
                    rw [flat_append, List.length_append]
                    exact hown'
                  · exact (below_on HM.out.below HB2.out HM.out.below.size).trans (hP2.appBelow (by have := hP2.g; omega) q2 q1 hgrow)
                have hg5 : w5.cell? ⟨w.heap.size + 1, tn, none⟩ = some vs'[tn] := by
                  have h1 := (hP2.row.alloc _).kept hgrow (.inr (fun e => hP2.ng tn q1 e.symm))
                  exact (World.ownsRow.cellAt h1 tn (by rw [HM.out.len]; omega)).trans (List.getElem?_eq_getElem q1)
                have hf5 : w5.frozen? ⟨w.heap.size + 1, tn, none⟩ = false := by
                  have h1 := (hP2.row.alloc _).kept hgrow (.inr (fun e => hP2.ng tn q1 e.symm))
                  exact World.ownsRow.frozenAt h1 tn
                subst ev
                clear hown' hgrow hnil hloc hP2 hO2 HO4 HI5 H33 HM HSTAY
                go_wp2_with fail
                go_roundw
                case rel => exact ⟨m + 1, _, _, by omega, by go_num, HN5.out⟩
                case measure => simp [intOf]; omega
              · rw [hh] at H33
                have HO := hid' (addP_has (L := L) (b := k) (to := tn) (by rw [Int.toNat_natCast, q6]; exact hh))
                clear hh
                go_wp2_with (go_at_call 49; refine (H33.out _ (Below.refl _ _)).mono ?_; rintro e3 w3 ⟨rfl, rfl⟩)
                go_roundw
                case rel => exact ⟨m + 1, vs', L, by omega, by go_num, HSTAY.out _ (Below.refl _ _) HO.out⟩
                case measure => simp [intOf]; omega
            · have HO := hid' (addP_out (L := L) (b := k) (to := to[m]) (by rw [HM.out.len]; exact fun h => g1 h.2))
              generalize to[m] = t at *
              go_wp2_with fail
              go_roundw
              case rel => exact ⟨m + 1, vs', L, by omega, by go_num, HSTAY.out _ (Below.refl _ _) HO.out⟩
              case measure => simp [intOf]; omega
          · have HO := hid' (addP_out (L := L) (b := k) (to := to[m]) (by rw [HM.out.len]; exact fun h => g0 h.1))
            generalize to[m] = t at *
            go_wp2_with fail
            go_roundw
            case rel => exact ⟨m + 1, vs', L, by omega, by go_num, HSTAY.out _ (Below.refl _ _) HO.out⟩
            case measure => simp [intOf]; omega
        · have e : m = to.length := by omega
          subst e
          have HF2 : Hid (PM wr w0.heap.size (w.heap.size + 1) vs' (predsN bl (k + 1))) := by
            have h1 := HM.out.pm
            rw [HM.out.is, List.take_length] at h1
            unfold Hid
            rw [HPS.out]
            exact h1
          have HB2 := hid' HM.out.below
          go_wp2_with fail
          go_roundw
          case rel => exact ⟨k + 1, vs', by omega, by go_num, HF2.out, HB2.out⟩
          case measure => simp [intOf]; omega
    · have e : k = bl.length := by omega
      subst e
      go_wp2_with fail
      go_ret
      exact ⟨_, vs, rfl, by have h9 := HP.out; rw [hz0] at h9; exact h9, HB0.out⟩
end Go.Proofs.Ytgkaeoieclegjaa
