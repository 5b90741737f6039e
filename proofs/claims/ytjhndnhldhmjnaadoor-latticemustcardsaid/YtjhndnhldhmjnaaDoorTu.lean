/- Lists turned about: of each number those in whose lists it stands. -/
import Derived.Test.YtjhndnhldhmjnaaDoorPm
namespace Go.Proofs.YtjhndnhldhmjnaaDoor
open Go.RowKit Go.Maps
set_option linter.unusedVariables false
set_option linter.unusedSimpArgs false
def Mark (p : Prop) : Prop := p
theorem of_mark {p : Prop} (h : Mark p) : p := h
/-- Lists of numbers, wherever they came from. -/
structure RowsI (w : World) (v : Value) (vs : List Value) (L : List (List Int)) : Prop where
  src : Src vcell w v vs
  len : vs.length = L.length
  el : ∀ j (h1 : j < vs.length) (h2 : j < L.length), Src icell w vs[j] L[j]
theorem RowsI.on {w w' : World} {v : Value} {vs : List Value} {L : List (List Int)} (h : RowsI w v vs L) (hb : Below w.heap.size w w') : RowsI w' v vs L :=
  ⟨h.src.on hb, h.len, fun j h1 h2 => (h.el j h1 h2).on hb⟩
theorem PM.rows {W : World} {B g : Nat} {vs : List Value} {L : List (List Int)} (h : PM W B g vs L) : RowsI W (.slice (some ⟨g, 0, none⟩) L.length L.length) vs L := by
  refine ⟨?_, h.len, fun j h1 h2 => (h.el j h1 h2).src ic1⟩
  have : Own 46 1 vcell W B (.slice (some ⟨g, 0, none⟩) L.length L.length) vs := by
    have hr := h.row
    unfold Own
    rw [flat_v, h.len]
    exact hr
  exact this.src vc1
theorem Src.vals {w : World} {v : Value} {l : List Value} (h : Src vcell w v l) :
    ∃ ao cap, v = .slice ao l.length cap ∧ ∀ k (hk : k < l.length), ∃ b off, ao = some ⟨b, off, none⟩ ∧ b < w.heap.size ∧ l.length ≤ cap ∧ ∀ w', Below w.heap.size w w' → w'.cell? ⟨b, off + k, none⟩ = some l[k] := by
  obtain ⟨ao, cap, e, hf⟩ := h.form vc1
  refine ⟨ao, cap, e, fun k hk => ?_⟩
  obtain ⟨b, off, e1, hb, hc, h2⟩ := hf k hk
  refine ⟨b, off, e1, hb, hc, fun w' hw => ?_⟩
  have := h2 w' hw 0 (by omega)
  simpa [vcell] using this
/-- In the midst: list k's round, m of its numbers done. -/
structure TMid (w : World) (I : List (List Int)) (k m : Nat) (tos : List Int) (wr : World) (vs : List Value) (L : List (List Int)) : Prop where
  is : L = addB (turnN I k) k (tos.take m)
  pm : PM wr w.heap.size w.heap.size vs L
  below : Below w.heap.size w wr
theorem TMid.len {w : World} {I : List (List Int)} {k m : Nat} {tos : List Int} {wr : World} {vs : List Value} {L : List (List Int)} (h : TMid w I k m tos wr vs L) : L.length = I.length := by
  rw [h.is, addB_len, turnN_len]
theorem TMid.inv {w : World} {I : List (List Int)} {k m : Nat} {tos : List Int} {wr : World} {vs : List Value} {L : List (List Int)} (h : TMid w I k m tos wr vs L) : ∀ l ∈ L, Inv k l := by
  rw [h.is]
  exact inv_addB _ (inv_turnN I k)
theorem TMid.stay {w : World} {I : List (List Int)} {k m : Nat} {tos : List Int} {wr wr' : World} {vs : List Value} {L : List (List Int)} (h : TMid w I k m tos wr vs L) (hm : m < tos.length) (he : addP L k tos[m] = L) (hb : Below wr.heap.size wr wr') :
    TMid w I k (m + 1) tos wr' vs L :=
  ⟨by rw [addB_snoc _ _ _ _ hm, ← h.is, he], h.pm.on hb, below_on h.below hb h.below.size⟩
theorem TMid.at_ {w : World} {I : List (List Int)} {k m : Nat} {tos : List Int} {wr : World} {vs : List Value} {L : List (List Int)} (h : TMid w I k m tos wr vs L) {tn : Nat} (ht : tn < I.length) :
    ∃ (h1 : tn < vs.length) (h2 : tn < L.length), wr.cell? ⟨w.heap.size, tn, none⟩ = some vs[tn] ∧ Own 3 1 icell wr w.heap.size vs[tn] L[tn] ∧ Inv k L[tn] ∧ L.getD tn [] = L[tn] ∧ wr.frozen? ⟨w.heap.size, tn, none⟩ = false ∧ w.heap.size < wr.heap.size := by
  have h2 : tn < L.length := by rw [h.len]; exact ht
  have h1 : tn < vs.length := by rw [h.pm.len]; exact h2
  exact ⟨h1, h2, (World.ownsRow.cellAt h.pm.row tn (by omega)).trans (List.getElem?_eq_getElem h1), h.pm.el tn h1 h2, h.inv _ (List.getElem_mem h2), by simp [h2], World.ownsRow.frozenAt h.pm.row tn, h.pm.g.2⟩
set_option maxRecDepth 20000 in
set_option maxHeartbeats 8000000 in
theorem turned54 {w : World} {v : Value} {us : List Value} {I : List (List Int)} (h : RowsI w v us I) (hn : I.length ≤ 4096) (hr : ∀ l ∈ I, ∀ x ∈ l, 0 ≤ x ∧ x < I.length) (hl : ∀ l ∈ I, l.length * 8 ≤ big) :
    Calls Tryd.prog 54 #[v] w fun e w' => ∃ vs, e = .returned (.slice (some ⟨w.heap.size, 0, none⟩) I.length I.length) ∧ PM w' w.heap.size w.heap.size vs (turnF I) ∧ Below w.heap.size w w' := by
  obtain ⟨hsrc, hlen, hel⟩ := h
  obtain ⟨ao, cap, rfl, hf⟩ := hsrc.vals
  rw [hlen]
  have HF := hid' hf
  have HE := hid' hel
  have HR := hid' hr
  have HL := hid' hl
  have HLN := hid' hlen
  obtain ⟨w1, hm, hpm, hbw, hs1⟩ := make_sl w (base := w.heap.size) (n := I.length) (by unfold big; omega) (Nat.le_refl _)
  have HPM := hid' hpm
  have HBW := hid' hbw
  obtain ⟨ti3, hi3, z0', z1', z2'⟩ := info_parts info3
  have HI3 := hid' hi3
  clear hf hel hr hl hpm hbw hsrc hlen
  go_enter Tryd.func54, Tryd.ntmps54
  go_wp2_with fail
  clear hm
  go_loopw [13] (fun i wr => ∃ (k : Nat) (vs : List Value), k ≤ I.length ∧ i = .int .i64 k ∧ PM wr w.heap.size w.heap.size vs (turnN I k) ∧ Below w.heap.size w wr) (fun i _ => I.length - (intOf i).toNat)
  case atStart => exact ⟨0, _, Nat.zero_le _, rfl, HPM.out, HBW.out⟩
  case round =>
    obtain ⟨k, vs, hk, rfl, hP, hbr⟩ := hrel
    have HP := hid' hP
    have HB := hid' hbr
    clear hP hbr
    by_cases hlt : k < I.length
    · obtain ⟨b, o, rfl, hb1, hc1, hx⟩ := HF.out k (by rw [HLN.out]; exact hlt)
      have c0 := hx wr HB.out
      have ho := HE.out k (by rw [HLN.out]; exact hlt) hlt
      have htl := HL.out _ (List.getElem_mem hlt)
      have HTR := hid' (HR.out _ (List.getElem_mem hlt))
      have HPS := hid' (turnN_succ I k hlt)
      obtain ⟨tt, tc, et, hft⟩ := ho.ints
      have HT := hid' hft
      rw [et] at c0
      unfold big at htl
      clear hx ho et hft
      generalize I[k] = tos at *
      go_wp2_with fail
      go_loopw [20] (fun i wr' => ∃ (m : Nat) (vs' : List Value) (L : List (List Int)), m ≤ tos.length ∧ i = .int .i64 m ∧ TMid w I k m tos wr' vs' L) (fun i _ => tos.length - (intOf i).toNat)
      case atStart => exact ⟨0, vs, turnN I k, Nat.zero_le _, rfl, rfl, HP.out, HB.out⟩
      case round =>
        obtain ⟨m, vs', L, hmk, rfl, hM⟩ := hrel
        have HM := hid' hM
        clear hM
        by_cases hmt : m < tos.length
        · obtain ⟨tb, tof, rfl, htb, htc, hcx⟩ := HT.out m hmt
          have tcell := hcx wr HM.out.below
          clear hcx
          have HSTAY : Hid (∀ W, Below wr.heap.size wr W → addP L k tos[m] = L → TMid w I k (m + 1) tos W vs' L) := fun W hW he => HM.out.stay hmt he hW
          have HIS : Hid (addB (turnN I k) k (tos.take (m + 1)) = addP L k tos[m]) := by unfold Hid; rw [addB_snoc _ _ _ _ hmt, ← HM.out.is]
          obtain ⟨g0, g1⟩ := HTR.out _ (List.getElem_mem hmt)
          generalize tos[m] = t at *
          obtain ⟨tn, rfl⟩ : ∃ tn : Nat, t = tn := ⟨t.toNat, by omega⟩
          have htn : tn < I.length := by omega
          obtain ⟨q1, q2, q3, q4, q5, q6, q7, q8⟩ := HM.out.at_ htn
          have HO4 := hid' q4
          have HI5 := hid' q5
          have hqq : decide (L[tn].getLast? = some (k : Int)) = hasF L[tn] k := inv_last q5
          have hll : L[tn].length * 8 ≤ big := by have := q5.2.2.2; unfold big; omega
          have H33 : Hid (∀ W, Below wr.heap.size wr W → Calls Tryd.prog 57 #[vs'[tn], .int .i64 k] W fun e w' => e = .returned (.bool (hasF L[tn] k)) ∧ w' = W) := fun W hW => by
            have := endsWith57 ((Own.src ic1 HO4.out).on hW) hll k
            rw [hqq] at this
            exact this
          clear q4 q5 hqq hll
          cases hh : hasF L[tn] k
          · rw [hh] at H33
            have HNEW := hid' (addP_new (L := L) (b := k) (q0 := tn) ⟨by omega, by rw [HM.out.len]; exact_mod_cast htn⟩ (by rw [Int.toNat_natCast, q6]; exact hh))
            have hnl : L[tn].length ≤ k := HI5.out.2.2.1 (of_decide_eq_false hh)
            clear hh
            go_wp2_with (first
              | (go_at_call 57; refine (H33.out _ (Below.refl _ _)).mono ?_; rintro e3 w3 ⟨rfl, rfl⟩)
              | (at_builtin; refine of_mark ?_))
            unfold Mark
            have hP2 := HM.out.pm
            have hO2 := hP2.el tn q1 q2
            refine wpList_append_own_at _ rfl _ _ 46 rfl w.heap.size 3 ti3 (.int .i64 0) 1 8 Tryd.underlying46 HI3.out z0' z1' z2' rfl (by decide) vs'[tn] _ _ rfl (World.ownsRow.alloc hO2 _) ⟨w3.heap.size, 0, none⟩ 1 1 [.int .i64 k] rfl rfl (cell_one_new _ _ _) (by intro x hx; simp at hx; rw [hx]; rfl) (by unfold maxLen; omega) (by omega) (by have := hP2.g; simp; omega) ?_
            intro v' w5 hown' hgrow hnil hloc
            obtain ⟨vg, vc, ev⟩ : ∃ vg vc, v' = .slice (some ⟨vg, 0, none⟩) (L[tn].length + 1) vc := by
              rcases hown'.2 with ⟨_, e0⟩ | ⟨g5, c5, cu5, e5, _⟩
              · omega
              · exact ⟨g5, c5, e5⟩
            have HN5 : Hid (TMid w I k (m + 1) tos (w5.setCell ⟨w.heap.size, tn, none⟩ v') (vs'.set tn v') (L.set tn (L[tn] ++ [(k : Int)]))) := by
              refine ⟨?_, hP2.app q2 q1 ?_ hgrow hloc, ?_⟩
              · rw [HIS.out, HNEW.out, Int.toNat_natCast, q6]
              · unfold Own
                rw [flat_append, List.length_append]
                exact hown'
              · exact HM.out.below.trans (hP2.appBelow (by have := hP2.g; omega) q2 q1 hgrow)
            have hg5 : w5.cell? ⟨w.heap.size, tn, none⟩ = some vs'[tn] := by
              have h1 := (hP2.row.alloc _).kept hgrow (.inr (fun e => hP2.ng tn q1 e.symm))
              exact (World.ownsRow.cellAt h1 tn (by rw [HM.out.len]; omega)).trans (List.getElem?_eq_getElem q1)
            have hf5 : w5.frozen? ⟨w.heap.size, tn, none⟩ = false := by
              have h1 := (hP2.row.alloc _).kept hgrow (.inr (fun e => hP2.ng tn q1 e.symm))
              exact World.ownsRow.frozenAt h1 tn
            subst ev
            clear hown' hgrow hnil hloc hP2 hO2 HO4 HI5 H33 HM HSTAY
            go_wp2_with fail
            go_roundw
            case rel => exact ⟨m + 1, _, _, by omega, by go_num, HN5.out⟩
            case measure => simp [intOf]; omega
          · rw [hh] at H33
            have HO := hid' (addP_has (L := L) (b := k) (q0 := tn) (by rw [Int.toNat_natCast, q6]; exact hh))
            clear hh
            go_wp2_with (go_at_call 57; refine (H33.out _ (Below.refl _ _)).mono ?_; rintro e3 w3 ⟨rfl, rfl⟩)
            go_roundw
            case rel => exact ⟨m + 1, vs', L, by omega, by go_num, HSTAY.out _ (Below.refl _ _) HO.out⟩
            case measure => simp [intOf]; omega
        · have e : m = tos.length := by omega
          subst e
          have HF2 : Hid (PM wr w.heap.size w.heap.size vs' (turnN I (k + 1))) := by
            have h1 := HM.out.pm
            rw [HM.out.is, List.take_length] at h1
            unfold Hid
            rw [HPS.out]
            exact h1
          have HB2 := hid' HM.out.below
          go_wp2_with fail
          go_roundw
          case rel => exact ⟨k + 1, vs', by omega, by go_num, HF2.out, HB2.out⟩
          case measure => simp [intOf]; omega
    · have e : k = I.length := by omega
      subst e
      go_wp2_with fail
      go_ret
      exact ⟨vs, rfl, HP.out, HB.out⟩
end Go.Proofs.YtjhndnhldhmjnaaDoor
