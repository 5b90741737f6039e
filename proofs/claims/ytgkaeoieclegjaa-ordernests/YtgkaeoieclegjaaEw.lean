/- endsWith, isGreat. -/
import Derived.Test.YtgkaeoieclegjaaDm
namespace Go.Proofs.Ytgkaeoieclegjaa
open Go Go.RowKit Go.Maps
set_option linter.unusedVariables false
set_option linter.unusedSimpArgs false
theorem oends33 {w : World} {v : Value} {l : List Int} (h : Src icell w v l) (hl : l.length * 8 ≤ big) (n : Int) :
    Calls Try.prog 33 #[v, .int .i64 n] w fun e w' => e = .returned (.bool (decide (l.getLast? = some n))) ∧ w' = w := by
  obtain ⟨ao, cap, rfl, hf⟩ := h.ints
  unfold big at hl
  have HF := hid' hf
  clear hf h
  by_cases h0 : l.length = 0
  · have e : l = [] := List.eq_nil_of_length_eq_zero h0
    subst e
    clear h0
    simp only [List.length_nil, List.getLast?_nil]
    go_enter Try.func33, Try.ntmps33
    go_wp2
    go_ret
    exact ⟨rfl, rfl⟩
  · obtain ⟨b, off, rfl, hbl, hcp, hc⟩ := HF.out (l.length - 1) (by omega)
    have c0 := hc w (Below.refl _ _)
    clear hc
    have e1 : l.getLast? = some l[l.length - 1] := by rw [List.getLast?_eq_getElem?, List.getElem?_eq_getElem]
    rw [e1]
    have hi : ((l.length : Int) - 1).toNat = l.length - 1 := by omega
    have hpos : 0 < l.length := by omega
    clear e1
    by_cases he : l[l.length - 1] = n
    · rw [decide_eq_true (by rw [he])]
      rw [he] at c0
      clear he
      go_enter Try.func33, Try.ntmps33
      go_wp2
      go_ret
      exact ⟨rfl, rfl⟩
    · rw [decide_eq_false (fun h => he (Option.some.inj h))]
      go_enter Try.func33, Try.ntmps33
      go_wp2
      go_ret
      exact ⟨by simp [he], rfl⟩
/-- How many edges there are. -/
def edgesF (bl : List Bl) : Nat := (bl.map (fun b => b.to.length)).sum
theorem edgesF_snoc (l : List Bl) (k : Nat) (h : k < l.length) : edgesF (l.take (k + 1)) = edgesF (l.take k) + l[k].to.length := by
  unfold edgesF
  rw [take_snoc l k h]
  simp only [List.map_append, List.map_cons, List.map_nil, List.sum_append, List.sum_cons, List.sum_nil, Nat.add_zero]
theorem edgesF_le {w : World} {l : List Bl} (h : ∀ x ∈ l, Bl.ok w x) : edgesF l ≤ l.length * 17592186043904 := by
  induction l with
  | nil => simp [edgesF]
  | cons x l ih =>
    have h1 := ih (fun y hy => h y (by simp [hy]))
    have h2 := (h x (by simp)).tl
    have e : edgesF (x :: l) = x.to.length + edgesF l := by simp [edgesF]
    unfold big at h2
    rw [e, List.length_cons]
    omega
set_option maxRecDepth 20000 in
set_option maxHeartbeats 8000000 in
theorem isGreat32 {w : World} {f : Fn} (h : Fn.ok w f) : Calls Try.prog 32 #[f.val] w fun e w' => ∃ R : Bool, e = .returned (.bool R) ∧ Below w.heap.size w w' ∧ (f.blocks.length ≤ 4096 → edgesF f.blocks ≤ 8192 → R = false) := by
  obtain ⟨nm, ps, rs, sl, bv, bl⟩ := f
  obtain ⟨hb, hbl, _, hbs⟩ := h
  dsimp only at *
  obtain ⟨ao, cap, rfl, hf⟩ := hb.form bl4
  have HF := hid' hf
  have HS := hid' hbs
  unfold big at hbl
  unfold Fn.val
  dsimp only
  clear hb hf hbs
  go_enter Try.func32, Try.ntmps32
  obtain ⟨w0, ew0⟩ : ∃ w0, w0 = w.alloc (.cells #[.string nm, .int .i64 ps, .int .i64 rs, .int .i64 sl, .slice ao bl.length cap] 24) := ⟨_, rfl⟩
  have hb0 : Below w.heap.size w w0 := by rw [ew0]; exact below1 _ _
  have hC : Hid (∀ W : World, Below w0.heap.size w0 W → W.cell? ⟨w.heap.size, 4, none⟩ = some (.slice ao bl.length cap)) := fun W hW => by
    rw [ew0] at hW
    obtain ⟨_, _, m0, m1, m2, m3, m4⟩ := fbox (W := W) (w := w) (T := 24) hW
    exact m4
  have HB0 := hid' hb0
  go_upto_region 1 with fail
  rw [← ew0]
  clear ew0 hb0
  have k4 := hC.out w0 (Below.refl _ _)
  go_wp2_with fail
  go_loopw [3, 9] (fun ev iv wr => ∃ (k : Nat) (x : Int), k ≤ bl.length ∧ iv = .int .i64 k ∧ ev = .int .i64 x ∧ (-9223372036854775808 ≤ x ∧ x ≤ 9223372036854775807) ∧ (edgesF (bl.take k) ≤ 8192 → x = edgesF (bl.take k)) ∧ Below w0.heap.size w0 wr) (fun _ iv _ => bl.length - (intOf iv).toNat)
  case atStart => exact ⟨0, 0, Nat.zero_le _, rfl, rfl, by omega, fun _ => rfl, Below.refl _ _⟩
  case round =>
    obtain ⟨k, x, hk, rfl, rfl, hx, hxe, hbr⟩ := hrel
    have HXE := hid' hxe
    have HB := hid' hbr
    have k4 := hC.out wr hbr
    clear hxe hbr
    by_cases hkl : k < bl.length
    · obtain ⟨b, o, rfl, hb1, hc1, hbx⟩ := HF.out k hkl
      have hWr : Below w.heap.size w wr := HB0.out.trans (HB.out.mono HB0.out.size)
      obtain ⟨c0, c1, c2, c3⟩ := bl_cells (hbx wr hWr)
      have hok := HS.out _ (List.getElem_mem hkl)
      obtain ⟨tt, tc, ett⟩ := hok.t.len
      obtain ⟨cao, ccap, ecc⟩ := hok.c.len
      have htl := hok.tl
      rw [ett] at c3
      rw [ecc] at c0
      have HSN := hid' (edgesF_snoc bl k hkl)
      unfold big at htl
      clear hbx hok ett ecc
      generalize bl[k].to.length = tl at *
      go_wp2_with fail
      have HB3 := below_up HB.out (below1 wr (.cells #[.slice cao bl[k].code.length ccap, .int .i64 bl[k].en, .int .i64 bl[k].arg, .slice tt tl tc] 45))
      refine ⟨⟨k + 1, wrap64 (x + tl), by omega, by go_num, rfl, by simp only [wrap64]; omega, fun he => ?_, HB3⟩, by simp [intOf]; omega⟩
      rw [HSN.out] at he ⊢
      have h1 := HXE.out (by omega)
      rw [h1]
      simp only [wrap64]
      omega
    · have ek : k = bl.length := by omega
      subst ek
      rw [List.take_length] at HXE
      have HB2 := hid' (HB0.out.trans (HB.out.mono HB0.out.size))
      go_wp2_with fail
      · go_ret
        refine ⟨_, rfl, HB2.out, fun h1 h2 => ?_⟩
        have h3 := HXE.out h2
        have e1 : ¬ (4096 : Int) < bl.length := by omega
        have e2 : ¬ (8192 : Int) < x := by omega
        simp [e1, e2]
      · go_ret
        exact .inr ⟨rfl, HB2.out, fun h => by omega⟩
end Go.Proofs.Ytgkaeoieclegjaa
