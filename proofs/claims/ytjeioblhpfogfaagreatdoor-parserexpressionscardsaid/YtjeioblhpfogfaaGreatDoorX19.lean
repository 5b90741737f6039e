/- Steps: any type; tokens that end. -/
import Derived.Test.YtjeioblhpfogfaaGreatDoorX18
import Derived.RegionDies
set_option linter.unusedVariables false
set_option linter.unusedSimpArgs false
set_option maxRecDepth 20000
set_option maxHeartbeats 8000000
namespace Go.Proofs.YtjeioblhpfogfaaGreatDoor
open Go.RowKit

/-- Behind a token that is no end comes another one; texts are not too long. -/
structure TokOk (toks : List Tk) : Prop where
  next : ∀ k, k < toks.length → ¬ (tk toks k).kind = 1 → k + 1 < toks.length
  size : ∀ k, (tk toks k).text.size ≤ 1000000
theorem sign_some {toks : List Tk} {k : Nat} {sx : ByteArray} (h : signAt toks k = sx) (hs : ¬ sx = ⟨#[]⟩) : k < toks.length ∧ ¬ (tk toks k).kind = 1 ∧ (tk toks k).text = sx := by
  unfold signAt at h
  unfold tk
  cases e : toks[k]? with
  | none => rw [e] at h; exact absurd h.symm hs
  | some t =>
    rw [e] at h
    simp only at h
    split at h
    · rename_i hk
      refine ⟨(List.getElem?_eq_some_iff.1 e).1, ?_, h⟩
      show ¬ t.kind = 1
      omega
    · exact absurd h.symm hs
theorem TokOk.sign {toks : List Tk} (h : TokOk toks) {k : Nat} {sx : ByteArray} (hq : signAt toks k = sx) (hs : ¬ sx = ⟨#[]⟩) : k + 1 < toks.length := by
  obtain ⟨h1, h2, _⟩ := sign_some hq hs
  exact h.next k h1 h2

theorem typed183_sn {W : World} {B p : Nat} {toks : List Tk} {s : St} (h : RdS W B p toks s) (hf : Fine1 toks s) (hq : signAt toks s.pl = ⟨#[115, 116, 114, 117, 99, 116]⟩) (hn : s.pl + 1 < toks.length) (hk : ¬ (tk toks (s.pl + 1)).kind = 2) :
    Calls Tryz.prog 183 #[.pointer (some ⟨p, 0, none⟩)] W (Res B p toks W (.error (tk toks (s.pl + 1)).pos)) := by
  have H0 := hid' h
  have HF := hid' hf
  have K0 := hid' (KQ.rfl B p W)
  have hf4 := fld42_4
  have HN := hid' hn
  have HK := hid' hk
  clear h hf hn hk
  go_enter Tryz.func183, Tryz.ntmps183
  go_wp2_with (first
    | (go_at_call 88; (with_reducible refine (sign_is H0.out hq (by have := HF.out.at_; have := HF.out.few; (try dsimp only); omega) (by have := HF.out.few; omega)).mono ?_); rintro e w1 ⟨rfl, hb1⟩; have H1 := hid' (H0.out.below hb1); have K1 := hid' (K0.out.trans (KQ.of_below hb1)); clear hb1)
    | (go_at_call 131; (with_reducible refine (isType_struct _).mono ?_); rintro e w2 ⟨rfl, hb2⟩; have H2 := hid' (H1.out.below hb2); have K2 := hid' (K1.out.trans (KQ.of_below hb2)); clear hb2)
    | (go_at_call 75; (with_reducible refine (token_agg H2.out HF.out.at_).mono ?_); rintro e w3 ⟨rfl, hb3⟩; have H3 := hid' (H2.out.below hb3); have K3 := hid' (K2.out.trans (KQ.of_below hb3)); clear hb3)
    | (go_at_call 93; (with_reducible refine (skip_is (H3.out.below (below1 w3 _)) (by have := HF.out.at_; have := HF.out.few; (try dsimp only); omega)).mono ?_); rintro e w4 ⟨hk4, rfl, hR4⟩; have hx4 := hid' (hk4.box (b := w3.heap.size) (H3.out.below (below1 w3 _)).head' (heap_alloc_new w3 _) (by decide) (by decide) (by decide) (by decide)); obtain ⟨l0, l1, l2, l3, l4, l5, lf, ll⟩ := box_six hx4.out; have H4 := hid' hR4; have K4 := hid' (K3.out.trans ((KQ.of_below (below1 w3 _)).trans hk4)); clear hR4 hk4))
  obtain ⟨bx, hbx⟩ : ∃ bx, bx = w3.heap.size := ⟨_, rfl⟩
  rw [← hbx] at hx4 l0 l1 l2 l3 l4 l5 lf ll ⊢
  have lf1 := lf 1
  have HC : Hid (∀ W', Below w4.heap.size w4 W' → Calls Tryz.prog 180 #[.pointer (some ⟨p, 0, none⟩)] W' (Res B p toks W' (.error (tk toks (s.pl + 1)).pos))) := fun W' hb => name_no (H4.out.below hb) HN.out (by have := HF.out.few; omega) HK.out
  have HDR : Hid (Below w4.heap.size w4 w4.drew) := (Below.refl _ _).drew
  clear hbx lf
  go_region_dies
  all_goals
    refine (HC.out _ HDR.out).mono ?_
    rintro e w5 ⟨hk5, rfl⟩
    exact ⟨rfl, K4.out.trans ((KQ.of_below HDR.out).trans hk5), rfl⟩
/-- A type that must come next. -/
def typedF (toks : List Tk) (s : St) : Except Int St :=
  if tyWord (signAt toks s.pl) = true then
    if (signAt toks s.pl).toList == [115, 116, 114, 117, 99, 116] then
      if (tk toks (s.pl + 1)).kind = 2 then .ok { s with pl := s.pl + 2, done := s.done ++ [⟨⟨16, structW (tk toks (s.pl + 1)).text, 0, false, (tk toks s.pl).pos⟩, [], (tk toks s.pl).pos⟩] }
      else .error (tk toks (s.pl + 1)).pos
    else .ok { s with pl := s.pl + 1, done := s.done ++ [⟨⟨16, signAt toks s.pl, 0, false, (tk toks s.pl).pos⟩, [], (tk toks s.pl).pos⟩] }
  else .error (tk toks s.pl).pos
theorem of_toList {a : ByteArray} {l : List UInt8} (h : (a.toList == l) = true) : a = ⟨l.toArray⟩ := by
  rw [toList_data, beq_iff_eq] at h
  cases a
  subst h
  rfl
theorem typed183 {W : World} {B p : Nat} {toks : List Tk} {s : St} (h : RdS W B p toks s) (hf : Fine1 toks s) (hT : TokOk toks) :
    Calls Tryz.prog 183 #[.pointer (some ⟨p, 0, none⟩)] W (Res B p toks W (typedF toks s)) := by
  unfold typedF
  by_cases h1 : tyWord (signAt toks s.pl) = true
  · rw [if_pos h1]
    by_cases h2 : ((signAt toks s.pl).toList == [115, 116, 114, 117, 99, 116]) = true
    · rw [if_pos h2]
      have hq := of_toList h2
      have hn := hT.sign hq (by simp)
      split
      · rename_i hk
        exact typed183_s h hf hq hn hk (hT.size _)
      · rename_i hk
        exact typed183_sn h hf hq hn hk
    · rw [if_neg h2]
      exact typed183_w h hf rfl h1 (by simpa using h2)
  · rw [if_neg h1]
    exact typed183_n h hf rfl (by simpa using h1)
theorem typed_ok {W : World} {B p : Nat} {toks : List Tk} {s s2 : St} (h : RdS W B p toks s) (hf : Fine1 toks s) (hT : TokOk toks) (h1 : typedF toks s = .ok s2) : Calls Tryz.prog 183 #[.pointer (some ⟨p, 0, none⟩)] W (Res B p toks W (.ok s2)) := by
  rw [← h1]
  exact typed183 h hf hT
theorem typed_no {W : World} {B p : Nat} {toks : List Tk} {s : St} {q : Int} (h : RdS W B p toks s) (hf : Fine1 toks s) (hT : TokOk toks) (h1 : typedF toks s = .error q) : Calls Tryz.prog 183 #[.pointer (some ⟨p, 0, none⟩)] W (Res B p toks W (.error q)) := by
  rw [← h1]
  exact typed183 h hf hT
/-- What a type that was read leaves. -/
theorem typedF_ok {toks : List Tk} {s s2 : St} (hT : TokOk toks) (h1 : typedF toks s = .ok s2) : ∃ x : NdH, s2 = { s with pl := s2.pl, done := s.done ++ [⟨x, [], (tk toks s.pl).pos⟩] } ∧ s2.pl < toks.length ∧ s.pl < s2.pl ∧ x.kind = 16 ∧ x.pos = (tk toks s.pl).pos := by
  unfold typedF at h1
  split at h1
  · rename_i hw
    split at h1
    · rename_i h2
      have hq := of_toList h2
      have hn := hT.sign hq (by simp)
      split at h1
      · rename_i hk
        injection h1 with h1
        subst h1
        exact ⟨_, rfl, hT.next _ hn (by omega), by simp, rfl, rfl⟩
      · cases h1
    · injection h1 with h1
      subst h1
      refine ⟨_, rfl, hT.sign (k := s.pl) rfl (fun e => ?_), by simp, rfl, rfl⟩
      rw [e] at hw
      simp [tyWord, toList_data] at hw
  · cases h1
end Go.Proofs.YtjeioblhpfogfaaGreatDoor
