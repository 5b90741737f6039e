/- The document's parser: conditions, expressions. -/
import Derived.Test.YtjeioblhpfogfaaGreatDoorX30
import Derived.Test.YtjeioblhpfogfaaGreatDoorX31
import Derived.Deep.RegionWith
set_option linter.unusedVariables false
set_option linter.unusedSimpArgs false
set_option maxRecDepth 20000
set_option maxHeartbeats 8000000
namespace Go.Proofs.YtjeioblhpfogfaaGreatDoor
open Go.RowKit

theorem chosen50_bad {w : World} {p k : Nat} {toks : List Tk} {tv : Value} {b : Bool} {q : Int} {B0 : Nat} {kd0 : Int} {st0 : ByteArray} {nu0 : Int} {fl0 : Bool} {ao0 : Option Addr} {m0 cap0 : Nat} {ps0 fr : Int} {ks0 : List Tr} (hW : TokW toks) (hT : TokOk toks) (hp : p < B0) (hB : B0 ≤ w.heap.size) (hK : Kf B0 w (.slice ao0 m0 cap0) ks0)  (h : RS w p toks tv k true q) :
    Calls Tryz.prog 50 #[.pointer (some ⟨p, 0, none⟩), .agg #[.int .i64 (kd0), .string (st0), .int .u32 (nu0), .bool (fl0), (.slice ao0 m0 cap0), .int .i64 (ps0)], .int .i64 fr] w (RH p B0 toks tv (.condR fr [Tr.node ⟨kd0, st0, nu0, fl0, ps0⟩ ks0]) k true q w) := by
  have H0 := hid' h
  have K0 := hid' (Kp.rfl p w)
  have hf0 := fld42_0
  have hf1 := fld42_1
  have hf4 := fld42_4
  have HP := hid' hp
  have HB := hid' hB
  have Tz : Hid (Kb [] B0 w (.slice ao0 m0 cap0) ks0) := hid' (Kb.of hK (Nat.le_refl _) all0)
  clear hp hB hK
  obtain ⟨r0a, r0b, r0c, r0d, r0l⟩ := h.cells
  clear h
  go_enter Tryz.func50, Tryz.ntmps50
  go_wp2
  refine ret_bx (bx := w.heap.size + 1) (x := ⟨kd0, st0, nu0, fl0, ps0⟩) (kv := (.slice ao0 m0 cap0)) (Bx.newAt ⟨kd0, st0, nu0, fl0, ps0⟩ (.slice ao0 m0 cap0) (by simp)) (fun W c0 c1 c2 c3 c4 c5 => by simp [results, Tryz.results50, go_sem, c0, c1, c2, c3, c4, c5]) rfl ?_
  refine ⟨_, _, _, _, _, _, _, _, _, _, _, _, rfl, ((K0.out.alloc _).alloc _), ((H0.out.alloc _).alloc _), ((Tz.out.boxAt (g := w.heap.size) (by simp) _).boxAt (g := w.heap.size + 1) (by simp) _).to, ⟨(by omega), ?_⟩⟩
  exact At.rfl.any
theorem chosen50_no {w : World} {p k : Nat} {toks : List Tk} {tv : Value} {b : Bool} {q : Int} {B0 : Nat} {kd0 : Int} {st0 : ByteArray} {nu0 : Int} {fl0 : Bool} {ao0 : Option Addr} {m0 cap0 : Nat} {ps0 fr : Int} {ks0 : List Tr} (hW : TokW toks) (hT : TokOk toks) (hp : p < B0) (hB : B0 ≤ w.heap.size) (hK : Kf B0 w (.slice ao0 m0 cap0) ks0) (t0 : decide (signAt toks k = ⟨#[63]⟩) = false) (h : RS w p toks tv k false q) :
    Calls Tryz.prog 50 #[.pointer (some ⟨p, 0, none⟩), .agg #[.int .i64 (kd0), .string (st0), .int .u32 (nu0), .bool (fl0), (.slice ao0 m0 cap0), .int .i64 (ps0)], .int .i64 fr] w (RH p B0 toks tv (.condR fr [Tr.node ⟨kd0, st0, nu0, fl0, ps0⟩ ks0]) k false q w) := by
  have H0 := hid' h
  have K0 := hid' (Kp.rfl p w)
  have hf0 := fld42_0
  have hf1 := fld42_1
  have hf4 := fld42_4
  have HP := hid' hp
  have HB := hid' hB
  have Tz : Hid (Kb [] B0 w (.slice ao0 m0 cap0) ks0) := hid' (Kb.of hK (Nat.le_refl _) all0)
  clear hp hB hK
  obtain ⟨r0a, r0b, r0c, r0d, r0l⟩ := h.cells
  clear h
  go_enter Tryz.func50, Tryz.ntmps50
  go_wp2_with (first
    | (go_at_call 42; (with_reducible refine (mark_b ⟨#[63]⟩ _ hW rfl (by simp) t0 ((H0.out.alloc _).alloc _)).mono ?_); rintro e w1 ⟨rfl, hb⟩; have H1 := hid' (((H0.out.alloc _).alloc _).below hb); have K1 := hid' (((K0.out.alloc _).alloc _).trans (Kp.of_below hb)); have Xn_1 : Hid (Bx w1 (w.heap.size) ⟨kd0, st0, nu0, fl0, ps0⟩ (.slice ao0 m0 cap0)) := hid' (((Bx.newAt ⟨kd0, st0, nu0, fl0, ps0⟩ (.slice ao0 m0 cap0) (by simp)).alloc _).below hb); have Xa_1 : Hid (Bx w1 (w.heap.size + 1) ⟨0, ⟨#[]⟩, 0, false, 0⟩ (.slice none 0 0)) := hid' ((Bx.newAt ⟨0, ⟨#[]⟩, 0, false, 0⟩ (.slice none 0 0) (by simp)).below hb); have LBa : Hid (w.heap.size ≤ w.heap.size + 1) := hid' (by have := K0.out.size; omega); have LTna : Hid (w.heap.size < w.heap.size + 1) := hid' (by omega); have NEna : ¬ w.heap.size = w.heap.size + 1 := Nat.ne_of_lt LTna.out; have NEan : ¬ w.heap.size + 1 = w.heap.size := Nat.ne_of_gt LTna.out; have Tz_1 : Hid (Kb [w.heap.size + 1, w.heap.size] B0 w1 (.slice ao0 m0 cap0) ks0) := hid' (((Tz.out.boxAt (g := w.heap.size) (by simp) _).boxAt (g := w.heap.size + 1) (by simp) _).below hb); obtain ⟨a1a, a1b, a1c, a1d, a1e, a1f, a1z, a1l⟩ := Xa_1.out.six; obtain ⟨n1a, n1b, n1c, n1d, n1e, n1f, n1z, n1l⟩ := Xn_1.out.six; clear hb))
  refine ret_bx (bx := w.heap.size + 1) (x := ⟨kd0, st0, nu0, fl0, ps0⟩) (kv := (.slice ao0 m0 cap0)) (Xa_1.out.set6 ⟨kd0, st0, nu0, fl0, ps0⟩ (.slice ao0 m0 cap0)) (fun W c0 c1 c2 c3 c4 c5 => by simp [results, Tryz.results50, go_sem, c0, c1, c2, c3, c4, c5]) rfl ?_
  refine ⟨_, _, _, _, _, _, _, _, _, _, _, _, rfl, (K1.out.set6 LBa.out ⟨kd0, st0, nu0, fl0, ps0⟩ (.slice ao0 m0 cap0)), (H1.out.set6 Xa_1.out ⟨kd0, st0, nu0, fl0, ps0⟩ (.slice ao0 m0 cap0)), (Tz_1.out.set6 (by simp) ⟨kd0, st0, nu0, fl0, ps0⟩ (.slice ao0 m0 cap0)).to, ⟨(by omega), ?_⟩⟩
  exact (At.start (toks := toks) (b := false) (q := q) (body_condR toks fr [Tr.node ⟨kd0, st0, nu0, fl0, ps0⟩ ks0] k)).not (by simpa using t0)
theorem chosen50_yes {w : World} {p k : Nat} {toks : List Tk} {tv : Value} {b : Bool} {q : Int} {B0 : Nat} {kd0 : Int} {st0 : ByteArray} {nu0 : Int} {fl0 : Bool} {ao0 : Option Addr} {m0 cap0 : Nat} {ps0 fr : Int} {ks0 : List Tr} (hW : TokW toks) (hT : TokOk toks) (hp : p < B0) (hB : B0 ≤ w.heap.size) (hK : Kf B0 w (.slice ao0 m0 cap0) ks0) (t0 : decide (signAt toks k = ⟨#[63]⟩) = true) {N : Nat} (ih : EH N p toks tv) (hN : (toks.length - k) * 8 ≤ N) (h : RS w p toks tv k false q) :
    Calls Tryz.prog 50 #[.pointer (some ⟨p, 0, none⟩), .agg #[.int .i64 (kd0), .string (st0), .int .u32 (nu0), .bool (fl0), (.slice ao0 m0 cap0), .int .i64 (ps0)], .int .i64 fr] w (RH p B0 toks tv (.condR fr [Tr.node ⟨kd0, st0, nu0, fl0, ps0⟩ ks0]) k false q w) := by
  have H0 := hid' h
  have K0 := hid' (Kp.rfl p w)
  have hf0 := fld42_0
  have hf1 := fld42_1
  have hf4 := fld42_4
  have HP := hid' hp
  have HB := hid' hB
  have Tz : Hid (Kb [] B0 w (.slice ao0 m0 cap0) ks0) := hid' (Kb.of hK (Nat.le_refl _) all0)
  clear hp hB hK
  obtain ⟨r0a, r0b, r0c, r0d, r0l⟩ := h.cells
  have hq : signAt toks k = ⟨#[63]⟩ := by simpa using t0
  have HQ := hid' hq
  have HN := hid' (hT.sign hq (by simp))
  have HI : Hid (∀ j, k + 1 ≤ j → (toks.length - j) * 8 + 6 < N) := fun j hj => by have := h.at_; omega
  clear hq
  clear h
  go_enter Tryz.func50, Tryz.ntmps50
  go_wp2_with (first
    | (go_at_call 50; (with_reducible refine (ih.ch RC6.out.2.1 RC6.out.2.2.1 RC6.out.1 (by have := HI.out k6 (by have := O3.out.le; have := le_takK toks ⟨#[58]⟩ k3; have := O6.out.le; omega); omega) H6.out).mono ?_); rintro e w7 ⟨kd7, st7, nu7, fl7, ao7, m7, cap7, ps7, ks7, k7, b7, q7, rfl, hk, hr, hT, ho⟩; have H7 := hid' hr; have K7 := hid' (K6.out.trans hk); have Xn_7 := hid' (Xn_6.out.kp H6.out hk); have Xa_7 := hid' (Xa_6.out.kp H6.out hk); have Xc_7 := hid' (Xc_6.out.kp H6.out hk); have Tz_7 := hid' (Tz_6.out.kp HP.out hk); have Tt3_7 := hid' (Tt3_6.out.kp HP.out hk); have Tt6_7 := hid' (Tt6_6.out.kp HP.out hk); have Tt7_7 : Hid (Kb [w3.heap.size, w.heap.size + 1, w.heap.size] B0 w7 (.slice ao7 m7 cap7) ks7) := hid' (Kb.of hT RC6.out.2.2.2.1 RC6.out.2.2.2.2); have O7 := hid' ho; obtain ⟨a7a, a7b, a7c, a7d, a7e, a7f, a7z, a7l⟩ := Xa_7.out.six; obtain ⟨n7a, n7b, n7c, n7d, n7e, n7f, n7z, n7l⟩ := Xn_7.out.six; obtain ⟨c7a, c7b, c7c, c7d, c7e, c7f, c7z, c7l⟩ := Xc_7.out.six; clear hk hr hT ho)
    | (go_at_call 51; (with_reducible refine (ih.bi (by decide) (by decide) (by have := HI.out (takK toks ⟨#[58]⟩ k3) (by have := O3.out.le; have := le_takK toks ⟨#[58]⟩ k3; omega); omega) H5.out).mono ?_); rintro e w6 ⟨kd6, st6, nu6, fl6, ao6, m6, cap6, ps6, ks6, k6, b6, q6, rfl, hk, hr, hT, ho⟩; have H6 := hid' hr; have K6 := hid' (K5.out.trans hk); have Xn_6 := hid' (Xn_5.out.kp H5.out hk); have Xa_6 := hid' (Xa_5.out.kp H5.out hk); have Xc_6 := hid' (Xc_5.out.kp H5.out hk); have Tz_6 := hid' (Tz_5.out.kp HP.out hk); have Tt3_6 := hid' (Tt3_5.out.kp HP.out hk); have Tt6_6 : Hid (Kb [w3.heap.size, w.heap.size + 1, w.heap.size] B0 w6 (.slice ao6 m6 cap6) ks6) := hid' (Kb.of hT (Nat.le_trans HB.out K5.out.size) (all_cons Xc_5.out.lt (all_cons Xa_5.out.lt (all_cons Xn_5.out.lt all0)))); obtain ⟨C6, hC⟩ : ∃ C, Kf C w6 (.slice ao6 m6 cap6) ks6 ∧ p < C ∧ C ≤ w6.heap.size ∧ B0 ≤ C ∧ (∀ b ∈ [w3.heap.size, w.heap.size + 1, w.heap.size], b < C) := ⟨_, hT, H5.out.lt, hk.size, (Nat.le_trans HB.out K5.out.size), (all_cons Xc_5.out.lt (all_cons Xa_5.out.lt (all_cons Xn_5.out.lt all0)))⟩; have RC6 := hid' hC; clear hC; have O6 := hid' ho; clear hk hr hT ho)
    | (go_at_call 21; (with_reducible refine (now21 H4.out).mono ?_); rintro e w5 ⟨rfl, hb⟩; have H5 := hid' (H4.out.below hb); have K5 := hid' (K4.out.trans (Kp.of_below hb)); have Xn_5 := hid' (Xn_4.out.below hb); have Xa_5 := hid' (Xa_4.out.below hb); have Xc_5 := hid' (Xc_4.out.below hb); have Tz_5 := hid' (Tz_4.out.below hb); have Tt3_5 := hid' (Tt3_4.out.below hb); clear hb)
    | (go_at_call 80; (with_reducible refine (take80 ⟨#[58]⟩ hW hT rfl (by simp) (H3.out.alloc _)).mono ?_); rintro e w4 ⟨rfl, hk, hr⟩; have H4 := hid' hr; have K4 := hid' ((K3.out.alloc _).trans hk); have Xn_4 : Hid (Bx w4 (w.heap.size) ⟨kd0, st0, nu0, fl0, ps0⟩ (.slice ao0 m0 cap0)) := hid' ((Xn_3.out.alloc _).kp (H3.out.alloc _) hk); have Xa_4 : Hid (Bx w4 (w.heap.size + 1) ⟨0, ⟨#[]⟩, 0, false, 0⟩ (.slice none 0 0)) := hid' ((Xa_3.out.alloc _).kp (H3.out.alloc _) hk); have Xc_4 : Hid (Bx w4 (w3.heap.size) ⟨kd3, st3, nu3, fl3, ps3⟩ (.slice ao3 m3 cap3)) := hid' ((Bx.newAt ⟨kd3, st3, nu3, fl3, ps3⟩ (.slice ao3 m3 cap3) (by simp)).kp (H3.out.alloc _) hk); have LBc : Hid (w.heap.size ≤ w3.heap.size) := hid' (by have := K3.out.size; omega); have LTnc := hid' (Xn_3.out.lt); have NEnc : ¬ w.heap.size = w3.heap.size := Nat.ne_of_lt LTnc.out; have NEcn : ¬ w3.heap.size = w.heap.size := Nat.ne_of_gt LTnc.out; have LTac := hid' (Xa_3.out.lt); have NEac : ¬ w.heap.size + 1 = w3.heap.size := Nat.ne_of_lt LTac.out; have NEca : ¬ w3.heap.size = w.heap.size + 1 := Nat.ne_of_gt LTac.out; have Tz_4 : Hid (Kb [w3.heap.size, w.heap.size + 1, w.heap.size] B0 w4 (.slice ao0 m0 cap0) ks0) := hid' ((Tz_3.out.boxAt (g := w3.heap.size) (by simp) _).kp HP.out hk); have Tt3_4 : Hid (Kb [w3.heap.size, w.heap.size + 1, w.heap.size] B0 w4 (.slice ao3 m3 cap3) ks3) := hid' ((Tt3_3.out.boxAt (g := w3.heap.size) (by simp) _).kp HP.out hk); clear hk hr)
    | (go_at_call 25; (with_reducible refine (ih.ex (HI.out _ (Nat.le_refl _)) H2.out).mono ?_); rintro e w3 ⟨kd3, st3, nu3, fl3, ao3, m3, cap3, ps3, ks3, k3, b3, q3, rfl, hk, hr, hT, ho⟩; have H3 := hid' hr; have K3 := hid' (K2.out.trans hk); have Xn_3 := hid' (Xn_2.out.kp H2.out hk); have Xa_3 := hid' (Xa_2.out.kp H2.out hk); have Tz_3 := hid' (Tz_2.out.kp HP.out hk); have Tt3_3 : Hid (Kb [w.heap.size + 1, w.heap.size] B0 w3 (.slice ao3 m3 cap3) ks3) := hid' (Kb.of hT (Nat.le_trans HB.out K2.out.size) (all_cons Xa_2.out.lt (all_cons Xn_2.out.lt all0))); have O3 := hid' ho; clear hk hr hT ho)
    | (go_at_call 54; (with_reducible refine (next54 H1.out HN.out).mono ?_); rintro e w2 ⟨rfl, hk, hr⟩; have H2 := hid' hr; have K2 := hid' (K1.out.trans hk); have Xn_2 := hid' (Xn_1.out.kp H1.out hk); have Xa_2 := hid' (Xa_1.out.kp H1.out hk); have Tz_2 := hid' (Tz_1.out.kp HP.out hk); clear hk hr)
    | (go_at_call 42; (with_reducible refine (mark_b ⟨#[63]⟩ _ hW rfl (by simp) t0 ((H0.out.alloc _).alloc _)).mono ?_); rintro e w1 ⟨rfl, hb⟩; have H1 := hid' (((H0.out.alloc _).alloc _).below hb); have K1 := hid' (((K0.out.alloc _).alloc _).trans (Kp.of_below hb)); have Xn_1 : Hid (Bx w1 (w.heap.size) ⟨kd0, st0, nu0, fl0, ps0⟩ (.slice ao0 m0 cap0)) := hid' (((Bx.newAt ⟨kd0, st0, nu0, fl0, ps0⟩ (.slice ao0 m0 cap0) (by simp)).alloc _).below hb); have Xa_1 : Hid (Bx w1 (w.heap.size + 1) ⟨0, ⟨#[]⟩, 0, false, 0⟩ (.slice none 0 0)) := hid' ((Bx.newAt ⟨0, ⟨#[]⟩, 0, false, 0⟩ (.slice none 0 0) (by simp)).below hb); have LBa : Hid (w.heap.size ≤ w.heap.size + 1) := hid' (by have := K0.out.size; omega); have LTna : Hid (w.heap.size < w.heap.size + 1) := hid' (by omega); have NEna : ¬ w.heap.size = w.heap.size + 1 := Nat.ne_of_lt LTna.out; have NEan : ¬ w.heap.size + 1 = w.heap.size := Nat.ne_of_gt LTna.out; have Tz_1 : Hid (Kb [w.heap.size + 1, w.heap.size] B0 w1 (.slice ao0 m0 cap0) ks0) := hid' (((Tz.out.boxAt (g := w.heap.size) (by simp) _).boxAt (g := w.heap.size + 1) (by simp) _).below hb); clear hb))
  refine ret_bx (bx := w.heap.size + 1) (x := ⟨12, ⟨#[]⟩, 0, false, fr⟩) (kv := (.slice (some ⟨w7.heap.size + 1, 0, none⟩) 3 3)) (((Xa_7.out.set6 ⟨12, ⟨#[]⟩, 0, false, fr⟩ (.slice (some ⟨w7.heap.size + 1, 0, none⟩) 3 3)).alloc _).alloc _) (fun W c0 c1 c2 c3 c4 c5 => by simp [results, Tryz.results50, go_sem, c0, c1, c2, c3, c4, c5]) rfl ?_
  refine ⟨_, _, _, _, _, _, _, _, _, _, _, _, rfl, (((K7.out.set6 LBa.out ⟨12, ⟨#[]⟩, 0, false, fr⟩ (.slice (some ⟨w7.heap.size + 1, 0, none⟩) 3 3)).alloc _).alloc _), (((H7.out.set6 Xa_7.out ⟨12, ⟨#[]⟩, 0, false, fr⟩ (.slice (some ⟨w7.heap.size + 1, 0, none⟩) 3 3)).alloc _).alloc _), (Kb.three (g := w7.heap.size + 1) (x := ⟨kd0, st0, nu0, fl0, ps0⟩) (y := ⟨kd3, st3, nu3, fl3, ps3⟩) (z := ⟨kd7, st7, nu7, fl7, ps7⟩) ((Tz_7.out.set6 (by simp) ⟨12, ⟨#[]⟩, 0, false, fr⟩ (.slice (some ⟨w7.heap.size + 1, 0, none⟩) 3 3)).boxAt (g := w7.heap.size) (by simp) _) ((Tt3_7.out.set6 (by simp) ⟨12, ⟨#[]⟩, 0, false, fr⟩ (.slice (some ⟨w7.heap.size + 1, 0, none⟩) 3 3)).boxAt (g := w7.heap.size) (by simp) _) ((Tt7_7.out.set6 (by simp) ⟨12, ⟨#[]⟩, 0, false, fr⟩ (.slice (some ⟨w7.heap.size + 1, 0, none⟩) 3 3)).boxAt (g := w7.heap.size) (by simp) _) (Nat.le_trans HB.out ((K7.out.set6 LBa.out ⟨12, ⟨#[]⟩, 0, false, fr⟩ (.slice (some ⟨w7.heap.size + 1, 0, none⟩) 3 3)).alloc _).size) (all_cons (Bx.newAt ⟨kd7, st7, nu7, fl7, ps7⟩ (.slice ao7 m7 cap7) (by simp)).lt (all_cons ((Xc_7.out.off6 (Nat.ne_of_gt LTac.out) ⟨12, ⟨#[]⟩, 0, false, fr⟩ (.slice (some ⟨w7.heap.size + 1, 0, none⟩) 3 3)).alloc _).lt (all_cons ((Xa_7.out.set6 ⟨12, ⟨#[]⟩, 0, false, fr⟩ (.slice (some ⟨w7.heap.size + 1, 0, none⟩) 3 3)).alloc _).lt (all_cons ((Xn_7.out.off6 (Nat.ne_of_lt LTna.out) ⟨12, ⟨#[]⟩, 0, false, fr⟩ (.slice (some ⟨w7.heap.size + 1, 0, none⟩) 3 3)).alloc _).lt all0)))) (by simp)).to, ⟨(by have := O3.out.le; have := le_takK toks ⟨#[58]⟩ k3; have := O6.out.le; have := O7.out.le; omega), ?_⟩⟩
  have A := (((At.start (toks := toks) (b := false) (q := q) (body_condR toks fr [Tr.node ⟨kd0, st0, nu0, fl0, ps0⟩ ks0] k)).yes HQ.out).call O3.out).take
  have hc : OutD toks .cond (takK toks ⟨#[58]⟩ k3) (takB toks ⟨#[58]⟩ k3 b3) (takQ toks ⟨#[58]⟩ k3 b3 q3) k7 b7 q7 [Tr.node ⟨kd7, st7, nu7, fl7, ps7⟩ ks7] := ⟨(by have := O6.out.le; have := O7.out.le; omega), (((At.start (toks := toks) (body_cond toks (takK toks ⟨#[58]⟩ k3))).call O6.out).call O7.out)⟩
  exact A.call hc
end Go.Proofs.YtjeioblhpfogfaaGreatDoor
namespace Go.Proofs.YtjeioblhpfogfaaGreatDoor
open Go.RowKit

theorem assigns_b {w : World} {p k : Nat} {toks : List Tk} {tv : Value} {b : Bool} {q : Int} (d : Bool) (hW : TokW toks) (hd : asgW (signAt toks k) = d) (h : RS w p toks tv k b q) :
    Calls Tryz.prog 52 #[.pointer (some ⟨p, 0, none⟩)] w fun e w' => e = .returned (.bool d) ∧ Below w.heap.size w w' := by
  rw [← hd]
  exact assigns52 hW h
theorem place53 {kd : Int} {st : ByteArray} {nu : Int} {fl : Bool} {kv : Value} {ps : Int} (d : Bool) (hd : plK kd = d) (w : World) :
    Calls Tryz.prog 53 #[.agg #[.int .i64 kd, .string st, .int .u32 nu, .bool fl, kv, .int .i64 ps]] w fun e w' => e = .returned (.bool d) ∧ Below w.heap.size w w' := by
  rw [← hd]
  unfold plK
  go_enter Tryz.func53, Tryz.ntmps53
  go_wp2
  all_goals
    go_ret
    exact ⟨by simp_all, below1 _ _⟩
theorem place_b {kd : Int} {st : ByteArray} {nu : Int} {fl : Bool} {kv : Value} {ps : Int} {w : World} {p k : Nat} {toks : List Tk} {tv : Value} {b : Bool} {q : Int} (d : Bool) (hd : plK kd = d) (h : RS w p toks tv k b q) :
    Calls Tryz.prog 53 #[.agg #[.int .i64 kd, .string st, .int .u32 nu, .bool fl, kv, .int .i64 ps]] w fun e w' => e = .returned (.bool d) ∧ Below w.heap.size w w' := place53 d hd w
theorem asg_text {toks : List Tk} {k : Nat} (h : k < toks.length) (hc : asgW (signAt toks k) = true) : signAt toks k = (tk toks k).text := by
  rw [sign_of h] at hc ⊢
  split at hc
  · rename_i h1
    rw [if_pos h1]
  · simp [asgW, toList_data] at hc
theorem expr25 {w : World} {p k : Nat} {toks : List Tk} {tv : Value} {b : Bool} {q : Int} (hW : TokW toks) (hT : TokOk toks) {N : Nat} (ih : EH N p toks tv) (hN : (toks.length - k) * 8 + 6 ≤ N) (h : RS w p toks tv k b q) :
    Calls Tryz.prog 25 #[.pointer (some ⟨p, 0, none⟩)] w (RP p toks tv .expr k b q w) := by
  have H0 := hid' h
  have K0 := hid' (Kp.rfl p w)
  have hf0 := fld42_0
  have hf1 := fld42_1
  have hf4 := fld42_4
  have HI := hid' (by omega : (toks.length - k) * 8 + 5 < N)
  have HI2 : Hid (∀ j, k + 1 ≤ j → (toks.length - j) * 8 + 6 < N) := fun j hj => by have := h.at_; omega
  clear h
  go_enter Tryz.func25, Tryz.ntmps25
  go_wp2_with (first
    | (go_at_call 50; (with_reducible refine (ih.ch RC2.out.2.1 RC2.out.2.2.1 RC2.out.1 (by have := O2.out.le; have := HI.out; omega) H2.out).mono ?_); rintro e w3 ⟨kd3, st3, nu3, fl3, ao3, m3, cap3, ps3, ks3, k3, b3, q3, rfl, hk, hr, hT, ho⟩; have H3 := hid' hr; have K3 := hid' (K2.out.trans hk); have Xa_3 := hid' (Xa_2.out.kp H2.out hk); have Tt2_3 := hid' (Tt2_2.out.kp H0.out.lt hk); have Tt3_3 : Hid (Kb [w.heap.size] w.heap.size w3 (.slice ao3 m3 cap3) ks3) := hid' (Kb.of hT RC2.out.2.2.2.1 RC2.out.2.2.2.2); have O3 := hid' ho; obtain ⟨a3a, a3b, a3c, a3d, a3e, a3f, a3z, a3l⟩ := Xa_3.out.six; obtain ⟨r3a, r3b, r3c, r3d, r3l⟩ := H3.out.cells; cases b3; clear hk hr hT ho)
    | (go_at_call 51; (with_reducible refine (ih.bi (by decide) (by decide) HI.out H1.out).mono ?_); rintro e w2 ⟨kd2, st2, nu2, fl2, ao2, m2, cap2, ps2, ks2, k2, b2, q2, rfl, hk, hr, hT, ho⟩; have H2 := hid' hr; have K2 := hid' (K1.out.trans hk); have Xa_2 := hid' (Xa_1.out.kp H1.out hk); have Tt2_2 : Hid (Kb [w.heap.size] w.heap.size w2 (.slice ao2 m2 cap2) ks2) := hid' (Kb.of hT K1.out.size (all_cons Xa_1.out.lt all0)); obtain ⟨C2, hC⟩ : ∃ C, Kf C w2 (.slice ao2 m2 cap2) ks2 ∧ p < C ∧ C ≤ w2.heap.size ∧ w.heap.size ≤ C ∧ (∀ b ∈ [w.heap.size], b < C) := ⟨_, hT, H1.out.lt, hk.size, K1.out.size, (all_cons Xa_1.out.lt all0)⟩; have RC2 := hid' hC; clear hC; have O2 := hid' ho; clear hk hr hT ho)
    | (go_at_call 21; (with_reducible refine (now21 (H0.out.alloc _)).mono ?_); rintro e w1 ⟨rfl, hb⟩; have H1 := hid' ((H0.out.alloc _).below hb); have K1 := hid' ((K0.out.alloc _).trans (Kp.of_below hb)); have Xa_1 : Hid (Bx w1 (w.heap.size) ⟨0, ⟨#[]⟩, 0, false, 0⟩ (.slice none 0 0)) := hid' ((Bx.newAt ⟨0, ⟨#[]⟩, 0, false, 0⟩ (.slice none 0 0) (by simp)).below hb); clear hb))
  · cases ha : asgW (signAt toks k3) with
    | false =>
      go_wp2_with (first
        | (go_at_call 52; (with_reducible refine (assigns_b _ hW ha (H3.out.alloc _)).mono ?_); rintro e w4 ⟨rfl, hb⟩; have H4 := hid' ((H3.out.alloc _).below hb); have K4 := hid' ((K3.out.alloc _).trans (Kp.of_below hb)); have Xa_4 : Hid (Bx w4 (w.heap.size) ⟨0, ⟨#[]⟩, 0, false, 0⟩ (.slice none 0 0)) := hid' ((Xa_3.out.alloc _).below hb); have Xn_4 : Hid (Bx w4 (w3.heap.size) ⟨kd3, st3, nu3, fl3, ps3⟩ (.slice ao3 m3 cap3)) := hid' ((Bx.newAt ⟨kd3, st3, nu3, fl3, ps3⟩ (.slice ao3 m3 cap3) (by simp)).below hb); have LBn : Hid (w.heap.size ≤ w3.heap.size) := hid' (by have := K3.out.size; omega); have LTan := hid' (Xa_3.out.lt); have NEan : ¬ w.heap.size = w3.heap.size := Nat.ne_of_lt LTan.out; have NEna : ¬ w3.heap.size = w.heap.size := Nat.ne_of_gt LTan.out; have Tt2_4 : Hid (Kb [w3.heap.size, w.heap.size] w.heap.size w4 (.slice ao2 m2 cap2) ks2) := hid' ((Tt2_3.out.boxAt (g := w3.heap.size) (by simp) _).below hb); have Tt3_4 : Hid (Kb [w3.heap.size, w.heap.size] w.heap.size w4 (.slice ao3 m3 cap3) ks3) := hid' ((Tt3_3.out.boxAt (g := w3.heap.size) (by simp) _).below hb); obtain ⟨a4a, a4b, a4c, a4d, a4e, a4f, a4z, a4l⟩ := Xa_4.out.six; obtain ⟨n4a, n4b, n4c, n4d, n4e, n4f, n4z, n4l⟩ := Xn_4.out.six; clear hb))
      refine ret_bx (bx := w.heap.size) (x := ⟨kd3, st3, nu3, fl3, ps3⟩) (kv := (.slice ao3 m3 cap3)) (Xa_4.out.set6 ⟨kd3, st3, nu3, fl3, ps3⟩ (.slice ao3 m3 cap3)) (fun W c0 c1 c2 c3 c4 c5 => by simp [results, Tryz.results25, go_sem, c0, c1, c2, c3, c4, c5]) rfl ?_
      refine ⟨_, _, _, _, _, _, _, _, _, _, _, _, rfl, (K4.out.set6 (Nat.le_refl _) ⟨kd3, st3, nu3, fl3, ps3⟩ (.slice ao3 m3 cap3)), (H4.out.set6 Xa_4.out ⟨kd3, st3, nu3, fl3, ps3⟩ (.slice ao3 m3 cap3)), (Tt3_4.out.set6 (by simp) ⟨kd3, st3, nu3, fl3, ps3⟩ (.slice ao3 m3 cap3)).to, ⟨(by have := O2.out.le; have := O3.out.le; omega), ?_⟩⟩
      have hc : OutD toks .cond k b q k3 false q3 [Tr.node ⟨kd3, st3, nu3, fl3, ps3⟩ ks3] := ⟨(by have := O2.out.le; have := O3.out.le; omega), ((At.start (toks := toks) (body_cond toks k)).call O2.out).call O3.out⟩
      have A := ((At.start (toks := toks) (b := b) (q := q) (body_expr toks k)).call hc).last
      rw [body_exprR] at A
      exact A.not (by rw [ha]; decide)
    | true =>
      have HN : Hid (k3 + 1 < toks.length) := hid' (sign_on hT (fun e1 => by rw [e1] at ha; simp [asgW, toList_data] at ha))
      have HS : Hid (signAt toks k3 = (tk toks k3).text) := hid' (asg_text H3.out.at_ ha)
      cases hp : plK kd3 with
      | false =>
        go_wp2_with (first
          | (go_at_call 47; (with_reducible refine (no47 H5.out).mono ?_); rintro e w6 ⟨rfl, hk, hr⟩; have H6 := hid' hr; have K6 := hid' (K5.out.trans hk); have Xa_6 := hid' (Xa_5.out.kp H5.out hk); have Xn_6 := hid' (Xn_5.out.kp H5.out hk); have Tt2_6 := hid' (Tt2_5.out.kp H0.out.lt hk); have Tt3_6 := hid' (Tt3_5.out.kp H0.out.lt hk); obtain ⟨a6a, a6b, a6c, a6d, a6e, a6f, a6z, a6l⟩ := Xa_6.out.six; obtain ⟨n6a, n6b, n6c, n6d, n6e, n6f, n6z, n6l⟩ := Xn_6.out.six; clear hk hr)
          | (go_at_call 53; (with_reducible refine (place_b _ hp H4.out).mono ?_); rintro e w5 ⟨rfl, hb⟩; have H5 := hid' (H4.out.below hb); have K5 := hid' (K4.out.trans (Kp.of_below hb)); have Xa_5 := hid' (Xa_4.out.below hb); have Xn_5 := hid' (Xn_4.out.below hb); have Tt2_5 := hid' (Tt2_4.out.below hb); have Tt3_5 := hid' (Tt3_4.out.below hb); obtain ⟨a5a, a5b, a5c, a5d, a5e, a5f, a5z, a5l⟩ := Xa_5.out.six; obtain ⟨n5a, n5b, n5c, n5d, n5e, n5f, n5z, n5l⟩ := Xn_5.out.six; clear hb)
          | (go_at_call 52; (with_reducible refine (assigns_b _ hW ha (H3.out.alloc _)).mono ?_); rintro e w4 ⟨rfl, hb⟩; have H4 := hid' ((H3.out.alloc _).below hb); have K4 := hid' ((K3.out.alloc _).trans (Kp.of_below hb)); have Xa_4 : Hid (Bx w4 (w.heap.size) ⟨0, ⟨#[]⟩, 0, false, 0⟩ (.slice none 0 0)) := hid' ((Xa_3.out.alloc _).below hb); have Xn_4 : Hid (Bx w4 (w3.heap.size) ⟨kd3, st3, nu3, fl3, ps3⟩ (.slice ao3 m3 cap3)) := hid' ((Bx.newAt ⟨kd3, st3, nu3, fl3, ps3⟩ (.slice ao3 m3 cap3) (by simp)).below hb); have LBn : Hid (w.heap.size ≤ w3.heap.size) := hid' (by have := K3.out.size; omega); have LTan := hid' (Xa_3.out.lt); have NEan : ¬ w.heap.size = w3.heap.size := Nat.ne_of_lt LTan.out; have NEna : ¬ w3.heap.size = w.heap.size := Nat.ne_of_gt LTan.out; have Tt2_4 : Hid (Kb [w3.heap.size, w.heap.size] w.heap.size w4 (.slice ao2 m2 cap2) ks2) := hid' ((Tt2_3.out.boxAt (g := w3.heap.size) (by simp) _).below hb); have Tt3_4 : Hid (Kb [w3.heap.size, w.heap.size] w.heap.size w4 (.slice ao3 m3 cap3) ks3) := hid' ((Tt3_3.out.boxAt (g := w3.heap.size) (by simp) _).below hb); obtain ⟨a4a, a4b, a4c, a4d, a4e, a4f, a4z, a4l⟩ := Xa_4.out.six; obtain ⟨n4a, n4b, n4c, n4d, n4e, n4f, n4z, n4l⟩ := Xn_4.out.six; clear hb))
        refine ret_bx (bx := w.heap.size) (x := ⟨kd3, st3, nu3, fl3, ps3⟩) (kv := (.slice ao3 m3 cap3)) (Xa_6.out.set6 ⟨kd3, st3, nu3, fl3, ps3⟩ (.slice ao3 m3 cap3)) (fun W c0 c1 c2 c3 c4 c5 => by simp [results, Tryz.results25, go_sem, c0, c1, c2, c3, c4, c5]) rfl ?_
        refine ⟨_, _, _, _, _, _, _, _, _, _, _, _, rfl, (K6.out.set6 (Nat.le_refl _) ⟨kd3, st3, nu3, fl3, ps3⟩ (.slice ao3 m3 cap3)), (H6.out.set6 Xa_6.out ⟨kd3, st3, nu3, fl3, ps3⟩ (.slice ao3 m3 cap3)), (Tt3_6.out.set6 (by simp) ⟨kd3, st3, nu3, fl3, ps3⟩ (.slice ao3 m3 cap3)).to, ⟨(by have := O2.out.le; have := O3.out.le; omega), ?_⟩⟩
        have hc : OutD toks .cond k b q k3 false q3 [Tr.node ⟨kd3, st3, nu3, fl3, ps3⟩ ks3] := ⟨(by have := O2.out.le; have := O3.out.le; omega), ((At.start (toks := toks) (body_cond toks k)).call O2.out).call O3.out⟩
        have A := ((At.start (toks := toks) (b := b) (q := q) (body_expr toks k)).call hc).last
        rw [body_exprR] at A
        have A2 := (A.yes ha).not (by show ¬ plK (kindOf [Tr.node ⟨kd3, st3, nu3, fl3, ps3⟩ ks3]) = true; rw [kindOf_node]; rw [hp]; decide)
        exact A2.no
      | true =>
        go_wp2_with (first
          | (go_at_call 54; (with_reducible refine (next54 H6.out HN.out).mono ?_); rintro e w7 ⟨rfl, hk, hr⟩; have H7 := hid' hr; have K7 := hid' (K6.out.trans hk); have Xa_7 := hid' (Xa_6.out.kp H6.out hk); have Xn_7 := hid' (Xn_6.out.kp H6.out hk); have Tt2_7 := hid' (Tt2_6.out.kp H0.out.lt hk); have Tt3_7 := hid' (Tt3_6.out.kp H0.out.lt hk); obtain ⟨a7a, a7b, a7c, a7d, a7e, a7f, a7z, a7l⟩ := Xa_7.out.six; obtain ⟨n7a, n7b, n7c, n7d, n7e, n7f, n7z, n7l⟩ := Xn_7.out.six; clear hk hr)
          | (go_at_call 21; (with_reducible refine (now21 H5.out).mono ?_); rintro e w6 ⟨rfl, hb⟩; have H6 := hid' (H5.out.below hb); have K6 := hid' (K5.out.trans (Kp.of_below hb)); have Xa_6 := hid' (Xa_5.out.below hb); have Xn_6 := hid' (Xn_5.out.below hb); have Tt2_6 := hid' (Tt2_5.out.below hb); have Tt3_6 := hid' (Tt3_5.out.below hb); clear hb)
          | (go_at_call 53; (with_reducible refine (place_b _ hp H4.out).mono ?_); rintro e w5 ⟨rfl, hb⟩; have H5 := hid' (H4.out.below hb); have K5 := hid' (K4.out.trans (Kp.of_below hb)); have Xa_5 := hid' (Xa_4.out.below hb); have Xn_5 := hid' (Xn_4.out.below hb); have Tt2_5 := hid' (Tt2_4.out.below hb); have Tt3_5 := hid' (Tt3_4.out.below hb); obtain ⟨a5a, a5b, a5c, a5d, a5e, a5f, a5z, a5l⟩ := Xa_5.out.six; obtain ⟨n5a, n5b, n5c, n5d, n5e, n5f, n5z, n5l⟩ := Xn_5.out.six; clear hb)
          | (go_at_call 52; (with_reducible refine (assigns_b _ hW ha (H3.out.alloc _)).mono ?_); rintro e w4 ⟨rfl, hb⟩; have H4 := hid' ((H3.out.alloc _).below hb); have K4 := hid' ((K3.out.alloc _).trans (Kp.of_below hb)); have Xa_4 : Hid (Bx w4 (w.heap.size) ⟨0, ⟨#[]⟩, 0, false, 0⟩ (.slice none 0 0)) := hid' ((Xa_3.out.alloc _).below hb); have Xn_4 : Hid (Bx w4 (w3.heap.size) ⟨kd3, st3, nu3, fl3, ps3⟩ (.slice ao3 m3 cap3)) := hid' ((Bx.newAt ⟨kd3, st3, nu3, fl3, ps3⟩ (.slice ao3 m3 cap3) (by simp)).below hb); have LBn : Hid (w.heap.size ≤ w3.heap.size) := hid' (by have := K3.out.size; omega); have LTan := hid' (Xa_3.out.lt); have NEan : ¬ w.heap.size = w3.heap.size := Nat.ne_of_lt LTan.out; have NEna : ¬ w3.heap.size = w.heap.size := Nat.ne_of_gt LTan.out; have Tt2_4 : Hid (Kb [w3.heap.size, w.heap.size] w.heap.size w4 (.slice ao2 m2 cap2) ks2) := hid' ((Tt2_3.out.boxAt (g := w3.heap.size) (by simp) _).below hb); have Tt3_4 : Hid (Kb [w3.heap.size, w.heap.size] w.heap.size w4 (.slice ao3 m3 cap3) ks3) := hid' ((Tt3_3.out.boxAt (g := w3.heap.size) (by simp) _).below hb); obtain ⟨a4a, a4b, a4c, a4d, a4e, a4f, a4z, a4l⟩ := Xa_4.out.six; obtain ⟨n4a, n4b, n4c, n4d, n4e, n4f, n4z, n4l⟩ := Xn_4.out.six; clear hb))
        first
          | go_region_with (first
              | (go_at_call 25; (with_reducible refine (ih.ex (HI2.out _ (by have := O2.out.le; have := O3.out.le; omega)) (H7.out.drew)).mono ?_); rintro e w8 ⟨kd8, st8, nu8, fl8, ao8, m8, cap8, ps8, ks8, k8, b8, q8, rfl, hk, hr, hT, ho⟩; have H8 := hid' hr; have K8 := hid' ((K7.out.drew).trans hk); have Xa_8 := hid' ((Xa_7.out.drew).kp (H7.out.drew) hk); have Xn_8 := hid' ((Xn_7.out.drew).kp (H7.out.drew) hk); have Tt2_8 := hid' ((Tt2_7.out.drew).kp H0.out.lt hk); have Tt3_8 := hid' ((Tt3_7.out.drew).kp H0.out.lt hk); have Tt8_8 : Hid (Kb [w3.heap.size, w.heap.size] w.heap.size w8 (.slice ao8 m8 cap8) ks8) := hid' (Kb.of hT (K7.out.drew).size (all_cons (Xn_7.out.drew).lt (all_cons (Xa_7.out.drew).lt all0))); have O8 := hid' ho; obtain ⟨a8a, a8b, a8c, a8d, a8e, a8f, a8z, a8l⟩ := Xa_8.out.six; obtain ⟨n8a, n8b, n8c, n8d, n8e, n8f, n8z, n8l⟩ := Xn_8.out.six; clear hk hr hT ho))
          | fail
        all_goals
          go_wp2
          refine ret_bx (bx := w.heap.size) (x := ⟨13, (tk toks k3).text, 0, false, (tk toks k).pos⟩) (kv := (.slice (some ⟨w8.heap.size, 0, none⟩) 2 2)) ((Xa_8.out.set6 ⟨13, (tk toks k3).text, 0, false, (tk toks k).pos⟩ (.slice (some ⟨w8.heap.size, 0, none⟩) 2 2)).alloc _) (fun W c0 c1 c2 c3 c4 c5 => by simp [results, Tryz.results25, go_sem, c0, c1, c2, c3, c4, c5]) rfl ?_
          refine ⟨_, _, _, _, _, _, _, _, _, _, _, _, rfl, ((K8.out.set6 (Nat.le_refl _) ⟨13, (tk toks k3).text, 0, false, (tk toks k).pos⟩ (.slice (some ⟨w8.heap.size, 0, none⟩) 2 2)).alloc _), ((H8.out.set6 Xa_8.out ⟨13, (tk toks k3).text, 0, false, (tk toks k).pos⟩ (.slice (some ⟨w8.heap.size, 0, none⟩) 2 2)).alloc _), (Kb.two (g := w8.heap.size) (x := ⟨kd3, st3, nu3, fl3, ps3⟩) (y := ⟨kd8, st8, nu8, fl8, ps8⟩) (Tt3_8.out.set6 (by simp) ⟨13, (tk toks k3).text, 0, false, (tk toks k).pos⟩ (.slice (some ⟨w8.heap.size, 0, none⟩) 2 2)) (Tt8_8.out.set6 (by simp) ⟨13, (tk toks k3).text, 0, false, (tk toks k).pos⟩ (.slice (some ⟨w8.heap.size, 0, none⟩) 2 2)) (K8.out.set6 (Nat.le_refl _) ⟨13, (tk toks k3).text, 0, false, (tk toks k).pos⟩ (.slice (some ⟨w8.heap.size, 0, none⟩) 2 2)).size (all_cons (Xn_8.out.off6 (Nat.ne_of_gt LTan.out) ⟨13, (tk toks k3).text, 0, false, (tk toks k).pos⟩ (.slice (some ⟨w8.heap.size, 0, none⟩) 2 2)).lt (all_cons (Xa_8.out.set6 ⟨13, (tk toks k3).text, 0, false, (tk toks k).pos⟩ (.slice (some ⟨w8.heap.size, 0, none⟩) 2 2)).lt all0)) (by simp)).to, ⟨(by have := O2.out.le; have := O3.out.le; have := O8.out.le; omega), ?_⟩⟩
          have hc : OutD toks .cond k b q k3 false q3 [Tr.node ⟨kd3, st3, nu3, fl3, ps3⟩ ks3] := ⟨(by have := O2.out.le; have := O3.out.le; omega), ((At.start (toks := toks) (body_cond toks k)).call O2.out).call O3.out⟩
          have A := ((At.start (toks := toks) (b := b) (q := q) (body_expr toks k)).call hc).last
          rw [body_exprR] at A
          have A2 := ((A.yes ha).yes (by show plK (kindOf [Tr.node ⟨kd3, st3, nu3, fl3, ps3⟩ ks3]) = true; rw [kindOf_node]; exact hp)).call O8.out
          rw [HS.out] at A2
          exact A2
  · refine ret_bx (bx := w.heap.size) (x := ⟨kd3, st3, nu3, fl3, ps3⟩) (kv := (.slice ao3 m3 cap3)) ((Xa_3.out.set6 ⟨kd3, st3, nu3, fl3, ps3⟩ (.slice ao3 m3 cap3)).alloc _) (fun W c0 c1 c2 c3 c4 c5 => by simp [results, Tryz.results25, go_sem, c0, c1, c2, c3, c4, c5]) rfl ?_
    refine ⟨_, _, _, _, _, _, _, _, _, _, _, _, rfl, ((K3.out.set6 (Nat.le_refl _) ⟨kd3, st3, nu3, fl3, ps3⟩ (.slice ao3 m3 cap3)).alloc _), ((H3.out.set6 Xa_3.out ⟨kd3, st3, nu3, fl3, ps3⟩ (.slice ao3 m3 cap3)).alloc _), ((Tt3_3.out.set6 (by simp) ⟨kd3, st3, nu3, fl3, ps3⟩ (.slice ao3 m3 cap3)).boxAt (g := w3.heap.size) (by simp) _).to, ⟨(by have := O2.out.le; have := O3.out.le; omega), ?_⟩⟩
    have hc : OutD toks .cond k b q k3 true q3 [Tr.node ⟨kd3, st3, nu3, fl3, ps3⟩ ks3] := ⟨(by have := O2.out.le; have := O3.out.le; omega), ((At.start (toks := toks) (body_cond toks k)).call O2.out).call O3.out⟩
    have A := ((At.start (toks := toks) (b := b) (q := q) (body_expr toks k)).call hc).last
    rw [body_exprR] at A
    exact A.any
end Go.Proofs.YtjeioblhpfogfaaGreatDoor
