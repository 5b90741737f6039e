/- The document's parser: primaries. -/
import Derived.Test.YtjeioblhpfogfaaGreatDoorX30
set_option linter.unusedVariables false
set_option linter.unusedSimpArgs false
set_option maxRecDepth 20000
set_option maxHeartbeats 8000000
namespace Go.Proofs.YtjeioblhpfogfaaGreatDoor
open Go.RowKit

theorem sign_none {toks : List Tk} {k : Nat} (h3 : ¬ (tk toks k).kind = 3) (h4 : ¬ (tk toks k).kind = 4) : signAt toks k = ⟨#[]⟩ := by
  unfold tk at h3 h4
  unfold signAt
  cases e : toks[k]? with
  | none => rfl
  | some t =>
    rw [e] at h3 h4
    exact if_neg (fun h => h.elim h4 h3)
theorem primary196_num {w : World} {p k : Nat} {toks : List Tk} {tv : Value} {b : Bool} {q : Int} {tx : ByteArray} {nm : Int} {un : Bool} {ps fi : Int} (hW : TokW toks) (hT : TokOk toks) (hx : tk toks k = ⟨5, tx, nm, un, ps, fi⟩) (h : RS w p toks tv k b q) :
    Calls Tryz.prog 196 #[.pointer (some ⟨p, 0, none⟩)] w (RP p toks tv .prim k b q w) := by
  have H0 := hid' h
  have K0 := hid' (Kp.rfl p w)
  have hf0 := fld42_0
  have hf1 := fld42_1
  have hf4 := fld42_4
  have HX := hid' hx
  have HN := hid' (hT.next _ h.at_ (by rw [hx]; simp))
  have HS := hid' (sign_none (toks := toks) (k := k) (by rw [hx]; simp) (by rw [hx]; simp))
  clear h
  go_enter Tryz.func196, Tryz.ntmps196
  go_wp2_with (first
    | (go_at_call 54; (with_reducible refine (next54 ((H1.out.alloc _).alloc _) HN.out).mono ?_); rintro e w2 ⟨rfl, hk, hr⟩; have H2 := hid' hr; have K2 := hid' (((K1.out.alloc _).alloc _).trans hk); have Xa_2 : Hid (Bx w2 (w.heap.size) ⟨0, ⟨#[]⟩, 0, false, 0⟩ (.slice none 0 0)) := hid' (((Xa_1.out.alloc _).alloc _).kp ((H1.out.alloc _).alloc _) hk); have Xt_2 : Hid (Tx w2 (w1.heap.size) ⟨5, tx, nm, un, ps, fi⟩) := hid' (((Tx.newAt ⟨5, tx, nm, un, ps, fi⟩ (by simp)).alloc _).kp ((H1.out.alloc _).alloc _) hk); have Xn_2 : Hid (Bx w2 (w1.heap.size + 1) ⟨1, ⟨#[]⟩, nm, un, ps⟩ (.slice none 0 0)) := hid' ((Bx.newAt ⟨1, ⟨#[]⟩, nm, un, ps⟩ (.slice none 0 0) (by simp)).kp ((H1.out.alloc _).alloc _) hk); have LBn : Hid (w.heap.size ≤ w1.heap.size + 1) := hid' (by have := K1.out.size; omega); have LTat := hid' (Xa_1.out.lt); have NEat : ¬ w.heap.size = w1.heap.size := Nat.ne_of_lt LTat.out; have NEta : ¬ w1.heap.size = w.heap.size := Nat.ne_of_gt LTat.out; have LTan : Hid (w.heap.size < w1.heap.size + 1) := hid' (Nat.lt_succ_of_lt (Xa_1.out.lt)); have NEan : ¬ w.heap.size = w1.heap.size + 1 := Nat.ne_of_lt LTan.out; have NEna : ¬ w1.heap.size + 1 = w.heap.size := Nat.ne_of_gt LTan.out; have LTtn : Hid (w1.heap.size < w1.heap.size + 1) := hid' (by omega); have NEtn : ¬ w1.heap.size = w1.heap.size + 1 := Nat.ne_of_lt LTtn.out; have NEnt : ¬ w1.heap.size + 1 = w1.heap.size := Nat.ne_of_gt LTtn.out; obtain ⟨a2a, a2b, a2c, a2d, a2e, a2f, a2z, a2l⟩ := Xa_2.out.six; obtain ⟨n2a, n2b, n2c, n2d, n2e, n2f, n2z, n2l⟩ := Xn_2.out.six; clear hk hr)
    | (go_at_call 21; (with_reducible refine (now21 (H0.out.alloc _)).mono ?_); rintro e w1 ⟨rfl, hb⟩; have H1 := hid' ((H0.out.alloc _).below hb); have K1 := hid' ((K0.out.alloc _).trans (Kp.of_below hb)); have Xa_1 : Hid (Bx w1 (w.heap.size) ⟨0, ⟨#[]⟩, 0, false, 0⟩ (.slice none 0 0)) := hid' ((Bx.newAt ⟨0, ⟨#[]⟩, 0, false, 0⟩ (.slice none 0 0) (by simp)).below hb); clear hb))
  refine ret_bx (bx := w.heap.size) (x := ⟨1, ⟨#[]⟩, nm, un, ps⟩) (kv := (.slice none 0 0)) (Xa_2.out.set6 ⟨1, ⟨#[]⟩, nm, un, ps⟩ (.slice none 0 0)) (fun W c0 c1 c2 c3 c4 c5 => by simp [results, Tryz.results196, go_sem, c0, c1, c2, c3, c4, c5]) rfl ?_
  refine ⟨_, _, _, _, _, _, _, _, _, _, _, _, rfl, (K2.out.set6 (Nat.le_refl _) ⟨1, ⟨#[]⟩, nm, un, ps⟩ (.slice none 0 0)), (H2.out.set6 Xa_2.out ⟨1, ⟨#[]⟩, nm, un, ps⟩ (.slice none 0 0)), (Kf.nil _ _), ⟨(by omega), ?_⟩⟩
  have A := (At.start (toks := toks) (b := b) (q := q) (body_prim toks k)).not (by rw [HS.out]; simp)
  replace A := A.yes (by rw [HX.out])
  rw [HX.out] at A
  exact A
theorem primary196_chr {w : World} {p k : Nat} {toks : List Tk} {tv : Value} {b : Bool} {q : Int} {tx : ByteArray} {nm : Int} {un : Bool} {ps fi : Int} (hW : TokW toks) (hT : TokOk toks) (hx : tk toks k = ⟨6, tx, nm, un, ps, fi⟩) (h : RS w p toks tv k b q) :
    Calls Tryz.prog 196 #[.pointer (some ⟨p, 0, none⟩)] w (RP p toks tv .prim k b q w) := by
  have H0 := hid' h
  have K0 := hid' (Kp.rfl p w)
  have hf0 := fld42_0
  have hf1 := fld42_1
  have hf4 := fld42_4
  have HX := hid' hx
  have HN := hid' (hT.next _ h.at_ (by rw [hx]; simp))
  have HS := hid' (sign_none (toks := toks) (k := k) (by rw [hx]; simp) (by rw [hx]; simp))
  clear h
  go_enter Tryz.func196, Tryz.ntmps196
  go_wp2_with (first
    | (go_at_call 54; (with_reducible refine (next54 ((H1.out.alloc _).alloc _) HN.out).mono ?_); rintro e w2 ⟨rfl, hk, hr⟩; have H2 := hid' hr; have K2 := hid' (((K1.out.alloc _).alloc _).trans hk); have Xa_2 : Hid (Bx w2 (w.heap.size) ⟨0, ⟨#[]⟩, 0, false, 0⟩ (.slice none 0 0)) := hid' (((Xa_1.out.alloc _).alloc _).kp ((H1.out.alloc _).alloc _) hk); have Xt_2 : Hid (Tx w2 (w1.heap.size) ⟨6, tx, nm, un, ps, fi⟩) := hid' (((Tx.newAt ⟨6, tx, nm, un, ps, fi⟩ (by simp)).alloc _).kp ((H1.out.alloc _).alloc _) hk); have Xn_2 : Hid (Bx w2 (w1.heap.size + 1) ⟨2, ⟨#[]⟩, nm, false, ps⟩ (.slice none 0 0)) := hid' ((Bx.newAt ⟨2, ⟨#[]⟩, nm, false, ps⟩ (.slice none 0 0) (by simp)).kp ((H1.out.alloc _).alloc _) hk); have LBn : Hid (w.heap.size ≤ w1.heap.size + 1) := hid' (by have := K1.out.size; omega); have LTat := hid' (Xa_1.out.lt); have NEat : ¬ w.heap.size = w1.heap.size := Nat.ne_of_lt LTat.out; have NEta : ¬ w1.heap.size = w.heap.size := Nat.ne_of_gt LTat.out; have LTan : Hid (w.heap.size < w1.heap.size + 1) := hid' (Nat.lt_succ_of_lt (Xa_1.out.lt)); have NEan : ¬ w.heap.size = w1.heap.size + 1 := Nat.ne_of_lt LTan.out; have NEna : ¬ w1.heap.size + 1 = w.heap.size := Nat.ne_of_gt LTan.out; have LTtn : Hid (w1.heap.size < w1.heap.size + 1) := hid' (by omega); have NEtn : ¬ w1.heap.size = w1.heap.size + 1 := Nat.ne_of_lt LTtn.out; have NEnt : ¬ w1.heap.size + 1 = w1.heap.size := Nat.ne_of_gt LTtn.out; obtain ⟨a2a, a2b, a2c, a2d, a2e, a2f, a2z, a2l⟩ := Xa_2.out.six; obtain ⟨n2a, n2b, n2c, n2d, n2e, n2f, n2z, n2l⟩ := Xn_2.out.six; clear hk hr)
    | (go_at_call 21; (with_reducible refine (now21 (H0.out.alloc _)).mono ?_); rintro e w1 ⟨rfl, hb⟩; have H1 := hid' ((H0.out.alloc _).below hb); have K1 := hid' ((K0.out.alloc _).trans (Kp.of_below hb)); have Xa_1 : Hid (Bx w1 (w.heap.size) ⟨0, ⟨#[]⟩, 0, false, 0⟩ (.slice none 0 0)) := hid' ((Bx.newAt ⟨0, ⟨#[]⟩, 0, false, 0⟩ (.slice none 0 0) (by simp)).below hb); clear hb))
  refine ret_bx (bx := w.heap.size) (x := ⟨2, ⟨#[]⟩, nm, false, ps⟩) (kv := (.slice none 0 0)) (Xa_2.out.set6 ⟨2, ⟨#[]⟩, nm, false, ps⟩ (.slice none 0 0)) (fun W c0 c1 c2 c3 c4 c5 => by simp [results, Tryz.results196, go_sem, c0, c1, c2, c3, c4, c5]) rfl ?_
  refine ⟨_, _, _, _, _, _, _, _, _, _, _, _, rfl, (K2.out.set6 (Nat.le_refl _) ⟨2, ⟨#[]⟩, nm, false, ps⟩ (.slice none 0 0)), (H2.out.set6 Xa_2.out ⟨2, ⟨#[]⟩, nm, false, ps⟩ (.slice none 0 0)), (Kf.nil _ _), ⟨(by omega), ?_⟩⟩
  have A := (At.start (toks := toks) (b := b) (q := q) (body_prim toks k)).not (by rw [HS.out]; simp)
  replace A := (A.not (by rw [HX.out]; simp)).yes (by rw [HX.out])
  rw [HX.out] at A
  exact A
theorem primary196_str {w : World} {p k : Nat} {toks : List Tk} {tv : Value} {b : Bool} {q : Int} {tx : ByteArray} {nm : Int} {un : Bool} {ps fi : Int} (hW : TokW toks) (hT : TokOk toks) (hx : tk toks k = ⟨7, tx, nm, un, ps, fi⟩) (h : RS w p toks tv k b q) :
    Calls Tryz.prog 196 #[.pointer (some ⟨p, 0, none⟩)] w (RP p toks tv .prim k b q w) := by
  have H0 := hid' h
  have K0 := hid' (Kp.rfl p w)
  have hf0 := fld42_0
  have hf1 := fld42_1
  have hf4 := fld42_4
  have HX := hid' hx
  have HN := hid' (hT.next _ h.at_ (by rw [hx]; simp))
  have HS := hid' (sign_none (toks := toks) (k := k) (by rw [hx]; simp) (by rw [hx]; simp))
  clear h
  go_enter Tryz.func196, Tryz.ntmps196
  go_wp2_with (first
    | (go_at_call 54; (with_reducible refine (next54 ((H1.out.alloc _).alloc _) HN.out).mono ?_); rintro e w2 ⟨rfl, hk, hr⟩; have H2 := hid' hr; have K2 := hid' (((K1.out.alloc _).alloc _).trans hk); have Xa_2 : Hid (Bx w2 (w.heap.size) ⟨0, ⟨#[]⟩, 0, false, 0⟩ (.slice none 0 0)) := hid' (((Xa_1.out.alloc _).alloc _).kp ((H1.out.alloc _).alloc _) hk); have Xt_2 : Hid (Tx w2 (w1.heap.size) ⟨7, tx, nm, un, ps, fi⟩) := hid' (((Tx.newAt ⟨7, tx, nm, un, ps, fi⟩ (by simp)).alloc _).kp ((H1.out.alloc _).alloc _) hk); have Xn_2 : Hid (Bx w2 (w1.heap.size + 1) ⟨3, tx, 0, false, ps⟩ (.slice none 0 0)) := hid' ((Bx.newAt ⟨3, tx, 0, false, ps⟩ (.slice none 0 0) (by simp)).kp ((H1.out.alloc _).alloc _) hk); have LBn : Hid (w.heap.size ≤ w1.heap.size + 1) := hid' (by have := K1.out.size; omega); have LTat := hid' (Xa_1.out.lt); have NEat : ¬ w.heap.size = w1.heap.size := Nat.ne_of_lt LTat.out; have NEta : ¬ w1.heap.size = w.heap.size := Nat.ne_of_gt LTat.out; have LTan : Hid (w.heap.size < w1.heap.size + 1) := hid' (Nat.lt_succ_of_lt (Xa_1.out.lt)); have NEan : ¬ w.heap.size = w1.heap.size + 1 := Nat.ne_of_lt LTan.out; have NEna : ¬ w1.heap.size + 1 = w.heap.size := Nat.ne_of_gt LTan.out; have LTtn : Hid (w1.heap.size < w1.heap.size + 1) := hid' (by omega); have NEtn : ¬ w1.heap.size = w1.heap.size + 1 := Nat.ne_of_lt LTtn.out; have NEnt : ¬ w1.heap.size + 1 = w1.heap.size := Nat.ne_of_gt LTtn.out; obtain ⟨a2a, a2b, a2c, a2d, a2e, a2f, a2z, a2l⟩ := Xa_2.out.six; obtain ⟨n2a, n2b, n2c, n2d, n2e, n2f, n2z, n2l⟩ := Xn_2.out.six; clear hk hr)
    | (go_at_call 21; (with_reducible refine (now21 (H0.out.alloc _)).mono ?_); rintro e w1 ⟨rfl, hb⟩; have H1 := hid' ((H0.out.alloc _).below hb); have K1 := hid' ((K0.out.alloc _).trans (Kp.of_below hb)); have Xa_1 : Hid (Bx w1 (w.heap.size) ⟨0, ⟨#[]⟩, 0, false, 0⟩ (.slice none 0 0)) := hid' ((Bx.newAt ⟨0, ⟨#[]⟩, 0, false, 0⟩ (.slice none 0 0) (by simp)).below hb); clear hb))
  refine ret_bx (bx := w.heap.size) (x := ⟨3, tx, 0, false, ps⟩) (kv := (.slice none 0 0)) (Xa_2.out.set6 ⟨3, tx, 0, false, ps⟩ (.slice none 0 0)) (fun W c0 c1 c2 c3 c4 c5 => by simp [results, Tryz.results196, go_sem, c0, c1, c2, c3, c4, c5]) rfl ?_
  refine ⟨_, _, _, _, _, _, _, _, _, _, _, _, rfl, (K2.out.set6 (Nat.le_refl _) ⟨3, tx, 0, false, ps⟩ (.slice none 0 0)), (H2.out.set6 Xa_2.out ⟨3, tx, 0, false, ps⟩ (.slice none 0 0)), (Kf.nil _ _), ⟨(by omega), ?_⟩⟩
  have A := (At.start (toks := toks) (b := b) (q := q) (body_prim toks k)).not (by rw [HS.out]; simp)
  replace A := ((A.not (by rw [HX.out]; simp)).not (by rw [HX.out]; simp)).yes (by rw [HX.out])
  rw [HX.out] at A
  exact A
theorem primary196_get {w : World} {p k : Nat} {toks : List Tk} {tv : Value} {b : Bool} {q : Int} {tx : ByteArray} {nm : Int} {un : Bool} {ps fi : Int} (hW : TokW toks) (hT : TokOk toks) (hx : tk toks k = ⟨3, tx, nm, un, ps, fi⟩) (t0 : decide (signAt toks k = ⟨#[103, 101, 116, 98, 121, 116, 101]⟩) = true) {N : Nat} (ih : EH N p toks tv) (hca : ∀ {w : World}, RS w p toks tv k b q → Calls Tryz.prog 232 #[.pointer (some ⟨p, 0, none⟩)] w (RC p toks tv k b q w)) (h : RS w p toks tv k b q) :
    Calls Tryz.prog 196 #[.pointer (some ⟨p, 0, none⟩)] w (RP p toks tv .prim k b q w) := by
  have H0 := hid' h
  have K0 := hid' (Kp.rfl p w)
  have hf0 := fld42_0
  have hf1 := fld42_1
  have hf4 := fld42_4
  have HX := hid' hx
  have HA := hid' h.at_
  clear h
  go_enter Tryz.func196, Tryz.ntmps196
  go_wp2_with (first
    | (go_at_call 232; (with_reducible refine (hca H2.out).mono ?_); rintro e w3 ⟨kd3, st3, nu3, fl3, ao3, m3, cap3, ps3, ks3, k3, b3, q3, rfl, hk, hr, hT, ho⟩; have H3 := hid' hr; have K3 := hid' (K2.out.trans hk); have Xa_3 := hid' (Xa_2.out.kp H2.out hk); have Xt_3 := hid' (Xt_2.out.kp H2.out hk); have Xn_3 := hid' (Xn_2.out.kp H2.out hk); have Tt3_3 : Hid (Kb [w1.heap.size + 1, w.heap.size] w.heap.size w3 (.slice ao3 m3 cap3) ks3) := hid' (Kb.of hT K2.out.size (all_cons Xn_2.out.lt (all_cons Xa_2.out.lt all0))); have O3 := hid' ho; obtain ⟨a3a, a3b, a3c, a3d, a3e, a3f, a3z, a3l⟩ := Xa_3.out.six; clear hk hr hT ho)
    | (go_at_call 125; (with_reducible refine (word_b ⟨#[103, 101, 116, 98, 121, 116, 101]⟩ _ hW rfl t0 ((H1.out.alloc _).alloc _)).mono ?_); rintro e w2 ⟨rfl, hb⟩; have H2 := hid' (((H1.out.alloc _).alloc _).below hb); have K2 := hid' (((K1.out.alloc _).alloc _).trans (Kp.of_below hb)); have Xa_2 : Hid (Bx w2 (w.heap.size) ⟨0, ⟨#[]⟩, 0, false, 0⟩ (.slice none 0 0)) := hid' (((Xa_1.out.alloc _).alloc _).below hb); have Xt_2 : Hid (Tx w2 (w1.heap.size) ⟨3, tx, nm, un, ps, fi⟩) := hid' (((Tx.newAt ⟨3, tx, nm, un, ps, fi⟩ (by simp)).alloc _).below hb); have Xn_2 : Hid (Bx w2 (w1.heap.size + 1) ⟨0, ⟨#[]⟩, 0, false, ps⟩ (.slice none 0 0)) := hid' ((Bx.newAt ⟨0, ⟨#[]⟩, 0, false, ps⟩ (.slice none 0 0) (by simp)).below hb); have LBn : Hid (w.heap.size ≤ w1.heap.size + 1) := hid' (by have := K1.out.size; omega); have LTat := hid' (Xa_1.out.lt); have NEat : ¬ w.heap.size = w1.heap.size := Nat.ne_of_lt LTat.out; have NEta : ¬ w1.heap.size = w.heap.size := Nat.ne_of_gt LTat.out; have LTan : Hid (w.heap.size < w1.heap.size + 1) := hid' (Nat.lt_succ_of_lt (Xa_1.out.lt)); have NEan : ¬ w.heap.size = w1.heap.size + 1 := Nat.ne_of_lt LTan.out; have NEna : ¬ w1.heap.size + 1 = w.heap.size := Nat.ne_of_gt LTan.out; have LTtn : Hid (w1.heap.size < w1.heap.size + 1) := hid' (by omega); have NEtn : ¬ w1.heap.size = w1.heap.size + 1 := Nat.ne_of_lt LTtn.out; have NEnt : ¬ w1.heap.size + 1 = w1.heap.size := Nat.ne_of_gt LTtn.out; clear hb)
    | (go_at_call 21; (with_reducible refine (now21 (H0.out.alloc _)).mono ?_); rintro e w1 ⟨rfl, hb⟩; have H1 := hid' ((H0.out.alloc _).below hb); have K1 := hid' ((K0.out.alloc _).trans (Kp.of_below hb)); have Xa_1 : Hid (Bx w1 (w.heap.size) ⟨0, ⟨#[]⟩, 0, false, 0⟩ (.slice none 0 0)) := hid' ((Bx.newAt ⟨0, ⟨#[]⟩, 0, false, 0⟩ (.slice none 0 0) (by simp)).below hb); clear hb))
  refine ret_bx (bx := w.heap.size) (x := ⟨kd3, st3, nu3, fl3, ps3⟩) (kv := (.slice ao3 m3 cap3)) (Xa_3.out.set6 ⟨kd3, st3, nu3, fl3, ps3⟩ (.slice ao3 m3 cap3)) (fun W c0 c1 c2 c3 c4 c5 => by simp [results, Tryz.results196, go_sem, c0, c1, c2, c3, c4, c5]) rfl ?_
  refine ⟨_, _, _, _, _, _, _, _, _, _, _, _, rfl, (K3.out.set6 (Nat.le_refl _) ⟨kd3, st3, nu3, fl3, ps3⟩ (.slice ao3 m3 cap3)), (H3.out.set6 Xa_3.out ⟨kd3, st3, nu3, fl3, ps3⟩ (.slice ao3 m3 cap3)), (Tt3_3.out.set6 (by simp) ⟨kd3, st3, nu3, fl3, ps3⟩ (.slice ao3 m3 cap3)).to, ⟨O3.out.1, ?_⟩⟩
  have hq : signAt toks k = ⟨#[103, 101, 116, 98, 121, 116, 101]⟩ := by simpa using t0
  have htx : (tk toks k).text = ⟨#[103, 101, 116, 98, 121, 116, 101]⟩ := (sign_some hq (by simp)).2.2
  have A := (((((At.start (toks := toks) (b := b) (q := q) (body_prim toks k)).not (by rw [hq]; simp)).not (by rw [HX.out]; simp)).not (by rw [HX.out]; simp)).not (by rw [HX.out]; simp)).not (by rw [HX.out]; simp)
  exact O3.out.2 _ _ _ (A.yes (by rw [htx]; simp))
theorem primary196_put {w : World} {p k : Nat} {toks : List Tk} {tv : Value} {b : Bool} {q : Int} {tx : ByteArray} {nm : Int} {un : Bool} {ps fi : Int} (hW : TokW toks) (hT : TokOk toks) (hx : tk toks k = ⟨3, tx, nm, un, ps, fi⟩) (t0 : decide (signAt toks k = ⟨#[103, 101, 116, 98, 121, 116, 101]⟩) = false) (t1 : decide (signAt toks k = ⟨#[112, 117, 116, 98, 121, 116, 101]⟩) = true) {N : Nat} (ih : EH N p toks tv) (hca : ∀ {w : World}, RS w p toks tv k b q → Calls Tryz.prog 232 #[.pointer (some ⟨p, 0, none⟩)] w (RC p toks tv k b q w)) (h : RS w p toks tv k b q) :
    Calls Tryz.prog 196 #[.pointer (some ⟨p, 0, none⟩)] w (RP p toks tv .prim k b q w) := by
  have H0 := hid' h
  have K0 := hid' (Kp.rfl p w)
  have hf0 := fld42_0
  have hf1 := fld42_1
  have hf4 := fld42_4
  have HX := hid' hx
  have HA := hid' h.at_
  clear h
  go_enter Tryz.func196, Tryz.ntmps196
  go_wp2_with (first
    | (go_at_call 232; (with_reducible refine (hca H3.out).mono ?_); rintro e w4 ⟨kd4, st4, nu4, fl4, ao4, m4, cap4, ps4, ks4, k4, b4, q4, rfl, hk, hr, hT, ho⟩; have H4 := hid' hr; have K4 := hid' (K3.out.trans hk); have Xa_4 := hid' (Xa_3.out.kp H3.out hk); have Xt_4 := hid' (Xt_3.out.kp H3.out hk); have Xn_4 := hid' (Xn_3.out.kp H3.out hk); have Tt4_4 : Hid (Kb [w1.heap.size + 1, w.heap.size] w.heap.size w4 (.slice ao4 m4 cap4) ks4) := hid' (Kb.of hT K3.out.size (all_cons Xn_3.out.lt (all_cons Xa_3.out.lt all0))); have O4 := hid' ho; obtain ⟨a4a, a4b, a4c, a4d, a4e, a4f, a4z, a4l⟩ := Xa_4.out.six; clear hk hr hT ho)
    | (go_at_call 125; (with_reducible refine (word_b ⟨#[112, 117, 116, 98, 121, 116, 101]⟩ _ hW rfl t1 H2.out).mono ?_); rintro e w3 ⟨rfl, hb⟩; have H3 := hid' (H2.out.below hb); have K3 := hid' (K2.out.trans (Kp.of_below hb)); have Xa_3 := hid' (Xa_2.out.below hb); have Xt_3 := hid' (Xt_2.out.below hb); have Xn_3 := hid' (Xn_2.out.below hb); clear hb)
    | (go_at_call 125; (with_reducible refine (word_b ⟨#[103, 101, 116, 98, 121, 116, 101]⟩ _ hW rfl t0 ((H1.out.alloc _).alloc _)).mono ?_); rintro e w2 ⟨rfl, hb⟩; have H2 := hid' (((H1.out.alloc _).alloc _).below hb); have K2 := hid' (((K1.out.alloc _).alloc _).trans (Kp.of_below hb)); have Xa_2 : Hid (Bx w2 (w.heap.size) ⟨0, ⟨#[]⟩, 0, false, 0⟩ (.slice none 0 0)) := hid' (((Xa_1.out.alloc _).alloc _).below hb); have Xt_2 : Hid (Tx w2 (w1.heap.size) ⟨3, tx, nm, un, ps, fi⟩) := hid' (((Tx.newAt ⟨3, tx, nm, un, ps, fi⟩ (by simp)).alloc _).below hb); have Xn_2 : Hid (Bx w2 (w1.heap.size + 1) ⟨0, ⟨#[]⟩, 0, false, ps⟩ (.slice none 0 0)) := hid' ((Bx.newAt ⟨0, ⟨#[]⟩, 0, false, ps⟩ (.slice none 0 0) (by simp)).below hb); have LBn : Hid (w.heap.size ≤ w1.heap.size + 1) := hid' (by have := K1.out.size; omega); have LTat := hid' (Xa_1.out.lt); have NEat : ¬ w.heap.size = w1.heap.size := Nat.ne_of_lt LTat.out; have NEta : ¬ w1.heap.size = w.heap.size := Nat.ne_of_gt LTat.out; have LTan : Hid (w.heap.size < w1.heap.size + 1) := hid' (Nat.lt_succ_of_lt (Xa_1.out.lt)); have NEan : ¬ w.heap.size = w1.heap.size + 1 := Nat.ne_of_lt LTan.out; have NEna : ¬ w1.heap.size + 1 = w.heap.size := Nat.ne_of_gt LTan.out; have LTtn : Hid (w1.heap.size < w1.heap.size + 1) := hid' (by omega); have NEtn : ¬ w1.heap.size = w1.heap.size + 1 := Nat.ne_of_lt LTtn.out; have NEnt : ¬ w1.heap.size + 1 = w1.heap.size := Nat.ne_of_gt LTtn.out; clear hb)
    | (go_at_call 21; (with_reducible refine (now21 (H0.out.alloc _)).mono ?_); rintro e w1 ⟨rfl, hb⟩; have H1 := hid' ((H0.out.alloc _).below hb); have K1 := hid' ((K0.out.alloc _).trans (Kp.of_below hb)); have Xa_1 : Hid (Bx w1 (w.heap.size) ⟨0, ⟨#[]⟩, 0, false, 0⟩ (.slice none 0 0)) := hid' ((Bx.newAt ⟨0, ⟨#[]⟩, 0, false, 0⟩ (.slice none 0 0) (by simp)).below hb); clear hb))
  refine ret_bx (bx := w.heap.size) (x := ⟨kd4, st4, nu4, fl4, ps4⟩) (kv := (.slice ao4 m4 cap4)) (Xa_4.out.set6 ⟨kd4, st4, nu4, fl4, ps4⟩ (.slice ao4 m4 cap4)) (fun W c0 c1 c2 c3 c4 c5 => by simp [results, Tryz.results196, go_sem, c0, c1, c2, c3, c4, c5]) rfl ?_
  refine ⟨_, _, _, _, _, _, _, _, _, _, _, _, rfl, (K4.out.set6 (Nat.le_refl _) ⟨kd4, st4, nu4, fl4, ps4⟩ (.slice ao4 m4 cap4)), (H4.out.set6 Xa_4.out ⟨kd4, st4, nu4, fl4, ps4⟩ (.slice ao4 m4 cap4)), (Tt4_4.out.set6 (by simp) ⟨kd4, st4, nu4, fl4, ps4⟩ (.slice ao4 m4 cap4)).to, ⟨O4.out.1, ?_⟩⟩
  have hq : signAt toks k = ⟨#[112, 117, 116, 98, 121, 116, 101]⟩ := by simpa using t1
  have htx : (tk toks k).text = ⟨#[112, 117, 116, 98, 121, 116, 101]⟩ := (sign_some hq (by simp)).2.2
  have A := (((((At.start (toks := toks) (b := b) (q := q) (body_prim toks k)).not (by rw [hq]; simp)).not (by rw [HX.out]; simp)).not (by rw [HX.out]; simp)).not (by rw [HX.out]; simp)).not (by rw [HX.out]; simp)
  exact O4.out.2 _ _ _ (A.yes (by rw [htx]; simp))
theorem primary196_par {w : World} {p k : Nat} {toks : List Tk} {tv : Value} {b : Bool} {q : Int} {tx : ByteArray} {nm : Int} {un : Bool} {ps fi : Int} (hW : TokW toks) (hT : TokOk toks) (hx : tk toks k = ⟨4, tx, nm, un, ps, fi⟩) (t0 : decide (signAt toks k = ⟨#[103, 101, 116, 98, 121, 116, 101]⟩) = false) (t1 : decide (signAt toks k = ⟨#[112, 117, 116, 98, 121, 116, 101]⟩) = false) (t2 : decide (signAt toks k = ⟨#[40]⟩) = true) {N : Nat} (ih : EH N p toks tv) (hN : (toks.length - k) * 8 + 2 ≤ N) (h : RS w p toks tv k b q) :
    Calls Tryz.prog 196 #[.pointer (some ⟨p, 0, none⟩)] w (RP p toks tv .prim k b q w) := by
  have H0 := hid' h
  have K0 := hid' (Kp.rfl p w)
  have hf0 := fld42_0
  have hf1 := fld42_1
  have hf4 := fld42_4
  have hq : signAt toks k = ⟨#[40]⟩ := by simpa using t2
  have HQ := hid' hq
  have HN := hid' (hT.sign hq (by simp))
  have HI := hid' (by have := h.at_; omega : (toks.length - (k + 1)) * 8 + 6 < N)
  clear hq
  clear h
  go_enter Tryz.func196, Tryz.ntmps196
  go_wp2_with (first
    | (go_at_call 80; (with_reducible refine (take80 ⟨#[41]⟩ hW hT rfl (by simp) (H6.out.set6 Xn_6.out ⟨kd6, st6, nu6, fl6, ps6⟩ (.slice ao6 m6 cap6))).mono ?_); rintro e w7 ⟨rfl, hk, hr⟩; have H7 := hid' hr; have K7 := hid' ((K6.out.set6 LBn.out ⟨kd6, st6, nu6, fl6, ps6⟩ (.slice ao6 m6 cap6)).trans hk); have Xa_7 := hid' ((Xa_6.out.off6 (Nat.ne_of_lt LTan.out) ⟨kd6, st6, nu6, fl6, ps6⟩ (.slice ao6 m6 cap6)).kp (H6.out.set6 Xn_6.out ⟨kd6, st6, nu6, fl6, ps6⟩ (.slice ao6 m6 cap6)) hk); have Xt_7 := hid' ((Xt_6.out.off6 (Nat.ne_of_lt LTtn.out) ⟨kd6, st6, nu6, fl6, ps6⟩ (.slice ao6 m6 cap6)).kp (H6.out.set6 Xn_6.out ⟨kd6, st6, nu6, fl6, ps6⟩ (.slice ao6 m6 cap6)) hk); have Xn_7 := hid' ((Xn_6.out.set6 ⟨kd6, st6, nu6, fl6, ps6⟩ (.slice ao6 m6 cap6)).kp (H6.out.set6 Xn_6.out ⟨kd6, st6, nu6, fl6, ps6⟩ (.slice ao6 m6 cap6)) hk); have Tt6_7 := hid' ((Tt6_6.out.set6 (by simp) ⟨kd6, st6, nu6, fl6, ps6⟩ (.slice ao6 m6 cap6)).kp H0.out.lt hk); obtain ⟨a7a, a7b, a7c, a7d, a7e, a7f, a7z, a7l⟩ := Xa_7.out.six; obtain ⟨n7a, n7b, n7c, n7d, n7e, n7f, n7z, n7l⟩ := Xn_7.out.six; clear hk hr)
    | (go_at_call 25; (with_reducible refine (ih.ex HI.out H5.out).mono ?_); rintro e w6 ⟨kd6, st6, nu6, fl6, ao6, m6, cap6, ps6, ks6, k6, b6, q6, rfl, hk, hr, hT, ho⟩; have H6 := hid' hr; have K6 := hid' (K5.out.trans hk); have Xa_6 := hid' (Xa_5.out.kp H5.out hk); have Xt_6 := hid' (Xt_5.out.kp H5.out hk); have Xn_6 := hid' (Xn_5.out.kp H5.out hk); have Tt6_6 : Hid (Kb [w1.heap.size + 1, w.heap.size] w.heap.size w6 (.slice ao6 m6 cap6) ks6) := hid' (Kb.of hT K5.out.size (all_cons Xn_5.out.lt (all_cons Xa_5.out.lt all0))); have O6 := hid' ho; obtain ⟨n6a, n6b, n6c, n6d, n6e, n6f, n6z, n6l⟩ := Xn_6.out.six; clear hk hr hT ho)
    | (go_at_call 54; (with_reducible refine (next54 H4.out HN.out).mono ?_); rintro e w5 ⟨rfl, hk, hr⟩; have H5 := hid' hr; have K5 := hid' (K4.out.trans hk); have Xa_5 := hid' (Xa_4.out.kp H4.out hk); have Xt_5 := hid' (Xt_4.out.kp H4.out hk); have Xn_5 := hid' (Xn_4.out.kp H4.out hk); clear hk hr)
    | (go_at_call 42; (with_reducible refine (mark_b ⟨#[40]⟩ _ hW rfl (by simp) t2 H3.out).mono ?_); rintro e w4 ⟨rfl, hb⟩; have H4 := hid' (H3.out.below hb); have K4 := hid' (K3.out.trans (Kp.of_below hb)); have Xa_4 := hid' (Xa_3.out.below hb); have Xt_4 := hid' (Xt_3.out.below hb); have Xn_4 := hid' (Xn_3.out.below hb); clear hb)
    | (go_at_call 125; (with_reducible refine (word_b ⟨#[112, 117, 116, 98, 121, 116, 101]⟩ _ hW rfl t1 H2.out).mono ?_); rintro e w3 ⟨rfl, hb⟩; have H3 := hid' (H2.out.below hb); have K3 := hid' (K2.out.trans (Kp.of_below hb)); have Xa_3 := hid' (Xa_2.out.below hb); have Xt_3 := hid' (Xt_2.out.below hb); have Xn_3 := hid' (Xn_2.out.below hb); obtain ⟨t3a, t3b, t3c, t3d, t3e, t3f, t3z, t3l⟩ := Xt_3.out.six; clear hb)
    | (go_at_call 125; (with_reducible refine (word_b ⟨#[103, 101, 116, 98, 121, 116, 101]⟩ _ hW rfl t0 ((H1.out.alloc _).alloc _)).mono ?_); rintro e w2 ⟨rfl, hb⟩; have H2 := hid' (((H1.out.alloc _).alloc _).below hb); have K2 := hid' (((K1.out.alloc _).alloc _).trans (Kp.of_below hb)); have Xa_2 : Hid (Bx w2 (w.heap.size) ⟨0, ⟨#[]⟩, 0, false, 0⟩ (.slice none 0 0)) := hid' (((Xa_1.out.alloc _).alloc _).below hb); have Xt_2 : Hid (Tx w2 (w1.heap.size) ⟨4, tx, nm, un, ps, fi⟩) := hid' (((Tx.newAt ⟨4, tx, nm, un, ps, fi⟩ (by simp)).alloc _).below hb); have Xn_2 : Hid (Bx w2 (w1.heap.size + 1) ⟨0, ⟨#[]⟩, 0, false, ps⟩ (.slice none 0 0)) := hid' ((Bx.newAt ⟨0, ⟨#[]⟩, 0, false, ps⟩ (.slice none 0 0) (by simp)).below hb); have LBn : Hid (w.heap.size ≤ w1.heap.size + 1) := hid' (by have := K1.out.size; omega); have LTat := hid' (Xa_1.out.lt); have NEat : ¬ w.heap.size = w1.heap.size := Nat.ne_of_lt LTat.out; have NEta : ¬ w1.heap.size = w.heap.size := Nat.ne_of_gt LTat.out; have LTan : Hid (w.heap.size < w1.heap.size + 1) := hid' (Nat.lt_succ_of_lt (Xa_1.out.lt)); have NEan : ¬ w.heap.size = w1.heap.size + 1 := Nat.ne_of_lt LTan.out; have NEna : ¬ w1.heap.size + 1 = w.heap.size := Nat.ne_of_gt LTan.out; have LTtn : Hid (w1.heap.size < w1.heap.size + 1) := hid' (by omega); have NEtn : ¬ w1.heap.size = w1.heap.size + 1 := Nat.ne_of_lt LTtn.out; have NEnt : ¬ w1.heap.size + 1 = w1.heap.size := Nat.ne_of_gt LTtn.out; obtain ⟨t2a, t2b, t2c, t2d, t2e, t2f, t2z, t2l⟩ := Xt_2.out.six; clear hb)
    | (go_at_call 21; (with_reducible refine (now21 (H0.out.alloc _)).mono ?_); rintro e w1 ⟨rfl, hb⟩; have H1 := hid' ((H0.out.alloc _).below hb); have K1 := hid' ((K0.out.alloc _).trans (Kp.of_below hb)); have Xa_1 : Hid (Bx w1 (w.heap.size) ⟨0, ⟨#[]⟩, 0, false, 0⟩ (.slice none 0 0)) := hid' ((Bx.newAt ⟨0, ⟨#[]⟩, 0, false, 0⟩ (.slice none 0 0) (by simp)).below hb); clear hb))
  refine ret_bx (bx := w.heap.size) (x := ⟨kd6, st6, nu6, fl6, ps6⟩) (kv := (.slice ao6 m6 cap6)) (Xa_7.out.set6 ⟨kd6, st6, nu6, fl6, ps6⟩ (.slice ao6 m6 cap6)) (fun W c0 c1 c2 c3 c4 c5 => by simp [results, Tryz.results196, go_sem, c0, c1, c2, c3, c4, c5]) rfl ?_
  refine ⟨_, _, _, _, _, _, _, _, _, _, _, _, rfl, (K7.out.set6 (Nat.le_refl _) ⟨kd6, st6, nu6, fl6, ps6⟩ (.slice ao6 m6 cap6)), (H7.out.set6 Xa_7.out ⟨kd6, st6, nu6, fl6, ps6⟩ (.slice ao6 m6 cap6)), (Tt6_7.out.set6 (by simp) ⟨kd6, st6, nu6, fl6, ps6⟩ (.slice ao6 m6 cap6)).to, ⟨(by have := O6.out.le; have := le_takK toks ⟨#[41]⟩ k6; omega), ?_⟩⟩
  have A := (((At.start (toks := toks) (b := b) (q := q) (body_prim toks k)).yes HQ.out).call O6.out).take
  exact A
theorem primary196_no {w : World} {p k : Nat} {toks : List Tk} {tv : Value} {b : Bool} {q : Int} {kd : Int} {tx : ByteArray} {nm : Int} {un : Bool} {ps fi : Int} (hW : TokW toks) (hT : TokOk toks) (hx : tk toks k = ⟨kd, tx, nm, un, ps, fi⟩) (e5 : (kd == 5) = false) (e6 : (kd == 6) = false) (e7 : (kd == 7) = false) (e2 : (kd == 2) = false) (t0 : decide (signAt toks k = ⟨#[103, 101, 116, 98, 121, 116, 101]⟩) = false) (t1 : decide (signAt toks k = ⟨#[112, 117, 116, 98, 121, 116, 101]⟩) = false) (t2 : decide (signAt toks k = ⟨#[40]⟩) = false) (htx : ¬ (tx = ⟨#[103, 101, 116, 98, 121, 116, 101]⟩ ∨ tx = ⟨#[112, 117, 116, 98, 121, 116, 101]⟩)) (h : RS w p toks tv k b q) :
    Calls Tryz.prog 196 #[.pointer (some ⟨p, 0, none⟩)] w (RP p toks tv .prim k b q w) := by
  have H0 := hid' h
  have K0 := hid' (Kp.rfl p w)
  have hf0 := fld42_0
  have hf1 := fld42_1
  have hf4 := fld42_4
  have HX := hid' hx
  have HTX := hid' htx
  clear h
  go_enter Tryz.func196, Tryz.ntmps196
  go_wp2_with (first
    | (go_at_call 47; (with_reducible refine (no47 H4.out).mono ?_); rintro e w5 ⟨rfl, hk, hr⟩; have H5 := hid' hr; have K5 := hid' (K4.out.trans hk); have Xa_5 := hid' (Xa_4.out.kp H4.out hk); have Xt_5 := hid' (Xt_4.out.kp H4.out hk); have Xn_5 := hid' (Xn_4.out.kp H4.out hk); obtain ⟨a5a, a5b, a5c, a5d, a5e, a5f, a5z, a5l⟩ := Xa_5.out.six; obtain ⟨n5a, n5b, n5c, n5d, n5e, n5f, n5z, n5l⟩ := Xn_5.out.six; clear hk hr)
    | (go_at_call 42; (with_reducible refine (mark_b ⟨#[40]⟩ _ hW rfl (by simp) t2 H3.out).mono ?_); rintro e w4 ⟨rfl, hb⟩; have H4 := hid' (H3.out.below hb); have K4 := hid' (K3.out.trans (Kp.of_below hb)); have Xa_4 := hid' (Xa_3.out.below hb); have Xt_4 := hid' (Xt_3.out.below hb); have Xn_4 := hid' (Xn_3.out.below hb); clear hb)
    | (go_at_call 125; (with_reducible refine (word_b ⟨#[112, 117, 116, 98, 121, 116, 101]⟩ _ hW rfl t1 H2.out).mono ?_); rintro e w3 ⟨rfl, hb⟩; have H3 := hid' (H2.out.below hb); have K3 := hid' (K2.out.trans (Kp.of_below hb)); have Xa_3 := hid' (Xa_2.out.below hb); have Xt_3 := hid' (Xt_2.out.below hb); have Xn_3 := hid' (Xn_2.out.below hb); obtain ⟨t3a, t3b, t3c, t3d, t3e, t3f, t3z, t3l⟩ := Xt_3.out.six; clear hb)
    | (go_at_call 125; (with_reducible refine (word_b ⟨#[103, 101, 116, 98, 121, 116, 101]⟩ _ hW rfl t0 ((H1.out.alloc _).alloc _)).mono ?_); rintro e w2 ⟨rfl, hb⟩; have H2 := hid' (((H1.out.alloc _).alloc _).below hb); have K2 := hid' (((K1.out.alloc _).alloc _).trans (Kp.of_below hb)); have Xa_2 : Hid (Bx w2 (w.heap.size) ⟨0, ⟨#[]⟩, 0, false, 0⟩ (.slice none 0 0)) := hid' (((Xa_1.out.alloc _).alloc _).below hb); have Xt_2 : Hid (Tx w2 (w1.heap.size) ⟨kd, tx, nm, un, ps, fi⟩) := hid' (((Tx.newAt ⟨kd, tx, nm, un, ps, fi⟩ (by simp)).alloc _).below hb); have Xn_2 : Hid (Bx w2 (w1.heap.size + 1) ⟨0, ⟨#[]⟩, 0, false, ps⟩ (.slice none 0 0)) := hid' ((Bx.newAt ⟨0, ⟨#[]⟩, 0, false, ps⟩ (.slice none 0 0) (by simp)).below hb); have LBn : Hid (w.heap.size ≤ w1.heap.size + 1) := hid' (by have := K1.out.size; omega); have LTat := hid' (Xa_1.out.lt); have NEat : ¬ w.heap.size = w1.heap.size := Nat.ne_of_lt LTat.out; have NEta : ¬ w1.heap.size = w.heap.size := Nat.ne_of_gt LTat.out; have LTan : Hid (w.heap.size < w1.heap.size + 1) := hid' (Nat.lt_succ_of_lt (Xa_1.out.lt)); have NEan : ¬ w.heap.size = w1.heap.size + 1 := Nat.ne_of_lt LTan.out; have NEna : ¬ w1.heap.size + 1 = w.heap.size := Nat.ne_of_gt LTan.out; have LTtn : Hid (w1.heap.size < w1.heap.size + 1) := hid' (by omega); have NEtn : ¬ w1.heap.size = w1.heap.size + 1 := Nat.ne_of_lt LTtn.out; have NEnt : ¬ w1.heap.size + 1 = w1.heap.size := Nat.ne_of_gt LTtn.out; obtain ⟨t2a, t2b, t2c, t2d, t2e, t2f, t2z, t2l⟩ := Xt_2.out.six; clear hb)
    | (go_at_call 21; (with_reducible refine (now21 (H0.out.alloc _)).mono ?_); rintro e w1 ⟨rfl, hb⟩; have H1 := hid' ((H0.out.alloc _).below hb); have K1 := hid' ((K0.out.alloc _).trans (Kp.of_below hb)); have Xa_1 : Hid (Bx w1 (w.heap.size) ⟨0, ⟨#[]⟩, 0, false, 0⟩ (.slice none 0 0)) := hid' ((Bx.newAt ⟨0, ⟨#[]⟩, 0, false, 0⟩ (.slice none 0 0) (by simp)).below hb); clear hb))
  refine ret_bx (bx := w.heap.size) (x := ⟨0, ⟨#[]⟩, 0, false, ps⟩) (kv := (.slice none 0 0)) (Xa_5.out.set6 ⟨0, ⟨#[]⟩, 0, false, ps⟩ (.slice none 0 0)) (fun W c0 c1 c2 c3 c4 c5 => by simp [results, Tryz.results196, go_sem, c0, c1, c2, c3, c4, c5]) rfl ?_
  refine ⟨_, _, _, _, _, _, _, _, _, _, _, _, rfl, (K5.out.set6 (Nat.le_refl _) ⟨0, ⟨#[]⟩, 0, false, ps⟩ (.slice none 0 0)), (H5.out.set6 Xa_5.out ⟨0, ⟨#[]⟩, 0, false, ps⟩ (.slice none 0 0)), (Kf.nil _ _), ⟨(by omega), ?_⟩⟩
  simp only [beq_eq_false_iff_ne, ne_eq] at e5 e6 e7 e2
  have A := ((((((At.start (toks := toks) (b := b) (q := q) (body_prim toks k)).not (by simpa using t2)).not (by rw [HX.out]; exact e5)).not (by rw [HX.out]; exact e6)).not (by rw [HX.out]; exact e7)).not (by rw [HX.out]; exact e2)).not (by rw [HX.out]; exact HTX.out)
  exact A.no
theorem called232 {w : World} {p k : Nat} {toks : List Tk} {tv : Value} {b : Bool} {q : Int} (hW : TokW toks) (hT : TokOk toks) (hn : k + 1 < toks.length) {N : Nat} (ih : EH N p toks tv) (hN : (toks.length - k) * 8 + 1 ≤ N) (h : RS w p toks tv k b q) :
    Calls Tryz.prog 232 #[.pointer (some ⟨p, 0, none⟩)] w (RC p toks tv k b q w) := by
  have H0 := hid' h
  have K0 := hid' (Kp.rfl p w)
  have hf0 := fld42_0
  have hf1 := fld42_1
  have hf4 := fld42_4
  have HN := hid' hn
  have HI : Hid (∀ j, k + 1 ≤ j → (toks.length - j) * 8 + 7 < N) := fun j hj => by have := h.at_; omega
  clear hn
  clear h
  go_enter Tryz.func232, Tryz.ntmps232
  go_wp2_with (first
    | (go_at_call 127; (with_reducible refine (ih.li (.inl rfl) (HI.out _ (le_takK toks ⟨#[40]⟩ (k + 1))) H4.out).mono ?_); rintro e w5 ⟨ao5, m5, cap5, ks5, k5, b5, q5, rfl, hk, hr, hT, hle, ho⟩; have H5 := hid' hr; have K5 := hid' (K4.out.trans hk); have Xa_5 := hid' (Xa_4.out.kp H4.out hk); have Xn_5 := hid' (Xn_4.out.kp H4.out hk); have Tt5_5 : Hid (Kb [w2.heap.size, w.heap.size] w.heap.size w5 (.slice ao5 m5 cap5) ks5) := hid' (Kb.of hT K4.out.size (all_cons Xn_4.out.lt (all_cons Xa_4.out.lt all0))); have O5 := hid' ho; have OL5 := hid' hle; obtain ⟨a5a, a5b, a5c, a5d, a5e, a5f, a5z, a5l⟩ := Xa_5.out.six; obtain ⟨n5a, n5b, n5c, n5d, n5e, n5f, n5z, n5l⟩ := Xn_5.out.six; clear hk hr hT hle ho)
    | (go_at_call 80; (with_reducible refine (take80 ⟨#[40]⟩ hW hT rfl (by simp) H3.out).mono ?_); rintro e w4 ⟨rfl, hk, hr⟩; have H4 := hid' hr; have K4 := hid' (K3.out.trans hk); have Xa_4 := hid' (Xa_3.out.kp H3.out hk); have Xn_4 := hid' (Xn_3.out.kp H3.out hk); clear hk hr)
    | (go_at_call 54; (with_reducible refine (next54 (H2.out.alloc _) HN.out).mono ?_); rintro e w3 ⟨rfl, hk, hr⟩; have H3 := hid' hr; have K3 := hid' ((K2.out.alloc _).trans hk); have Xa_3 : Hid (Bx w3 (w.heap.size) ⟨0, ⟨#[]⟩, 0, false, 0⟩ (.slice none 0 0)) := hid' ((Xa_2.out.alloc _).kp (H2.out.alloc _) hk); have Xn_3 : Hid (Bx w3 (w2.heap.size) ⟨8, (tk toks k).text, 0, false, (tk toks k).pos⟩ (.slice none 0 0)) := hid' ((Bx.newAt ⟨8, (tk toks k).text, 0, false, (tk toks k).pos⟩ (.slice none 0 0) (by simp)).kp (H2.out.alloc _) hk); have LBn : Hid (w.heap.size ≤ w2.heap.size) := hid' (by have := K2.out.size; omega); have LTan := hid' (Xa_2.out.lt); have NEan : ¬ w.heap.size = w2.heap.size := Nat.ne_of_lt LTan.out; have NEna : ¬ w2.heap.size = w.heap.size := Nat.ne_of_gt LTan.out; clear hk hr)
    | (go_at_call 21; (with_reducible refine (now21 H1.out).mono ?_); rintro e w2 ⟨rfl, hb⟩; have H2 := hid' (H1.out.below hb); have K2 := hid' (K1.out.trans (Kp.of_below hb)); have Xa_2 := hid' (Xa_1.out.below hb); clear hb)
    | (go_at_call 21; (with_reducible refine (now21 (H0.out.alloc _)).mono ?_); rintro e w1 ⟨rfl, hb⟩; have H1 := hid' ((H0.out.alloc _).below hb); have K1 := hid' ((K0.out.alloc _).trans (Kp.of_below hb)); have Xa_1 : Hid (Bx w1 (w.heap.size) ⟨0, ⟨#[]⟩, 0, false, 0⟩ (.slice none 0 0)) := hid' ((Bx.newAt ⟨0, ⟨#[]⟩, 0, false, 0⟩ (.slice none 0 0) (by simp)).below hb); clear hb))
  refine ret_bx (bx := w.heap.size) (x := ⟨8, (tk toks k).text, 0, false, (tk toks k).pos⟩) (kv := (.slice ao5 m5 cap5)) ((Xa_5.out.off (Nat.ne_of_lt LTan.out) 4 _).set6 ⟨8, (tk toks k).text, 0, false, (tk toks k).pos⟩ (.slice ao5 m5 cap5)) (fun W c0 c1 c2 c3 c4 c5 => by simp [results, Tryz.results232, go_sem, c0, c1, c2, c3, c4, c5]) rfl ?_
  refine ⟨_, _, _, _, _, _, _, _, _, _, _, _, rfl, ((K5.out.setB LBn.out 4 _).set6 (Nat.le_refl _) ⟨8, (tk toks k).text, 0, false, (tk toks k).pos⟩ (.slice ao5 m5 cap5)), ((H5.out.setB Xn_5.out 4 _).set6 (Xa_5.out.off (Nat.ne_of_lt LTan.out) 4 _) ⟨8, (tk toks k).text, 0, false, (tk toks k).pos⟩ (.slice ao5 m5 cap5)), ((Tt5_5.out.setB (by simp) 4 _).set6 (by simp) ⟨8, (tk toks k).text, 0, false, (tk toks k).pos⟩ (.slice ao5 m5 cap5)).to, (by have := OL5.out; have := le_takK toks ⟨#[40]⟩ (k + 1); omega), fun b0 q0 g0 A => ?_⟩
  exact O5.out _ _ _ (fun ts k2 => .back [Tr.node ⟨8, (tk toks k).text, 0, false, (tk toks k).pos⟩ ts] k2) A.take
theorem primary196_nc {w : World} {p k : Nat} {toks : List Tk} {tv : Value} {b : Bool} {q : Int} {tx : ByteArray} {nm : Int} {un : Bool} {ps fi : Int} {nm2 : Int} {un2 : Bool} {ps2 fi2 : Int} (hW : TokW toks) (hT : TokOk toks) (hx : tk toks k = ⟨2, tx, nm, un, ps, fi⟩) (t0 : decide (signAt toks k = ⟨#[103, 101, 116, 98, 121, 116, 101]⟩) = false) (t1 : decide (signAt toks k = ⟨#[112, 117, 116, 98, 121, 116, 101]⟩) = false) (hy : tk toks (k + 1) = ⟨4, ⟨#[40]⟩, nm2, un2, ps2, fi2⟩) (hca : ∀ {w : World}, RS w p toks tv k b q → Calls Tryz.prog 232 #[.pointer (some ⟨p, 0, none⟩)] w (RC p toks tv k b q w)) (h : RS w p toks tv k b q) :
    Calls Tryz.prog 196 #[.pointer (some ⟨p, 0, none⟩)] w (RP p toks tv .prim k b q w) := by
  have H0 := hid' h
  have K0 := hid' (Kp.rfl p w)
  have hf0 := fld42_0
  have hf1 := fld42_1
  have hf4 := fld42_4
  obtain ⟨g, cap, htv⟩ : ∃ g cap, tv = .slice (some ⟨g, 0, none⟩) toks.length cap := (fun ⟨g, cap, e, _⟩ => ⟨g, cap, e⟩) (row_tok h.tok k h.at_)
  subst htv
  have hfew := h.few
  have HX := hid' hx
  have hn : k + 1 < toks.length := hT.next _ h.at_ (by rw [hx]; simp)
  have HN := hid' hn
  obtain ⟨m, hm⟩ : ∃ m, m = k + 1 := ⟨_, rfl⟩
  have HM := hid' hm
  have hw1 : IntKind.i64.wrap ((k : Int) + 1) = (m : Int) := by rw [Go.IntWalk.i64_in _ (by omega), hm]; omega
  have hw2 : (k : Int) + 1 = (m : Int) := by omega
  have h3 : (m : Int) < toks.length := by omega
  have HS := hid' (sign_none (toks := toks) (k := k) (by rw [hx]; simp) (by rw [hx]; simp))
  clear hn hm
  have HY := hid' hy
  rw [← HM.out] at hy
  clear h
  go_enter Tryz.func196, Tryz.ntmps196
  go_wp2_with (first
    | (go_at_call 125; (with_reducible refine (word_b ⟨#[112, 117, 116, 98, 121, 116, 101]⟩ _ hW rfl t1 H2.out).mono ?_); rintro e w3 ⟨rfl, hb⟩; have H3 := hid' (H2.out.below hb); have K3 := hid' (K2.out.trans (Kp.of_below hb)); have Xa_3 := hid' (Xa_2.out.below hb); have Xt_3 := hid' (Xt_2.out.below hb); have Xn_3 := hid' (Xn_2.out.below hb); obtain ⟨t3a, t3b, t3c, t3d, t3e, t3f, t3z, t3l⟩ := Xt_3.out.six; obtain ⟨n3a, n3b, n3c, n3d, n3e, n3f, n3z, n3l⟩ := Xn_3.out.six; obtain ⟨u0, u1, ul⟩ := H3.out.tokAt m (by rw [HM.out]; exact HN.out); obtain ⟨r3a, r3b, r3c, r3d, r3l⟩ := H3.out.cells; clear hb)
    | (go_at_call 125; (with_reducible refine (word_b ⟨#[103, 101, 116, 98, 121, 116, 101]⟩ _ hW rfl t0 ((H1.out.alloc _).alloc _)).mono ?_); rintro e w2 ⟨rfl, hb⟩; have H2 := hid' (((H1.out.alloc _).alloc _).below hb); have K2 := hid' (((K1.out.alloc _).alloc _).trans (Kp.of_below hb)); have Xa_2 : Hid (Bx w2 (w.heap.size) ⟨0, ⟨#[]⟩, 0, false, 0⟩ (.slice none 0 0)) := hid' (((Xa_1.out.alloc _).alloc _).below hb); have Xt_2 : Hid (Tx w2 (w1.heap.size) ⟨2, tx, nm, un, ps, fi⟩) := hid' (((Tx.newAt ⟨2, tx, nm, un, ps, fi⟩ (by simp)).alloc _).below hb); have Xn_2 : Hid (Bx w2 (w1.heap.size + 1) ⟨0, ⟨#[]⟩, 0, false, ps⟩ (.slice none 0 0)) := hid' ((Bx.newAt ⟨0, ⟨#[]⟩, 0, false, ps⟩ (.slice none 0 0) (by simp)).below hb); have LBn : Hid (w.heap.size ≤ w1.heap.size + 1) := hid' (by have := K1.out.size; omega); have LTat := hid' (Xa_1.out.lt); have NEat : ¬ w.heap.size = w1.heap.size := Nat.ne_of_lt LTat.out; have NEta : ¬ w1.heap.size = w.heap.size := Nat.ne_of_gt LTat.out; have LTan : Hid (w.heap.size < w1.heap.size + 1) := hid' (Nat.lt_succ_of_lt (Xa_1.out.lt)); have NEan : ¬ w.heap.size = w1.heap.size + 1 := Nat.ne_of_lt LTan.out; have NEna : ¬ w1.heap.size + 1 = w.heap.size := Nat.ne_of_gt LTan.out; have LTtn : Hid (w1.heap.size < w1.heap.size + 1) := hid' (by omega); have NEtn : ¬ w1.heap.size = w1.heap.size + 1 := Nat.ne_of_lt LTtn.out; have NEnt : ¬ w1.heap.size + 1 = w1.heap.size := Nat.ne_of_gt LTtn.out; obtain ⟨t2a, t2b, t2c, t2d, t2e, t2f, t2z, t2l⟩ := Xt_2.out.six; clear hb)
    | (go_at_call 21; (with_reducible refine (now21 (H0.out.alloc _)).mono ?_); rintro e w1 ⟨rfl, hb⟩; have H1 := hid' ((H0.out.alloc _).below hb); have K1 := hid' ((K0.out.alloc _).trans (Kp.of_below hb)); have Xa_1 : Hid (Bx w1 (w.heap.size) ⟨0, ⟨#[]⟩, 0, false, 0⟩ (.slice none 0 0)) := hid' ((Bx.newAt ⟨0, ⟨#[]⟩, 0, false, 0⟩ (.slice none 0 0) (by simp)).below hb); clear hb))
  go_quiet (fail)
  go_wp2_with (first
    | (go_at_call 232; (with_reducible refine (hca (H3.out.drewN nq)).mono ?_); rintro e w4 ⟨kd4, st4, nu4, fl4, ao4, m4, cap4, ps4, ks4, k4, b4, q4, rfl, hk, hr, hT, ho⟩; have H4 := hid' hr; have K4 := hid' ((K3.out.drewN nq).trans hk); have Xa_4 := hid' ((Xa_3.out.drewN nq).kp (H3.out.drewN nq) hk); have Xt_4 := hid' ((Xt_3.out.drewN nq).kp (H3.out.drewN nq) hk); have Xn_4 := hid' ((Xn_3.out.drewN nq).kp (H3.out.drewN nq) hk); have Tt4_4 : Hid (Kb [w1.heap.size + 1, w.heap.size] w.heap.size w4 (.slice ao4 m4 cap4) ks4) := hid' (Kb.of hT (K3.out.drewN nq).size (all_cons (Xn_3.out.drewN nq).lt (all_cons (Xa_3.out.drewN nq).lt all0))); have O4 := hid' ho; obtain ⟨a4a, a4b, a4c, a4d, a4e, a4f, a4z, a4l⟩ := Xa_4.out.six; clear hk hr hT ho))
  refine ret_bx (bx := w.heap.size) (x := ⟨kd4, st4, nu4, fl4, ps4⟩) (kv := (.slice ao4 m4 cap4)) (Xa_4.out.set6 ⟨kd4, st4, nu4, fl4, ps4⟩ (.slice ao4 m4 cap4)) (fun W c0 c1 c2 c3 c4 c5 => by simp [results, Tryz.results196, go_sem, c0, c1, c2, c3, c4, c5]) rfl ?_
  refine ⟨_, _, _, _, _, _, _, _, _, _, _, _, rfl, (K4.out.set6 (Nat.le_refl _) ⟨kd4, st4, nu4, fl4, ps4⟩ (.slice ao4 m4 cap4)), (H4.out.set6 Xa_4.out ⟨kd4, st4, nu4, fl4, ps4⟩ (.slice ao4 m4 cap4)), (Tt4_4.out.set6 (by simp) ⟨kd4, st4, nu4, fl4, ps4⟩ (.slice ao4 m4 cap4)).to, ⟨O4.out.1, ?_⟩⟩
  have hq : signAt toks (k + 1) = ⟨#[40]⟩ := by rw [sign_of HN.out, if_pos (.inl (by rw [HY.out])), HY.out]
  have A := ((((((At.start (toks := toks) (b := b) (q := q) (body_prim toks k)).not (by rw [HS.out]; simp)).not (by rw [HX.out]; simp)).not (by rw [HX.out]; simp)).not (by rw [HX.out]; simp)).yes (by rw [HX.out])).yes hq
  exact O4.out.2 _ _ _ A
theorem primary196_n4 {w : World} {p k : Nat} {toks : List Tk} {tv : Value} {b : Bool} {q : Int} {tx : ByteArray} {nm : Int} {un : Bool} {ps fi : Int} {ty : ByteArray} {nm2 : Int} {un2 : Bool} {ps2 fi2 : Int} (hW : TokW toks) (hT : TokOk toks) (hx : tk toks k = ⟨2, tx, nm, un, ps, fi⟩) (t0 : decide (signAt toks k = ⟨#[103, 101, 116, 98, 121, 116, 101]⟩) = false) (t1 : decide (signAt toks k = ⟨#[112, 117, 116, 98, 121, 116, 101]⟩) = false) (hy : tk toks (k + 1) = ⟨4, ty, nm2, un2, ps2, fi2⟩) (hne : (ty.toList == [40]) = false) (hq : ¬ signAt toks (k + 1) = ⟨#[40]⟩) (h : RS w p toks tv k b q) :
    Calls Tryz.prog 196 #[.pointer (some ⟨p, 0, none⟩)] w (RP p toks tv .prim k b q w) := by
  have H0 := hid' h
  have K0 := hid' (Kp.rfl p w)
  have hf0 := fld42_0
  have hf1 := fld42_1
  have hf4 := fld42_4
  obtain ⟨g, cap, htv⟩ : ∃ g cap, tv = .slice (some ⟨g, 0, none⟩) toks.length cap := (fun ⟨g, cap, e, _⟩ => ⟨g, cap, e⟩) (row_tok h.tok k h.at_)
  subst htv
  have hfew := h.few
  have HX := hid' hx
  have hn : k + 1 < toks.length := hT.next _ h.at_ (by rw [hx]; simp)
  have HN := hid' hn
  obtain ⟨m, hm⟩ : ∃ m, m = k + 1 := ⟨_, rfl⟩
  have HM := hid' hm
  have hw1 : IntKind.i64.wrap ((k : Int) + 1) = (m : Int) := by rw [Go.IntWalk.i64_in _ (by omega), hm]; omega
  have hw2 : (k : Int) + 1 = (m : Int) := by omega
  have h3 : (m : Int) < toks.length := by omega
  have HS := hid' (sign_none (toks := toks) (k := k) (by rw [hx]; simp) (by rw [hx]; simp))
  clear hn hm
  have HY := hid' hy
  have HQ := hid' hq
  rw [← HM.out] at hy
  clear hq
  clear h
  go_enter Tryz.func196, Tryz.ntmps196
  go_wp2_with (first
    | (go_at_call 125; (with_reducible refine (word_b ⟨#[112, 117, 116, 98, 121, 116, 101]⟩ _ hW rfl t1 H2.out).mono ?_); rintro e w3 ⟨rfl, hb⟩; have H3 := hid' (H2.out.below hb); have K3 := hid' (K2.out.trans (Kp.of_below hb)); have Xa_3 := hid' (Xa_2.out.below hb); have Xt_3 := hid' (Xt_2.out.below hb); have Xn_3 := hid' (Xn_2.out.below hb); obtain ⟨t3a, t3b, t3c, t3d, t3e, t3f, t3z, t3l⟩ := Xt_3.out.six; obtain ⟨n3a, n3b, n3c, n3d, n3e, n3f, n3z, n3l⟩ := Xn_3.out.six; obtain ⟨u0, u1, ul⟩ := H3.out.tokAt m (by rw [HM.out]; exact HN.out); obtain ⟨r3a, r3b, r3c, r3d, r3l⟩ := H3.out.cells; clear hb)
    | (go_at_call 125; (with_reducible refine (word_b ⟨#[103, 101, 116, 98, 121, 116, 101]⟩ _ hW rfl t0 ((H1.out.alloc _).alloc _)).mono ?_); rintro e w2 ⟨rfl, hb⟩; have H2 := hid' (((H1.out.alloc _).alloc _).below hb); have K2 := hid' (((K1.out.alloc _).alloc _).trans (Kp.of_below hb)); have Xa_2 : Hid (Bx w2 (w.heap.size) ⟨0, ⟨#[]⟩, 0, false, 0⟩ (.slice none 0 0)) := hid' (((Xa_1.out.alloc _).alloc _).below hb); have Xt_2 : Hid (Tx w2 (w1.heap.size) ⟨2, tx, nm, un, ps, fi⟩) := hid' (((Tx.newAt ⟨2, tx, nm, un, ps, fi⟩ (by simp)).alloc _).below hb); have Xn_2 : Hid (Bx w2 (w1.heap.size + 1) ⟨0, ⟨#[]⟩, 0, false, ps⟩ (.slice none 0 0)) := hid' ((Bx.newAt ⟨0, ⟨#[]⟩, 0, false, ps⟩ (.slice none 0 0) (by simp)).below hb); have LBn : Hid (w.heap.size ≤ w1.heap.size + 1) := hid' (by have := K1.out.size; omega); have LTat := hid' (Xa_1.out.lt); have NEat : ¬ w.heap.size = w1.heap.size := Nat.ne_of_lt LTat.out; have NEta : ¬ w1.heap.size = w.heap.size := Nat.ne_of_gt LTat.out; have LTan : Hid (w.heap.size < w1.heap.size + 1) := hid' (Nat.lt_succ_of_lt (Xa_1.out.lt)); have NEan : ¬ w.heap.size = w1.heap.size + 1 := Nat.ne_of_lt LTan.out; have NEna : ¬ w1.heap.size + 1 = w.heap.size := Nat.ne_of_gt LTan.out; have LTtn : Hid (w1.heap.size < w1.heap.size + 1) := hid' (by omega); have NEtn : ¬ w1.heap.size = w1.heap.size + 1 := Nat.ne_of_lt LTtn.out; have NEnt : ¬ w1.heap.size + 1 = w1.heap.size := Nat.ne_of_gt LTtn.out; obtain ⟨t2a, t2b, t2c, t2d, t2e, t2f, t2z, t2l⟩ := Xt_2.out.six; clear hb)
    | (go_at_call 21; (with_reducible refine (now21 (H0.out.alloc _)).mono ?_); rintro e w1 ⟨rfl, hb⟩; have H1 := hid' ((H0.out.alloc _).below hb); have K1 := hid' ((K0.out.alloc _).trans (Kp.of_below hb)); have Xa_1 : Hid (Bx w1 (w.heap.size) ⟨0, ⟨#[]⟩, 0, false, 0⟩ (.slice none 0 0)) := hid' ((Bx.newAt ⟨0, ⟨#[]⟩, 0, false, 0⟩ (.slice none 0 0) (by simp)).below hb); clear hb))
  go_quiet (fail)
  go_wp2_with (first
    | (go_at_call 54; (with_reducible refine (next54 (((H3.out.drewN nq).setB (Xn_3.out.drewN nq) 0 _).setB ((Xn_3.out.drewN nq).s0 _) 1 _) HN.out).mono ?_); rintro e w4 ⟨rfl, hk, hr⟩; have H4 := hid' hr; have K4 := hid' ((((K3.out.drewN nq).setB LBn.out 0 _).setB LBn.out 1 _).trans hk); have Xa_4 : Hid (Bx w4 (w.heap.size) ⟨0, ⟨#[]⟩, 0, false, 0⟩ (.slice none 0 0)) := hid' ((((Xa_3.out.drewN nq).off (Nat.ne_of_lt LTan.out) 0 _).off (Nat.ne_of_lt LTan.out) 1 _).kp (((H3.out.drewN nq).setB (Xn_3.out.drewN nq) 0 _).setB ((Xn_3.out.drewN nq).s0 _) 1 _) hk); have Xt_4 : Hid (Tx w4 (w1.heap.size) ⟨2, tx, nm, un, ps, fi⟩) := hid' ((((Xt_3.out.drewN nq).off (Nat.ne_of_lt LTtn.out) 0 _).off (Nat.ne_of_lt LTtn.out) 1 _).kp (((H3.out.drewN nq).setB (Xn_3.out.drewN nq) 0 _).setB ((Xn_3.out.drewN nq).s0 _) 1 _) hk); have Xn_4 : Hid (Bx w4 (w1.heap.size + 1) ⟨4, tx, 0, false, ps⟩ (.slice none 0 0)) := hid' ((((Xn_3.out.drewN nq).s0 _).s1 _).kp (((H3.out.drewN nq).setB (Xn_3.out.drewN nq) 0 _).setB ((Xn_3.out.drewN nq).s0 _) 1 _) hk); obtain ⟨a4a, a4b, a4c, a4d, a4e, a4f, a4z, a4l⟩ := Xa_4.out.six; obtain ⟨n4a, n4b, n4c, n4d, n4e, n4f, n4z, n4l⟩ := Xn_4.out.six; clear hk hr))
  refine ret_bx (bx := w.heap.size) (x := ⟨4, tx, 0, false, ps⟩) (kv := (.slice none 0 0)) (Xa_4.out.set6 ⟨4, tx, 0, false, ps⟩ (.slice none 0 0)) (fun W c0 c1 c2 c3 c4 c5 => by simp [results, Tryz.results196, go_sem, c0, c1, c2, c3, c4, c5]) rfl ?_
  refine ⟨_, _, _, _, _, _, _, _, _, _, _, _, rfl, (K4.out.set6 (Nat.le_refl _) ⟨4, tx, 0, false, ps⟩ (.slice none 0 0)), (H4.out.set6 Xa_4.out ⟨4, tx, 0, false, ps⟩ (.slice none 0 0)), (Kf.nil _ _), ⟨(by omega), ?_⟩⟩
  have A := ((((((At.start (toks := toks) (b := b) (q := q) (body_prim toks k)).not (by rw [HS.out]; simp)).not (by rw [HX.out]; simp)).not (by rw [HX.out]; simp)).not (by rw [HX.out]; simp)).yes (by rw [HX.out])).not HQ.out
  rw [HX.out] at A
  exact A
theorem primary196_nn {w : World} {p k : Nat} {toks : List Tk} {tv : Value} {b : Bool} {q : Int} {tx : ByteArray} {nm : Int} {un : Bool} {ps fi : Int} {kd2 : Int} {ty : ByteArray} {nm2 : Int} {un2 : Bool} {ps2 fi2 : Int} (hW : TokW toks) (hT : TokOk toks) (hx : tk toks k = ⟨2, tx, nm, un, ps, fi⟩) (t0 : decide (signAt toks k = ⟨#[103, 101, 116, 98, 121, 116, 101]⟩) = false) (t1 : decide (signAt toks k = ⟨#[112, 117, 116, 98, 121, 116, 101]⟩) = false) (hy : tk toks (k + 1) = ⟨kd2, ty, nm2, un2, ps2, fi2⟩) (hne : (kd2 == 4) = false) (hq : ¬ signAt toks (k + 1) = ⟨#[40]⟩) (h : RS w p toks tv k b q) :
    Calls Tryz.prog 196 #[.pointer (some ⟨p, 0, none⟩)] w (RP p toks tv .prim k b q w) := by
  have H0 := hid' h
  have K0 := hid' (Kp.rfl p w)
  have hf0 := fld42_0
  have hf1 := fld42_1
  have hf4 := fld42_4
  obtain ⟨g, cap, htv⟩ : ∃ g cap, tv = .slice (some ⟨g, 0, none⟩) toks.length cap := (fun ⟨g, cap, e, _⟩ => ⟨g, cap, e⟩) (row_tok h.tok k h.at_)
  subst htv
  have hfew := h.few
  have HX := hid' hx
  have hn : k + 1 < toks.length := hT.next _ h.at_ (by rw [hx]; simp)
  have HN := hid' hn
  obtain ⟨m, hm⟩ : ∃ m, m = k + 1 := ⟨_, rfl⟩
  have HM := hid' hm
  have hw1 : IntKind.i64.wrap ((k : Int) + 1) = (m : Int) := by rw [Go.IntWalk.i64_in _ (by omega), hm]; omega
  have hw2 : (k : Int) + 1 = (m : Int) := by omega
  have h3 : (m : Int) < toks.length := by omega
  have HS := hid' (sign_none (toks := toks) (k := k) (by rw [hx]; simp) (by rw [hx]; simp))
  clear hn hm
  have HY := hid' hy
  have HQ := hid' hq
  rw [← HM.out] at hy
  clear hq
  clear h
  go_enter Tryz.func196, Tryz.ntmps196
  go_wp2_with (first
    | (go_at_call 125; (with_reducible refine (word_b ⟨#[112, 117, 116, 98, 121, 116, 101]⟩ _ hW rfl t1 H2.out).mono ?_); rintro e w3 ⟨rfl, hb⟩; have H3 := hid' (H2.out.below hb); have K3 := hid' (K2.out.trans (Kp.of_below hb)); have Xa_3 := hid' (Xa_2.out.below hb); have Xt_3 := hid' (Xt_2.out.below hb); have Xn_3 := hid' (Xn_2.out.below hb); obtain ⟨t3a, t3b, t3c, t3d, t3e, t3f, t3z, t3l⟩ := Xt_3.out.six; obtain ⟨n3a, n3b, n3c, n3d, n3e, n3f, n3z, n3l⟩ := Xn_3.out.six; obtain ⟨u0, u1, ul⟩ := H3.out.tokAt m (by rw [HM.out]; exact HN.out); obtain ⟨r3a, r3b, r3c, r3d, r3l⟩ := H3.out.cells; clear hb)
    | (go_at_call 125; (with_reducible refine (word_b ⟨#[103, 101, 116, 98, 121, 116, 101]⟩ _ hW rfl t0 ((H1.out.alloc _).alloc _)).mono ?_); rintro e w2 ⟨rfl, hb⟩; have H2 := hid' (((H1.out.alloc _).alloc _).below hb); have K2 := hid' (((K1.out.alloc _).alloc _).trans (Kp.of_below hb)); have Xa_2 : Hid (Bx w2 (w.heap.size) ⟨0, ⟨#[]⟩, 0, false, 0⟩ (.slice none 0 0)) := hid' (((Xa_1.out.alloc _).alloc _).below hb); have Xt_2 : Hid (Tx w2 (w1.heap.size) ⟨2, tx, nm, un, ps, fi⟩) := hid' (((Tx.newAt ⟨2, tx, nm, un, ps, fi⟩ (by simp)).alloc _).below hb); have Xn_2 : Hid (Bx w2 (w1.heap.size + 1) ⟨0, ⟨#[]⟩, 0, false, ps⟩ (.slice none 0 0)) := hid' ((Bx.newAt ⟨0, ⟨#[]⟩, 0, false, ps⟩ (.slice none 0 0) (by simp)).below hb); have LBn : Hid (w.heap.size ≤ w1.heap.size + 1) := hid' (by have := K1.out.size; omega); have LTat := hid' (Xa_1.out.lt); have NEat : ¬ w.heap.size = w1.heap.size := Nat.ne_of_lt LTat.out; have NEta : ¬ w1.heap.size = w.heap.size := Nat.ne_of_gt LTat.out; have LTan : Hid (w.heap.size < w1.heap.size + 1) := hid' (Nat.lt_succ_of_lt (Xa_1.out.lt)); have NEan : ¬ w.heap.size = w1.heap.size + 1 := Nat.ne_of_lt LTan.out; have NEna : ¬ w1.heap.size + 1 = w.heap.size := Nat.ne_of_gt LTan.out; have LTtn : Hid (w1.heap.size < w1.heap.size + 1) := hid' (by omega); have NEtn : ¬ w1.heap.size = w1.heap.size + 1 := Nat.ne_of_lt LTtn.out; have NEnt : ¬ w1.heap.size + 1 = w1.heap.size := Nat.ne_of_gt LTtn.out; obtain ⟨t2a, t2b, t2c, t2d, t2e, t2f, t2z, t2l⟩ := Xt_2.out.six; clear hb)
    | (go_at_call 21; (with_reducible refine (now21 (H0.out.alloc _)).mono ?_); rintro e w1 ⟨rfl, hb⟩; have H1 := hid' ((H0.out.alloc _).below hb); have K1 := hid' ((K0.out.alloc _).trans (Kp.of_below hb)); have Xa_1 : Hid (Bx w1 (w.heap.size) ⟨0, ⟨#[]⟩, 0, false, 0⟩ (.slice none 0 0)) := hid' ((Bx.newAt ⟨0, ⟨#[]⟩, 0, false, 0⟩ (.slice none 0 0) (by simp)).below hb); clear hb))
  go_quiet (fail)
  go_wp2_with (first
    | (go_at_call 54; (with_reducible refine (next54 (((H3.out.drewN nq).setB (Xn_3.out.drewN nq) 0 _).setB ((Xn_3.out.drewN nq).s0 _) 1 _) HN.out).mono ?_); rintro e w4 ⟨rfl, hk, hr⟩; have H4 := hid' hr; have K4 := hid' ((((K3.out.drewN nq).setB LBn.out 0 _).setB LBn.out 1 _).trans hk); have Xa_4 : Hid (Bx w4 (w.heap.size) ⟨0, ⟨#[]⟩, 0, false, 0⟩ (.slice none 0 0)) := hid' ((((Xa_3.out.drewN nq).off (Nat.ne_of_lt LTan.out) 0 _).off (Nat.ne_of_lt LTan.out) 1 _).kp (((H3.out.drewN nq).setB (Xn_3.out.drewN nq) 0 _).setB ((Xn_3.out.drewN nq).s0 _) 1 _) hk); have Xt_4 : Hid (Tx w4 (w1.heap.size) ⟨2, tx, nm, un, ps, fi⟩) := hid' ((((Xt_3.out.drewN nq).off (Nat.ne_of_lt LTtn.out) 0 _).off (Nat.ne_of_lt LTtn.out) 1 _).kp (((H3.out.drewN nq).setB (Xn_3.out.drewN nq) 0 _).setB ((Xn_3.out.drewN nq).s0 _) 1 _) hk); have Xn_4 : Hid (Bx w4 (w1.heap.size + 1) ⟨4, tx, 0, false, ps⟩ (.slice none 0 0)) := hid' ((((Xn_3.out.drewN nq).s0 _).s1 _).kp (((H3.out.drewN nq).setB (Xn_3.out.drewN nq) 0 _).setB ((Xn_3.out.drewN nq).s0 _) 1 _) hk); obtain ⟨a4a, a4b, a4c, a4d, a4e, a4f, a4z, a4l⟩ := Xa_4.out.six; obtain ⟨n4a, n4b, n4c, n4d, n4e, n4f, n4z, n4l⟩ := Xn_4.out.six; clear hk hr))
  refine ret_bx (bx := w.heap.size) (x := ⟨4, tx, 0, false, ps⟩) (kv := (.slice none 0 0)) (Xa_4.out.set6 ⟨4, tx, 0, false, ps⟩ (.slice none 0 0)) (fun W c0 c1 c2 c3 c4 c5 => by simp [results, Tryz.results196, go_sem, c0, c1, c2, c3, c4, c5]) rfl ?_
  refine ⟨_, _, _, _, _, _, _, _, _, _, _, _, rfl, (K4.out.set6 (Nat.le_refl _) ⟨4, tx, 0, false, ps⟩ (.slice none 0 0)), (H4.out.set6 Xa_4.out ⟨4, tx, 0, false, ps⟩ (.slice none 0 0)), (Kf.nil _ _), ⟨(by omega), ?_⟩⟩
  have A := ((((((At.start (toks := toks) (b := b) (q := q) (body_prim toks k)).not (by rw [HS.out]; simp)).not (by rw [HX.out]; simp)).not (by rw [HX.out]; simp)).not (by rw [HX.out]; simp)).yes (by rw [HX.out])).not HQ.out
  rw [HX.out] at A
  exact A
end Go.Proofs.YtjeioblhpfogfaaGreatDoor
