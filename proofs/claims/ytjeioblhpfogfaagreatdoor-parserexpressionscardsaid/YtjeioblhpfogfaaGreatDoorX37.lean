/- The document's parser: a type. -/
import Derived.Test.YtjeioblhpfogfaaGreatDoorX30
set_option linter.unusedVariables false
set_option linter.unusedSimpArgs false
set_option maxRecDepth 20000
set_option maxHeartbeats 8000000
namespace Go.Proofs.YtjeioblhpfogfaaGreatDoor
open Go.RowKit

theorem structW_is (t : ByteArray) : (⟨#[115, 116, 114, 117, 99, 116, 32]⟩ : ByteArray) ++ t = structW t := by
  unfold structW
  rw [← ByteArray.append_assoc]
  rfl
theorem namT_size {toks : List Tk} (hT : TokOk toks) (k : Nat) : (namT toks k).size ≤ 1000000 := by
  unfold namT
  split
  · exact hT.size k
  · decide
theorem typed41_n {w : World} {p k : Nat} {toks : List Tk} {tv : Value} {b : Bool} {q : Int} (hW : TokW toks) (hT : TokOk toks) (hc : tyWord (signAt toks k) = false) (h : RS w p toks tv k b q) :
    Calls Tryz.prog 41 #[.pointer (some ⟨p, 0, none⟩)] w (fun e w' => e = .returned (.agg #[.int .i64 (16), .string (⟨#[]⟩), .int .u32 (0), .bool (false), (.slice none 0 0), .int .i64 ((tk toks k).pos)]) ∧ Kp p w w' ∧ RS w' p toks tv k true (noQ toks k b q)) := by
  have H0 := hid' h
  have K0 := hid' (Kp.rfl p w)
  have hf0 := fld42_0
  have hf1 := fld42_1
  have hf4 := fld42_4
  clear h
  go_enter Tryz.func41, Tryz.ntmps41
  go_wp2_with (first
    | (go_at_call 47; (with_reducible refine (no47 H2.out).mono ?_); rintro e w3 ⟨rfl, hk, hr⟩; have H3 := hid' hr; have K3 := hid' (K2.out.trans hk); have Xa_3 : Hid (Bx w3 (w.heap.size) ⟨0, ⟨#[]⟩, 0, false, 0⟩ (.slice none 0 0)) := hid' (Xa_2.out.kp H2.out hk); have Xn_3 : Hid (Bx w3 (w1.heap.size) ⟨16, ⟨#[]⟩, 0, false, (tk toks k).pos⟩ (.slice none 0 0)) := hid' (Xn_2.out.kp H2.out hk); obtain ⟨a3a, a3b, a3c, a3d, a3e, a3f, a3z, a3l⟩ := Xa_3.out.six; obtain ⟨n3a, n3b, n3c, n3d, n3e, n3f, n3z, n3l⟩ := Xn_3.out.six; clear hk hr)
    | (go_at_call 79; (with_reducible refine (types_b _ hW hc (H1.out.alloc _)).mono ?_); rintro e w2 ⟨rfl, hb⟩; have H2 := hid' ((H1.out.alloc _).below hb); have K2 := hid' ((K1.out.alloc _).trans (Kp.of_below hb)); have Xa_2 : Hid (Bx w2 (w.heap.size) ⟨0, ⟨#[]⟩, 0, false, 0⟩ (.slice none 0 0)) := hid' ((Xa_1.out.alloc _).below hb); have Xn_2 : Hid (Bx w2 (w1.heap.size) ⟨16, ⟨#[]⟩, 0, false, (tk toks k).pos⟩ (.slice none 0 0)) := hid' ((Bx.newAt ⟨16, ⟨#[]⟩, 0, false, (tk toks k).pos⟩ (.slice none 0 0) (by simp)).below hb); have LBn : Hid (w.heap.size ≤ w1.heap.size) := hid' (by have := K1.out.size; omega); have LTan : Hid (w.heap.size < w1.heap.size) := hid' (Xa_1.out.lt); have NEan : ¬ w.heap.size = w1.heap.size := Nat.ne_of_lt LTan.out; have NEna : ¬ w1.heap.size = w.heap.size := Nat.ne_of_gt LTan.out; clear hb)
    | (go_at_call 21; (with_reducible refine (now21 (H0.out.alloc _)).mono ?_); rintro e w1 ⟨rfl, hb⟩; have H1 := hid' ((H0.out.alloc _).below hb); have K1 := hid' ((K0.out.alloc _).trans (Kp.of_below hb)); have Xa_1 : Hid (Bx w1 (w.heap.size) ⟨0, ⟨#[]⟩, 0, false, 0⟩ (.slice none 0 0)) := hid' ((Bx.newAt ⟨0, ⟨#[]⟩, 0, false, 0⟩ (.slice none 0 0) (by simp)).below hb); clear hb))
  refine ret_bx (bx := w.heap.size) (x := ⟨16, ⟨#[]⟩, 0, false, (tk toks k).pos⟩) (kv := (.slice none 0 0)) (Xa_3.out.set6 ⟨16, ⟨#[]⟩, 0, false, (tk toks k).pos⟩ (.slice none 0 0)) (fun W c0 c1 c2 c3 c4 c5 => by simp [results, Tryz.results41, go_sem, c0, c1, c2, c3, c4, c5]) rfl ?_
  exact ⟨rfl, (K3.out.set6 (Nat.le_refl _) ⟨16, ⟨#[]⟩, 0, false, (tk toks k).pos⟩ (.slice none 0 0)), (H3.out.set6 Xa_3.out ⟨16, ⟨#[]⟩, 0, false, (tk toks k).pos⟩ (.slice none 0 0))⟩
theorem typed41_o {w : World} {p k : Nat} {toks : List Tk} {tv : Value} {b : Bool} {q : Int} {sx : ByteArray} (hW : TokW toks) (hT : TokOk toks) (hc : tyWord (signAt toks k) = true) (ht : (tk toks k).text = sx) (hne : (sx.toList == [115, 116, 114, 117, 99, 116]) = false) (hn : k + 1 < toks.length) (h : RS w p toks tv k b q) :
    Calls Tryz.prog 41 #[.pointer (some ⟨p, 0, none⟩)] w (fun e w' => e = .returned (.agg #[.int .i64 (16), .string (sx), .int .u32 (0), .bool (false), (.slice none 0 0), .int .i64 ((tk toks k).pos)]) ∧ Kp p w w' ∧ RS w' p toks tv (k + 1) b q) := by
  have H0 := hid' h
  have K0 := hid' (Kp.rfl p w)
  have hf0 := fld42_0
  have hf1 := fld42_1
  have hf4 := fld42_4
  have HN := hid' hn
  clear hn
  clear h
  go_enter Tryz.func41, Tryz.ntmps41
  go_wp2_with (first
    | (go_at_call 54; (with_reducible refine (next54 (H3.out.setB Xn_3.out 1 _) HN.out).mono ?_); rintro e w4 ⟨rfl, hk, hr⟩; have H4 := hid' hr; have K4 := hid' ((K3.out.setB LBn.out 1 _).trans hk); have Xa_4 : Hid (Bx w4 (w.heap.size) ⟨0, ⟨#[]⟩, 0, false, 0⟩ (.slice none 0 0)) := hid' ((Xa_3.out.off (Nat.ne_of_lt LTan.out) 1 _).kp (H3.out.setB Xn_3.out 1 _) hk); have Xn_4 : Hid (Bx w4 (w1.heap.size) ⟨16, sx, 0, false, (tk toks k).pos⟩ (.slice none 0 0)) := hid' ((Xn_3.out.s1 _).kp (H3.out.setB Xn_3.out 1 _) hk); obtain ⟨a4a, a4b, a4c, a4d, a4e, a4f, a4z, a4l⟩ := Xa_4.out.six; obtain ⟨n4a, n4b, n4c, n4d, n4e, n4f, n4z, n4l⟩ := Xn_4.out.six; clear hk hr)
    | (go_at_call 21; (with_reducible refine (now21 H2.out).mono ?_); rintro e w3 ⟨rfl, hb⟩; have H3 := hid' (H2.out.below hb); have K3 := hid' (K2.out.trans (Kp.of_below hb)); have Xa_3 : Hid (Bx w3 (w.heap.size) ⟨0, ⟨#[]⟩, 0, false, 0⟩ (.slice none 0 0)) := hid' (Xa_2.out.below hb); have Xn_3 : Hid (Bx w3 (w1.heap.size) ⟨16, ⟨#[]⟩, 0, false, (tk toks k).pos⟩ (.slice none 0 0)) := hid' (Xn_2.out.below hb); obtain ⟨n3a, n3b, n3c, n3d, n3e, n3f, n3z, n3l⟩ := Xn_3.out.six; clear hb)
    | (go_at_call 79; (with_reducible refine (types_b _ hW hc (H1.out.alloc _)).mono ?_); rintro e w2 ⟨rfl, hb⟩; have H2 := hid' ((H1.out.alloc _).below hb); have K2 := hid' ((K1.out.alloc _).trans (Kp.of_below hb)); have Xa_2 : Hid (Bx w2 (w.heap.size) ⟨0, ⟨#[]⟩, 0, false, 0⟩ (.slice none 0 0)) := hid' ((Xa_1.out.alloc _).below hb); have Xn_2 : Hid (Bx w2 (w1.heap.size) ⟨16, ⟨#[]⟩, 0, false, (tk toks k).pos⟩ (.slice none 0 0)) := hid' ((Bx.newAt ⟨16, ⟨#[]⟩, 0, false, (tk toks k).pos⟩ (.slice none 0 0) (by simp)).below hb); have LBn : Hid (w.heap.size ≤ w1.heap.size) := hid' (by have := K1.out.size; omega); have LTan : Hid (w.heap.size < w1.heap.size) := hid' (Xa_1.out.lt); have NEan : ¬ w.heap.size = w1.heap.size := Nat.ne_of_lt LTan.out; have NEna : ¬ w1.heap.size = w.heap.size := Nat.ne_of_gt LTan.out; obtain ⟨n2a, n2b, n2c, n2d, n2e, n2f, n2z, n2l⟩ := Xn_2.out.six; clear hb)
    | (go_at_call 21; (with_reducible refine (now21 (H0.out.alloc _)).mono ?_); rintro e w1 ⟨rfl, hb⟩; have H1 := hid' ((H0.out.alloc _).below hb); have K1 := hid' ((K0.out.alloc _).trans (Kp.of_below hb)); have Xa_1 : Hid (Bx w1 (w.heap.size) ⟨0, ⟨#[]⟩, 0, false, 0⟩ (.slice none 0 0)) := hid' ((Bx.newAt ⟨0, ⟨#[]⟩, 0, false, 0⟩ (.slice none 0 0) (by simp)).below hb); clear hb))
  refine ret_bx (bx := w.heap.size) (x := ⟨16, sx, 0, false, (tk toks k).pos⟩) (kv := (.slice none 0 0)) (Xa_4.out.set6 ⟨16, sx, 0, false, (tk toks k).pos⟩ (.slice none 0 0)) (fun W c0 c1 c2 c3 c4 c5 => by simp [results, Tryz.results41, go_sem, c0, c1, c2, c3, c4, c5]) rfl ?_
  exact ⟨rfl, (K4.out.set6 (Nat.le_refl _) ⟨16, sx, 0, false, (tk toks k).pos⟩ (.slice none 0 0)), (H4.out.set6 Xa_4.out ⟨16, sx, 0, false, (tk toks k).pos⟩ (.slice none 0 0))⟩
theorem named_x {w : World} {p k : Nat} {toks : List Tk} {tv : Value} {b : Bool} {q : Int} {tx : ByteArray} (hx : tx = namT toks k) (hT : TokOk toks) (h : RS w p toks tv k b q) :
    Calls Tryz.prog 44 #[.pointer (some ⟨p, 0, none⟩)] w fun e w' => e = .returned (.string tx) ∧ Kp p w w' ∧ RS w' p toks tv (namK toks k) (namB toks k b) (namQ toks k b q) := by
  subst hx
  exact named44 hT h
theorem typed41_s {w : World} {p k : Nat} {toks : List Tk} {tv : Value} {b : Bool} {q : Int} (hW : TokW toks) (hT : TokOk toks) (hc : tyWord (signAt toks k) = true) (ht : (tk toks k).text = ⟨#[115, 116, 114, 117, 99, 116]⟩) (hn : k + 1 < toks.length) (h : RS w p toks tv k b q) :
    Calls Tryz.prog 41 #[.pointer (some ⟨p, 0, none⟩)] w (fun e w' => e = .returned (.agg #[.int .i64 (16), .string ((structW (namT toks (k + 1)))), .int .u32 (0), .bool (false), (.slice none 0 0), .int .i64 ((tk toks k).pos)]) ∧ Kp p w w' ∧ RS w' p toks tv (namK toks (k + 1)) (namB toks (k + 1) b) (namQ toks (k + 1) b q)) := by
  have H0 := hid' h
  have K0 := hid' (Kp.rfl p w)
  have hf0 := fld42_0
  have hf1 := fld42_1
  have hf4 := fld42_4
  have HN := hid' hn
  obtain ⟨tx, htx⟩ : ∃ tx, tx = namT toks (k + 1) := ⟨_, rfl⟩
  have hsz : tx.size ≤ 1000000 := by rw [htx]; exact namT_size hT _
  have HTX := hid' htx
  rw [← htx, ← structW_is]
  clear hn htx
  clear h
  go_enter Tryz.func41, Tryz.ntmps41
  go_wp2_with (first
    | (go_at_call 44; (with_reducible refine ((named_x HTX.out hT H4.out)).mono ?_); rintro e w5 ⟨rfl, hk, hr⟩; have H5 := hid' hr; have K5 := hid' (K4.out.trans hk); have Xa_5 : Hid (Bx w5 (w.heap.size) ⟨0, ⟨#[]⟩, 0, false, 0⟩ (.slice none 0 0)) := hid' (Xa_4.out.kp H4.out hk); have Xn_5 : Hid (Bx w5 (w1.heap.size) ⟨16, ⟨#[115, 116, 114, 117, 99, 116]⟩, 0, false, (tk toks k).pos⟩ (.slice none 0 0)) := hid' (Xn_4.out.kp H4.out hk); obtain ⟨a5a, a5b, a5c, a5d, a5e, a5f, a5z, a5l⟩ := Xa_5.out.six; obtain ⟨n5a, n5b, n5c, n5d, n5e, n5f, n5z, n5l⟩ := Xn_5.out.six; clear hk hr)
    | (go_at_call 54; (with_reducible refine (next54 (H3.out.setB Xn_3.out 1 _) HN.out).mono ?_); rintro e w4 ⟨rfl, hk, hr⟩; have H4 := hid' hr; have K4 := hid' ((K3.out.setB LBn.out 1 _).trans hk); have Xa_4 : Hid (Bx w4 (w.heap.size) ⟨0, ⟨#[]⟩, 0, false, 0⟩ (.slice none 0 0)) := hid' ((Xa_3.out.off (Nat.ne_of_lt LTan.out) 1 _).kp (H3.out.setB Xn_3.out 1 _) hk); have Xn_4 : Hid (Bx w4 (w1.heap.size) ⟨16, ⟨#[115, 116, 114, 117, 99, 116]⟩, 0, false, (tk toks k).pos⟩ (.slice none 0 0)) := hid' ((Xn_3.out.s1 _).kp (H3.out.setB Xn_3.out 1 _) hk); obtain ⟨n4a, n4b, n4c, n4d, n4e, n4f, n4z, n4l⟩ := Xn_4.out.six; clear hk hr)
    | (go_at_call 21; (with_reducible refine (now21 H2.out).mono ?_); rintro e w3 ⟨rfl, hb⟩; have H3 := hid' (H2.out.below hb); have K3 := hid' (K2.out.trans (Kp.of_below hb)); have Xa_3 : Hid (Bx w3 (w.heap.size) ⟨0, ⟨#[]⟩, 0, false, 0⟩ (.slice none 0 0)) := hid' (Xa_2.out.below hb); have Xn_3 : Hid (Bx w3 (w1.heap.size) ⟨16, ⟨#[]⟩, 0, false, (tk toks k).pos⟩ (.slice none 0 0)) := hid' (Xn_2.out.below hb); obtain ⟨n3a, n3b, n3c, n3d, n3e, n3f, n3z, n3l⟩ := Xn_3.out.six; clear hb)
    | (go_at_call 79; (with_reducible refine (types_b _ hW hc (H1.out.alloc _)).mono ?_); rintro e w2 ⟨rfl, hb⟩; have H2 := hid' ((H1.out.alloc _).below hb); have K2 := hid' ((K1.out.alloc _).trans (Kp.of_below hb)); have Xa_2 : Hid (Bx w2 (w.heap.size) ⟨0, ⟨#[]⟩, 0, false, 0⟩ (.slice none 0 0)) := hid' ((Xa_1.out.alloc _).below hb); have Xn_2 : Hid (Bx w2 (w1.heap.size) ⟨16, ⟨#[]⟩, 0, false, (tk toks k).pos⟩ (.slice none 0 0)) := hid' ((Bx.newAt ⟨16, ⟨#[]⟩, 0, false, (tk toks k).pos⟩ (.slice none 0 0) (by simp)).below hb); have LBn : Hid (w.heap.size ≤ w1.heap.size) := hid' (by have := K1.out.size; omega); have LTan : Hid (w.heap.size < w1.heap.size) := hid' (Xa_1.out.lt); have NEan : ¬ w.heap.size = w1.heap.size := Nat.ne_of_lt LTan.out; have NEna : ¬ w1.heap.size = w.heap.size := Nat.ne_of_gt LTan.out; obtain ⟨n2a, n2b, n2c, n2d, n2e, n2f, n2z, n2l⟩ := Xn_2.out.six; clear hb)
    | (go_at_call 21; (with_reducible refine (now21 (H0.out.alloc _)).mono ?_); rintro e w1 ⟨rfl, hb⟩; have H1 := hid' ((H0.out.alloc _).below hb); have K1 := hid' ((K0.out.alloc _).trans (Kp.of_below hb)); have Xa_1 : Hid (Bx w1 (w.heap.size) ⟨0, ⟨#[]⟩, 0, false, 0⟩ (.slice none 0 0)) := hid' ((Bx.newAt ⟨0, ⟨#[]⟩, 0, false, 0⟩ (.slice none 0 0) (by simp)).below hb); clear hb))
  generalize ((⟨#[115, 116, 114, 117, 99, 116, 32]⟩ : ByteArray) ++ tx) = sw
  refine ret_bx (bx := w.heap.size) (x := ⟨16, sw, 0, false, (tk toks k).pos⟩) (kv := (.slice none 0 0)) ((Xa_5.out.off (Nat.ne_of_lt LTan.out) 1 _).set6 ⟨16, sw, 0, false, (tk toks k).pos⟩ (.slice none 0 0)) (fun W c0 c1 c2 c3 c4 c5 => by simp [results, Tryz.results41, go_sem, c0, c1, c2, c3, c4, c5]) rfl ?_
  exact ⟨rfl, ((K5.out.setB LBn.out 1 _).set6 (Nat.le_refl _) ⟨16, sw, 0, false, (tk toks k).pos⟩ (.slice none 0 0)), ((H5.out.setB Xn_5.out 1 _).set6 (Xa_5.out.off (Nat.ne_of_lt LTan.out) 1 _) ⟨16, sw, 0, false, (tk toks k).pos⟩ (.slice none 0 0))⟩
theorem typed41 {w : World} {p k : Nat} {toks : List Tk} {tv : Value} {b : Bool} {q : Int} (hW : TokW toks) (hT : TokOk toks) (h : RS w p toks tv k b q) :
    Calls Tryz.prog 41 #[.pointer (some ⟨p, 0, none⟩)] w (fun e w' => e = .returned (.agg #[.int .i64 (16), .string ((typT toks k)), .int .u32 (0), .bool (false), (.slice none 0 0), .int .i64 ((tk toks k).pos)]) ∧ Kp p w w' ∧ RS w' p toks tv (typK toks k) (typB toks k b) (typQ toks k b q)) := by
  unfold typT typK typB typQ
  by_cases hc : tyWord (signAt toks k) = true
  · rw [if_pos hc, if_pos hc, if_pos hc, if_pos hc]
    have hn : k + 1 < toks.length := sign_on hT (fun e1 => by rw [e1] at hc; simp [tyWord, toList_data] at hc)
    have ht := ty_word h.at_ hc
    by_cases hs : signAt toks k = ⟨#[115, 116, 114, 117, 99, 116]⟩
    · rw [if_pos hs, if_pos hs, if_pos hs, if_pos hs]
      exact typed41_s hW hT hc (by rw [← ht, hs]) hn h
    · rw [if_neg hs, if_neg hs, if_neg hs, if_neg hs]
      exact typed41_o hW hT hc ht.symm (toList_ne' hs) hn h
  · rw [if_neg hc, if_neg hc, if_neg hc, if_neg hc]
    exact typed41_n hW hT (by simpa using hc) h
end Go.Proofs.YtjeioblhpfogfaaGreatDoor
