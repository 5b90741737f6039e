/- The speller: if and return. -/
import Derived.Test.YtnnnfabpceapcaaDoorSpA
namespace Go.Proofs.YtnnnfabpceapcaaDoor
set_option linter.unusedSimpArgs false
open Go.RowKit
set_option linter.unusedVariables false
section
variable {G : NdH → List Tr → Bool} {qt : List UInt8 → List UInt8} {A : Nat → Prop} {sb : Nat} {T : List Pc} {w w0 : World} {b o : Nat} {x : NdH} {kv : Value} {n cb : Nat} {ks : List Tr}

set_option maxHeartbeats 4000000 in
theorem if38_2 {t0 t1 : Tr} (hg : ∀ x ks, G x ks = true → x.str.size < 4611686018427387904) (J : Job G A sb T w0 w b o x kv n cb ([t0, t1])) (hk : x.kind = 49) : Calls Tryd.prog 38 #[.pointer (some ⟨sb, 0, none⟩), .pointer (some ⟨b, o, none⟩)] w (Spelt G qt A sb T w0 w x ([t0, t1])) := by
  have hT := J.hT
  have hw := hid' J.hw
  have hA := hid' J.hA
  have hB : Hid (∀ {L n W}, St G (spellT qt) w0 A sb T w L n W → NdAt W b o x kv ∧ b < W.heap.size) := fun h => ⟨J.hat.below (h.bel J.hw J.hA) J.hb, Nat.lt_of_lt_of_le J.hb (h.bel J.hw J.hA).size⟩
  obtain ⟨c0, c1, c2, c3, c4, _⟩ := J.hat.below J.hw J.hb
  have hbw := Nat.lt_of_lt_of_le J.hb J.hw.size
  have s0 := St.start (G := G) (sp := spellT qt) (w0 := w0) J.sp
  have HK := hid' J.hK
  have hGs := J.hG
  obtain ⟨hkl, ao, cap, rfl⟩ := J.hK.shape
  obtain ⟨m0, b0, off0, x0, kv0, ks0, _, ea0, ⟨hb0, _⟩, e0, hat0, hK0⟩ := HK.out.kid 0 (by simp)
  subst ea0
  simp at e0 hat0
  subst e0
  obtain ⟨m1, b1, off1, x1, kv1, ks1, _, ea1, ⟨hb1, _⟩, e1, hat1, hK1⟩ := HK.out.kid 1 (by simp)
  injection ea1 with ea1
  injection ea1 with eb1 ec1
  subst eb1 ec1
  simp at e1 hat1
  subst e1
  simp only [allL_cons, allL_nil, Bool.and_true, Bool.and_eq_true] at hGs
  have g0 : allT G (Tr.node x0 ks0) = true := hGs.1
  have z0 : G x0 ks0 = true := by rw [allT_node, Bool.and_eq_true] at g0; exact g0.1
  have K0 : Hid (Kid G w0 b0 off0 x0 kv0 m0 cb ks0) := ⟨hat0, hb0, hK0, g0, hg _ _ z0⟩
  have zz0 := szT_pos (Tr.node x0 ks0)
  have g1 : allT G (Tr.node x1 ks1) = true := hGs.2
  have z1 : G x1 ks1 = true := by rw [allT_node, Bool.and_eq_true] at g1; exact g1.1
  have K1 : Hid (Kid G w0 b0 (off0 + 6) x1 kv1 m1 cb ks1) := ⟨hat1, hb1, hK1, g1, hg _ _ z1⟩
  have zz1 := szT_pos (Tr.node x1 ks1)
  simp only [szL_cons, szL_nil] at hT
  have ww0 : wtT (Tr.node x0 ks0) + 3 = 23 * szT (Tr.node x0 ks0) := by unfold wtT; omega
  have ww1 : wtT (Tr.node x1 ks1) + 3 = 23 * szT (Tr.node x1 ks1) := by unfold wtT; omega
  have HKt := hid' HK.out.tail
  have hroom := HK.out.room (by simp)
  have HGt : Hid (allL G [Tr.node x1 ks1] = true) := by unfold Hid; simp [allL_cons, allL_nil, g1]
  have wl0 : wtL [Tr.node x1 ks1] = (wtT (Tr.node x1 ks1) + 1) + 0 := by simp [wtL]
  have hF : Hid ([] ++ (lst ⟨#[105, 102, 32, 40]⟩ ++ (spellT qt (Tr.node x0 ks0) ++ [41, 10])) ++ joinL (lst ⟨#[101, 108, 115, 101, 10]⟩) (List.map (spellT qt) [Tr.node x1 ks1]) = spellN qt x ([Tr.node x0 ks0, Tr.node x1 ks1]) (([Tr.node x0 ks0, Tr.node x1 ks1]).map (spellT qt))) := by
    unfold Hid spellN
    simp [hk, lst, joinL]
  have hn : Hid (0 + (wtT (Tr.node x0 ks0) + 2) + wtL [Tr.node x1 ks1] ≤ 19 + 23 * szL ([Tr.node x0 ks0, Tr.node x1 ks1])) := by
    unfold Hid
    simp only [List.length_cons, List.length_nil, szL_cons, szL_nil]
    omega
  simp at hkl
  simp at hroom
  rw [hk] at c0
  go_enter Tryd.func38, Tryd.ntmps38
  go_wp2_with (first
    | (go_at_call 56; refine (list_st ⟨#[101, 108, 115, 101, 10]⟩ hw.out hA.out HKt.out HGt.out s1.out (by simp; omega)).mono ?_; rintro e w2 ⟨rfl, s2⟩; obtain ⟨⟨c0_1, c1_1, c2_1, c3_1, c4_1, c5_1⟩, l_1⟩ := hB.out s2.out)
    | (go_at_call 58; refine (head_st ⟨#[105, 102, 32, 40]⟩ K0.out s0.out (by simp; omega)).mono ?_; rintro e w1 ⟨rfl, s1⟩; obtain ⟨⟨c0_0, c1_0, c2_0, c3_0, c4_0, c5_0⟩, l_0⟩ := hB.out s1.out))
  go_end0
  exact s2.out.laid hF.out hn.out

set_option maxHeartbeats 4000000 in
theorem if38_3 {t0 t1 t2 : Tr} (hg : ∀ x ks, G x ks = true → x.str.size < 4611686018427387904) (J : Job G A sb T w0 w b o x kv n cb ([t0, t1, t2])) (hk : x.kind = 49) : Calls Tryd.prog 38 #[.pointer (some ⟨sb, 0, none⟩), .pointer (some ⟨b, o, none⟩)] w (Spelt G qt A sb T w0 w x ([t0, t1, t2])) := by
  have hT := J.hT
  have hw := hid' J.hw
  have hA := hid' J.hA
  have hB : Hid (∀ {L n W}, St G (spellT qt) w0 A sb T w L n W → NdAt W b o x kv ∧ b < W.heap.size) := fun h => ⟨J.hat.below (h.bel J.hw J.hA) J.hb, Nat.lt_of_lt_of_le J.hb (h.bel J.hw J.hA).size⟩
  obtain ⟨c0, c1, c2, c3, c4, _⟩ := J.hat.below J.hw J.hb
  have hbw := Nat.lt_of_lt_of_le J.hb J.hw.size
  have s0 := St.start (G := G) (sp := spellT qt) (w0 := w0) J.sp
  have HK := hid' J.hK
  have hGs := J.hG
  obtain ⟨hkl, ao, cap, rfl⟩ := J.hK.shape
  obtain ⟨m0, b0, off0, x0, kv0, ks0, _, ea0, ⟨hb0, _⟩, e0, hat0, hK0⟩ := HK.out.kid 0 (by simp)
  subst ea0
  simp at e0 hat0
  subst e0
  obtain ⟨m1, b1, off1, x1, kv1, ks1, _, ea1, ⟨hb1, _⟩, e1, hat1, hK1⟩ := HK.out.kid 1 (by simp)
  injection ea1 with ea1
  injection ea1 with eb1 ec1
  subst eb1 ec1
  simp at e1 hat1
  subst e1
  obtain ⟨m2, b2, off2, x2, kv2, ks2, _, ea2, ⟨hb2, _⟩, e2, hat2, hK2⟩ := HK.out.kid 2 (by simp)
  injection ea2 with ea2
  injection ea2 with eb2 ec2
  subst eb2 ec2
  simp at e2 hat2
  subst e2
  simp only [allL_cons, allL_nil, Bool.and_true, Bool.and_eq_true] at hGs
  have g0 : allT G (Tr.node x0 ks0) = true := hGs.1
  have z0 : G x0 ks0 = true := by rw [allT_node, Bool.and_eq_true] at g0; exact g0.1
  have K0 : Hid (Kid G w0 b0 off0 x0 kv0 m0 cb ks0) := ⟨hat0, hb0, hK0, g0, hg _ _ z0⟩
  have zz0 := szT_pos (Tr.node x0 ks0)
  have g1 : allT G (Tr.node x1 ks1) = true := hGs.2.1
  have z1 : G x1 ks1 = true := by rw [allT_node, Bool.and_eq_true] at g1; exact g1.1
  have K1 : Hid (Kid G w0 b0 (off0 + 6) x1 kv1 m1 cb ks1) := ⟨hat1, hb1, hK1, g1, hg _ _ z1⟩
  have zz1 := szT_pos (Tr.node x1 ks1)
  have g2 : allT G (Tr.node x2 ks2) = true := hGs.2.2
  have z2 : G x2 ks2 = true := by rw [allT_node, Bool.and_eq_true] at g2; exact g2.1
  have K2 : Hid (Kid G w0 b0 (off0 + 12) x2 kv2 m2 cb ks2) := ⟨hat2, hb2, hK2, g2, hg _ _ z2⟩
  have zz2 := szT_pos (Tr.node x2 ks2)
  simp only [szL_cons, szL_nil] at hT
  have ww0 : wtT (Tr.node x0 ks0) + 3 = 23 * szT (Tr.node x0 ks0) := by unfold wtT; omega
  have ww1 : wtT (Tr.node x1 ks1) + 3 = 23 * szT (Tr.node x1 ks1) := by unfold wtT; omega
  have ww2 : wtT (Tr.node x2 ks2) + 3 = 23 * szT (Tr.node x2 ks2) := by unfold wtT; omega
  have HKt := hid' HK.out.tail
  have hroom := HK.out.room (by simp)
  have HGt : Hid (allL G [Tr.node x1 ks1, Tr.node x2 ks2] = true) := by unfold Hid; simp [allL_cons, allL_nil, g1, g2]
  have wl0 : wtL [Tr.node x1 ks1, Tr.node x2 ks2] = (wtT (Tr.node x1 ks1) + 1) + (wtT (Tr.node x2 ks2) + 1) + 0 := by simp [wtL]
  have hF : Hid ([] ++ (lst ⟨#[105, 102, 32, 40]⟩ ++ (spellT qt (Tr.node x0 ks0) ++ [41, 10])) ++ joinL (lst ⟨#[101, 108, 115, 101, 10]⟩) (List.map (spellT qt) [Tr.node x1 ks1, Tr.node x2 ks2]) = spellN qt x ([Tr.node x0 ks0, Tr.node x1 ks1, Tr.node x2 ks2]) (([Tr.node x0 ks0, Tr.node x1 ks1, Tr.node x2 ks2]).map (spellT qt))) := by
    unfold Hid spellN
    simp [hk, lst, joinL]
  have hn : Hid (0 + (wtT (Tr.node x0 ks0) + 2) + wtL [Tr.node x1 ks1, Tr.node x2 ks2] ≤ 19 + 23 * szL ([Tr.node x0 ks0, Tr.node x1 ks1, Tr.node x2 ks2])) := by
    unfold Hid
    simp only [List.length_cons, List.length_nil, szL_cons, szL_nil]
    omega
  simp at hkl
  simp at hroom
  rw [hk] at c0
  go_enter Tryd.func38, Tryd.ntmps38
  go_wp2_with (first
    | (go_at_call 56; refine (list_st ⟨#[101, 108, 115, 101, 10]⟩ hw.out hA.out HKt.out HGt.out s1.out (by simp; omega)).mono ?_; rintro e w2 ⟨rfl, s2⟩; obtain ⟨⟨c0_1, c1_1, c2_1, c3_1, c4_1, c5_1⟩, l_1⟩ := hB.out s2.out)
    | (go_at_call 58; refine (head_st ⟨#[105, 102, 32, 40]⟩ K0.out s0.out (by simp; omega)).mono ?_; rintro e w1 ⟨rfl, s1⟩; obtain ⟨⟨c0_0, c1_0, c2_0, c3_0, c4_0, c5_0⟩, l_0⟩ := hB.out s1.out))
  go_end0
  exact s2.out.laid hF.out hn.out

set_option maxHeartbeats 4000000 in
theorem return38_1 {t0 : Tr} (hg : ∀ x ks, G x ks = true → x.str.size < 4611686018427387904) (J : Job G A sb T w0 w b o x kv n cb ([t0])) (hk : x.kind = 55) : Calls Tryd.prog 38 #[.pointer (some ⟨sb, 0, none⟩), .pointer (some ⟨b, o, none⟩)] w (Spelt G qt A sb T w0 w x ([t0])) := by
  have hT := J.hT
  have hw := hid' J.hw
  have hA := hid' J.hA
  have hB : Hid (∀ {L n W}, St G (spellT qt) w0 A sb T w L n W → NdAt W b o x kv ∧ b < W.heap.size) := fun h => ⟨J.hat.below (h.bel J.hw J.hA) J.hb, Nat.lt_of_lt_of_le J.hb (h.bel J.hw J.hA).size⟩
  obtain ⟨c0, c1, c2, c3, c4, _⟩ := J.hat.below J.hw J.hb
  have hbw := Nat.lt_of_lt_of_le J.hb J.hw.size
  have s0 := St.start (G := G) (sp := spellT qt) (w0 := w0) J.sp
  have HK := hid' J.hK
  have hGs := J.hG
  obtain ⟨hkl, ao, cap, rfl⟩ := J.hK.shape
  obtain ⟨m0, b0, off0, x0, kv0, ks0, _, ea0, ⟨hb0, _⟩, e0, hat0, hK0⟩ := HK.out.kid 0 (by simp)
  subst ea0
  simp at e0 hat0
  subst e0
  simp only [allL_cons, allL_nil, Bool.and_true] at hGs
  have g0 : allT G (Tr.node x0 ks0) = true := hGs
  have z0 : G x0 ks0 = true := by rw [allT_node, Bool.and_eq_true] at g0; exact g0.1
  have K0 : Hid (Kid G w0 b0 off0 x0 kv0 m0 cb ks0) := ⟨hat0, hb0, hK0, g0, hg _ _ z0⟩
  have zz0 := szT_pos (Tr.node x0 ks0)
  simp only [szL_cons, szL_nil] at hT
  have ww0 : wtT (Tr.node x0 ks0) + 3 = 23 * szT (Tr.node x0 ks0) := by unfold wtT; omega
  have HGa : Hid (allL G [Tr.node x0 ks0] = true) := by unfold Hid; simp [allL_cons, allL_nil, g0]
  have wl0 : wtL [Tr.node x0 ks0] = (wtT (Tr.node x0 ks0) + 1) + 0 := by simp [wtL]
  have hF : Hid ([] ++ (List.map lst [(⟨#[114, 101, 116, 117, 114, 110]⟩ : ByteArray)]).flatten ++ (List.map lst [(⟨#[32]⟩ : ByteArray)]).flatten ++ joinL (lst ⟨#[]⟩) (List.map (spellT qt) [Tr.node x0 ks0]) ++ (List.map lst [(⟨#[59, 10]⟩ : ByteArray)]).flatten = spellN qt x ([Tr.node x0 ks0]) (([Tr.node x0 ks0]).map (spellT qt))) := by
    unfold Hid spellN
    simp [hk, lst, joinL]
  have hn : Hid (0 + [(⟨#[114, 101, 116, 117, 114, 110]⟩ : ByteArray)].length + [(⟨#[32]⟩ : ByteArray)].length + wtL [Tr.node x0 ks0] + [(⟨#[59, 10]⟩ : ByteArray)].length ≤ 19 + 23 * szL ([Tr.node x0 ks0])) := by
    unfold Hid
    simp only [List.length_cons, List.length_nil, szL_cons, szL_nil]
    omega
  simp at hkl
  rw [hk] at c0
  go_enter Tryd.func38, Tryd.ntmps38
  go_wp2_with (first
    | (go_at_call 50; refine (say_st [(⟨#[59, 10]⟩ : ByteArray)] s3.out (by simp; omega) _ _ rfl rfl).mono ?_; rintro e w4 ⟨rfl, s4⟩; obtain ⟨⟨c0_3, c1_3, c2_3, c3_3, c4_3, c5_3⟩, l_3⟩ := hB.out s4.out)
    | (go_at_call 56; refine (list_st ⟨#[]⟩ hw.out hA.out HK.out HGa.out s2.out (by simp; omega)).mono ?_; rintro e w3 ⟨rfl, s3⟩; obtain ⟨⟨c0_2, c1_2, c2_2, c3_2, c4_2, c5_2⟩, l_2⟩ := hB.out s3.out)
    | (go_at_call 50; refine (say_st [(⟨#[32]⟩ : ByteArray)] s1.out (by simp; omega) _ _ rfl rfl).mono ?_; rintro e w2 ⟨rfl, s2⟩; obtain ⟨⟨c0_1, c1_1, c2_1, c3_1, c4_1, c5_1⟩, l_1⟩ := hB.out s2.out)
    | (go_at_call 50; refine (say_st [(⟨#[114, 101, 116, 117, 114, 110]⟩ : ByteArray)] s0.out (by simp; omega) _ _ rfl rfl).mono ?_; rintro e w1 ⟨rfl, s1⟩; obtain ⟨⟨c0_0, c1_0, c2_0, c3_0, c4_0, c5_0⟩, l_0⟩ := hB.out s1.out))
  go_end0
  exact s4.out.laid hF.out hn.out
end
end Go.Proofs.YtnnnfabpceapcaaDoor

namespace Go.Proofs.YtnnnfabpceapcaaDoor
set_option linter.unusedSimpArgs false
open Go.RowKit
set_option linter.unusedVariables false
section
variable {G : NdH → List Tr → Bool} {qt : List UInt8 → List UInt8} {A : Nat → Prop} {sb : Nat} {T : List Pc} {w w0 : World} {b o : Nat} {x : NdH} {kv : Value} {n cb : Nat} {ks : List Tr}

set_option maxHeartbeats 4000000 in
theorem loop59 {t0 t1 t2 t3 : Tr} (hg : ∀ x ks, G x ks = true → x.str.size < 4611686018427387904) (J : Job G A sb T w0 w b o x kv n cb ([t0, t1, t2, t3])) (hk : x.kind = 52) : Calls Tryd.prog 59 #[.pointer (some ⟨sb, 0, none⟩), kv] w (Spelt G qt A sb T w0 w x ([t0, t1, t2, t3])) := by
  have hT := J.hT
  have hw := hid' J.hw
  have hA := hid' J.hA
  have hB : Hid (∀ {L n W}, St G (spellT qt) w0 A sb T w L n W → NdAt W b o x kv ∧ b < W.heap.size) := fun h => ⟨J.hat.below (h.bel J.hw J.hA) J.hb, Nat.lt_of_lt_of_le J.hb (h.bel J.hw J.hA).size⟩
  obtain ⟨c0, c1, c2, c3, c4, _⟩ := J.hat.below J.hw J.hb
  have hbw := Nat.lt_of_lt_of_le J.hb J.hw.size
  have s0 := St.start (G := G) (sp := spellT qt) (w0 := w0) J.sp
  have HK := hid' J.hK
  have hGs := J.hG
  obtain ⟨hkl, ao, cap, rfl⟩ := J.hK.shape
  obtain ⟨m0, b0, off0, x0, kv0, ks0, _, ea0, ⟨hb0, _⟩, e0, hat0, hK0⟩ := HK.out.kid 0 (by simp)
  subst ea0
  simp at e0 hat0
  subst e0
  obtain ⟨m1, b1, off1, x1, kv1, ks1, _, ea1, ⟨hb1, _⟩, e1, hat1, hK1⟩ := HK.out.kid 1 (by simp)
  injection ea1 with ea1
  injection ea1 with eb1 ec1
  subst eb1 ec1
  simp at e1 hat1
  subst e1
  obtain ⟨m2, b2, off2, x2, kv2, ks2, _, ea2, ⟨hb2, _⟩, e2, hat2, hK2⟩ := HK.out.kid 2 (by simp)
  injection ea2 with ea2
  injection ea2 with eb2 ec2
  subst eb2 ec2
  simp at e2 hat2
  subst e2
  obtain ⟨m3, b3, off3, x3, kv3, ks3, _, ea3, ⟨hb3, _⟩, e3, hat3, hK3⟩ := HK.out.kid 3 (by simp)
  injection ea3 with ea3
  injection ea3 with eb3 ec3
  subst eb3 ec3
  simp at e3 hat3
  subst e3
  simp only [allL_cons, allL_nil, Bool.and_true, Bool.and_eq_true] at hGs
  have g0 : allT G (Tr.node x0 ks0) = true := hGs.1
  have z0 : G x0 ks0 = true := by rw [allT_node, Bool.and_eq_true] at g0; exact g0.1
  have K0 : Hid (Kid G w0 b0 off0 x0 kv0 m0 cb ks0) := ⟨hat0, hb0, hK0, g0, hg _ _ z0⟩
  have zz0 := szT_pos (Tr.node x0 ks0)
  have g1 : allT G (Tr.node x1 ks1) = true := hGs.2.1
  have z1 : G x1 ks1 = true := by rw [allT_node, Bool.and_eq_true] at g1; exact g1.1
  have K1 : Hid (Kid G w0 b0 (off0 + 6) x1 kv1 m1 cb ks1) := ⟨hat1, hb1, hK1, g1, hg _ _ z1⟩
  have zz1 := szT_pos (Tr.node x1 ks1)
  have g2 : allT G (Tr.node x2 ks2) = true := hGs.2.2.1
  have z2 : G x2 ks2 = true := by rw [allT_node, Bool.and_eq_true] at g2; exact g2.1
  have K2 : Hid (Kid G w0 b0 (off0 + 12) x2 kv2 m2 cb ks2) := ⟨hat2, hb2, hK2, g2, hg _ _ z2⟩
  have zz2 := szT_pos (Tr.node x2 ks2)
  have g3 : allT G (Tr.node x3 ks3) = true := hGs.2.2.2
  have z3 : G x3 ks3 = true := by rw [allT_node, Bool.and_eq_true] at g3; exact g3.1
  have K3 : Hid (Kid G w0 b0 (off0 + 18) x3 kv3 m3 cb ks3) := ⟨hat3, hb3, hK3, g3, hg _ _ z3⟩
  have zz3 := szT_pos (Tr.node x3 ks3)
  simp only [szL_cons, szL_nil] at hT
  have ww0 : wtT (Tr.node x0 ks0) + 3 = 23 * szT (Tr.node x0 ks0) := by unfold wtT; omega
  have ww1 : wtT (Tr.node x1 ks1) + 3 = 23 * szT (Tr.node x1 ks1) := by unfold wtT; omega
  have ww2 : wtT (Tr.node x2 ks2) + 3 = 23 * szT (Tr.node x2 ks2) := by unfold wtT; omega
  have ww3 : wtT (Tr.node x3 ks3) + 3 = 23 * szT (Tr.node x3 ks3) := by unfold wtT; omega
  have hF : Hid ([] ++ (List.map lst [(⟨#[102, 111, 114, 32, 40]⟩ : ByteArray)]).flatten ++ perL (Tr.node x0 ks0) (spellT qt (Tr.node x0 ks0)) ++ (List.map lst [(⟨#[59, 32]⟩ : ByteArray)]).flatten ++ perL (Tr.node x1 ks1) (spellT qt (Tr.node x1 ks1)) ++ (List.map lst [(⟨#[59, 32]⟩ : ByteArray)]).flatten ++ perL (Tr.node x2 ks2) (spellT qt (Tr.node x2 ks2)) ++ (List.map lst [(⟨#[41, 10]⟩ : ByteArray)]).flatten ++ spellT qt (Tr.node x3 ks3) = spellN qt x ([Tr.node x0 ks0, Tr.node x1 ks1, Tr.node x2 ks2, Tr.node x3 ks3]) (([Tr.node x0 ks0, Tr.node x1 ks1, Tr.node x2 ks2, Tr.node x3 ks3]).map (spellT qt))) := by
    unfold Hid spellN
    simp [hk, lst]
  have hn : Hid (0 + [(⟨#[102, 111, 114, 32, 40]⟩ : ByteArray)].length + wtT (Tr.node x0 ks0) + [(⟨#[59, 32]⟩ : ByteArray)].length + wtT (Tr.node x1 ks1) + [(⟨#[59, 32]⟩ : ByteArray)].length + wtT (Tr.node x2 ks2) + [(⟨#[41, 10]⟩ : ByteArray)].length + wtT (Tr.node x3 ks3) ≤ 19 + 23 * szL ([Tr.node x0 ks0, Tr.node x1 ks1, Tr.node x2 ks2, Tr.node x3 ks3])) := by
    unfold Hid
    simp only [List.length_cons, List.length_nil, szL_cons, szL_nil]
    omega
  simp at hkl
  rw [hk] at c0
  go_enter Tryd.func59, Tryd.ntmps59
  go_wp2_with (first
    | (go_at_call 55; refine (K3.out.put s7.out (by simp; omega)).mono ?_; rintro e w8 ⟨rfl, s8⟩; obtain ⟨⟨c0_7, c1_7, c2_7, c3_7, c4_7, c5_7⟩, l_7⟩ := hB.out s8.out)
    | (go_at_call 50; refine (say_st [(⟨#[41, 10]⟩ : ByteArray)] s6.out (by simp; omega) _ _ rfl rfl).mono ?_; rintro e w7 ⟨rfl, s7⟩; obtain ⟨⟨c0_6, c1_6, c2_6, c3_6, c4_6, c5_6⟩, l_6⟩ := hB.out s7.out)
    | (go_at_call 78; refine (perhaps_st K2.out hw.out hA.out s5.out (by simp; omega)).mono ?_; rintro e w6 ⟨rfl, s6⟩; obtain ⟨⟨c0_5, c1_5, c2_5, c3_5, c4_5, c5_5⟩, l_5⟩ := hB.out s6.out)
    | (go_at_call 50; refine (say_st [(⟨#[59, 32]⟩ : ByteArray)] s4.out (by simp; omega) _ _ rfl rfl).mono ?_; rintro e w5 ⟨rfl, s5⟩; obtain ⟨⟨c0_4, c1_4, c2_4, c3_4, c4_4, c5_4⟩, l_4⟩ := hB.out s5.out)
    | (go_at_call 78; refine (perhaps_st K1.out hw.out hA.out s3.out (by simp; omega)).mono ?_; rintro e w4 ⟨rfl, s4⟩; obtain ⟨⟨c0_3, c1_3, c2_3, c3_3, c4_3, c5_3⟩, l_3⟩ := hB.out s4.out)
    | (go_at_call 50; refine (say_st [(⟨#[59, 32]⟩ : ByteArray)] s2.out (by simp; omega) _ _ rfl rfl).mono ?_; rintro e w3 ⟨rfl, s3⟩; obtain ⟨⟨c0_2, c1_2, c2_2, c3_2, c4_2, c5_2⟩, l_2⟩ := hB.out s3.out)
    | (go_at_call 78; refine (perhaps_st K0.out hw.out hA.out s1.out (by simp; omega)).mono ?_; rintro e w2 ⟨rfl, s2⟩; obtain ⟨⟨c0_1, c1_1, c2_1, c3_1, c4_1, c5_1⟩, l_1⟩ := hB.out s2.out)
    | (go_at_call 50; refine (say_st [(⟨#[102, 111, 114, 32, 40]⟩ : ByteArray)] s0.out (by simp; omega) _ _ rfl rfl).mono ?_; rintro e w1 ⟨rfl, s1⟩; obtain ⟨⟨c0_0, c1_0, c2_0, c3_0, c4_0, c5_0⟩, l_0⟩ := hB.out s1.out))
  go_end0
  exact s8.out.laid hF.out hn.out
end
end Go.Proofs.YtnnnfabpceapcaaDoor

namespace Go.Proofs.YtnnnfabpceapcaaDoor
set_option linter.unusedSimpArgs false
open Go.RowKit
set_option linter.unusedVariables false
section
variable {G : NdH → List Tr → Bool} {qt : List UInt8 → List UInt8} {A : Nat → Prop} {sb : Nat} {T : List Pc} {w w0 : World} {b o : Nat} {x : NdH} {kv : Value} {n cb : Nat} {ks : List Tr}

set_option maxHeartbeats 4000000 in
theorem var60_f1 {t0 : Tr} (hg : ∀ x ks, G x ks = true → x.str.size < 4611686018427387904) (J : Job G A sb T w0 w b o x kv n cb ([t0])) (hk : x.kind = 43) (hf : x.flag = true) : Calls Tryd.prog 60 #[.pointer (some ⟨sb, 0, none⟩), .pointer (some ⟨b, o, none⟩)] w (Spelt G qt A sb T w0 w x ([t0])) := by
  have hT := J.hT
  have hw := hid' J.hw
  have hA := hid' J.hA
  have hB : Hid (∀ {L n W}, St G (spellT qt) w0 A sb T w L n W → NdAt W b o x kv ∧ b < W.heap.size) := fun h => ⟨J.hat.below (h.bel J.hw J.hA) J.hb, Nat.lt_of_lt_of_le J.hb (h.bel J.hw J.hA).size⟩
  obtain ⟨c0, c1, c2, c3, c4, _⟩ := J.hat.below J.hw J.hb
  have hbw := Nat.lt_of_lt_of_le J.hb J.hw.size
  have s0 := St.start (G := G) (sp := spellT qt) (w0 := w0) J.sp
  have HK := hid' J.hK
  have hGs := J.hG
  obtain ⟨hkl, ao, cap, rfl⟩ := J.hK.shape
  obtain ⟨m0, b0, off0, x0, kv0, ks0, _, ea0, ⟨hb0, _⟩, e0, hat0, hK0⟩ := HK.out.kid 0 (by simp)
  subst ea0
  simp at e0 hat0
  subst e0
  simp only [allL_cons, allL_nil, Bool.and_true] at hGs
  have g0 : allT G (Tr.node x0 ks0) = true := hGs
  have z0 : G x0 ks0 = true := by rw [allT_node, Bool.and_eq_true] at g0; exact g0.1
  have K0 : Hid (Kid G w0 b0 off0 x0 kv0 m0 cb ks0) := ⟨hat0, hb0, hK0, g0, hg _ _ z0⟩
  have zz0 := szT_pos (Tr.node x0 ks0)
  simp only [szL_cons, szL_nil] at hT
  have ww0 : wtT (Tr.node x0 ks0) + 3 = 23 * szT (Tr.node x0 ks0) := by unfold wtT; omega
  have hroom := HK.out.room (by simp)
  have hF : Hid ([] ++ (List.map lst [x.str]).flatten ++ (List.map lst [(⟨#[91]⟩ : ByteArray)]).flatten ++ perL (Tr.node x0 ks0) (spellT qt (Tr.node x0 ks0)) ++ (List.map lst [(⟨#[93]⟩ : ByteArray)]).flatten = spellN qt x ([Tr.node x0 ks0]) (([Tr.node x0 ks0]).map (spellT qt))) := by
    unfold Hid spellN
    simp [hk, lst, hf]
  have hn : Hid (0 + [x.str].length + [(⟨#[91]⟩ : ByteArray)].length + wtT (Tr.node x0 ks0) + [(⟨#[93]⟩ : ByteArray)].length ≤ 19 + 23 * szL ([Tr.node x0 ks0])) := by
    unfold Hid
    simp only [List.length_cons, List.length_nil, szL_cons, szL_nil]
    omega
  simp at hkl hroom
  rw [hk] at c0
  go_enter Tryd.func60, Tryd.ntmps60
  go_wp2_with (first
    | (go_at_call 50; refine (say_st [(⟨#[93]⟩ : ByteArray)] s3.out (by simp; omega) _ _ rfl rfl).mono ?_; rintro e w4 ⟨rfl, s4⟩; obtain ⟨⟨c0_3, c1_3, c2_3, c3_3, c4_3, c5_3⟩, l_3⟩ := hB.out s4.out; rw [hf] at c3_3)
    | (go_at_call 78; refine (perhaps_st K0.out hw.out hA.out s2.out (by simp; omega)).mono ?_; rintro e w3 ⟨rfl, s3⟩; obtain ⟨⟨c0_2, c1_2, c2_2, c3_2, c4_2, c5_2⟩, l_2⟩ := hB.out s3.out; rw [hf] at c3_2)
    | (go_at_call 50; refine (say_st [(⟨#[91]⟩ : ByteArray)] s1.out (by simp; omega) _ _ rfl rfl).mono ?_; rintro e w2 ⟨rfl, s2⟩; obtain ⟨⟨c0_1, c1_1, c2_1, c3_1, c4_1, c5_1⟩, l_1⟩ := hB.out s2.out; rw [hf] at c3_1)
    | (go_at_call 50; refine (say_st [x.str] s0.out (by simp; omega) _ _ rfl rfl).mono ?_; rintro e w1 ⟨rfl, s1⟩; obtain ⟨⟨c0_0, c1_0, c2_0, c3_0, c4_0, c5_0⟩, l_0⟩ := hB.out s1.out; rw [hf] at c3_0))
  all_goals go_end0
  all_goals exact s4.out.laid hF.out hn.out

set_option maxHeartbeats 4000000 in
theorem var60_f2 {t0 t1 : Tr} (hg : ∀ x ks, G x ks = true → x.str.size < 4611686018427387904) (J : Job G A sb T w0 w b o x kv n cb ([t0, t1])) (hk : x.kind = 43) (hf : x.flag = true) : Calls Tryd.prog 60 #[.pointer (some ⟨sb, 0, none⟩), .pointer (some ⟨b, o, none⟩)] w (Spelt G qt A sb T w0 w x ([t0, t1])) := by
  have hT := J.hT
  have hw := hid' J.hw
  have hA := hid' J.hA
  have hB : Hid (∀ {L n W}, St G (spellT qt) w0 A sb T w L n W → NdAt W b o x kv ∧ b < W.heap.size) := fun h => ⟨J.hat.below (h.bel J.hw J.hA) J.hb, Nat.lt_of_lt_of_le J.hb (h.bel J.hw J.hA).size⟩
  obtain ⟨c0, c1, c2, c3, c4, _⟩ := J.hat.below J.hw J.hb
  have hbw := Nat.lt_of_lt_of_le J.hb J.hw.size
  have s0 := St.start (G := G) (sp := spellT qt) (w0 := w0) J.sp
  have HK := hid' J.hK
  have hGs := J.hG
  obtain ⟨hkl, ao, cap, rfl⟩ := J.hK.shape
  obtain ⟨m0, b0, off0, x0, kv0, ks0, _, ea0, ⟨hb0, _⟩, e0, hat0, hK0⟩ := HK.out.kid 0 (by simp)
  subst ea0
  simp at e0 hat0
  subst e0
  obtain ⟨m1, b1, off1, x1, kv1, ks1, _, ea1, ⟨hb1, _⟩, e1, hat1, hK1⟩ := HK.out.kid 1 (by simp)
  injection ea1 with ea1
  injection ea1 with eb1 ec1
  subst eb1 ec1
  simp at e1 hat1
  subst e1
  simp only [allL_cons, allL_nil, Bool.and_true, Bool.and_eq_true] at hGs
  have g0 : allT G (Tr.node x0 ks0) = true := hGs.1
  have z0 : G x0 ks0 = true := by rw [allT_node, Bool.and_eq_true] at g0; exact g0.1
  have K0 : Hid (Kid G w0 b0 off0 x0 kv0 m0 cb ks0) := ⟨hat0, hb0, hK0, g0, hg _ _ z0⟩
  have zz0 := szT_pos (Tr.node x0 ks0)
  have g1 : allT G (Tr.node x1 ks1) = true := hGs.2
  have z1 : G x1 ks1 = true := by rw [allT_node, Bool.and_eq_true] at g1; exact g1.1
  have K1 : Hid (Kid G w0 b0 (off0 + 6) x1 kv1 m1 cb ks1) := ⟨hat1, hb1, hK1, g1, hg _ _ z1⟩
  have zz1 := szT_pos (Tr.node x1 ks1)
  simp only [szL_cons, szL_nil] at hT
  have ww0 : wtT (Tr.node x0 ks0) + 3 = 23 * szT (Tr.node x0 ks0) := by unfold wtT; omega
  have ww1 : wtT (Tr.node x1 ks1) + 3 = 23 * szT (Tr.node x1 ks1) := by unfold wtT; omega
  have hroom := HK.out.room (by simp)
  have hF : Hid ([] ++ (List.map lst [x.str]).flatten ++ (List.map lst [(⟨#[91]⟩ : ByteArray)]).flatten ++ perL (Tr.node x0 ks0) (spellT qt (Tr.node x0 ks0)) ++ (List.map lst [(⟨#[93]⟩ : ByteArray)]).flatten ++ (List.map lst [(⟨#[32, 61, 32]⟩ : ByteArray)]).flatten ++ spellT qt (Tr.node x1 ks1) = spellN qt x ([Tr.node x0 ks0, Tr.node x1 ks1]) (([Tr.node x0 ks0, Tr.node x1 ks1]).map (spellT qt))) := by
    unfold Hid spellN
    simp [hk, lst, hf]
  have hn : Hid (0 + [x.str].length + [(⟨#[91]⟩ : ByteArray)].length + wtT (Tr.node x0 ks0) + [(⟨#[93]⟩ : ByteArray)].length + [(⟨#[32, 61, 32]⟩ : ByteArray)].length + wtT (Tr.node x1 ks1) ≤ 19 + 23 * szL ([Tr.node x0 ks0, Tr.node x1 ks1])) := by
    unfold Hid
    simp only [List.length_cons, List.length_nil, szL_cons, szL_nil]
    omega
  simp at hkl hroom
  rw [hk] at c0
  go_enter Tryd.func60, Tryd.ntmps60
  go_wp2_with (first
    | (go_at_call 55; refine (K1.out.put s5.out (by simp; omega)).mono ?_; rintro e w6 ⟨rfl, s6⟩; obtain ⟨⟨c0_5, c1_5, c2_5, c3_5, c4_5, c5_5⟩, l_5⟩ := hB.out s6.out; rw [hf] at c3_5)
    | (go_at_call 50; refine (say_st [(⟨#[32, 61, 32]⟩ : ByteArray)] s4.out (by simp; omega) _ _ rfl rfl).mono ?_; rintro e w5 ⟨rfl, s5⟩; obtain ⟨⟨c0_4, c1_4, c2_4, c3_4, c4_4, c5_4⟩, l_4⟩ := hB.out s5.out; rw [hf] at c3_4)
    | (go_at_call 50; refine (say_st [(⟨#[93]⟩ : ByteArray)] s3.out (by simp; omega) _ _ rfl rfl).mono ?_; rintro e w4 ⟨rfl, s4⟩; obtain ⟨⟨c0_3, c1_3, c2_3, c3_3, c4_3, c5_3⟩, l_3⟩ := hB.out s4.out; rw [hf] at c3_3)
    | (go_at_call 78; refine (perhaps_st K0.out hw.out hA.out s2.out (by simp; omega)).mono ?_; rintro e w3 ⟨rfl, s3⟩; obtain ⟨⟨c0_2, c1_2, c2_2, c3_2, c4_2, c5_2⟩, l_2⟩ := hB.out s3.out; rw [hf] at c3_2)
    | (go_at_call 50; refine (say_st [(⟨#[91]⟩ : ByteArray)] s1.out (by simp; omega) _ _ rfl rfl).mono ?_; rintro e w2 ⟨rfl, s2⟩; obtain ⟨⟨c0_1, c1_1, c2_1, c3_1, c4_1, c5_1⟩, l_1⟩ := hB.out s2.out; rw [hf] at c3_1)
    | (go_at_call 50; refine (say_st [x.str] s0.out (by simp; omega) _ _ rfl rfl).mono ?_; rintro e w1 ⟨rfl, s1⟩; obtain ⟨⟨c0_0, c1_0, c2_0, c3_0, c4_0, c5_0⟩, l_0⟩ := hB.out s1.out; rw [hf] at c3_0))
  all_goals go_end0
  all_goals exact s6.out.laid hF.out hn.out
end
end Go.Proofs.YtnnnfabpceapcaaDoor

namespace Go.Proofs.YtnnnfabpceapcaaDoor
set_option linter.unusedSimpArgs false
open Go.RowKit
set_option linter.unusedVariables false
section
variable {G : NdH → List Tr → Bool} {qt : List UInt8 → List UInt8} {A : Nat → Prop} {sb : Nat} {T : List Pc} {w w0 : World} {b o : Nat} {x : NdH} {kv : Value} {n cb : Nat} {ks : List Tr}

set_option maxHeartbeats 4000000 in
theorem op36 (J : Job G A sb T w0 w b o x kv n cb ks) (hk : x.kind = 9 ∨ x.kind = 10 ∨ x.kind = 11 ∨ x.kind = 12 ∨ x.kind = 13 ∨ x.kind = 14 ∨ x.kind = 15) (H : Calls Tryd.prog 57 #[.pointer (some ⟨sb, 0, none⟩), .pointer (some ⟨b, o, none⟩)] w (Spelt G qt A sb T w0 w x ks)) : Calls Tryd.prog 36 #[.pointer (some ⟨sb, 0, none⟩), .pointer (some ⟨b, o, none⟩)] w (Spelt G qt A sb T w0 w x ks) := by
  obtain ⟨c0, _, _, _, c4, _⟩ := J.hat.below J.hw J.hb
  have hbw := Nat.lt_of_lt_of_le J.hb J.hw.size
  replace H := hid' H
  obtain ⟨hkl, ao, cap, rfl⟩ := J.hK.shape
  rcases hk with hk | hk | hk | hk | hk | hk | hk
  all_goals
    rw [hk] at c0
    go_enter Tryd.func36, Tryd.ntmps36
    go_wp2_with (go_at_call 57; refine H.out.mono ?_; rintro e w1 ⟨rfl, s1⟩; replace s1 := hid' s1)
    go_end0
    exact ⟨rfl, s1.out⟩

set_option maxHeartbeats 4000000 in
theorem for38 (J : Job G A sb T w0 w b o x kv n cb ks) (hk : x.kind = 52) (H : Calls Tryd.prog 59 #[.pointer (some ⟨sb, 0, none⟩), kv] w (Spelt G qt A sb T w0 w x ks)) : Calls Tryd.prog 38 #[.pointer (some ⟨sb, 0, none⟩), .pointer (some ⟨b, o, none⟩)] w (Spelt G qt A sb T w0 w x ks) := by
  obtain ⟨c0, _, _, _, c4, _⟩ := J.hat.below J.hw J.hb
  have hbw := Nat.lt_of_lt_of_le J.hb J.hw.size
  replace H := hid' H
  obtain ⟨hkl, ao, cap, rfl⟩ := J.hK.shape
  rcases hk with hk
  all_goals
    rw [hk] at c0
    go_enter Tryd.func38, Tryd.ntmps38
    go_wp2_with (go_at_call 59; refine H.out.mono ?_; rintro e w1 ⟨rfl, s1⟩; replace s1 := hid' s1)
    go_end0
    exact ⟨rfl, s1.out⟩

set_option maxHeartbeats 4000000 in
theorem param39 (J : Job G A sb T w0 w b o x kv n cb ks) (hk : x.kind = 46) (H : Calls Tryd.prog 61 #[.pointer (some ⟨sb, 0, none⟩), .pointer (some ⟨b, o, none⟩)] w (Spelt G qt A sb T w0 w x ks)) : Calls Tryd.prog 39 #[.pointer (some ⟨sb, 0, none⟩), .pointer (some ⟨b, o, none⟩)] w (Spelt G qt A sb T w0 w x ks) := by
  obtain ⟨c0, _, _, _, c4, _⟩ := J.hat.below J.hw J.hb
  have hbw := Nat.lt_of_lt_of_le J.hb J.hw.size
  replace H := hid' H
  obtain ⟨hkl, ao, cap, rfl⟩ := J.hK.shape
  rcases hk with hk
  all_goals
    rw [hk] at c0
    go_enter Tryd.func39, Tryd.ntmps39
    go_wp2_with (go_at_call 61; refine H.out.mono ?_; rintro e w1 ⟨rfl, s1⟩; replace s1 := hid' s1)
    go_end0
    exact ⟨rfl, s1.out⟩

set_option maxHeartbeats 4000000 in
theorem var39_any (J : Job G A sb T w0 w b o x kv n cb ks) (hk : x.kind = 43) (H : Calls Tryd.prog 60 #[.pointer (some ⟨sb, 0, none⟩), .pointer (some ⟨b, o, none⟩)] w (Spelt G qt A sb T w0 w x ks)) : Calls Tryd.prog 39 #[.pointer (some ⟨sb, 0, none⟩), .pointer (some ⟨b, o, none⟩)] w (Spelt G qt A sb T w0 w x ks) := by
  obtain ⟨c0, _, _, _, c4, _⟩ := J.hat.below J.hw J.hb
  have hbw := Nat.lt_of_lt_of_le J.hb J.hw.size
  replace H := hid' H
  obtain ⟨hkl, ao, cap, rfl⟩ := J.hK.shape
  rcases hk with hk
  all_goals
    rw [hk] at c0
    go_enter Tryd.func39, Tryd.ntmps39
    go_wp2_with (go_at_call 60; refine H.out.mono ?_; rintro e w1 ⟨rfl, s1⟩; replace s1 := hid' s1)
    go_end0
    exact ⟨rfl, s1.out⟩
end
end Go.Proofs.YtnnnfabpceapcaaDoor
