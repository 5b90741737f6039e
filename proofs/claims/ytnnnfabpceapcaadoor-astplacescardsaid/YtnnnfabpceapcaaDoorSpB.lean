/- The speller: blocks and words. -/
import Derived.Test.YtnnnfabpceapcaaDoorSpA
namespace Go.Proofs.YtnnnfabpceapcaaDoor
set_option linter.unusedSimpArgs false
open Go.RowKit
set_option linter.unusedVariables false
section
variable {G : NdH → List Tr → Bool} {qt : List UInt8 → List UInt8} {A : Nat → Prop} {sb : Nat} {T : List Pc} {w w0 : World} {b o : Nat} {x : NdH} {kv : Value} {n cb : Nat} {ks : List Tr}

set_option maxHeartbeats 4000000 in
theorem block38 (hg : ∀ x ks, G x ks = true → x.str.size < 4611686018427387904) (J : Job G A sb T w0 w b o x kv n cb (ks)) (hk : x.kind = 47) : Calls Tryd.prog 38 #[.pointer (some ⟨sb, 0, none⟩), .pointer (some ⟨b, o, none⟩)] w (Spelt G qt A sb T w0 w x (ks)) := by
  have hT := J.hT
  have hw := hid' J.hw
  have hA := hid' J.hA
  have hB : Hid (∀ {L n W}, St G (spellT qt) w0 A sb T w L n W → NdAt W b o x kv ∧ b < W.heap.size) := fun h => ⟨J.hat.below (h.bel J.hw J.hA) J.hb, Nat.lt_of_lt_of_le J.hb (h.bel J.hw J.hA).size⟩
  obtain ⟨c0, c1, c2, c3, c4, _⟩ := J.hat.below J.hw J.hb
  have hbw := Nat.lt_of_lt_of_le J.hb J.hw.size
  have s0 := St.start (G := G) (sp := spellT qt) (w0 := w0) J.sp
  have HK := hid' J.hK
  have hGs := J.hG
  obtain ⟨hkl, ao, cap, rfl⟩ := J.hK.shape
  have hL := wtL_le ks
  have HG := hid' hGs
  have hF : Hid ([] ++ (List.map lst [(⟨#[123, 10]⟩ : ByteArray)]).flatten ++ joinL (lst ⟨#[]⟩) (ks.map (spellT qt)) ++ (List.map lst [(⟨#[125, 10]⟩ : ByteArray)]).flatten = spellN qt x (ks) ((ks).map (spellT qt))) := by
    unfold Hid spellN
    simp [hk, lst]
  have hn : Hid (0 + [(⟨#[123, 10]⟩ : ByteArray)].length + wtL ks + [(⟨#[125, 10]⟩ : ByteArray)].length ≤ 19 + 23 * szL (ks)) := by
    unfold Hid
    simp only [List.length_cons, List.length_nil, szL_cons, szL_nil]
    omega
  rw [hk] at c0
  go_enter Tryd.func38, Tryd.ntmps38
  go_wp2_with (first
    | (go_at_call 50; refine (say_st [(⟨#[125, 10]⟩ : ByteArray)] s2.out (by simp; omega) _ _ rfl rfl).mono ?_; rintro e w3 ⟨rfl, s3⟩; obtain ⟨⟨c0_2, c1_2, c2_2, c3_2, c4_2, c5_2⟩, l_2⟩ := hB.out s3.out)
    | (go_at_call 56; refine (list_st ⟨#[]⟩ hw.out hA.out HK.out HG.out s1.out (by simp; omega)).mono ?_; rintro e w2 ⟨rfl, s2⟩; obtain ⟨⟨c0_1, c1_1, c2_1, c3_1, c4_1, c5_1⟩, l_1⟩ := hB.out s2.out)
    | (go_at_call 50; refine (say_st [(⟨#[123, 10]⟩ : ByteArray)] s0.out (by simp; omega) _ _ rfl rfl).mono ?_; rintro e w1 ⟨rfl, s1⟩; obtain ⟨⟨c0_0, c1_0, c2_0, c3_0, c4_0, c5_0⟩, l_0⟩ := hB.out s1.out))
  go_end0
  exact s3.out.laid hF.out hn.out

set_option maxHeartbeats 4000000 in
theorem eval38 {t0 : Tr} (hg : ∀ x ks, G x ks = true → x.str.size < 4611686018427387904) (J : Job G A sb T w0 w b o x kv n cb ([t0])) (hk : x.kind = 48) : Calls Tryd.prog 38 #[.pointer (some ⟨sb, 0, none⟩), .pointer (some ⟨b, o, none⟩)] w (Spelt G qt A sb T w0 w x ([t0])) := by
  have hT := J.hT
  have hw := hid' J.hw
  have hA := hid' J.hA
  have hB : Hid (∀ {L n W}, St G (spellT qt) w0 A sb T w L n W → NdAt W b o x kv ∧ b < W.heap.size) := fun h => ⟨J.hat.below (h.bel J.hw J.hA) J.hb, Nat.lt_of_lt_of_le J.hb (h.bel J.hw J.hA).size⟩
  obtain ⟨c0, c1, c2, c3, c4, _⟩ := J.hat.below J.hw J.hb
  have hbw := Nat.lt_of_lt_of_le J.hb J.hw.size
  have s0 := St.start (G := G) (sp := spellT qt) (w0 := w0) J.sp
  have HK := hid' J.hK
  have hGs := J.hG
  obtain ⟨hkl, ao, cap, rfl⟩ := J.hK.shape
  obtain ⟨m0, b0, off0, x0, kv0, ks0, _, ea0, ⟨hb0, _⟩, e0, hat0, hK0⟩ := HK.out.kid 0 (by simp)
  subst ea0
  simp at e0 hat0
  subst e0
  simp only [allL_cons, allL_nil, Bool.and_true] at hGs
  have g0 : allT G (Tr.node x0 ks0) = true := hGs
  have z0 : G x0 ks0 = true := by rw [allT_node, Bool.and_eq_true] at g0; exact g0.1
  have K0 : Hid (Kid G w0 b0 off0 x0 kv0 m0 cb ks0) := ⟨hat0, hb0, hK0, g0, hg _ _ z0⟩
  have zz0 := szT_pos (Tr.node x0 ks0)
  simp only [szL_cons, szL_nil] at hT
  have ww0 : wtT (Tr.node x0 ks0) + 3 = 23 * szT (Tr.node x0 ks0) := by unfold wtT; omega
  have hF : Hid ([] ++ spellT qt (Tr.node x0 ks0) ++ (List.map lst [(⟨#[59, 10]⟩ : ByteArray)]).flatten = spellN qt x ([Tr.node x0 ks0]) (([Tr.node x0 ks0]).map (spellT qt))) := by
    unfold Hid spellN
    simp [hk, lst]
  have hn : Hid (0 + wtT (Tr.node x0 ks0) + [(⟨#[59, 10]⟩ : ByteArray)].length ≤ 19 + 23 * szL ([Tr.node x0 ks0])) := by
    unfold Hid
    simp only [List.length_cons, List.length_nil, szL_cons, szL_nil]
    omega
  simp at hkl
  rw [hk] at c0
  go_enter Tryd.func38, Tryd.ntmps38
  go_wp2_with (first
    | (go_at_call 50; refine (say_st [(⟨#[59, 10]⟩ : ByteArray)] s1.out (by simp; omega) _ _ rfl rfl).mono ?_; rintro e w2 ⟨rfl, s2⟩; obtain ⟨⟨c0_1, c1_1, c2_1, c3_1, c4_1, c5_1⟩, l_1⟩ := hB.out s2.out)
    | (go_at_call 55; refine (K0.out.put s0.out (by simp; omega)).mono ?_; rintro e w1 ⟨rfl, s1⟩; obtain ⟨⟨c0_0, c1_0, c2_0, c3_0, c4_0, c5_0⟩, l_0⟩ := hB.out s1.out))
  go_end0
  exact s2.out.laid hF.out hn.out

set_option maxHeartbeats 4000000 in
theorem break38 (hg : ∀ x ks, G x ks = true → x.str.size < 4611686018427387904) (J : Job G A sb T w0 w b o x kv n cb (ks)) (hk : x.kind = 53) : Calls Tryd.prog 38 #[.pointer (some ⟨sb, 0, none⟩), .pointer (some ⟨b, o, none⟩)] w (Spelt G qt A sb T w0 w x (ks)) := by
  have hT := J.hT
  have hw := hid' J.hw
  have hA := hid' J.hA
  have hB : Hid (∀ {L n W}, St G (spellT qt) w0 A sb T w L n W → NdAt W b o x kv ∧ b < W.heap.size) := fun h => ⟨J.hat.below (h.bel J.hw J.hA) J.hb, Nat.lt_of_lt_of_le J.hb (h.bel J.hw J.hA).size⟩
  obtain ⟨c0, c1, c2, c3, c4, _⟩ := J.hat.below J.hw J.hb
  have hbw := Nat.lt_of_lt_of_le J.hb J.hw.size
  have s0 := St.start (G := G) (sp := spellT qt) (w0 := w0) J.sp
  have HK := hid' J.hK
  have hGs := J.hG
  obtain ⟨hkl, ao, cap, rfl⟩ := J.hK.shape
  have hL := wtL_le ks
  have HG := hid' hGs
  have hF : Hid ([] ++ (List.map lst [(⟨#[98, 114, 101, 97, 107, 59, 10]⟩ : ByteArray)]).flatten = spellN qt x (ks) ((ks).map (spellT qt))) := by
    unfold Hid spellN
    simp [hk, lst]
  have hn : Hid (0 + [(⟨#[98, 114, 101, 97, 107, 59, 10]⟩ : ByteArray)].length ≤ 19 + 23 * szL (ks)) := by
    unfold Hid
    simp only [List.length_cons, List.length_nil, szL_cons, szL_nil]
    omega
  rw [hk] at c0
  go_enter Tryd.func38, Tryd.ntmps38
  go_wp2_with (first
    | (go_at_call 50; refine (say_st [(⟨#[98, 114, 101, 97, 107, 59, 10]⟩ : ByteArray)] s0.out (by simp; omega) _ _ rfl rfl).mono ?_; rintro e w1 ⟨rfl, s1⟩; obtain ⟨⟨c0_0, c1_0, c2_0, c3_0, c4_0, c5_0⟩, l_0⟩ := hB.out s1.out))
  go_end0
  exact s1.out.laid hF.out hn.out

set_option maxHeartbeats 4000000 in
theorem continue38 (hg : ∀ x ks, G x ks = true → x.str.size < 4611686018427387904) (J : Job G A sb T w0 w b o x kv n cb (ks)) (hk : x.kind = 54) : Calls Tryd.prog 38 #[.pointer (some ⟨sb, 0, none⟩), .pointer (some ⟨b, o, none⟩)] w (Spelt G qt A sb T w0 w x (ks)) := by
  have hT := J.hT
  have hw := hid' J.hw
  have hA := hid' J.hA
  have hB : Hid (∀ {L n W}, St G (spellT qt) w0 A sb T w L n W → NdAt W b o x kv ∧ b < W.heap.size) := fun h => ⟨J.hat.below (h.bel J.hw J.hA) J.hb, Nat.lt_of_lt_of_le J.hb (h.bel J.hw J.hA).size⟩
  obtain ⟨c0, c1, c2, c3, c4, _⟩ := J.hat.below J.hw J.hb
  have hbw := Nat.lt_of_lt_of_le J.hb J.hw.size
  have s0 := St.start (G := G) (sp := spellT qt) (w0 := w0) J.sp
  have HK := hid' J.hK
  have hGs := J.hG
  obtain ⟨hkl, ao, cap, rfl⟩ := J.hK.shape
  have hL := wtL_le ks
  have HG := hid' hGs
  have hF : Hid ([] ++ (List.map lst [(⟨#[99, 111, 110, 116, 105, 110, 117, 101, 59, 10]⟩ : ByteArray)]).flatten = spellN qt x (ks) ((ks).map (spellT qt))) := by
    unfold Hid spellN
    simp [hk, lst]
  have hn : Hid (0 + [(⟨#[99, 111, 110, 116, 105, 110, 117, 101, 59, 10]⟩ : ByteArray)].length ≤ 19 + 23 * szL (ks)) := by
    unfold Hid
    simp only [List.length_cons, List.length_nil, szL_cons, szL_nil]
    omega
  rw [hk] at c0
  go_enter Tryd.func38, Tryd.ntmps38
  go_wp2_with (first
    | (go_at_call 50; refine (say_st [(⟨#[99, 111, 110, 116, 105, 110, 117, 101, 59, 10]⟩ : ByteArray)] s0.out (by simp; omega) _ _ rfl rfl).mono ?_; rintro e w1 ⟨rfl, s1⟩; obtain ⟨⟨c0_0, c1_0, c2_0, c3_0, c4_0, c5_0⟩, l_0⟩ := hB.out s1.out))
  go_end0
  exact s1.out.laid hF.out hn.out

set_option maxHeartbeats 4000000 in
theorem none38 (hg : ∀ x ks, G x ks = true → x.str.size < 4611686018427387904) (J : Job G A sb T w0 w b o x kv n cb (ks)) (hk : x.kind = 56) : Calls Tryd.prog 38 #[.pointer (some ⟨sb, 0, none⟩), .pointer (some ⟨b, o, none⟩)] w (Spelt G qt A sb T w0 w x (ks)) := by
  have hT := J.hT
  have hw := hid' J.hw
  have hA := hid' J.hA
  have hB : Hid (∀ {L n W}, St G (spellT qt) w0 A sb T w L n W → NdAt W b o x kv ∧ b < W.heap.size) := fun h => ⟨J.hat.below (h.bel J.hw J.hA) J.hb, Nat.lt_of_lt_of_le J.hb (h.bel J.hw J.hA).size⟩
  obtain ⟨c0, c1, c2, c3, c4, _⟩ := J.hat.below J.hw J.hb
  have hbw := Nat.lt_of_lt_of_le J.hb J.hw.size
  have s0 := St.start (G := G) (sp := spellT qt) (w0 := w0) J.sp
  have HK := hid' J.hK
  have hGs := J.hG
  obtain ⟨hkl, ao, cap, rfl⟩ := J.hK.shape
  have hL := wtL_le ks
  have HG := hid' hGs
  have hF : Hid ([] ++ (List.map lst [(⟨#[59, 10]⟩ : ByteArray)]).flatten = spellN qt x (ks) ((ks).map (spellT qt))) := by
    unfold Hid spellN
    simp [hk, lst]
  have hn : Hid (0 + [(⟨#[59, 10]⟩ : ByteArray)].length ≤ 19 + 23 * szL (ks)) := by
    unfold Hid
    simp only [List.length_cons, List.length_nil, szL_cons, szL_nil]
    omega
  rw [hk] at c0
  go_enter Tryd.func38, Tryd.ntmps38
  go_wp2_with (first
    | (go_at_call 50; refine (say_st [(⟨#[59, 10]⟩ : ByteArray)] s0.out (by simp; omega) _ _ rfl rfl).mono ?_; rintro e w1 ⟨rfl, s1⟩; obtain ⟨⟨c0_0, c1_0, c2_0, c3_0, c4_0, c5_0⟩, l_0⟩ := hB.out s1.out))
  go_end0
  exact s1.out.laid hF.out hn.out
end
end Go.Proofs.YtnnnfabpceapcaaDoor

namespace Go.Proofs.YtnnnfabpceapcaaDoor
set_option linter.unusedSimpArgs false
open Go.RowKit
set_option linter.unusedVariables false
section
variable {G : NdH → List Tr → Bool} {qt : List UInt8 → List UInt8} {A : Nat → Prop} {sb : Nat} {T : List Pc} {w w0 : World} {b o : Nat} {x : NdH} {kv : Value} {n cb : Nat} {ks : List Tr}

set_option maxHeartbeats 4000000 in
theorem while38 {t0 t1 : Tr} (hg : ∀ x ks, G x ks = true → x.str.size < 4611686018427387904) (J : Job G A sb T w0 w b o x kv n cb ([t0, t1])) (hk : x.kind = 50) : Calls Tryd.prog 38 #[.pointer (some ⟨sb, 0, none⟩), .pointer (some ⟨b, o, none⟩)] w (Spelt G qt A sb T w0 w x ([t0, t1])) := by
  have hT := J.hT
  have hw := hid' J.hw
  have hA := hid' J.hA
  have hB : Hid (∀ {L n W}, St G (spellT qt) w0 A sb T w L n W → NdAt W b o x kv ∧ b < W.heap.size) := fun h => ⟨J.hat.below (h.bel J.hw J.hA) J.hb, Nat.lt_of_lt_of_le J.hb (h.bel J.hw J.hA).size⟩
  obtain ⟨c0, c1, c2, c3, c4, _⟩ := J.hat.below J.hw J.hb
  have hbw := Nat.lt_of_lt_of_le J.hb J.hw.size
  have s0 := St.start (G := G) (sp := spellT qt) (w0 := w0) J.sp
  have HK := hid' J.hK
  have hGs := J.hG
  obtain ⟨hkl, ao, cap, rfl⟩ := J.hK.shape
  obtain ⟨m0, b0, off0, x0, kv0, ks0, _, ea0, ⟨hb0, _⟩, e0, hat0, hK0⟩ := HK.out.kid 0 (by simp)
  subst ea0
  simp at e0 hat0
  subst e0
  obtain ⟨m1, b1, off1, x1, kv1, ks1, _, ea1, ⟨hb1, _⟩, e1, hat1, hK1⟩ := HK.out.kid 1 (by simp)
  injection ea1 with ea1
  injection ea1 with eb1 ec1
  subst eb1 ec1
  simp at e1 hat1
  subst e1
  simp only [allL_cons, allL_nil, Bool.and_true, Bool.and_eq_true] at hGs
  have g0 : allT G (Tr.node x0 ks0) = true := hGs.1
  have z0 : G x0 ks0 = true := by rw [allT_node, Bool.and_eq_true] at g0; exact g0.1
  have K0 : Hid (Kid G w0 b0 off0 x0 kv0 m0 cb ks0) := ⟨hat0, hb0, hK0, g0, hg _ _ z0⟩
  have zz0 := szT_pos (Tr.node x0 ks0)
  have g1 : allT G (Tr.node x1 ks1) = true := hGs.2
  have z1 : G x1 ks1 = true := by rw [allT_node, Bool.and_eq_true] at g1; exact g1.1
  have K1 : Hid (Kid G w0 b0 (off0 + 6) x1 kv1 m1 cb ks1) := ⟨hat1, hb1, hK1, g1, hg _ _ z1⟩
  have zz1 := szT_pos (Tr.node x1 ks1)
  simp only [szL_cons, szL_nil] at hT
  have ww0 : wtT (Tr.node x0 ks0) + 3 = 23 * szT (Tr.node x0 ks0) := by unfold wtT; omega
  have ww1 : wtT (Tr.node x1 ks1) + 3 = 23 * szT (Tr.node x1 ks1) := by unfold wtT; omega
  have hF : Hid ([] ++ (lst ⟨#[119, 104, 105, 108, 101, 32, 40]⟩ ++ (spellT qt (Tr.node x0 ks0) ++ [41, 10])) ++ spellT qt (Tr.node x1 ks1) = spellN qt x ([Tr.node x0 ks0, Tr.node x1 ks1]) (([Tr.node x0 ks0, Tr.node x1 ks1]).map (spellT qt))) := by
    unfold Hid spellN
    simp [hk, lst]
  have hn : Hid (0 + (wtT (Tr.node x0 ks0) + 2) + wtT (Tr.node x1 ks1) ≤ 19 + 23 * szL ([Tr.node x0 ks0, Tr.node x1 ks1])) := by
    unfold Hid
    simp only [List.length_cons, List.length_nil, szL_cons, szL_nil]
    omega
  simp at hkl
  rw [hk] at c0
  go_enter Tryd.func38, Tryd.ntmps38
  go_wp2_with (first
    | (go_at_call 55; refine (K1.out.put s1.out (by simp; omega)).mono ?_; rintro e w2 ⟨rfl, s2⟩; obtain ⟨⟨c0_1, c1_1, c2_1, c3_1, c4_1, c5_1⟩, l_1⟩ := hB.out s2.out)
    | (go_at_call 58; refine (head_st ⟨#[119, 104, 105, 108, 101, 32, 40]⟩ K0.out s0.out (by simp; omega)).mono ?_; rintro e w1 ⟨rfl, s1⟩; obtain ⟨⟨c0_0, c1_0, c2_0, c3_0, c4_0, c5_0⟩, l_0⟩ := hB.out s1.out))
  go_end0
  exact s2.out.laid hF.out hn.out

set_option maxHeartbeats 4000000 in
theorem do38 {t0 t1 : Tr} (hg : ∀ x ks, G x ks = true → x.str.size < 4611686018427387904) (J : Job G A sb T w0 w b o x kv n cb ([t0, t1])) (hk : x.kind = 51) : Calls Tryd.prog 38 #[.pointer (some ⟨sb, 0, none⟩), .pointer (some ⟨b, o, none⟩)] w (Spelt G qt A sb T w0 w x ([t0, t1])) := by
  have hT := J.hT
  have hw := hid' J.hw
  have hA := hid' J.hA
  have hB : Hid (∀ {L n W}, St G (spellT qt) w0 A sb T w L n W → NdAt W b o x kv ∧ b < W.heap.size) := fun h => ⟨J.hat.below (h.bel J.hw J.hA) J.hb, Nat.lt_of_lt_of_le J.hb (h.bel J.hw J.hA).size⟩
  obtain ⟨c0, c1, c2, c3, c4, _⟩ := J.hat.below J.hw J.hb
  have hbw := Nat.lt_of_lt_of_le J.hb J.hw.size
  have s0 := St.start (G := G) (sp := spellT qt) (w0 := w0) J.sp
  have HK := hid' J.hK
  have hGs := J.hG
  obtain ⟨hkl, ao, cap, rfl⟩ := J.hK.shape
  obtain ⟨m0, b0, off0, x0, kv0, ks0, _, ea0, ⟨hb0, _⟩, e0, hat0, hK0⟩ := HK.out.kid 0 (by simp)
  subst ea0
  simp at e0 hat0
  subst e0
  obtain ⟨m1, b1, off1, x1, kv1, ks1, _, ea1, ⟨hb1, _⟩, e1, hat1, hK1⟩ := HK.out.kid 1 (by simp)
  injection ea1 with ea1
  injection ea1 with eb1 ec1
  subst eb1 ec1
  simp at e1 hat1
  subst e1
  simp only [allL_cons, allL_nil, Bool.and_true, Bool.and_eq_true] at hGs
  have g0 : allT G (Tr.node x0 ks0) = true := hGs.1
  have z0 : G x0 ks0 = true := by rw [allT_node, Bool.and_eq_true] at g0; exact g0.1
  have K0 : Hid (Kid G w0 b0 off0 x0 kv0 m0 cb ks0) := ⟨hat0, hb0, hK0, g0, hg _ _ z0⟩
  have zz0 := szT_pos (Tr.node x0 ks0)
  have g1 : allT G (Tr.node x1 ks1) = true := hGs.2
  have z1 : G x1 ks1 = true := by rw [allT_node, Bool.and_eq_true] at g1; exact g1.1
  have K1 : Hid (Kid G w0 b0 (off0 + 6) x1 kv1 m1 cb ks1) := ⟨hat1, hb1, hK1, g1, hg _ _ z1⟩
  have zz1 := szT_pos (Tr.node x1 ks1)
  simp only [szL_cons, szL_nil] at hT
  have ww0 : wtT (Tr.node x0 ks0) + 3 = 23 * szT (Tr.node x0 ks0) := by unfold wtT; omega
  have ww1 : wtT (Tr.node x1 ks1) + 3 = 23 * szT (Tr.node x1 ks1) := by unfold wtT; omega
  have hF : Hid ([] ++ (List.map lst [(⟨#[100, 111, 10]⟩ : ByteArray)]).flatten ++ spellT qt (Tr.node x0 ks0) ++ (List.map lst [(⟨#[119, 104, 105, 108, 101, 32, 40]⟩ : ByteArray)]).flatten ++ spellT qt (Tr.node x1 ks1) ++ (List.map lst [(⟨#[41, 59, 10]⟩ : ByteArray)]).flatten = spellN qt x ([Tr.node x0 ks0, Tr.node x1 ks1]) (([Tr.node x0 ks0, Tr.node x1 ks1]).map (spellT qt))) := by
    unfold Hid spellN
    simp [hk, lst]
  have hn : Hid (0 + [(⟨#[100, 111, 10]⟩ : ByteArray)].length + wtT (Tr.node x0 ks0) + [(⟨#[119, 104, 105, 108, 101, 32, 40]⟩ : ByteArray)].length + wtT (Tr.node x1 ks1) + [(⟨#[41, 59, 10]⟩ : ByteArray)].length ≤ 19 + 23 * szL ([Tr.node x0 ks0, Tr.node x1 ks1])) := by
    unfold Hid
    simp only [List.length_cons, List.length_nil, szL_cons, szL_nil]
    omega
  simp at hkl
  rw [hk] at c0
  go_enter Tryd.func38, Tryd.ntmps38
  go_wp2_with (first
    | (go_at_call 50; refine (say_st [(⟨#[41, 59, 10]⟩ : ByteArray)] s4.out (by simp; omega) _ _ rfl rfl).mono ?_; rintro e w5 ⟨rfl, s5⟩; obtain ⟨⟨c0_4, c1_4, c2_4, c3_4, c4_4, c5_4⟩, l_4⟩ := hB.out s5.out)
    | (go_at_call 55; refine (K1.out.put s3.out (by simp; omega)).mono ?_; rintro e w4 ⟨rfl, s4⟩; obtain ⟨⟨c0_3, c1_3, c2_3, c3_3, c4_3, c5_3⟩, l_3⟩ := hB.out s4.out)
    | (go_at_call 50; refine (say_st [(⟨#[119, 104, 105, 108, 101, 32, 40]⟩ : ByteArray)] s2.out (by simp; omega) _ _ rfl rfl).mono ?_; rintro e w3 ⟨rfl, s3⟩; obtain ⟨⟨c0_2, c1_2, c2_2, c3_2, c4_2, c5_2⟩, l_2⟩ := hB.out s3.out)
    | (go_at_call 55; refine (K0.out.put s1.out (by simp; omega)).mono ?_; rintro e w2 ⟨rfl, s2⟩; obtain ⟨⟨c0_1, c1_1, c2_1, c3_1, c4_1, c5_1⟩, l_1⟩ := hB.out s2.out)
    | (go_at_call 50; refine (say_st [(⟨#[100, 111, 10]⟩ : ByteArray)] s0.out (by simp; omega) _ _ rfl rfl).mono ?_; rintro e w1 ⟨rfl, s1⟩; obtain ⟨⟨c0_0, c1_0, c2_0, c3_0, c4_0, c5_0⟩, l_0⟩ := hB.out s1.out))
  go_end0
  exact s5.out.laid hF.out hn.out
end
end Go.Proofs.YtnnnfabpceapcaaDoor

namespace Go.Proofs.YtnnnfabpceapcaaDoor
set_option linter.unusedSimpArgs false
open Go.RowKit
set_option linter.unusedVariables false
section
variable {G : NdH → List Tr → Bool} {qt : List UInt8 → List UInt8} {A : Nat → Prop} {sb : Nat} {T : List Pc} {w w0 : World} {b o : Nat} {x : NdH} {kv : Value} {n cb : Nat} {ks : List Tr}

set_option maxHeartbeats 4000000 in
theorem struct39 (hg : ∀ x ks, G x ks = true → x.str.size < 4611686018427387904) (J : Job G A sb T w0 w b o x kv n cb (ks)) (hk : x.kind = 41) : Calls Tryd.prog 39 #[.pointer (some ⟨sb, 0, none⟩), .pointer (some ⟨b, o, none⟩)] w (Spelt G qt A sb T w0 w x (ks)) := by
  have hT := J.hT
  have hw := hid' J.hw
  have hA := hid' J.hA
  have hB : Hid (∀ {L n W}, St G (spellT qt) w0 A sb T w L n W → NdAt W b o x kv ∧ b < W.heap.size) := fun h => ⟨J.hat.below (h.bel J.hw J.hA) J.hb, Nat.lt_of_lt_of_le J.hb (h.bel J.hw J.hA).size⟩
  obtain ⟨c0, c1, c2, c3, c4, _⟩ := J.hat.below J.hw J.hb
  have hbw := Nat.lt_of_lt_of_le J.hb J.hw.size
  have s0 := St.start (G := G) (sp := spellT qt) (w0 := w0) J.sp
  have HK := hid' J.hK
  have hGs := J.hG
  obtain ⟨hkl, ao, cap, rfl⟩ := J.hK.shape
  have hL := wtL_le ks
  have HG := hid' hGs
  have hF : Hid ([] ++ (List.map lst [(⟨#[115, 116, 114, 117, 99, 116, 32]⟩ : ByteArray), x.str, (⟨#[32, 123, 10]⟩ : ByteArray)]).flatten ++ joinL (lst ⟨#[]⟩) (ks.map (spellT qt)) ++ (List.map lst [(⟨#[125, 59, 10]⟩ : ByteArray)]).flatten = spellN qt x (ks) ((ks).map (spellT qt))) := by
    unfold Hid spellN
    simp [hk, lst]
  have hn : Hid (0 + [(⟨#[115, 116, 114, 117, 99, 116, 32]⟩ : ByteArray), x.str, (⟨#[32, 123, 10]⟩ : ByteArray)].length + wtL ks + [(⟨#[125, 59, 10]⟩ : ByteArray)].length ≤ 19 + 23 * szL (ks)) := by
    unfold Hid
    simp only [List.length_cons, List.length_nil, szL_cons, szL_nil]
    omega
  rw [hk] at c0
  go_enter Tryd.func39, Tryd.ntmps39
  go_wp2_with (first
    | (go_at_call 50; refine (say_st [(⟨#[125, 59, 10]⟩ : ByteArray)] s2.out (by simp; omega) _ _ rfl rfl).mono ?_; rintro e w3 ⟨rfl, s3⟩; obtain ⟨⟨c0_2, c1_2, c2_2, c3_2, c4_2, c5_2⟩, l_2⟩ := hB.out s3.out)
    | (go_at_call 56; refine (list_st ⟨#[]⟩ hw.out hA.out HK.out HG.out s1.out (by simp; omega)).mono ?_; rintro e w2 ⟨rfl, s2⟩; obtain ⟨⟨c0_1, c1_1, c2_1, c3_1, c4_1, c5_1⟩, l_1⟩ := hB.out s2.out)
    | (go_at_call 50; refine (say_st [(⟨#[115, 116, 114, 117, 99, 116, 32]⟩ : ByteArray), x.str, (⟨#[32, 123, 10]⟩ : ByteArray)] s0.out (by simp; omega) _ _ rfl rfl).mono ?_; rintro e w1 ⟨rfl, s1⟩; obtain ⟨⟨c0_0, c1_0, c2_0, c3_0, c4_0, c5_0⟩, l_0⟩ := hB.out s1.out))
  go_end0
  exact s3.out.laid hF.out hn.out

set_option maxHeartbeats 4000000 in
theorem list39 (hg : ∀ x ks, G x ks = true → x.str.size < 4611686018427387904) (J : Job G A sb T w0 w b o x kv n cb (ks)) (hk : x.kind = 44) : Calls Tryd.prog 39 #[.pointer (some ⟨sb, 0, none⟩), .pointer (some ⟨b, o, none⟩)] w (Spelt G qt A sb T w0 w x (ks)) := by
  have hT := J.hT
  have hw := hid' J.hw
  have hA := hid' J.hA
  have hB : Hid (∀ {L n W}, St G (spellT qt) w0 A sb T w L n W → NdAt W b o x kv ∧ b < W.heap.size) := fun h => ⟨J.hat.below (h.bel J.hw J.hA) J.hb, Nat.lt_of_lt_of_le J.hb (h.bel J.hw J.hA).size⟩
  obtain ⟨c0, c1, c2, c3, c4, _⟩ := J.hat.below J.hw J.hb
  have hbw := Nat.lt_of_lt_of_le J.hb J.hw.size
  have s0 := St.start (G := G) (sp := spellT qt) (w0 := w0) J.sp
  have HK := hid' J.hK
  have hGs := J.hG
  obtain ⟨hkl, ao, cap, rfl⟩ := J.hK.shape
  have hL := wtL_le ks
  have HG := hid' hGs
  have hF : Hid ([] ++ (List.map lst [(⟨#[123]⟩ : ByteArray)]).flatten ++ joinL (lst ⟨#[44, 32]⟩) (ks.map (spellT qt)) ++ (List.map lst [(⟨#[125]⟩ : ByteArray)]).flatten = spellN qt x (ks) ((ks).map (spellT qt))) := by
    unfold Hid spellN
    simp [hk, lst]
  have hn : Hid (0 + [(⟨#[123]⟩ : ByteArray)].length + wtL ks + [(⟨#[125]⟩ : ByteArray)].length ≤ 19 + 23 * szL (ks)) := by
    unfold Hid
    simp only [List.length_cons, List.length_nil, szL_cons, szL_nil]
    omega
  rw [hk] at c0
  go_enter Tryd.func39, Tryd.ntmps39
  go_wp2_with (first
    | (go_at_call 50; refine (say_st [(⟨#[125]⟩ : ByteArray)] s2.out (by simp; omega) _ _ rfl rfl).mono ?_; rintro e w3 ⟨rfl, s3⟩; obtain ⟨⟨c0_2, c1_2, c2_2, c3_2, c4_2, c5_2⟩, l_2⟩ := hB.out s3.out)
    | (go_at_call 56; refine (list_st ⟨#[44, 32]⟩ hw.out hA.out HK.out HG.out s1.out (by simp; omega)).mono ?_; rintro e w2 ⟨rfl, s2⟩; obtain ⟨⟨c0_1, c1_1, c2_1, c3_1, c4_1, c5_1⟩, l_1⟩ := hB.out s2.out)
    | (go_at_call 50; refine (say_st [(⟨#[123]⟩ : ByteArray)] s0.out (by simp; omega) _ _ rfl rfl).mono ?_; rintro e w1 ⟨rfl, s1⟩; obtain ⟨⟨c0_0, c1_0, c2_0, c3_0, c4_0, c5_0⟩, l_0⟩ := hB.out s1.out))
  go_end0
  exact s3.out.laid hF.out hn.out
end
end Go.Proofs.YtnnnfabpceapcaaDoor

namespace Go.Proofs.YtnnnfabpceapcaaDoor
set_option linter.unusedSimpArgs false
open Go.RowKit
set_option linter.unusedVariables false
section
variable {G : NdH → List Tr → Bool} {qt : List UInt8 → List UInt8} {A : Nat → Prop} {sb : Nat} {T : List Pc} {w w0 : World} {b o : Nat} {x : NdH} {kv : Value} {n cb : Nat} {ks : List Tr}

set_option maxHeartbeats 4000000 in
theorem param61_1_true {t0 : Tr} (hg : ∀ x ks, G x ks = true → x.str.size < 4611686018427387904) (J : Job G A sb T w0 w b o x kv n cb ([t0])) (hk : x.kind = 46) (hf : x.flag = true) (hm : x.num = 1) : Calls Tryd.prog 61 #[.pointer (some ⟨sb, 0, none⟩), .pointer (some ⟨b, o, none⟩)] w (Spelt G qt A sb T w0 w x ([t0])) := by
  have hT := J.hT
  have hw := hid' J.hw
  have hA := hid' J.hA
  have hB : Hid (∀ {L n W}, St G (spellT qt) w0 A sb T w L n W → NdAt W b o x kv ∧ b < W.heap.size) := fun h => ⟨J.hat.below (h.bel J.hw J.hA) J.hb, Nat.lt_of_lt_of_le J.hb (h.bel J.hw J.hA).size⟩
  obtain ⟨c0, c1, c2, c3, c4, _⟩ := J.hat.below J.hw J.hb
  have hbw := Nat.lt_of_lt_of_le J.hb J.hw.size
  have s0 := St.start (G := G) (sp := spellT qt) (w0 := w0) J.sp
  have HK := hid' J.hK
  have hGs := J.hG
  obtain ⟨hkl, ao, cap, rfl⟩ := J.hK.shape
  obtain ⟨m0, b0, off0, x0, kv0, ks0, _, ea0, ⟨hb0, _⟩, e0, hat0, hK0⟩ := HK.out.kid 0 (by simp)
  subst ea0
  simp at e0 hat0
  subst e0
  simp only [allL_cons, allL_nil, Bool.and_true] at hGs
  have g0 : allT G (Tr.node x0 ks0) = true := hGs
  have z0 : G x0 ks0 = true := by rw [allT_node, Bool.and_eq_true] at g0; exact g0.1
  have K0 : Hid (Kid G w0 b0 off0 x0 kv0 m0 cb ks0) := ⟨hat0, hb0, hK0, g0, hg _ _ z0⟩
  have zz0 := szT_pos (Tr.node x0 ks0)
  simp only [szL_cons, szL_nil] at hT
  have ww0 : wtT (Tr.node x0 ks0) + 3 = 23 * szT (Tr.node x0 ks0) := by unfold wtT; omega
  have hF : Hid ([] ++ spellT qt (Tr.node x0 ks0) ++ (List.map lst [(⟨#[32]⟩ : ByteArray)]).flatten ++ (List.map lst [(⟨#[42]⟩ : ByteArray)]).flatten ++ (List.map lst [x.str]).flatten ++ (List.map lst [(⟨#[91, 93]⟩ : ByteArray)]).flatten = spellN qt x ([Tr.node x0 ks0]) (([Tr.node x0 ks0]).map (spellT qt))) := by
    unfold Hid spellN
    simp [hk, lst, hf, hm]
  have hn : Hid (0 + wtT (Tr.node x0 ks0) + [(⟨#[32]⟩ : ByteArray)].length + [(⟨#[42]⟩ : ByteArray)].length + [x.str].length + [(⟨#[91, 93]⟩ : ByteArray)].length ≤ 19 + 23 * szL ([Tr.node x0 ks0])) := by
    unfold Hid
    simp only [List.length_cons, List.length_nil, szL_cons, szL_nil]
    omega
  simp at hkl
  rw [hk] at c0
  go_enter Tryd.func61, Tryd.ntmps61
  go_wp2_with (first
    | (go_at_call 50; refine (say_st [(⟨#[91, 93]⟩ : ByteArray)] s4.out (by simp; omega) _ _ rfl rfl).mono ?_; rintro e w5 ⟨rfl, s5⟩; obtain ⟨⟨c0_4, c1_4, c2_4, c3_4, c4_4, c5_4⟩, l_4⟩ := hB.out s5.out; rw [hf] at c3_4; rw [hm] at c2_4)
    | (go_at_call 50; refine (say_st [x.str] s3.out (by simp; omega) _ _ rfl rfl).mono ?_; rintro e w4 ⟨rfl, s4⟩; obtain ⟨⟨c0_3, c1_3, c2_3, c3_3, c4_3, c5_3⟩, l_3⟩ := hB.out s4.out; rw [hf] at c3_3; rw [hm] at c2_3)
    | (go_at_call 50; refine (say_st [(⟨#[42]⟩ : ByteArray)] s2.out (by simp; omega) _ _ rfl rfl).mono ?_; rintro e w3 ⟨rfl, s3⟩; obtain ⟨⟨c0_2, c1_2, c2_2, c3_2, c4_2, c5_2⟩, l_2⟩ := hB.out s3.out; rw [hf] at c3_2; rw [hm] at c2_2)
    | (go_at_call 50; refine (say_st [(⟨#[32]⟩ : ByteArray)] s1.out (by simp; omega) _ _ rfl rfl).mono ?_; rintro e w2 ⟨rfl, s2⟩; obtain ⟨⟨c0_1, c1_1, c2_1, c3_1, c4_1, c5_1⟩, l_1⟩ := hB.out s2.out; rw [hf] at c3_1; rw [hm] at c2_1)
    | (go_at_call 55; refine (K0.out.put s0.out (by simp; omega)).mono ?_; rintro e w1 ⟨rfl, s1⟩; obtain ⟨⟨c0_0, c1_0, c2_0, c3_0, c4_0, c5_0⟩, l_0⟩ := hB.out s1.out; rw [hf] at c3_0; rw [hm] at c2_0))
  go_end0
  exact s5.out.laid hF.out hn.out

set_option maxHeartbeats 4000000 in
theorem param61_1_false {t0 : Tr} (hg : ∀ x ks, G x ks = true → x.str.size < 4611686018427387904) (J : Job G A sb T w0 w b o x kv n cb ([t0])) (hk : x.kind = 46) (hf : x.flag = false) (hm : x.num = 1) : Calls Tryd.prog 61 #[.pointer (some ⟨sb, 0, none⟩), .pointer (some ⟨b, o, none⟩)] w (Spelt G qt A sb T w0 w x ([t0])) := by
  have hT := J.hT
  have hw := hid' J.hw
  have hA := hid' J.hA
  have hB : Hid (∀ {L n W}, St G (spellT qt) w0 A sb T w L n W → NdAt W b o x kv ∧ b < W.heap.size) := fun h => ⟨J.hat.below (h.bel J.hw J.hA) J.hb, Nat.lt_of_lt_of_le J.hb (h.bel J.hw J.hA).size⟩
  obtain ⟨c0, c1, c2, c3, c4, _⟩ := J.hat.below J.hw J.hb
  have hbw := Nat.lt_of_lt_of_le J.hb J.hw.size
  have s0 := St.start (G := G) (sp := spellT qt) (w0 := w0) J.sp
  have HK := hid' J.hK
  have hGs := J.hG
  obtain ⟨hkl, ao, cap, rfl⟩ := J.hK.shape
  obtain ⟨m0, b0, off0, x0, kv0, ks0, _, ea0, ⟨hb0, _⟩, e0, hat0, hK0⟩ := HK.out.kid 0 (by simp)
  subst ea0
  simp at e0 hat0
  subst e0
  simp only [allL_cons, allL_nil, Bool.and_true] at hGs
  have g0 : allT G (Tr.node x0 ks0) = true := hGs
  have z0 : G x0 ks0 = true := by rw [allT_node, Bool.and_eq_true] at g0; exact g0.1
  have K0 : Hid (Kid G w0 b0 off0 x0 kv0 m0 cb ks0) := ⟨hat0, hb0, hK0, g0, hg _ _ z0⟩
  have zz0 := szT_pos (Tr.node x0 ks0)
  simp only [szL_cons, szL_nil] at hT
  have ww0 : wtT (Tr.node x0 ks0) + 3 = 23 * szT (Tr.node x0 ks0) := by unfold wtT; omega
  have hF : Hid ([] ++ spellT qt (Tr.node x0 ks0) ++ (List.map lst [(⟨#[32]⟩ : ByteArray)]).flatten ++ (List.map lst [(⟨#[42]⟩ : ByteArray)]).flatten ++ (List.map lst [x.str]).flatten = spellN qt x ([Tr.node x0 ks0]) (([Tr.node x0 ks0]).map (spellT qt))) := by
    unfold Hid spellN
    simp [hk, lst, hf, hm]
  have hn : Hid (0 + wtT (Tr.node x0 ks0) + [(⟨#[32]⟩ : ByteArray)].length + [(⟨#[42]⟩ : ByteArray)].length + [x.str].length ≤ 19 + 23 * szL ([Tr.node x0 ks0])) := by
    unfold Hid
    simp only [List.length_cons, List.length_nil, szL_cons, szL_nil]
    omega
  simp at hkl
  rw [hk] at c0
  go_enter Tryd.func61, Tryd.ntmps61
  go_wp2_with (first
    | (go_at_call 50; refine (say_st [x.str] s3.out (by simp; omega) _ _ rfl rfl).mono ?_; rintro e w4 ⟨rfl, s4⟩; obtain ⟨⟨c0_3, c1_3, c2_3, c3_3, c4_3, c5_3⟩, l_3⟩ := hB.out s4.out; rw [hf] at c3_3; rw [hm] at c2_3)
    | (go_at_call 50; refine (say_st [(⟨#[42]⟩ : ByteArray)] s2.out (by simp; omega) _ _ rfl rfl).mono ?_; rintro e w3 ⟨rfl, s3⟩; obtain ⟨⟨c0_2, c1_2, c2_2, c3_2, c4_2, c5_2⟩, l_2⟩ := hB.out s3.out; rw [hf] at c3_2; rw [hm] at c2_2)
    | (go_at_call 50; refine (say_st [(⟨#[32]⟩ : ByteArray)] s1.out (by simp; omega) _ _ rfl rfl).mono ?_; rintro e w2 ⟨rfl, s2⟩; obtain ⟨⟨c0_1, c1_1, c2_1, c3_1, c4_1, c5_1⟩, l_1⟩ := hB.out s2.out; rw [hf] at c3_1; rw [hm] at c2_1)
    | (go_at_call 55; refine (K0.out.put s0.out (by simp; omega)).mono ?_; rintro e w1 ⟨rfl, s1⟩; obtain ⟨⟨c0_0, c1_0, c2_0, c3_0, c4_0, c5_0⟩, l_0⟩ := hB.out s1.out; rw [hf] at c3_0; rw [hm] at c2_0))
  go_end0
  exact s4.out.laid hF.out hn.out

set_option maxHeartbeats 4000000 in
theorem param61_0_true {t0 : Tr} (hg : ∀ x ks, G x ks = true → x.str.size < 4611686018427387904) (J : Job G A sb T w0 w b o x kv n cb ([t0])) (hk : x.kind = 46) (hf : x.flag = true) (hm : x.num ≠ 1) (hm' : (x.num == 1) = false) : Calls Tryd.prog 61 #[.pointer (some ⟨sb, 0, none⟩), .pointer (some ⟨b, o, none⟩)] w (Spelt G qt A sb T w0 w x ([t0])) := by
  have hT := J.hT
  have hw := hid' J.hw
  have hA := hid' J.hA
  have hB : Hid (∀ {L n W}, St G (spellT qt) w0 A sb T w L n W → NdAt W b o x kv ∧ b < W.heap.size) := fun h => ⟨J.hat.below (h.bel J.hw J.hA) J.hb, Nat.lt_of_lt_of_le J.hb (h.bel J.hw J.hA).size⟩
  obtain ⟨c0, c1, c2, c3, c4, _⟩ := J.hat.below J.hw J.hb
  have hbw := Nat.lt_of_lt_of_le J.hb J.hw.size
  have s0 := St.start (G := G) (sp := spellT qt) (w0 := w0) J.sp
  have HK := hid' J.hK
  have hGs := J.hG
  obtain ⟨hkl, ao, cap, rfl⟩ := J.hK.shape
  obtain ⟨m0, b0, off0, x0, kv0, ks0, _, ea0, ⟨hb0, _⟩, e0, hat0, hK0⟩ := HK.out.kid 0 (by simp)
  subst ea0
  simp at e0 hat0
  subst e0
  simp only [allL_cons, allL_nil, Bool.and_true] at hGs
  have g0 : allT G (Tr.node x0 ks0) = true := hGs
  have z0 : G x0 ks0 = true := by rw [allT_node, Bool.and_eq_true] at g0; exact g0.1
  have K0 : Hid (Kid G w0 b0 off0 x0 kv0 m0 cb ks0) := ⟨hat0, hb0, hK0, g0, hg _ _ z0⟩
  have zz0 := szT_pos (Tr.node x0 ks0)
  simp only [szL_cons, szL_nil] at hT
  have ww0 : wtT (Tr.node x0 ks0) + 3 = 23 * szT (Tr.node x0 ks0) := by unfold wtT; omega
  have hF : Hid ([] ++ spellT qt (Tr.node x0 ks0) ++ (List.map lst [(⟨#[32]⟩ : ByteArray)]).flatten ++ (List.map lst [x.str]).flatten ++ (List.map lst [(⟨#[91, 93]⟩ : ByteArray)]).flatten = spellN qt x ([Tr.node x0 ks0]) (([Tr.node x0 ks0]).map (spellT qt))) := by
    unfold Hid spellN
    simp [hk, lst, hf, hm]
  have hn : Hid (0 + wtT (Tr.node x0 ks0) + [(⟨#[32]⟩ : ByteArray)].length + [x.str].length + [(⟨#[91, 93]⟩ : ByteArray)].length ≤ 19 + 23 * szL ([Tr.node x0 ks0])) := by
    unfold Hid
    simp only [List.length_cons, List.length_nil, szL_cons, szL_nil]
    omega
  simp at hkl
  rw [hk] at c0
  go_enter Tryd.func61, Tryd.ntmps61
  go_wp2_with (first
    | (go_at_call 50; refine (say_st [(⟨#[91, 93]⟩ : ByteArray)] s3.out (by simp; omega) _ _ rfl rfl).mono ?_; rintro e w4 ⟨rfl, s4⟩; obtain ⟨⟨c0_3, c1_3, c2_3, c3_3, c4_3, c5_3⟩, l_3⟩ := hB.out s4.out; rw [hf] at c3_3; skip)
    | (go_at_call 50; refine (say_st [x.str] s2.out (by simp; omega) _ _ rfl rfl).mono ?_; rintro e w3 ⟨rfl, s3⟩; obtain ⟨⟨c0_2, c1_2, c2_2, c3_2, c4_2, c5_2⟩, l_2⟩ := hB.out s3.out; rw [hf] at c3_2; skip)
    | (go_at_call 50; refine (say_st [(⟨#[32]⟩ : ByteArray)] s1.out (by simp; omega) _ _ rfl rfl).mono ?_; rintro e w2 ⟨rfl, s2⟩; obtain ⟨⟨c0_1, c1_1, c2_1, c3_1, c4_1, c5_1⟩, l_1⟩ := hB.out s2.out; rw [hf] at c3_1; skip)
    | (go_at_call 55; refine (K0.out.put s0.out (by simp; omega)).mono ?_; rintro e w1 ⟨rfl, s1⟩; obtain ⟨⟨c0_0, c1_0, c2_0, c3_0, c4_0, c5_0⟩, l_0⟩ := hB.out s1.out; rw [hf] at c3_0; skip))
  go_end0
  exact s4.out.laid hF.out hn.out

set_option maxHeartbeats 4000000 in
theorem param61_0_false {t0 : Tr} (hg : ∀ x ks, G x ks = true → x.str.size < 4611686018427387904) (J : Job G A sb T w0 w b o x kv n cb ([t0])) (hk : x.kind = 46) (hf : x.flag = false) (hm : x.num ≠ 1) (hm' : (x.num == 1) = false) : Calls Tryd.prog 61 #[.pointer (some ⟨sb, 0, none⟩), .pointer (some ⟨b, o, none⟩)] w (Spelt G qt A sb T w0 w x ([t0])) := by
  have hT := J.hT
  have hw := hid' J.hw
  have hA := hid' J.hA
  have hB : Hid (∀ {L n W}, St G (spellT qt) w0 A sb T w L n W → NdAt W b o x kv ∧ b < W.heap.size) := fun h => ⟨J.hat.below (h.bel J.hw J.hA) J.hb, Nat.lt_of_lt_of_le J.hb (h.bel J.hw J.hA).size⟩
  obtain ⟨c0, c1, c2, c3, c4, _⟩ := J.hat.below J.hw J.hb
  have hbw := Nat.lt_of_lt_of_le J.hb J.hw.size
  have s0 := St.start (G := G) (sp := spellT qt) (w0 := w0) J.sp
  have HK := hid' J.hK
  have hGs := J.hG
  obtain ⟨hkl, ao, cap, rfl⟩ := J.hK.shape
  obtain ⟨m0, b0, off0, x0, kv0, ks0, _, ea0, ⟨hb0, _⟩, e0, hat0, hK0⟩ := HK.out.kid 0 (by simp)
  subst ea0
  simp at e0 hat0
  subst e0
  simp only [allL_cons, allL_nil, Bool.and_true] at hGs
  have g0 : allT G (Tr.node x0 ks0) = true := hGs
  have z0 : G x0 ks0 = true := by rw [allT_node, Bool.and_eq_true] at g0; exact g0.1
  have K0 : Hid (Kid G w0 b0 off0 x0 kv0 m0 cb ks0) := ⟨hat0, hb0, hK0, g0, hg _ _ z0⟩
  have zz0 := szT_pos (Tr.node x0 ks0)
  simp only [szL_cons, szL_nil] at hT
  have ww0 : wtT (Tr.node x0 ks0) + 3 = 23 * szT (Tr.node x0 ks0) := by unfold wtT; omega
  have hF : Hid ([] ++ spellT qt (Tr.node x0 ks0) ++ (List.map lst [(⟨#[32]⟩ : ByteArray)]).flatten ++ (List.map lst [x.str]).flatten = spellN qt x ([Tr.node x0 ks0]) (([Tr.node x0 ks0]).map (spellT qt))) := by
    unfold Hid spellN
    simp [hk, lst, hf, hm]
  have hn : Hid (0 + wtT (Tr.node x0 ks0) + [(⟨#[32]⟩ : ByteArray)].length + [x.str].length ≤ 19 + 23 * szL ([Tr.node x0 ks0])) := by
    unfold Hid
    simp only [List.length_cons, List.length_nil, szL_cons, szL_nil]
    omega
  simp at hkl
  rw [hk] at c0
  go_enter Tryd.func61, Tryd.ntmps61
  go_wp2_with (first
    | (go_at_call 50; refine (say_st [x.str] s2.out (by simp; omega) _ _ rfl rfl).mono ?_; rintro e w3 ⟨rfl, s3⟩; obtain ⟨⟨c0_2, c1_2, c2_2, c3_2, c4_2, c5_2⟩, l_2⟩ := hB.out s3.out; rw [hf] at c3_2; skip)
    | (go_at_call 50; refine (say_st [(⟨#[32]⟩ : ByteArray)] s1.out (by simp; omega) _ _ rfl rfl).mono ?_; rintro e w2 ⟨rfl, s2⟩; obtain ⟨⟨c0_1, c1_1, c2_1, c3_1, c4_1, c5_1⟩, l_1⟩ := hB.out s2.out; rw [hf] at c3_1; skip)
    | (go_at_call 55; refine (K0.out.put s0.out (by simp; omega)).mono ?_; rintro e w1 ⟨rfl, s1⟩; obtain ⟨⟨c0_0, c1_0, c2_0, c3_0, c4_0, c5_0⟩, l_0⟩ := hB.out s1.out; rw [hf] at c3_0; skip))
  go_end0
  exact s3.out.laid hF.out hn.out
end
end Go.Proofs.YtnnnfabpceapcaaDoor
