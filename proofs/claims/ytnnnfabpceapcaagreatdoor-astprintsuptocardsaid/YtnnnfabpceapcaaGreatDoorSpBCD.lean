/- The speller: blocks and words. -/
import Derived.Test.YtnnnfabpceapcaaGreatDoorSpA
import Derived.Deep.QuietTactic
import Derived.BigQuiet
import Derived.Deep.RegionWith
namespace Go.Proofs.YtnnnfabpceapcaaGreatDoor
set_option linter.unusedSimpArgs false
set_option linter.unusedSimpArgs false
open Go.RowKit
set_option linter.unusedVariables false
section
variable {G : NdH → List Tr → Bool} {qt : List UInt8 → List UInt8} {A : Nat → Prop} {sb : Nat} {T : List Pc} {w w0 : World} {b o : Nat} {x : NdH} {kv : Value} {n cb : Nat} {ks : List Tr}

set_option maxHeartbeats 4000000 in
theorem block38 (hg : ∀ x ks, G x ks = true → x.str.size < 4611686018427387904) (J : Job G A sb T w0 w b o x kv n cb (ks)) (hk : x.kind = 47) : Calls Tryz.prog 56 #[.pointer (some ⟨sb, 0, none⟩), .pointer (some ⟨b, o, none⟩)] w (Spelt G qt A sb T w0 w x (ks)) := by
  have hT := J.hT
  have hw := hid' J.hw
  have hA := hid' J.hA
  have hB : Hid (∀ {L n W}, St G (spellT qt) w0 A sb T w L n W → NdAt W b o x kv ∧ b < W.heap.size) := fun h => ⟨J.hat.below (h.bel J.hw J.hA) J.hb, Nat.lt_of_lt_of_le J.hb (h.bel J.hw J.hA).size⟩
  obtain ⟨c0, c1, c2, c3, c4, _⟩ := J.hat.below J.hw J.hb
  have hbw := Nat.lt_of_lt_of_le J.hb J.hw.size
  have s0 := St.start (G := G) (sp := spellT qt) (w0 := w0) J.sp
  have HK := hid' J.hK
  have hGs := J.hG
  obtain ⟨hkl, ao, cap, rfl⟩ := J.hK.shape
  have hL := wtL_le ks
  have HG := hid' hGs
  have hF : Hid ([] ++ (List.map lst [(⟨#[123, 10]⟩ : ByteArray)]).flatten ++ joinL (lst ⟨#[]⟩) (ks.map (spellT qt)) ++ (List.map lst [(⟨#[125, 10]⟩ : ByteArray)]).flatten = spellN qt x (ks) ((ks).map (spellT qt))) := by
    unfold Hid spellN
    simp [hk, lst]
  have hn : Hid (0 + [(⟨#[123, 10]⟩ : ByteArray)].length + wtL ks + [(⟨#[125, 10]⟩ : ByteArray)].length ≤ 19 + 23 * szL (ks)) := by
    unfold Hid
    simp only [List.length_cons, List.length_nil, szL_cons, szL_nil]
    omega
  rw [hk] at c0
  go_enter Tryz.func56, Tryz.ntmps56
  go_wp2_with (first
    | (go_at_call 79; refine (say_st [(⟨#[125, 10]⟩ : ByteArray)] s2.out (by simp; omega) _ _ rfl rfl).mono ?_; rintro e w3 ⟨rfl, s3⟩; obtain ⟨⟨c0_2, c1_2, c2_2, c3_2, c4_2, c5_2⟩, l_2⟩ := hB.out s3.out)
    | (go_at_call 85; refine (list_st ⟨#[]⟩ hw.out hA.out HK.out HG.out s1.out (by simp; omega)).mono ?_; rintro e w2 ⟨rfl, s2⟩; obtain ⟨⟨c0_1, c1_1, c2_1, c3_1, c4_1, c5_1⟩, l_1⟩ := hB.out s2.out)
    | (go_at_call 79; refine (say_st [(⟨#[123, 10]⟩ : ByteArray)] s0.out (by simp; omega) _ _ rfl rfl).mono ?_; rintro e w1 ⟨rfl, s1⟩; obtain ⟨⟨c0_0, c1_0, c2_0, c3_0, c4_0, c5_0⟩, l_0⟩ := hB.out s1.out))
  go_end0
  exact s3.out.laid hF.out hn.out

set_option maxHeartbeats 4000000 in
theorem eval38 {t0 : Tr} (hg : ∀ x ks, G x ks = true → x.str.size < 4611686018427387904) (J : Job G A sb T w0 w b o x kv n cb ([t0])) (hk : x.kind = 48) : Calls Tryz.prog 56 #[.pointer (some ⟨sb, 0, none⟩), .pointer (some ⟨b, o, none⟩)] w (Spelt G qt A sb T w0 w x ([t0])) := by
  have hT := J.hT
  have hw := hid' J.hw
  have hA := hid' J.hA
  have hB : Hid (∀ {L n W}, St G (spellT qt) w0 A sb T w L n W → NdAt W b o x kv ∧ b < W.heap.size) := fun h => ⟨J.hat.below (h.bel J.hw J.hA) J.hb, Nat.lt_of_lt_of_le J.hb (h.bel J.hw J.hA).size⟩
  obtain ⟨c0, c1, c2, c3, c4, _⟩ := J.hat.below J.hw J.hb
  have hbw := Nat.lt_of_lt_of_le J.hb J.hw.size
  have s0 := St.start (G := G) (sp := spellT qt) (w0 := w0) J.sp
  have HK := hid' J.hK
  have hGs := J.hG
  obtain ⟨hkl, ao, cap, rfl⟩ := J.hK.shape
  obtain ⟨m0, b0, off0, x0, kv0, ks0, _, ea0, ⟨hb0, _⟩, e0, hat0, hK0⟩ := HK.out.kid 0 (by simp)
  subst ea0
  simp at e0 hat0
  subst e0
  simp only [allL_cons, allL_nil, Bool.and_true] at hGs
  have g0 : allT G (Tr.node x0 ks0) = true := hGs
  have z0 : G x0 ks0 = true := by rw [allT_node, Bool.and_eq_true] at g0; exact g0.1
  have K0 : Hid (Kid G w0 b0 off0 x0 kv0 m0 cb ks0) := ⟨hat0, hb0, hK0, g0, hg _ _ z0⟩
  have zz0 := szT_pos (Tr.node x0 ks0)
  simp only [szL_cons, szL_nil] at hT
  have ww0 : wtT (Tr.node x0 ks0) + 3 = 23 * szT (Tr.node x0 ks0) := by unfold wtT; omega
  have hF : Hid ([] ++ spellT qt (Tr.node x0 ks0) ++ (List.map lst [(⟨#[59, 10]⟩ : ByteArray)]).flatten = spellN qt x ([Tr.node x0 ks0]) (([Tr.node x0 ks0]).map (spellT qt))) := by
    unfold Hid spellN
    simp [hk, lst]
  have hn : Hid (0 + wtT (Tr.node x0 ks0) + [(⟨#[59, 10]⟩ : ByteArray)].length ≤ 19 + 23 * szL ([Tr.node x0 ks0])) := by
    unfold Hid
    simp only [List.length_cons, List.length_nil, szL_cons, szL_nil]
    omega
  simp at hkl
  rw [hk] at c0
  go_enter Tryz.func56, Tryz.ntmps56
  go_wp2_with (first
    | (go_at_call 79; refine (say_st [(⟨#[59, 10]⟩ : ByteArray)] s1.out (by simp; omega) _ _ rfl rfl).mono ?_; rintro e w2 ⟨rfl, s2⟩; obtain ⟨⟨c0_1, c1_1, c2_1, c3_1, c4_1, c5_1⟩, l_1⟩ := hB.out s2.out)
    | (go_at_call 84; refine (K0.out.put s0.out (by simp; omega)).mono ?_; rintro e w1 ⟨rfl, s1⟩; obtain ⟨⟨c0_0, c1_0, c2_0, c3_0, c4_0, c5_0⟩, l_0⟩ := hB.out s1.out))
  go_end0
  exact s2.out.laid hF.out hn.out

set_option maxHeartbeats 4000000 in
theorem break38 (hg : ∀ x ks, G x ks = true → x.str.size < 4611686018427387904) (J : Job G A sb T w0 w b o x kv n cb (ks)) (hk : x.kind = 53) : Calls Tryz.prog 56 #[.pointer (some ⟨sb, 0, none⟩), .pointer (some ⟨b, o, none⟩)] w (Spelt G qt A sb T w0 w x (ks)) := by
  have hT := J.hT
  have hw := hid' J.hw
  have hA := hid' J.hA
  have hB : Hid (∀ {L n W}, St G (spellT qt) w0 A sb T w L n W → NdAt W b o x kv ∧ b < W.heap.size) := fun h => ⟨J.hat.below (h.bel J.hw J.hA) J.hb, Nat.lt_of_lt_of_le J.hb (h.bel J.hw J.hA).size⟩
  obtain ⟨c0, c1, c2, c3, c4, _⟩ := J.hat.below J.hw J.hb
  have hbw := Nat.lt_of_lt_of_le J.hb J.hw.size
  have s0 := St.start (G := G) (sp := spellT qt) (w0 := w0) J.sp
  have HK := hid' J.hK
  have hGs := J.hG
  obtain ⟨hkl, ao, cap, rfl⟩ := J.hK.shape
  have hL := wtL_le ks
  have HG := hid' hGs
  have hF : Hid ([] ++ (List.map lst [(⟨#[98, 114, 101, 97, 107, 59, 10]⟩ : ByteArray)]).flatten = spellN qt x (ks) ((ks).map (spellT qt))) := by
    unfold Hid spellN
    simp [hk, lst]
  have hn : Hid (0 + [(⟨#[98, 114, 101, 97, 107, 59, 10]⟩ : ByteArray)].length ≤ 19 + 23 * szL (ks)) := by
    unfold Hid
    simp only [List.length_cons, List.length_nil, szL_cons, szL_nil]
    omega
  rw [hk] at c0
  go_enter Tryz.func56, Tryz.ntmps56
  go_wp2_with (first
    | (go_at_call 79; refine (say_st [(⟨#[98, 114, 101, 97, 107, 59, 10]⟩ : ByteArray)] s0.out (by simp; omega) _ _ rfl rfl).mono ?_; rintro e w1 ⟨rfl, s1⟩; obtain ⟨⟨c0_0, c1_0, c2_0, c3_0, c4_0, c5_0⟩, l_0⟩ := hB.out s1.out))
  go_end0
  exact s1.out.laid hF.out hn.out

set_option maxHeartbeats 4000000 in
theorem continue38 (hg : ∀ x ks, G x ks = true → x.str.size < 4611686018427387904) (J : Job G A sb T w0 w b o x kv n cb (ks)) (hk : x.kind = 54) : Calls Tryz.prog 56 #[.pointer (some ⟨sb, 0, none⟩), .pointer (some ⟨b, o, none⟩)] w (Spelt G qt A sb T w0 w x (ks)) := by
  have hT := J.hT
  have hw := hid' J.hw
  have hA := hid' J.hA
  have hB : Hid (∀ {L n W}, St G (spellT qt) w0 A sb T w L n W → NdAt W b o x kv ∧ b < W.heap.size) := fun h => ⟨J.hat.below (h.bel J.hw J.hA) J.hb, Nat.lt_of_lt_of_le J.hb (h.bel J.hw J.hA).size⟩
  obtain ⟨c0, c1, c2, c3, c4, _⟩ := J.hat.below J.hw J.hb
  have hbw := Nat.lt_of_lt_of_le J.hb J.hw.size
  have s0 := St.start (G := G) (sp := spellT qt) (w0 := w0) J.sp
  have HK := hid' J.hK
  have hGs := J.hG
  obtain ⟨hkl, ao, cap, rfl⟩ := J.hK.shape
  have hL := wtL_le ks
  have HG := hid' hGs
  have hF : Hid ([] ++ (List.map lst [(⟨#[99, 111, 110, 116, 105, 110, 117, 101, 59, 10]⟩ : ByteArray)]).flatten = spellN qt x (ks) ((ks).map (spellT qt))) := by
    unfold Hid spellN
    simp [hk, lst]
  have hn : Hid (0 + [(⟨#[99, 111, 110, 116, 105, 110, 117, 101, 59, 10]⟩ : ByteArray)].length ≤ 19 + 23 * szL (ks)) := by
    unfold Hid
    simp only [List.length_cons, List.length_nil, szL_cons, szL_nil]
    omega
  rw [hk] at c0
  go_enter Tryz.func56, Tryz.ntmps56
  go_wp2_with (first
    | (go_at_call 79; refine (say_st [(⟨#[99, 111, 110, 116, 105, 110, 117, 101, 59, 10]⟩ : ByteArray)] s0.out (by simp; omega) _ _ rfl rfl).mono ?_; rintro e w1 ⟨rfl, s1⟩; obtain ⟨⟨c0_0, c1_0, c2_0, c3_0, c4_0, c5_0⟩, l_0⟩ := hB.out s1.out))
  go_end0
  exact s1.out.laid hF.out hn.out

set_option maxHeartbeats 4000000 in
theorem none38 (hg : ∀ x ks, G x ks = true → x.str.size < 4611686018427387904) (J : Job G A sb T w0 w b o x kv n cb (ks)) (hk : x.kind = 56) : Calls Tryz.prog 56 #[.pointer (some ⟨sb, 0, none⟩), .pointer (some ⟨b, o, none⟩)] w (Spelt G qt A sb T w0 w x (ks)) := by
  have hT := J.hT
  have hw := hid' J.hw
  have hA := hid' J.hA
  have hB : Hid (∀ {L n W}, St G (spellT qt) w0 A sb T w L n W → NdAt W b o x kv ∧ b < W.heap.size) := fun h => ⟨J.hat.below (h.bel J.hw J.hA) J.hb, Nat.lt_of_lt_of_le J.hb (h.bel J.hw J.hA).size⟩
  obtain ⟨c0, c1, c2, c3, c4, _⟩ := J.hat.below J.hw J.hb
  have hbw := Nat.lt_of_lt_of_le J.hb J.hw.size
  have s0 := St.start (G := G) (sp := spellT qt) (w0 := w0) J.sp
  have HK := hid' J.hK
  have hGs := J.hG
  obtain ⟨hkl, ao, cap, rfl⟩ := J.hK.shape
  have hL := wtL_le ks
  have HG := hid' hGs
  have hF : Hid ([] ++ (List.map lst [(⟨#[59, 10]⟩ : ByteArray)]).flatten = spellN qt x (ks) ((ks).map (spellT qt))) := by
    unfold Hid spellN
    simp [hk, lst]
  have hn : Hid (0 + [(⟨#[59, 10]⟩ : ByteArray)].length ≤ 19 + 23 * szL (ks)) := by
    unfold Hid
    simp only [List.length_cons, List.length_nil, szL_cons, szL_nil]
    omega
  rw [hk] at c0
  go_enter Tryz.func56, Tryz.ntmps56
  go_wp2_with (first
    | (go_at_call 79; refine (say_st [(⟨#[59, 10]⟩ : ByteArray)] s0.out (by simp; omega) _ _ rfl rfl).mono ?_; rintro e w1 ⟨rfl, s1⟩; obtain ⟨⟨c0_0, c1_0, c2_0, c3_0, c4_0, c5_0⟩, l_0⟩ := hB.out s1.out))
  go_end0
  exact s1.out.laid hF.out hn.out
end
end Go.Proofs.YtnnnfabpceapcaaGreatDoor

namespace Go.Proofs.YtnnnfabpceapcaaGreatDoor
set_option linter.unusedSimpArgs false
open Go.RowKit
set_option linter.unusedVariables false
section
variable {G : NdH → List Tr → Bool} {qt : List UInt8 → List UInt8} {A : Nat → Prop} {sb : Nat} {T : List Pc} {w w0 : World} {b o : Nat} {x : NdH} {kv : Value} {n cb : Nat} {ks : List Tr}

set_option maxHeartbeats 4000000 in
theorem while38 {t0 t1 : Tr} (hg : ∀ x ks, G x ks = true → x.str.size < 4611686018427387904) (J : Job G A sb T w0 w b o x kv n cb ([t0, t1])) (hk : x.kind = 50) : Calls Tryz.prog 56 #[.pointer (some ⟨sb, 0, none⟩), .pointer (some ⟨b, o, none⟩)] w (Spelt G qt A sb T w0 w x ([t0, t1])) := by
  have hT := J.hT
  have hw := hid' J.hw
  have hA := hid' J.hA
  have hB : Hid (∀ {L n W}, St G (spellT qt) w0 A sb T w L n W → NdAt W b o x kv ∧ b < W.heap.size) := fun h => ⟨J.hat.below (h.bel J.hw J.hA) J.hb, Nat.lt_of_lt_of_le J.hb (h.bel J.hw J.hA).size⟩
  obtain ⟨c0, c1, c2, c3, c4, _⟩ := J.hat.below J.hw J.hb
  have hbw := Nat.lt_of_lt_of_le J.hb J.hw.size
  have s0 := St.start (G := G) (sp := spellT qt) (w0 := w0) J.sp
  have HK := hid' J.hK
  have hGs := J.hG
  obtain ⟨hkl, ao, cap, rfl⟩ := J.hK.shape
  obtain ⟨m0, b0, off0, x0, kv0, ks0, _, ea0, ⟨hb0, _⟩, e0, hat0, hK0⟩ := HK.out.kid 0 (by simp)
  subst ea0
  simp at e0 hat0
  subst e0
  obtain ⟨m1, b1, off1, x1, kv1, ks1, _, ea1, ⟨hb1, _⟩, e1, hat1, hK1⟩ := HK.out.kid 1 (by simp)
  injection ea1 with ea1
  injection ea1 with eb1 ec1
  subst eb1 ec1
  simp at e1 hat1
  subst e1
  simp only [allL_cons, allL_nil, Bool.and_true, Bool.and_eq_true] at hGs
  have g0 : allT G (Tr.node x0 ks0) = true := hGs.1
  have z0 : G x0 ks0 = true := by rw [allT_node, Bool.and_eq_true] at g0; exact g0.1
  have K0 : Hid (Kid G w0 b0 off0 x0 kv0 m0 cb ks0) := ⟨hat0, hb0, hK0, g0, hg _ _ z0⟩
  have zz0 := szT_pos (Tr.node x0 ks0)
  have g1 : allT G (Tr.node x1 ks1) = true := hGs.2
  have z1 : G x1 ks1 = true := by rw [allT_node, Bool.and_eq_true] at g1; exact g1.1
  have K1 : Hid (Kid G w0 b0 (off0 + 6) x1 kv1 m1 cb ks1) := ⟨hat1, hb1, hK1, g1, hg _ _ z1⟩
  have zz1 := szT_pos (Tr.node x1 ks1)
  simp only [szL_cons, szL_nil] at hT
  have ww0 : wtT (Tr.node x0 ks0) + 3 = 23 * szT (Tr.node x0 ks0) := by unfold wtT; omega
  have ww1 : wtT (Tr.node x1 ks1) + 3 = 23 * szT (Tr.node x1 ks1) := by unfold wtT; omega
  have hF : Hid ([] ++ (lst ⟨#[119, 104, 105, 108, 101, 32, 40]⟩ ++ (spellT qt (Tr.node x0 ks0) ++ [41, 10])) ++ spellT qt (Tr.node x1 ks1) = spellN qt x ([Tr.node x0 ks0, Tr.node x1 ks1]) (([Tr.node x0 ks0, Tr.node x1 ks1]).map (spellT qt))) := by
    unfold Hid spellN
    simp [hk, lst]
  have hn : Hid (0 + (wtT (Tr.node x0 ks0) + 2) + wtT (Tr.node x1 ks1) ≤ 19 + 23 * szL ([Tr.node x0 ks0, Tr.node x1 ks1])) := by
    unfold Hid
    simp only [List.length_cons, List.length_nil, szL_cons, szL_nil]
    omega
  simp at hkl
  rw [hk] at c0
  go_enter Tryz.func56, Tryz.ntmps56
  go_wp2_with (first
    | (go_at_call 84; refine (K1.out.put s1.out (by simp; omega)).mono ?_; rintro e w2 ⟨rfl, s2⟩; obtain ⟨⟨c0_1, c1_1, c2_1, c3_1, c4_1, c5_1⟩, l_1⟩ := hB.out s2.out)
    | (go_at_call 87; refine (head_st ⟨#[119, 104, 105, 108, 101, 32, 40]⟩ K0.out s0.out (by simp; omega)).mono ?_; rintro e w1 ⟨rfl, s1⟩; obtain ⟨⟨c0_0, c1_0, c2_0, c3_0, c4_0, c5_0⟩, l_0⟩ := hB.out s1.out))
  go_end0
  exact s2.out.laid hF.out hn.out

set_option maxHeartbeats 4000000 in
theorem do38 {t0 t1 : Tr} (hg : ∀ x ks, G x ks = true → x.str.size < 4611686018427387904) (J : Job G A sb T w0 w b o x kv n cb ([t0, t1])) (hk : x.kind = 51) : Calls Tryz.prog 56 #[.pointer (some ⟨sb, 0, none⟩), .pointer (some ⟨b, o, none⟩)] w (Spelt G qt A sb T w0 w x ([t0, t1])) := by
  have hT := J.hT
  have hw := hid' J.hw
  have hA := hid' J.hA
  have hB : Hid (∀ {L n W}, St G (spellT qt) w0 A sb T w L n W → NdAt W b o x kv ∧ b < W.heap.size) := fun h => ⟨J.hat.below (h.bel J.hw J.hA) J.hb, Nat.lt_of_lt_of_le J.hb (h.bel J.hw J.hA).size⟩
  obtain ⟨c0, c1, c2, c3, c4, _⟩ := J.hat.below J.hw J.hb
  have hbw := Nat.lt_of_lt_of_le J.hb J.hw.size
  have s0 := St.start (G := G) (sp := spellT qt) (w0 := w0) J.sp
  have HK := hid' J.hK
  have hGs := J.hG
  obtain ⟨hkl, ao, cap, rfl⟩ := J.hK.shape
  obtain ⟨m0, b0, off0, x0, kv0, ks0, _, ea0, ⟨hb0, _⟩, e0, hat0, hK0⟩ := HK.out.kid 0 (by simp)
  subst ea0
  simp at e0 hat0
  subst e0
  obtain ⟨m1, b1, off1, x1, kv1, ks1, _, ea1, ⟨hb1, _⟩, e1, hat1, hK1⟩ := HK.out.kid 1 (by simp)
  injection ea1 with ea1
  injection ea1 with eb1 ec1
  subst eb1 ec1
  simp at e1 hat1
  subst e1
  simp only [allL_cons, allL_nil, Bool.and_true, Bool.and_eq_true] at hGs
  have g0 : allT G (Tr.node x0 ks0) = true := hGs.1
  have z0 : G x0 ks0 = true := by rw [allT_node, Bool.and_eq_true] at g0; exact g0.1
  have K0 : Hid (Kid G w0 b0 off0 x0 kv0 m0 cb ks0) := ⟨hat0, hb0, hK0, g0, hg _ _ z0⟩
  have zz0 := szT_pos (Tr.node x0 ks0)
  have g1 : allT G (Tr.node x1 ks1) = true := hGs.2
  have z1 : G x1 ks1 = true := by rw [allT_node, Bool.and_eq_true] at g1; exact g1.1
  have K1 : Hid (Kid G w0 b0 (off0 + 6) x1 kv1 m1 cb ks1) := ⟨hat1, hb1, hK1, g1, hg _ _ z1⟩
  have zz1 := szT_pos (Tr.node x1 ks1)
  simp only [szL_cons, szL_nil] at hT
  have ww0 : wtT (Tr.node x0 ks0) + 3 = 23 * szT (Tr.node x0 ks0) := by unfold wtT; omega
  have ww1 : wtT (Tr.node x1 ks1) + 3 = 23 * szT (Tr.node x1 ks1) := by unfold wtT; omega
  have hF : Hid ([] ++ (List.map lst [(⟨#[100, 111, 10]⟩ : ByteArray)]).flatten ++ spellT qt (Tr.node x0 ks0) ++ (List.map lst [(⟨#[119, 104, 105, 108, 101, 32, 40]⟩ : ByteArray)]).flatten ++ spellT qt (Tr.node x1 ks1) ++ (List.map lst [(⟨#[41, 59, 10]⟩ : ByteArray)]).flatten = spellN qt x ([Tr.node x0 ks0, Tr.node x1 ks1]) (([Tr.node x0 ks0, Tr.node x1 ks1]).map (spellT qt))) := by
    unfold Hid spellN
    simp [hk, lst]
  have hn : Hid (0 + [(⟨#[100, 111, 10]⟩ : ByteArray)].length + wtT (Tr.node x0 ks0) + [(⟨#[119, 104, 105, 108, 101, 32, 40]⟩ : ByteArray)].length + wtT (Tr.node x1 ks1) + [(⟨#[41, 59, 10]⟩ : ByteArray)].length ≤ 19 + 23 * szL ([Tr.node x0 ks0, Tr.node x1 ks1])) := by
    unfold Hid
    simp only [List.length_cons, List.length_nil, szL_cons, szL_nil]
    omega
  simp at hkl
  rw [hk] at c0
  go_enter Tryz.func56, Tryz.ntmps56
  go_wp2_with (first
    | (go_at_call 79; refine (say_st [(⟨#[41, 59, 10]⟩ : ByteArray)] s4.out (by simp; omega) _ _ rfl rfl).mono ?_; rintro e w5 ⟨rfl, s5⟩; obtain ⟨⟨c0_4, c1_4, c2_4, c3_4, c4_4, c5_4⟩, l_4⟩ := hB.out s5.out)
    | (go_at_call 84; refine (K1.out.put s3.out (by simp; omega)).mono ?_; rintro e w4 ⟨rfl, s4⟩; obtain ⟨⟨c0_3, c1_3, c2_3, c3_3, c4_3, c5_3⟩, l_3⟩ := hB.out s4.out)
    | (go_at_call 79; refine (say_st [(⟨#[119, 104, 105, 108, 101, 32, 40]⟩ : ByteArray)] s2.out (by simp; omega) _ _ rfl rfl).mono ?_; rintro e w3 ⟨rfl, s3⟩; obtain ⟨⟨c0_2, c1_2, c2_2, c3_2, c4_2, c5_2⟩, l_2⟩ := hB.out s3.out)
    | (go_at_call 84; refine (K0.out.put s1.out (by simp; omega)).mono ?_; rintro e w2 ⟨rfl, s2⟩; obtain ⟨⟨c0_1, c1_1, c2_1, c3_1, c4_1, c5_1⟩, l_1⟩ := hB.out s2.out)
    | (go_at_call 79; refine (say_st [(⟨#[100, 111, 10]⟩ : ByteArray)] s0.out (by simp; omega) _ _ rfl rfl).mono ?_; rintro e w1 ⟨rfl, s1⟩; obtain ⟨⟨c0_0, c1_0, c2_0, c3_0, c4_0, c5_0⟩, l_0⟩ := hB.out s1.out))
  go_end0
  exact s5.out.laid hF.out hn.out
end
end Go.Proofs.YtnnnfabpceapcaaGreatDoor

namespace Go.Proofs.YtnnnfabpceapcaaGreatDoor
set_option linter.unusedSimpArgs false
open Go.RowKit
set_option linter.unusedVariables false
section
variable {G : NdH → List Tr → Bool} {qt : List UInt8 → List UInt8} {A : Nat → Prop} {sb : Nat} {T : List Pc} {w w0 : World} {b o : Nat} {x : NdH} {kv : Value} {n cb : Nat} {ks : List Tr}

set_option maxHeartbeats 4000000 in
theorem struct39 (hg : ∀ x ks, G x ks = true → x.str.size < 4611686018427387904) (J : Job G A sb T w0 w b o x kv n cb (ks)) (hk : x.kind = 41) : Calls Tryz.prog 57 #[.pointer (some ⟨sb, 0, none⟩), .pointer (some ⟨b, o, none⟩)] w (Spelt G qt A sb T w0 w x (ks)) := by
  have hT := J.hT
  have hw := hid' J.hw
  have hA := hid' J.hA
  have hB : Hid (∀ {L n W}, St G (spellT qt) w0 A sb T w L n W → NdAt W b o x kv ∧ b < W.heap.size) := fun h => ⟨J.hat.below (h.bel J.hw J.hA) J.hb, Nat.lt_of_lt_of_le J.hb (h.bel J.hw J.hA).size⟩
  obtain ⟨c0, c1, c2, c3, c4, _⟩ := J.hat.below J.hw J.hb
  have hbw := Nat.lt_of_lt_of_le J.hb J.hw.size
  have s0 := St.start (G := G) (sp := spellT qt) (w0 := w0) J.sp
  have HK := hid' J.hK
  have hGs := J.hG
  obtain ⟨hkl, ao, cap, rfl⟩ := J.hK.shape
  have hL := wtL_le ks
  have HG := hid' hGs
  have hF : Hid ([] ++ (List.map lst [(⟨#[115, 116, 114, 117, 99, 116, 32]⟩ : ByteArray), x.str, (⟨#[32, 123, 10]⟩ : ByteArray)]).flatten ++ joinL (lst ⟨#[]⟩) (ks.map (spellT qt)) ++ (List.map lst [(⟨#[125, 59, 10]⟩ : ByteArray)]).flatten = spellN qt x (ks) ((ks).map (spellT qt))) := by
    unfold Hid spellN
    simp [hk, lst]
  have hn : Hid (0 + [(⟨#[115, 116, 114, 117, 99, 116, 32]⟩ : ByteArray), x.str, (⟨#[32, 123, 10]⟩ : ByteArray)].length + wtL ks + [(⟨#[125, 59, 10]⟩ : ByteArray)].length ≤ 19 + 23 * szL (ks)) := by
    unfold Hid
    simp only [List.length_cons, List.length_nil, szL_cons, szL_nil]
    omega
  rw [hk] at c0
  go_enter Tryz.func57, Tryz.ntmps57
  go_wp2_with (first
    | (go_at_call 79; refine (say_st [(⟨#[125, 59, 10]⟩ : ByteArray)] s2.out (by simp; omega) _ _ rfl rfl).mono ?_; rintro e w3 ⟨rfl, s3⟩; obtain ⟨⟨c0_2, c1_2, c2_2, c3_2, c4_2, c5_2⟩, l_2⟩ := hB.out s3.out)
    | (go_at_call 85; refine (list_st ⟨#[]⟩ hw.out hA.out HK.out HG.out s1.out (by simp; omega)).mono ?_; rintro e w2 ⟨rfl, s2⟩; obtain ⟨⟨c0_1, c1_1, c2_1, c3_1, c4_1, c5_1⟩, l_1⟩ := hB.out s2.out)
    | (go_at_call 79; refine (say_st [(⟨#[115, 116, 114, 117, 99, 116, 32]⟩ : ByteArray), x.str, (⟨#[32, 123, 10]⟩ : ByteArray)] s0.out (by simp; omega) _ _ rfl rfl).mono ?_; rintro e w1 ⟨rfl, s1⟩; obtain ⟨⟨c0_0, c1_0, c2_0, c3_0, c4_0, c5_0⟩, l_0⟩ := hB.out s1.out))
  go_end0
  exact s3.out.laid hF.out hn.out

set_option maxHeartbeats 4000000 in
theorem list39 (hg : ∀ x ks, G x ks = true → x.str.size < 4611686018427387904) (J : Job G A sb T w0 w b o x kv n cb (ks)) (hk : x.kind = 44) : Calls Tryz.prog 57 #[.pointer (some ⟨sb, 0, none⟩), .pointer (some ⟨b, o, none⟩)] w (Spelt G qt A sb T w0 w x (ks)) := by
  have hT := J.hT
  have hw := hid' J.hw
  have hA := hid' J.hA
  have hB : Hid (∀ {L n W}, St G (spellT qt) w0 A sb T w L n W → NdAt W b o x kv ∧ b < W.heap.size) := fun h => ⟨J.hat.below (h.bel J.hw J.hA) J.hb, Nat.lt_of_lt_of_le J.hb (h.bel J.hw J.hA).size⟩
  obtain ⟨c0, c1, c2, c3, c4, _⟩ := J.hat.below J.hw J.hb
  have hbw := Nat.lt_of_lt_of_le J.hb J.hw.size
  have s0 := St.start (G := G) (sp := spellT qt) (w0 := w0) J.sp
  have HK := hid' J.hK
  have hGs := J.hG
  obtain ⟨hkl, ao, cap, rfl⟩ := J.hK.shape
  have hL := wtL_le ks
  have HG := hid' hGs
  have hF : Hid ([] ++ (List.map lst [(⟨#[123]⟩ : ByteArray)]).flatten ++ joinL (lst ⟨#[44, 32]⟩) (ks.map (spellT qt)) ++ (List.map lst [(⟨#[125]⟩ : ByteArray)]).flatten = spellN qt x (ks) ((ks).map (spellT qt))) := by
    unfold Hid spellN
    simp [hk, lst]
  have hn : Hid (0 + [(⟨#[123]⟩ : ByteArray)].length + wtL ks + [(⟨#[125]⟩ : ByteArray)].length ≤ 19 + 23 * szL (ks)) := by
    unfold Hid
    simp only [List.length_cons, List.length_nil, szL_cons, szL_nil]
    omega
  rw [hk] at c0
  go_enter Tryz.func57, Tryz.ntmps57
  go_wp2_with (first
    | (go_at_call 79; refine (say_st [(⟨#[125]⟩ : ByteArray)] s2.out (by simp; omega) _ _ rfl rfl).mono ?_; rintro e w3 ⟨rfl, s3⟩; obtain ⟨⟨c0_2, c1_2, c2_2, c3_2, c4_2, c5_2⟩, l_2⟩ := hB.out s3.out)
    | (go_at_call 85; refine (list_st ⟨#[44, 32]⟩ hw.out hA.out HK.out HG.out s1.out (by simp; omega)).mono ?_; rintro e w2 ⟨rfl, s2⟩; obtain ⟨⟨c0_1, c1_1, c2_1, c3_1, c4_1, c5_1⟩, l_1⟩ := hB.out s2.out)
    | (go_at_call 79; refine (say_st [(⟨#[123]⟩ : ByteArray)] s0.out (by simp; omega) _ _ rfl rfl).mono ?_; rintro e w1 ⟨rfl, s1⟩; obtain ⟨⟨c0_0, c1_0, c2_0, c3_0, c4_0, c5_0⟩, l_0⟩ := hB.out s1.out))
  go_end0
  exact s3.out.laid hF.out hn.out
end
end Go.Proofs.YtnnnfabpceapcaaGreatDoor

namespace Go.Proofs.YtnnnfabpceapcaaGreatDoor
set_option linter.unusedSimpArgs false
open Go.RowKit
set_option linter.unusedVariables false
section
variable {G : NdH → List Tr → Bool} {qt : List UInt8 → List UInt8} {A : Nat → Prop} {sb : Nat} {T : List Pc} {w w0 : World} {b o : Nat} {x : NdH} {kv : Value} {n cb : Nat} {ks : List Tr}

set_option maxHeartbeats 4000000 in
theorem param61_1_true {t0 : Tr} (hg : ∀ x ks, G x ks = true → x.str.size < 4611686018427387904) (J : Job G A sb T w0 w b o x kv n cb ([t0])) (hk : x.kind = 46) (hf : x.flag = true) (hm : x.num = 1) : Calls Tryz.prog 90 #[.pointer (some ⟨sb, 0, none⟩), .pointer (some ⟨b, o, none⟩)] w (Spelt G qt A sb T w0 w x ([t0])) := by
  have hT := J.hT
  have hw := hid' J.hw
  have hA := hid' J.hA
  have hB : Hid (∀ {L n W}, St G (spellT qt) w0 A sb T w L n W → NdAt W b o x kv ∧ b < W.heap.size) := fun h => ⟨J.hat.below (h.bel J.hw J.hA) J.hb, Nat.lt_of_lt_of_le J.hb (h.bel J.hw J.hA).size⟩
  obtain ⟨c0, c1, c2, c3, c4, _⟩ := J.hat.below J.hw J.hb
  have hbw := Nat.lt_of_lt_of_le J.hb J.hw.size
  have s0 := St.start (G := G) (sp := spellT qt) (w0 := w0) J.sp
  have HK := hid' J.hK
  have hGs := J.hG
  obtain ⟨hkl, ao, cap, rfl⟩ := J.hK.shape
  obtain ⟨m0, b0, off0, x0, kv0, ks0, _, ea0, ⟨hb0, _⟩, e0, hat0, hK0⟩ := HK.out.kid 0 (by simp)
  subst ea0
  simp at e0 hat0
  subst e0
  simp only [allL_cons, allL_nil, Bool.and_true] at hGs
  have g0 : allT G (Tr.node x0 ks0) = true := hGs
  have z0 : G x0 ks0 = true := by rw [allT_node, Bool.and_eq_true] at g0; exact g0.1
  have K0 : Hid (Kid G w0 b0 off0 x0 kv0 m0 cb ks0) := ⟨hat0, hb0, hK0, g0, hg _ _ z0⟩
  have zz0 := szT_pos (Tr.node x0 ks0)
  simp only [szL_cons, szL_nil] at hT
  have ww0 : wtT (Tr.node x0 ks0) + 3 = 23 * szT (Tr.node x0 ks0) := by unfold wtT; omega
  have hF : Hid ([] ++ spellT qt (Tr.node x0 ks0) ++ (List.map lst [(⟨#[32]⟩ : ByteArray)]).flatten ++ (List.map lst [(⟨#[42]⟩ : ByteArray)]).flatten ++ (List.map lst [x.str]).flatten ++ (List.map lst [(⟨#[91, 93]⟩ : ByteArray)]).flatten = spellN qt x ([Tr.node x0 ks0]) (([Tr.node x0 ks0]).map (spellT qt))) := by
    unfold Hid spellN
    simp [hk, lst, hf, hm]
  have hn : Hid (0 + wtT (Tr.node x0 ks0) + [(⟨#[32]⟩ : ByteArray)].length + [(⟨#[42]⟩ : ByteArray)].length + [x.str].length + [(⟨#[91, 93]⟩ : ByteArray)].length ≤ 19 + 23 * szL ([Tr.node x0 ks0])) := by
    unfold Hid
    simp only [List.length_cons, List.length_nil, szL_cons, szL_nil]
    omega
  simp at hkl
  rw [hk] at c0
  go_enter Tryz.func90, Tryz.ntmps90
  go_wp2_with (first
    | (go_at_call 79; refine (say_st [(⟨#[91, 93]⟩ : ByteArray)] s4.out (by simp; omega) _ _ rfl rfl).mono ?_; rintro e w5 ⟨rfl, s5⟩; obtain ⟨⟨c0_4, c1_4, c2_4, c3_4, c4_4, c5_4⟩, l_4⟩ := hB.out s5.out; rw [hf] at c3_4; rw [hm] at c2_4)
    | (go_at_call 79; refine (say_st [x.str] s3.out (by simp; omega) _ _ rfl rfl).mono ?_; rintro e w4 ⟨rfl, s4⟩; obtain ⟨⟨c0_3, c1_3, c2_3, c3_3, c4_3, c5_3⟩, l_3⟩ := hB.out s4.out; rw [hf] at c3_3; rw [hm] at c2_3)
    | (go_at_call 79; refine (say_st [(⟨#[42]⟩ : ByteArray)] s2.out (by simp; omega) _ _ rfl rfl).mono ?_; rintro e w3 ⟨rfl, s3⟩; obtain ⟨⟨c0_2, c1_2, c2_2, c3_2, c4_2, c5_2⟩, l_2⟩ := hB.out s3.out; rw [hf] at c3_2; rw [hm] at c2_2)
    | (go_at_call 79; refine (say_st [(⟨#[32]⟩ : ByteArray)] s1.out (by simp; omega) _ _ rfl rfl).mono ?_; rintro e w2 ⟨rfl, s2⟩; obtain ⟨⟨c0_1, c1_1, c2_1, c3_1, c4_1, c5_1⟩, l_1⟩ := hB.out s2.out; rw [hf] at c3_1; rw [hm] at c2_1)
    | (go_at_call 84; refine (K0.out.put s0.out (by simp; omega)).mono ?_; rintro e w1 ⟨rfl, s1⟩; obtain ⟨⟨c0_0, c1_0, c2_0, c3_0, c4_0, c5_0⟩, l_0⟩ := hB.out s1.out; rw [hf] at c3_0; rw [hm] at c2_0))
  go_end0
  exact s5.out.laid hF.out hn.out

set_option maxHeartbeats 4000000 in
theorem param61_1_false {t0 : Tr} (hg : ∀ x ks, G x ks = true → x.str.size < 4611686018427387904) (J : Job G A sb T w0 w b o x kv n cb ([t0])) (hk : x.kind = 46) (hf : x.flag = false) (hm : x.num = 1) : Calls Tryz.prog 90 #[.pointer (some ⟨sb, 0, none⟩), .pointer (some ⟨b, o, none⟩)] w (Spelt G qt A sb T w0 w x ([t0])) := by
  have hT := J.hT
  have hw := hid' J.hw
  have hA := hid' J.hA
  have hB : Hid (∀ {L n W}, St G (spellT qt) w0 A sb T w L n W → NdAt W b o x kv ∧ b < W.heap.size) := fun h => ⟨J.hat.below (h.bel J.hw J.hA) J.hb, Nat.lt_of_lt_of_le J.hb (h.bel J.hw J.hA).size⟩
  obtain ⟨c0, c1, c2, c3, c4, _⟩ := J.hat.below J.hw J.hb
  have hbw := Nat.lt_of_lt_of_le J.hb J.hw.size
  have s0 := St.start (G := G) (sp := spellT qt) (w0 := w0) J.sp
  have HK := hid' J.hK
  have hGs := J.hG
  obtain ⟨hkl, ao, cap, rfl⟩ := J.hK.shape
  obtain ⟨m0, b0, off0, x0, kv0, ks0, _, ea0, ⟨hb0, _⟩, e0, hat0, hK0⟩ := HK.out.kid 0 (by simp)
  subst ea0
  simp at e0 hat0
  subst e0
  simp only [allL_cons, allL_nil, Bool.and_true] at hGs
  have g0 : allT G (Tr.node x0 ks0) = true := hGs
  have z0 : G x0 ks0 = true := by rw [allT_node, Bool.and_eq_true] at g0; exact g0.1
  have K0 : Hid (Kid G w0 b0 off0 x0 kv0 m0 cb ks0) := ⟨hat0, hb0, hK0, g0, hg _ _ z0⟩
  have zz0 := szT_pos (Tr.node x0 ks0)
  simp only [szL_cons, szL_nil] at hT
  have ww0 : wtT (Tr.node x0 ks0) + 3 = 23 * szT (Tr.node x0 ks0) := by unfold wtT; omega
  have hF : Hid ([] ++ spellT qt (Tr.node x0 ks0) ++ (List.map lst [(⟨#[32]⟩ : ByteArray)]).flatten ++ (List.map lst [(⟨#[42]⟩ : ByteArray)]).flatten ++ (List.map lst [x.str]).flatten = spellN qt x ([Tr.node x0 ks0]) (([Tr.node x0 ks0]).map (spellT qt))) := by
    unfold Hid spellN
    simp [hk, lst, hf, hm]
  have hn : Hid (0 + wtT (Tr.node x0 ks0) + [(⟨#[32]⟩ : ByteArray)].length + [(⟨#[42]⟩ : ByteArray)].length + [x.str].length ≤ 19 + 23 * szL ([Tr.node x0 ks0])) := by
    unfold Hid
    simp only [List.length_cons, List.length_nil, szL_cons, szL_nil]
    omega
  simp at hkl
  rw [hk] at c0
  go_enter Tryz.func90, Tryz.ntmps90
  go_wp2_with (first
    | (go_at_call 79; refine (say_st [x.str] s3.out (by simp; omega) _ _ rfl rfl).mono ?_; rintro e w4 ⟨rfl, s4⟩; obtain ⟨⟨c0_3, c1_3, c2_3, c3_3, c4_3, c5_3⟩, l_3⟩ := hB.out s4.out; rw [hf] at c3_3; rw [hm] at c2_3)
    | (go_at_call 79; refine (say_st [(⟨#[42]⟩ : ByteArray)] s2.out (by simp; omega) _ _ rfl rfl).mono ?_; rintro e w3 ⟨rfl, s3⟩; obtain ⟨⟨c0_2, c1_2, c2_2, c3_2, c4_2, c5_2⟩, l_2⟩ := hB.out s3.out; rw [hf] at c3_2; rw [hm] at c2_2)
    | (go_at_call 79; refine (say_st [(⟨#[32]⟩ : ByteArray)] s1.out (by simp; omega) _ _ rfl rfl).mono ?_; rintro e w2 ⟨rfl, s2⟩; obtain ⟨⟨c0_1, c1_1, c2_1, c3_1, c4_1, c5_1⟩, l_1⟩ := hB.out s2.out; rw [hf] at c3_1; rw [hm] at c2_1)
    | (go_at_call 84; refine (K0.out.put s0.out (by simp; omega)).mono ?_; rintro e w1 ⟨rfl, s1⟩; obtain ⟨⟨c0_0, c1_0, c2_0, c3_0, c4_0, c5_0⟩, l_0⟩ := hB.out s1.out; rw [hf] at c3_0; rw [hm] at c2_0))
  go_end0
  exact s4.out.laid hF.out hn.out

set_option maxHeartbeats 4000000 in
theorem param61_0_true {t0 : Tr} (hg : ∀ x ks, G x ks = true → x.str.size < 4611686018427387904) (J : Job G A sb T w0 w b o x kv n cb ([t0])) (hk : x.kind = 46) (hf : x.flag = true) (hm : x.num ≠ 1) (hm' : (x.num == 1) = false) : Calls Tryz.prog 90 #[.pointer (some ⟨sb, 0, none⟩), .pointer (some ⟨b, o, none⟩)] w (Spelt G qt A sb T w0 w x ([t0])) := by
  have hT := J.hT
  have hw := hid' J.hw
  have hA := hid' J.hA
  have hB : Hid (∀ {L n W}, St G (spellT qt) w0 A sb T w L n W → NdAt W b o x kv ∧ b < W.heap.size) := fun h => ⟨J.hat.below (h.bel J.hw J.hA) J.hb, Nat.lt_of_lt_of_le J.hb (h.bel J.hw J.hA).size⟩
  obtain ⟨c0, c1, c2, c3, c4, _⟩ := J.hat.below J.hw J.hb
  have hbw := Nat.lt_of_lt_of_le J.hb J.hw.size
  have s0 := St.start (G := G) (sp := spellT qt) (w0 := w0) J.sp
  have HK := hid' J.hK
  have hGs := J.hG
  obtain ⟨hkl, ao, cap, rfl⟩ := J.hK.shape
  obtain ⟨m0, b0, off0, x0, kv0, ks0, _, ea0, ⟨hb0, _⟩, e0, hat0, hK0⟩ := HK.out.kid 0 (by simp)
  subst ea0
  simp at e0 hat0
  subst e0
  simp only [allL_cons, allL_nil, Bool.and_true] at hGs
  have g0 : allT G (Tr.node x0 ks0) = true := hGs
  have z0 : G x0 ks0 = true := by rw [allT_node, Bool.and_eq_true] at g0; exact g0.1
  have K0 : Hid (Kid G w0 b0 off0 x0 kv0 m0 cb ks0) := ⟨hat0, hb0, hK0, g0, hg _ _ z0⟩
  have zz0 := szT_pos (Tr.node x0 ks0)
  simp only [szL_cons, szL_nil] at hT
  have ww0 : wtT (Tr.node x0 ks0) + 3 = 23 * szT (Tr.node x0 ks0) := by unfold wtT; omega
  have hF : Hid ([] ++ spellT qt (Tr.node x0 ks0) ++ (List.map lst [(⟨#[32]⟩ : ByteArray)]).flatten ++ (List.map lst [x.str]).flatten ++ (List.map lst [(⟨#[91, 93]⟩ : ByteArray)]).flatten = spellN qt x ([Tr.node x0 ks0]) (([Tr.node x0 ks0]).map (spellT qt))) := by
    unfold Hid spellN
    simp [hk, lst, hf, hm]
  have hn : Hid (0 + wtT (Tr.node x0 ks0) + [(⟨#[32]⟩ : ByteArray)].length + [x.str].length + [(⟨#[91, 93]⟩ : ByteArray)].length ≤ 19 + 23 * szL ([Tr.node x0 ks0])) := by
    unfold Hid
    simp only [List.length_cons, List.length_nil, szL_cons, szL_nil]
    omega
  simp at hkl
  rw [hk] at c0
  go_enter Tryz.func90, Tryz.ntmps90
  go_wp2_with (first
    | (go_at_call 79; refine (say_st [(⟨#[91, 93]⟩ : ByteArray)] s3.out (by simp; omega) _ _ rfl rfl).mono ?_; rintro e w4 ⟨rfl, s4⟩; obtain ⟨⟨c0_3, c1_3, c2_3, c3_3, c4_3, c5_3⟩, l_3⟩ := hB.out s4.out; rw [hf] at c3_3; skip)
    | (go_at_call 79; refine (say_st [x.str] s2.out (by simp; omega) _ _ rfl rfl).mono ?_; rintro e w3 ⟨rfl, s3⟩; obtain ⟨⟨c0_2, c1_2, c2_2, c3_2, c4_2, c5_2⟩, l_2⟩ := hB.out s3.out; rw [hf] at c3_2; skip)
    | (go_at_call 79; refine (say_st [(⟨#[32]⟩ : ByteArray)] s1.out (by simp; omega) _ _ rfl rfl).mono ?_; rintro e w2 ⟨rfl, s2⟩; obtain ⟨⟨c0_1, c1_1, c2_1, c3_1, c4_1, c5_1⟩, l_1⟩ := hB.out s2.out; rw [hf] at c3_1; skip)
    | (go_at_call 84; refine (K0.out.put s0.out (by simp; omega)).mono ?_; rintro e w1 ⟨rfl, s1⟩; obtain ⟨⟨c0_0, c1_0, c2_0, c3_0, c4_0, c5_0⟩, l_0⟩ := hB.out s1.out; rw [hf] at c3_0; skip))
  go_end0
  exact s4.out.laid hF.out hn.out

set_option maxHeartbeats 4000000 in
theorem param61_0_false {t0 : Tr} (hg : ∀ x ks, G x ks = true → x.str.size < 4611686018427387904) (J : Job G A sb T w0 w b o x kv n cb ([t0])) (hk : x.kind = 46) (hf : x.flag = false) (hm : x.num ≠ 1) (hm' : (x.num == 1) = false) : Calls Tryz.prog 90 #[.pointer (some ⟨sb, 0, none⟩), .pointer (some ⟨b, o, none⟩)] w (Spelt G qt A sb T w0 w x ([t0])) := by
  have hT := J.hT
  have hw := hid' J.hw
  have hA := hid' J.hA
  have hB : Hid (∀ {L n W}, St G (spellT qt) w0 A sb T w L n W → NdAt W b o x kv ∧ b < W.heap.size) := fun h => ⟨J.hat.below (h.bel J.hw J.hA) J.hb, Nat.lt_of_lt_of_le J.hb (h.bel J.hw J.hA).size⟩
  obtain ⟨c0, c1, c2, c3, c4, _⟩ := J.hat.below J.hw J.hb
  have hbw := Nat.lt_of_lt_of_le J.hb J.hw.size
  have s0 := St.start (G := G) (sp := spellT qt) (w0 := w0) J.sp
  have HK := hid' J.hK
  have hGs := J.hG
  obtain ⟨hkl, ao, cap, rfl⟩ := J.hK.shape
  obtain ⟨m0, b0, off0, x0, kv0, ks0, _, ea0, ⟨hb0, _⟩, e0, hat0, hK0⟩ := HK.out.kid 0 (by simp)
  subst ea0
  simp at e0 hat0
  subst e0
  simp only [allL_cons, allL_nil, Bool.and_true] at hGs
  have g0 : allT G (Tr.node x0 ks0) = true := hGs
  have z0 : G x0 ks0 = true := by rw [allT_node, Bool.and_eq_true] at g0; exact g0.1
  have K0 : Hid (Kid G w0 b0 off0 x0 kv0 m0 cb ks0) := ⟨hat0, hb0, hK0, g0, hg _ _ z0⟩
  have zz0 := szT_pos (Tr.node x0 ks0)
  simp only [szL_cons, szL_nil] at hT
  have ww0 : wtT (Tr.node x0 ks0) + 3 = 23 * szT (Tr.node x0 ks0) := by unfold wtT; omega
  have hF : Hid ([] ++ spellT qt (Tr.node x0 ks0) ++ (List.map lst [(⟨#[32]⟩ : ByteArray)]).flatten ++ (List.map lst [x.str]).flatten = spellN qt x ([Tr.node x0 ks0]) (([Tr.node x0 ks0]).map (spellT qt))) := by
    unfold Hid spellN
    simp [hk, lst, hf, hm]
  have hn : Hid (0 + wtT (Tr.node x0 ks0) + [(⟨#[32]⟩ : ByteArray)].length + [x.str].length ≤ 19 + 23 * szL ([Tr.node x0 ks0])) := by
    unfold Hid
    simp only [List.length_cons, List.length_nil, szL_cons, szL_nil]
    omega
  simp at hkl
  rw [hk] at c0
  go_enter Tryz.func90, Tryz.ntmps90
  go_wp2_with (first
    | (go_at_call 79; refine (say_st [x.str] s2.out (by simp; omega) _ _ rfl rfl).mono ?_; rintro e w3 ⟨rfl, s3⟩; obtain ⟨⟨c0_2, c1_2, c2_2, c3_2, c4_2, c5_2⟩, l_2⟩ := hB.out s3.out; rw [hf] at c3_2; skip)
    | (go_at_call 79; refine (say_st [(⟨#[32]⟩ : ByteArray)] s1.out (by simp; omega) _ _ rfl rfl).mono ?_; rintro e w2 ⟨rfl, s2⟩; obtain ⟨⟨c0_1, c1_1, c2_1, c3_1, c4_1, c5_1⟩, l_1⟩ := hB.out s2.out; rw [hf] at c3_1; skip)
    | (go_at_call 84; refine (K0.out.put s0.out (by simp; omega)).mono ?_; rintro e w1 ⟨rfl, s1⟩; obtain ⟨⟨c0_0, c1_0, c2_0, c3_0, c4_0, c5_0⟩, l_0⟩ := hB.out s1.out; rw [hf] at c3_0; skip))
  go_end0
  exact s3.out.laid hF.out hn.out
end
end Go.Proofs.YtnnnfabpceapcaaGreatDoor

namespace Go.Proofs.YtnnnfabpceapcaaGreatDoor
set_option linter.unusedSimpArgs false
set_option linter.unusedSimpArgs false
open Go.RowKit
set_option linter.unusedVariables false
section
variable {G : NdH → List Tr → Bool} {qt : List UInt8 → List UInt8} {A : Nat → Prop} {sb : Nat} {T : List Pc} {w w0 : World} {b o : Nat} {x : NdH} {kv : Value} {n cb : Nat} {ks : List Tr}

set_option maxHeartbeats 4000000 in
theorem if38_2 {t0 t1 : Tr} (hg : ∀ x ks, G x ks = true → x.str.size < 4611686018427387904) (J : Job G A sb T w0 w b o x kv n cb ([t0, t1])) (hk : x.kind = 49) : Calls Tryz.prog 56 #[.pointer (some ⟨sb, 0, none⟩), .pointer (some ⟨b, o, none⟩)] w (Spelt G qt A sb T w0 w x ([t0, t1])) := by
  have hT := J.hT
  have hw := hid' J.hw
  have hA := hid' J.hA
  have hB : Hid (∀ {L n W}, St G (spellT qt) w0 A sb T w L n W → NdAt W b o x kv ∧ b < W.heap.size) := fun h => ⟨J.hat.below (h.bel J.hw J.hA) J.hb, Nat.lt_of_lt_of_le J.hb (h.bel J.hw J.hA).size⟩
  obtain ⟨c0, c1, c2, c3, c4, _⟩ := J.hat.below J.hw J.hb
  have hbw := Nat.lt_of_lt_of_le J.hb J.hw.size
  have s0 := St.start (G := G) (sp := spellT qt) (w0 := w0) J.sp
  have HK := hid' J.hK
  have hGs := J.hG
  obtain ⟨hkl, ao, cap, rfl⟩ := J.hK.shape
  obtain ⟨m0, b0, off0, x0, kv0, ks0, _, ea0, ⟨hb0, _⟩, e0, hat0, hK0⟩ := HK.out.kid 0 (by simp)
  subst ea0
  simp at e0 hat0
  subst e0
  obtain ⟨m1, b1, off1, x1, kv1, ks1, _, ea1, ⟨hb1, _⟩, e1, hat1, hK1⟩ := HK.out.kid 1 (by simp)
  injection ea1 with ea1
  injection ea1 with eb1 ec1
  subst eb1 ec1
  simp at e1 hat1
  subst e1
  simp only [allL_cons, allL_nil, Bool.and_true, Bool.and_eq_true] at hGs
  have g0 : allT G (Tr.node x0 ks0) = true := hGs.1
  have z0 : G x0 ks0 = true := by rw [allT_node, Bool.and_eq_true] at g0; exact g0.1
  have K0 : Hid (Kid G w0 b0 off0 x0 kv0 m0 cb ks0) := ⟨hat0, hb0, hK0, g0, hg _ _ z0⟩
  have zz0 := szT_pos (Tr.node x0 ks0)
  have g1 : allT G (Tr.node x1 ks1) = true := hGs.2
  have z1 : G x1 ks1 = true := by rw [allT_node, Bool.and_eq_true] at g1; exact g1.1
  have K1 : Hid (Kid G w0 b0 (off0 + 6) x1 kv1 m1 cb ks1) := ⟨hat1, hb1, hK1, g1, hg _ _ z1⟩
  have zz1 := szT_pos (Tr.node x1 ks1)
  simp only [szL_cons, szL_nil] at hT
  have ww0 : wtT (Tr.node x0 ks0) + 3 = 23 * szT (Tr.node x0 ks0) := by unfold wtT; omega
  have ww1 : wtT (Tr.node x1 ks1) + 3 = 23 * szT (Tr.node x1 ks1) := by unfold wtT; omega
  have HKt := hid' HK.out.tail
  have hroom := HK.out.room (by simp)
  have HGt : Hid (allL G [Tr.node x1 ks1] = true) := by unfold Hid; simp [allL_cons, allL_nil, g1]
  have wl0 : wtL [Tr.node x1 ks1] = (wtT (Tr.node x1 ks1) + 1) + 0 := by simp [wtL]
  have hF : Hid ([] ++ (lst ⟨#[105, 102, 32, 40]⟩ ++ (spellT qt (Tr.node x0 ks0) ++ [41, 10])) ++ joinL (lst ⟨#[101, 108, 115, 101, 10]⟩) (List.map (spellT qt) [Tr.node x1 ks1]) = spellN qt x ([Tr.node x0 ks0, Tr.node x1 ks1]) (([Tr.node x0 ks0, Tr.node x1 ks1]).map (spellT qt))) := by
    unfold Hid spellN
    simp [hk, lst, joinL]
  have hn : Hid (0 + (wtT (Tr.node x0 ks0) + 2) + wtL [Tr.node x1 ks1] ≤ 19 + 23 * szL ([Tr.node x0 ks0, Tr.node x1 ks1])) := by
    unfold Hid
    simp only [List.length_cons, List.length_nil, szL_cons, szL_nil]
    omega
  simp at hkl
  simp at hroom
  rw [hk] at c0
  go_enter Tryz.func56, Tryz.ntmps56
  go_wp2_with (first
    | (go_at_call 85; refine (list_st ⟨#[101, 108, 115, 101, 10]⟩ hw.out hA.out HKt.out HGt.out s1.out (by simp; omega)).mono ?_; rintro e w2 ⟨rfl, s2⟩; obtain ⟨⟨c0_1, c1_1, c2_1, c3_1, c4_1, c5_1⟩, l_1⟩ := hB.out s2.out)
    | (go_at_call 87; refine (head_st ⟨#[105, 102, 32, 40]⟩ K0.out s0.out (by simp; omega)).mono ?_; rintro e w1 ⟨rfl, s1⟩; obtain ⟨⟨c0_0, c1_0, c2_0, c3_0, c4_0, c5_0⟩, l_0⟩ := hB.out s1.out))
  go_end0
  exact s2.out.laid hF.out hn.out

set_option maxHeartbeats 4000000 in
theorem if38_3 {t0 t1 t2 : Tr} (hg : ∀ x ks, G x ks = true → x.str.size < 4611686018427387904) (J : Job G A sb T w0 w b o x kv n cb ([t0, t1, t2])) (hk : x.kind = 49) : Calls Tryz.prog 56 #[.pointer (some ⟨sb, 0, none⟩), .pointer (some ⟨b, o, none⟩)] w (Spelt G qt A sb T w0 w x ([t0, t1, t2])) := by
  have hT := J.hT
  have hw := hid' J.hw
  have hA := hid' J.hA
  have hB : Hid (∀ {L n W}, St G (spellT qt) w0 A sb T w L n W → NdAt W b o x kv ∧ b < W.heap.size) := fun h => ⟨J.hat.below (h.bel J.hw J.hA) J.hb, Nat.lt_of_lt_of_le J.hb (h.bel J.hw J.hA).size⟩
  obtain ⟨c0, c1, c2, c3, c4, _⟩ := J.hat.below J.hw J.hb
  have hbw := Nat.lt_of_lt_of_le J.hb J.hw.size
  have s0 := St.start (G := G) (sp := spellT qt) (w0 := w0) J.sp
  have HK := hid' J.hK
  have hGs := J.hG
  obtain ⟨hkl, ao, cap, rfl⟩ := J.hK.shape
  obtain ⟨m0, b0, off0, x0, kv0, ks0, _, ea0, ⟨hb0, _⟩, e0, hat0, hK0⟩ := HK.out.kid 0 (by simp)
  subst ea0
  simp at e0 hat0
  subst e0
  obtain ⟨m1, b1, off1, x1, kv1, ks1, _, ea1, ⟨hb1, _⟩, e1, hat1, hK1⟩ := HK.out.kid 1 (by simp)
  injection ea1 with ea1
  injection ea1 with eb1 ec1
  subst eb1 ec1
  simp at e1 hat1
  subst e1
  obtain ⟨m2, b2, off2, x2, kv2, ks2, _, ea2, ⟨hb2, _⟩, e2, hat2, hK2⟩ := HK.out.kid 2 (by simp)
  injection ea2 with ea2
  injection ea2 with eb2 ec2
  subst eb2 ec2
  simp at e2 hat2
  subst e2
  simp only [allL_cons, allL_nil, Bool.and_true, Bool.and_eq_true] at hGs
  have g0 : allT G (Tr.node x0 ks0) = true := hGs.1
  have z0 : G x0 ks0 = true := by rw [allT_node, Bool.and_eq_true] at g0; exact g0.1
  have K0 : Hid (Kid G w0 b0 off0 x0 kv0 m0 cb ks0) := ⟨hat0, hb0, hK0, g0, hg _ _ z0⟩
  have zz0 := szT_pos (Tr.node x0 ks0)
  have g1 : allT G (Tr.node x1 ks1) = true := hGs.2.1
  have z1 : G x1 ks1 = true := by rw [allT_node, Bool.and_eq_true] at g1; exact g1.1
  have K1 : Hid (Kid G w0 b0 (off0 + 6) x1 kv1 m1 cb ks1) := ⟨hat1, hb1, hK1, g1, hg _ _ z1⟩
  have zz1 := szT_pos (Tr.node x1 ks1)
  have g2 : allT G (Tr.node x2 ks2) = true := hGs.2.2
  have z2 : G x2 ks2 = true := by rw [allT_node, Bool.and_eq_true] at g2; exact g2.1
  have K2 : Hid (Kid G w0 b0 (off0 + 12) x2 kv2 m2 cb ks2) := ⟨hat2, hb2, hK2, g2, hg _ _ z2⟩
  have zz2 := szT_pos (Tr.node x2 ks2)
  simp only [szL_cons, szL_nil] at hT
  have ww0 : wtT (Tr.node x0 ks0) + 3 = 23 * szT (Tr.node x0 ks0) := by unfold wtT; omega
  have ww1 : wtT (Tr.node x1 ks1) + 3 = 23 * szT (Tr.node x1 ks1) := by unfold wtT; omega
  have ww2 : wtT (Tr.node x2 ks2) + 3 = 23 * szT (Tr.node x2 ks2) := by unfold wtT; omega
  have HKt := hid' HK.out.tail
  have hroom := HK.out.room (by simp)
  have HGt : Hid (allL G [Tr.node x1 ks1, Tr.node x2 ks2] = true) := by unfold Hid; simp [allL_cons, allL_nil, g1, g2]
  have wl0 : wtL [Tr.node x1 ks1, Tr.node x2 ks2] = (wtT (Tr.node x1 ks1) + 1) + (wtT (Tr.node x2 ks2) + 1) + 0 := by simp [wtL]
  have hF : Hid ([] ++ (lst ⟨#[105, 102, 32, 40]⟩ ++ (spellT qt (Tr.node x0 ks0) ++ [41, 10])) ++ joinL (lst ⟨#[101, 108, 115, 101, 10]⟩) (List.map (spellT qt) [Tr.node x1 ks1, Tr.node x2 ks2]) = spellN qt x ([Tr.node x0 ks0, Tr.node x1 ks1, Tr.node x2 ks2]) (([Tr.node x0 ks0, Tr.node x1 ks1, Tr.node x2 ks2]).map (spellT qt))) := by
    unfold Hid spellN
    simp [hk, lst, joinL]
  have hn : Hid (0 + (wtT (Tr.node x0 ks0) + 2) + wtL [Tr.node x1 ks1, Tr.node x2 ks2] ≤ 19 + 23 * szL ([Tr.node x0 ks0, Tr.node x1 ks1, Tr.node x2 ks2])) := by
    unfold Hid
    simp only [List.length_cons, List.length_nil, szL_cons, szL_nil]
    omega
  simp at hkl
  simp at hroom
  rw [hk] at c0
  go_enter Tryz.func56, Tryz.ntmps56
  go_wp2_with (first
    | (go_at_call 85; refine (list_st ⟨#[101, 108, 115, 101, 10]⟩ hw.out hA.out HKt.out HGt.out s1.out (by simp; omega)).mono ?_; rintro e w2 ⟨rfl, s2⟩; obtain ⟨⟨c0_1, c1_1, c2_1, c3_1, c4_1, c5_1⟩, l_1⟩ := hB.out s2.out)
    | (go_at_call 87; refine (head_st ⟨#[105, 102, 32, 40]⟩ K0.out s0.out (by simp; omega)).mono ?_; rintro e w1 ⟨rfl, s1⟩; obtain ⟨⟨c0_0, c1_0, c2_0, c3_0, c4_0, c5_0⟩, l_0⟩ := hB.out s1.out))
  go_end0
  exact s2.out.laid hF.out hn.out

set_option maxHeartbeats 4000000 in
theorem return38_1 {t0 : Tr} (hg : ∀ x ks, G x ks = true → x.str.size < 4611686018427387904) (J : Job G A sb T w0 w b o x kv n cb ([t0])) (hk : x.kind = 55) : Calls Tryz.prog 56 #[.pointer (some ⟨sb, 0, none⟩), .pointer (some ⟨b, o, none⟩)] w (Spelt G qt A sb T w0 w x ([t0])) := by
  have hT := J.hT
  have hw := hid' J.hw
  have hA := hid' J.hA
  have hB : Hid (∀ {L n W}, St G (spellT qt) w0 A sb T w L n W → NdAt W b o x kv ∧ b < W.heap.size) := fun h => ⟨J.hat.below (h.bel J.hw J.hA) J.hb, Nat.lt_of_lt_of_le J.hb (h.bel J.hw J.hA).size⟩
  obtain ⟨c0, c1, c2, c3, c4, _⟩ := J.hat.below J.hw J.hb
  have hbw := Nat.lt_of_lt_of_le J.hb J.hw.size
  have s0 := St.start (G := G) (sp := spellT qt) (w0 := w0) J.sp
  have HK := hid' J.hK
  have hGs := J.hG
  obtain ⟨hkl, ao, cap, rfl⟩ := J.hK.shape
  obtain ⟨m0, b0, off0, x0, kv0, ks0, _, ea0, ⟨hb0, _⟩, e0, hat0, hK0⟩ := HK.out.kid 0 (by simp)
  subst ea0
  simp at e0 hat0
  subst e0
  simp only [allL_cons, allL_nil, Bool.and_true] at hGs
  have g0 : allT G (Tr.node x0 ks0) = true := hGs
  have z0 : G x0 ks0 = true := by rw [allT_node, Bool.and_eq_true] at g0; exact g0.1
  have K0 : Hid (Kid G w0 b0 off0 x0 kv0 m0 cb ks0) := ⟨hat0, hb0, hK0, g0, hg _ _ z0⟩
  have zz0 := szT_pos (Tr.node x0 ks0)
  simp only [szL_cons, szL_nil] at hT
  have ww0 : wtT (Tr.node x0 ks0) + 3 = 23 * szT (Tr.node x0 ks0) := by unfold wtT; omega
  have HGa : Hid (allL G [Tr.node x0 ks0] = true) := by unfold Hid; simp [allL_cons, allL_nil, g0]
  have wl0 : wtL [Tr.node x0 ks0] = (wtT (Tr.node x0 ks0) + 1) + 0 := by simp [wtL]
  have hF : Hid ([] ++ (List.map lst [(⟨#[114, 101, 116, 117, 114, 110]⟩ : ByteArray)]).flatten ++ (List.map lst [(⟨#[32]⟩ : ByteArray)]).flatten ++ joinL (lst ⟨#[]⟩) (List.map (spellT qt) [Tr.node x0 ks0]) ++ (List.map lst [(⟨#[59, 10]⟩ : ByteArray)]).flatten = spellN qt x ([Tr.node x0 ks0]) (([Tr.node x0 ks0]).map (spellT qt))) := by
    unfold Hid spellN
    simp [hk, lst, joinL]
  have hn : Hid (0 + [(⟨#[114, 101, 116, 117, 114, 110]⟩ : ByteArray)].length + [(⟨#[32]⟩ : ByteArray)].length + wtL [Tr.node x0 ks0] + [(⟨#[59, 10]⟩ : ByteArray)].length ≤ 19 + 23 * szL ([Tr.node x0 ks0])) := by
    unfold Hid
    simp only [List.length_cons, List.length_nil, szL_cons, szL_nil]
    omega
  simp at hkl
  rw [hk] at c0
  go_enter Tryz.func56, Tryz.ntmps56
  go_wp2_with (first
    | (go_at_call 79; refine (say_st [(⟨#[59, 10]⟩ : ByteArray)] s3.out (by simp; omega) _ _ rfl rfl).mono ?_; rintro e w4 ⟨rfl, s4⟩; obtain ⟨⟨c0_3, c1_3, c2_3, c3_3, c4_3, c5_3⟩, l_3⟩ := hB.out s4.out)
    | (go_at_call 85; refine (list_st ⟨#[]⟩ hw.out hA.out HK.out HGa.out s2.out (by simp; omega)).mono ?_; rintro e w3 ⟨rfl, s3⟩; obtain ⟨⟨c0_2, c1_2, c2_2, c3_2, c4_2, c5_2⟩, l_2⟩ := hB.out s3.out)
    | (go_at_call 79; refine (say_st [(⟨#[32]⟩ : ByteArray)] s1.out (by simp; omega) _ _ rfl rfl).mono ?_; rintro e w2 ⟨rfl, s2⟩; obtain ⟨⟨c0_1, c1_1, c2_1, c3_1, c4_1, c5_1⟩, l_1⟩ := hB.out s2.out)
    | (go_at_call 79; refine (say_st [(⟨#[114, 101, 116, 117, 114, 110]⟩ : ByteArray)] s0.out (by simp; omega) _ _ rfl rfl).mono ?_; rintro e w1 ⟨rfl, s1⟩; obtain ⟨⟨c0_0, c1_0, c2_0, c3_0, c4_0, c5_0⟩, l_0⟩ := hB.out s1.out))
  go_end0
  exact s4.out.laid hF.out hn.out
end
end Go.Proofs.YtnnnfabpceapcaaGreatDoor

namespace Go.Proofs.YtnnnfabpceapcaaGreatDoor
set_option linter.unusedSimpArgs false
open Go.RowKit
set_option linter.unusedVariables false
section
variable {G : NdH → List Tr → Bool} {qt : List UInt8 → List UInt8} {A : Nat → Prop} {sb : Nat} {T : List Pc} {w w0 : World} {b o : Nat} {x : NdH} {kv : Value} {n cb : Nat} {ks : List Tr}

set_option maxHeartbeats 4000000 in
theorem loop59 {t0 t1 t2 t3 : Tr} (hg : ∀ x ks, G x ks = true → x.str.size < 4611686018427387904) (J : Job G A sb T w0 w b o x kv n cb ([t0, t1, t2, t3])) (hk : x.kind = 52) : Calls Tryz.prog 88 #[.pointer (some ⟨sb, 0, none⟩), kv] w (Spelt G qt A sb T w0 w x ([t0, t1, t2, t3])) := by
  have hT := J.hT
  have hw := hid' J.hw
  have hA := hid' J.hA
  have hB : Hid (∀ {L n W}, St G (spellT qt) w0 A sb T w L n W → NdAt W b o x kv ∧ b < W.heap.size) := fun h => ⟨J.hat.below (h.bel J.hw J.hA) J.hb, Nat.lt_of_lt_of_le J.hb (h.bel J.hw J.hA).size⟩
  obtain ⟨c0, c1, c2, c3, c4, _⟩ := J.hat.below J.hw J.hb
  have hbw := Nat.lt_of_lt_of_le J.hb J.hw.size
  have s0 := St.start (G := G) (sp := spellT qt) (w0 := w0) J.sp
  have HK := hid' J.hK
  have hGs := J.hG
  obtain ⟨hkl, ao, cap, rfl⟩ := J.hK.shape
  obtain ⟨m0, b0, off0, x0, kv0, ks0, _, ea0, ⟨hb0, _⟩, e0, hat0, hK0⟩ := HK.out.kid 0 (by simp)
  subst ea0
  simp at e0 hat0
  subst e0
  obtain ⟨m1, b1, off1, x1, kv1, ks1, _, ea1, ⟨hb1, _⟩, e1, hat1, hK1⟩ := HK.out.kid 1 (by simp)
  injection ea1 with ea1
  injection ea1 with eb1 ec1
  subst eb1 ec1
  simp at e1 hat1
  subst e1
  obtain ⟨m2, b2, off2, x2, kv2, ks2, _, ea2, ⟨hb2, _⟩, e2, hat2, hK2⟩ := HK.out.kid 2 (by simp)
  injection ea2 with ea2
  injection ea2 with eb2 ec2
  subst eb2 ec2
  simp at e2 hat2
  subst e2
  obtain ⟨m3, b3, off3, x3, kv3, ks3, _, ea3, ⟨hb3, _⟩, e3, hat3, hK3⟩ := HK.out.kid 3 (by simp)
  injection ea3 with ea3
  injection ea3 with eb3 ec3
  subst eb3 ec3
  simp at e3 hat3
  subst e3
  simp only [allL_cons, allL_nil, Bool.and_true, Bool.and_eq_true] at hGs
  have g0 : allT G (Tr.node x0 ks0) = true := hGs.1
  have z0 : G x0 ks0 = true := by rw [allT_node, Bool.and_eq_true] at g0; exact g0.1
  have K0 : Hid (Kid G w0 b0 off0 x0 kv0 m0 cb ks0) := ⟨hat0, hb0, hK0, g0, hg _ _ z0⟩
  have zz0 := szT_pos (Tr.node x0 ks0)
  have g1 : allT G (Tr.node x1 ks1) = true := hGs.2.1
  have z1 : G x1 ks1 = true := by rw [allT_node, Bool.and_eq_true] at g1; exact g1.1
  have K1 : Hid (Kid G w0 b0 (off0 + 6) x1 kv1 m1 cb ks1) := ⟨hat1, hb1, hK1, g1, hg _ _ z1⟩
  have zz1 := szT_pos (Tr.node x1 ks1)
  have g2 : allT G (Tr.node x2 ks2) = true := hGs.2.2.1
  have z2 : G x2 ks2 = true := by rw [allT_node, Bool.and_eq_true] at g2; exact g2.1
  have K2 : Hid (Kid G w0 b0 (off0 + 12) x2 kv2 m2 cb ks2) := ⟨hat2, hb2, hK2, g2, hg _ _ z2⟩
  have zz2 := szT_pos (Tr.node x2 ks2)
  have g3 : allT G (Tr.node x3 ks3) = true := hGs.2.2.2
  have z3 : G x3 ks3 = true := by rw [allT_node, Bool.and_eq_true] at g3; exact g3.1
  have K3 : Hid (Kid G w0 b0 (off0 + 18) x3 kv3 m3 cb ks3) := ⟨hat3, hb3, hK3, g3, hg _ _ z3⟩
  have zz3 := szT_pos (Tr.node x3 ks3)
  simp only [szL_cons, szL_nil] at hT
  have ww0 : wtT (Tr.node x0 ks0) + 3 = 23 * szT (Tr.node x0 ks0) := by unfold wtT; omega
  have ww1 : wtT (Tr.node x1 ks1) + 3 = 23 * szT (Tr.node x1 ks1) := by unfold wtT; omega
  have ww2 : wtT (Tr.node x2 ks2) + 3 = 23 * szT (Tr.node x2 ks2) := by unfold wtT; omega
  have ww3 : wtT (Tr.node x3 ks3) + 3 = 23 * szT (Tr.node x3 ks3) := by unfold wtT; omega
  have hF : Hid ([] ++ (List.map lst [(⟨#[102, 111, 114, 32, 40]⟩ : ByteArray)]).flatten ++ perL (Tr.node x0 ks0) (spellT qt (Tr.node x0 ks0)) ++ (List.map lst [(⟨#[59, 32]⟩ : ByteArray)]).flatten ++ perL (Tr.node x1 ks1) (spellT qt (Tr.node x1 ks1)) ++ (List.map lst [(⟨#[59, 32]⟩ : ByteArray)]).flatten ++ perL (Tr.node x2 ks2) (spellT qt (Tr.node x2 ks2)) ++ (List.map lst [(⟨#[41, 10]⟩ : ByteArray)]).flatten ++ spellT qt (Tr.node x3 ks3) = spellN qt x ([Tr.node x0 ks0, Tr.node x1 ks1, Tr.node x2 ks2, Tr.node x3 ks3]) (([Tr.node x0 ks0, Tr.node x1 ks1, Tr.node x2 ks2, Tr.node x3 ks3]).map (spellT qt))) := by
    unfold Hid spellN
    simp [hk, lst]
  have hn : Hid (0 + [(⟨#[102, 111, 114, 32, 40]⟩ : ByteArray)].length + wtT (Tr.node x0 ks0) + [(⟨#[59, 32]⟩ : ByteArray)].length + wtT (Tr.node x1 ks1) + [(⟨#[59, 32]⟩ : ByteArray)].length + wtT (Tr.node x2 ks2) + [(⟨#[41, 10]⟩ : ByteArray)].length + wtT (Tr.node x3 ks3) ≤ 19 + 23 * szL ([Tr.node x0 ks0, Tr.node x1 ks1, Tr.node x2 ks2, Tr.node x3 ks3])) := by
    unfold Hid
    simp only [List.length_cons, List.length_nil, szL_cons, szL_nil]
    omega
  simp at hkl
  rw [hk] at c0
  go_enter Tryz.func88, Tryz.ntmps88
  go_wp2_with (first
    | (go_at_call 84; refine (K3.out.put s7.out (by simp; omega)).mono ?_; rintro e w8 ⟨rfl, s8⟩; obtain ⟨⟨c0_7, c1_7, c2_7, c3_7, c4_7, c5_7⟩, l_7⟩ := hB.out s8.out)
    | (go_at_call 79; refine (say_st [(⟨#[41, 10]⟩ : ByteArray)] s6.out (by simp; omega) _ _ rfl rfl).mono ?_; rintro e w7 ⟨rfl, s7⟩; obtain ⟨⟨c0_6, c1_6, c2_6, c3_6, c4_6, c5_6⟩, l_6⟩ := hB.out s7.out)
    | (go_at_call 110; refine (perhaps_st K2.out hw.out hA.out s5.out (by simp; omega)).mono ?_; rintro e w6 ⟨rfl, s6⟩; obtain ⟨⟨c0_5, c1_5, c2_5, c3_5, c4_5, c5_5⟩, l_5⟩ := hB.out s6.out)
    | (go_at_call 79; refine (say_st [(⟨#[59, 32]⟩ : ByteArray)] s4.out (by simp; omega) _ _ rfl rfl).mono ?_; rintro e w5 ⟨rfl, s5⟩; obtain ⟨⟨c0_4, c1_4, c2_4, c3_4, c4_4, c5_4⟩, l_4⟩ := hB.out s5.out)
    | (go_at_call 110; refine (perhaps_st K1.out hw.out hA.out s3.out (by simp; omega)).mono ?_; rintro e w4 ⟨rfl, s4⟩; obtain ⟨⟨c0_3, c1_3, c2_3, c3_3, c4_3, c5_3⟩, l_3⟩ := hB.out s4.out)
    | (go_at_call 79; refine (say_st [(⟨#[59, 32]⟩ : ByteArray)] s2.out (by simp; omega) _ _ rfl rfl).mono ?_; rintro e w3 ⟨rfl, s3⟩; obtain ⟨⟨c0_2, c1_2, c2_2, c3_2, c4_2, c5_2⟩, l_2⟩ := hB.out s3.out)
    | (go_at_call 110; refine (perhaps_st K0.out hw.out hA.out s1.out (by simp; omega)).mono ?_; rintro e w2 ⟨rfl, s2⟩; obtain ⟨⟨c0_1, c1_1, c2_1, c3_1, c4_1, c5_1⟩, l_1⟩ := hB.out s2.out)
    | (go_at_call 79; refine (say_st [(⟨#[102, 111, 114, 32, 40]⟩ : ByteArray)] s0.out (by simp; omega) _ _ rfl rfl).mono ?_; rintro e w1 ⟨rfl, s1⟩; obtain ⟨⟨c0_0, c1_0, c2_0, c3_0, c4_0, c5_0⟩, l_0⟩ := hB.out s1.out))
  go_end0
  exact s8.out.laid hF.out hn.out
end
end Go.Proofs.YtnnnfabpceapcaaGreatDoor

namespace Go.Proofs.YtnnnfabpceapcaaGreatDoor
set_option linter.unusedSimpArgs false
open Go.RowKit
set_option linter.unusedVariables false
section
variable {G : NdH → List Tr → Bool} {qt : List UInt8 → List UInt8} {A : Nat → Prop} {sb : Nat} {T : List Pc} {w w0 : World} {b o : Nat} {x : NdH} {kv : Value} {n cb : Nat} {ks : List Tr}

set_option maxHeartbeats 4000000 in
theorem var60_f1 {t0 : Tr} (hg : ∀ x ks, G x ks = true → x.str.size < 4611686018427387904) (J : Job G A sb T w0 w b o x kv n cb ([t0])) (hk : x.kind = 43) (hf : x.flag = true) : Calls Tryz.prog 89 #[.pointer (some ⟨sb, 0, none⟩), .pointer (some ⟨b, o, none⟩)] w (Spelt G qt A sb T w0 w x ([t0])) := by
  have hT := J.hT
  have hw := hid' J.hw
  have hA := hid' J.hA
  have hB : Hid (∀ {L n W}, St G (spellT qt) w0 A sb T w L n W → NdAt W b o x kv ∧ b < W.heap.size) := fun h => ⟨J.hat.below (h.bel J.hw J.hA) J.hb, Nat.lt_of_lt_of_le J.hb (h.bel J.hw J.hA).size⟩
  obtain ⟨c0, c1, c2, c3, c4, _⟩ := J.hat.below J.hw J.hb
  have hbw := Nat.lt_of_lt_of_le J.hb J.hw.size
  have s0 := St.start (G := G) (sp := spellT qt) (w0 := w0) J.sp
  have HK := hid' J.hK
  have hGs := J.hG
  obtain ⟨hkl, ao, cap, rfl⟩ := J.hK.shape
  obtain ⟨m0, b0, off0, x0, kv0, ks0, _, ea0, ⟨hb0, _⟩, e0, hat0, hK0⟩ := HK.out.kid 0 (by simp)
  subst ea0
  simp at e0 hat0
  subst e0
  simp only [allL_cons, allL_nil, Bool.and_true] at hGs
  have g0 : allT G (Tr.node x0 ks0) = true := hGs
  have z0 : G x0 ks0 = true := by rw [allT_node, Bool.and_eq_true] at g0; exact g0.1
  have K0 : Hid (Kid G w0 b0 off0 x0 kv0 m0 cb ks0) := ⟨hat0, hb0, hK0, g0, hg _ _ z0⟩
  have zz0 := szT_pos (Tr.node x0 ks0)
  simp only [szL_cons, szL_nil] at hT
  have ww0 : wtT (Tr.node x0 ks0) + 3 = 23 * szT (Tr.node x0 ks0) := by unfold wtT; omega
  have hroom := HK.out.room (by simp)
  have hF : Hid ([] ++ (List.map lst [x.str]).flatten ++ (List.map lst [(⟨#[91]⟩ : ByteArray)]).flatten ++ perL (Tr.node x0 ks0) (spellT qt (Tr.node x0 ks0)) ++ (List.map lst [(⟨#[93]⟩ : ByteArray)]).flatten = spellN qt x ([Tr.node x0 ks0]) (([Tr.node x0 ks0]).map (spellT qt))) := by
    unfold Hid spellN
    simp [hk, lst, hf]
  have hn : Hid (0 + [x.str].length + [(⟨#[91]⟩ : ByteArray)].length + wtT (Tr.node x0 ks0) + [(⟨#[93]⟩ : ByteArray)].length ≤ 19 + 23 * szL ([Tr.node x0 ks0])) := by
    unfold Hid
    simp only [List.length_cons, List.length_nil, szL_cons, szL_nil]
    omega
  simp at hkl hroom
  rw [hk] at c0
  go_enter Tryz.func89, Tryz.ntmps89
  go_wp2_with (first
    | (go_at_call 79; refine (say_st [(⟨#[93]⟩ : ByteArray)] s3.out (by simp; omega) _ _ rfl rfl).mono ?_; rintro e w4 ⟨rfl, s4⟩; obtain ⟨⟨c0_3, c1_3, c2_3, c3_3, c4_3, c5_3⟩, l_3⟩ := hB.out s4.out; rw [hf] at c3_3)
    | (go_at_call 110; refine (perhaps_st K0.out hw.out hA.out s2.out (by simp; omega)).mono ?_; rintro e w3 ⟨rfl, s3⟩; obtain ⟨⟨c0_2, c1_2, c2_2, c3_2, c4_2, c5_2⟩, l_2⟩ := hB.out s3.out; rw [hf] at c3_2)
    | (go_at_call 79; refine (say_st [(⟨#[91]⟩ : ByteArray)] s1.out (by simp; omega) _ _ rfl rfl).mono ?_; rintro e w2 ⟨rfl, s2⟩; obtain ⟨⟨c0_1, c1_1, c2_1, c3_1, c4_1, c5_1⟩, l_1⟩ := hB.out s2.out; rw [hf] at c3_1)
    | (go_at_call 79; refine (say_st [x.str] s0.out (by simp; omega) _ _ rfl rfl).mono ?_; rintro e w1 ⟨rfl, s1⟩; obtain ⟨⟨c0_0, c1_0, c2_0, c3_0, c4_0, c5_0⟩, l_0⟩ := hB.out s1.out; rw [hf] at c3_0))
  all_goals go_end0
  all_goals exact s4.out.laid hF.out hn.out

set_option maxHeartbeats 4000000 in
theorem var60_f2 {t0 t1 : Tr} (hg : ∀ x ks, G x ks = true → x.str.size < 4611686018427387904) (J : Job G A sb T w0 w b o x kv n cb ([t0, t1])) (hk : x.kind = 43) (hf : x.flag = true) : Calls Tryz.prog 89 #[.pointer (some ⟨sb, 0, none⟩), .pointer (some ⟨b, o, none⟩)] w (Spelt G qt A sb T w0 w x ([t0, t1])) := by
  have hT := J.hT
  have hw := hid' J.hw
  have hA := hid' J.hA
  have hB : Hid (∀ {L n W}, St G (spellT qt) w0 A sb T w L n W → NdAt W b o x kv ∧ b < W.heap.size) := fun h => ⟨J.hat.below (h.bel J.hw J.hA) J.hb, Nat.lt_of_lt_of_le J.hb (h.bel J.hw J.hA).size⟩
  obtain ⟨c0, c1, c2, c3, c4, _⟩ := J.hat.below J.hw J.hb
  have hbw := Nat.lt_of_lt_of_le J.hb J.hw.size
  have s0 := St.start (G := G) (sp := spellT qt) (w0 := w0) J.sp
  have HK := hid' J.hK
  have hGs := J.hG
  obtain ⟨hkl, ao, cap, rfl⟩ := J.hK.shape
  obtain ⟨m0, b0, off0, x0, kv0, ks0, _, ea0, ⟨hb0, _⟩, e0, hat0, hK0⟩ := HK.out.kid 0 (by simp)
  subst ea0
  simp at e0 hat0
  subst e0
  obtain ⟨m1, b1, off1, x1, kv1, ks1, _, ea1, ⟨hb1, _⟩, e1, hat1, hK1⟩ := HK.out.kid 1 (by simp)
  injection ea1 with ea1
  injection ea1 with eb1 ec1
  subst eb1 ec1
  simp at e1 hat1
  subst e1
  simp only [allL_cons, allL_nil, Bool.and_true, Bool.and_eq_true] at hGs
  have g0 : allT G (Tr.node x0 ks0) = true := hGs.1
  have z0 : G x0 ks0 = true := by rw [allT_node, Bool.and_eq_true] at g0; exact g0.1
  have K0 : Hid (Kid G w0 b0 off0 x0 kv0 m0 cb ks0) := ⟨hat0, hb0, hK0, g0, hg _ _ z0⟩
  have zz0 := szT_pos (Tr.node x0 ks0)
  have g1 : allT G (Tr.node x1 ks1) = true := hGs.2
  have z1 : G x1 ks1 = true := by rw [allT_node, Bool.and_eq_true] at g1; exact g1.1
  have K1 : Hid (Kid G w0 b0 (off0 + 6) x1 kv1 m1 cb ks1) := ⟨hat1, hb1, hK1, g1, hg _ _ z1⟩
  have zz1 := szT_pos (Tr.node x1 ks1)
  simp only [szL_cons, szL_nil] at hT
  have ww0 : wtT (Tr.node x0 ks0) + 3 = 23 * szT (Tr.node x0 ks0) := by unfold wtT; omega
  have ww1 : wtT (Tr.node x1 ks1) + 3 = 23 * szT (Tr.node x1 ks1) := by unfold wtT; omega
  have hroom := HK.out.room (by simp)
  have hF : Hid ([] ++ (List.map lst [x.str]).flatten ++ (List.map lst [(⟨#[91]⟩ : ByteArray)]).flatten ++ perL (Tr.node x0 ks0) (spellT qt (Tr.node x0 ks0)) ++ (List.map lst [(⟨#[93]⟩ : ByteArray)]).flatten ++ (List.map lst [(⟨#[32, 61, 32]⟩ : ByteArray)]).flatten ++ spellT qt (Tr.node x1 ks1) = spellN qt x ([Tr.node x0 ks0, Tr.node x1 ks1]) (([Tr.node x0 ks0, Tr.node x1 ks1]).map (spellT qt))) := by
    unfold Hid spellN
    simp [hk, lst, hf]
  have hn : Hid (0 + [x.str].length + [(⟨#[91]⟩ : ByteArray)].length + wtT (Tr.node x0 ks0) + [(⟨#[93]⟩ : ByteArray)].length + [(⟨#[32, 61, 32]⟩ : ByteArray)].length + wtT (Tr.node x1 ks1) ≤ 19 + 23 * szL ([Tr.node x0 ks0, Tr.node x1 ks1])) := by
    unfold Hid
    simp only [List.length_cons, List.length_nil, szL_cons, szL_nil]
    omega
  simp at hkl hroom
  rw [hk] at c0
  go_enter Tryz.func89, Tryz.ntmps89
  go_wp2_with (first
    | (go_at_call 84; refine (K1.out.put s5.out (by simp; omega)).mono ?_; rintro e w6 ⟨rfl, s6⟩; obtain ⟨⟨c0_5, c1_5, c2_5, c3_5, c4_5, c5_5⟩, l_5⟩ := hB.out s6.out; rw [hf] at c3_5)
    | (go_at_call 79; refine (say_st [(⟨#[32, 61, 32]⟩ : ByteArray)] s4.out (by simp; omega) _ _ rfl rfl).mono ?_; rintro e w5 ⟨rfl, s5⟩; obtain ⟨⟨c0_4, c1_4, c2_4, c3_4, c4_4, c5_4⟩, l_4⟩ := hB.out s5.out; rw [hf] at c3_4)
    | (go_at_call 79; refine (say_st [(⟨#[93]⟩ : ByteArray)] s3.out (by simp; omega) _ _ rfl rfl).mono ?_; rintro e w4 ⟨rfl, s4⟩; obtain ⟨⟨c0_3, c1_3, c2_3, c3_3, c4_3, c5_3⟩, l_3⟩ := hB.out s4.out; rw [hf] at c3_3)
    | (go_at_call 110; refine (perhaps_st K0.out hw.out hA.out s2.out (by simp; omega)).mono ?_; rintro e w3 ⟨rfl, s3⟩; obtain ⟨⟨c0_2, c1_2, c2_2, c3_2, c4_2, c5_2⟩, l_2⟩ := hB.out s3.out; rw [hf] at c3_2)
    | (go_at_call 79; refine (say_st [(⟨#[91]⟩ : ByteArray)] s1.out (by simp; omega) _ _ rfl rfl).mono ?_; rintro e w2 ⟨rfl, s2⟩; obtain ⟨⟨c0_1, c1_1, c2_1, c3_1, c4_1, c5_1⟩, l_1⟩ := hB.out s2.out; rw [hf] at c3_1)
    | (go_at_call 79; refine (say_st [x.str] s0.out (by simp; omega) _ _ rfl rfl).mono ?_; rintro e w1 ⟨rfl, s1⟩; obtain ⟨⟨c0_0, c1_0, c2_0, c3_0, c4_0, c5_0⟩, l_0⟩ := hB.out s1.out; rw [hf] at c3_0))
  all_goals go_end0
  all_goals exact s6.out.laid hF.out hn.out
end
end Go.Proofs.YtnnnfabpceapcaaGreatDoor

namespace Go.Proofs.YtnnnfabpceapcaaGreatDoor
set_option linter.unusedSimpArgs false
open Go.RowKit
set_option linter.unusedVariables false
section
variable {G : NdH → List Tr → Bool} {qt : List UInt8 → List UInt8} {A : Nat → Prop} {sb : Nat} {T : List Pc} {w w0 : World} {b o : Nat} {x : NdH} {kv : Value} {n cb : Nat} {ks : List Tr}

set_option maxHeartbeats 4000000 in
theorem op36 (J : Job G A sb T w0 w b o x kv n cb ks) (hk : x.kind = 9 ∨ x.kind = 10 ∨ x.kind = 11 ∨ x.kind = 12 ∨ x.kind = 13 ∨ x.kind = 14 ∨ x.kind = 15) (H : Calls Tryz.prog 86 #[.pointer (some ⟨sb, 0, none⟩), .pointer (some ⟨b, o, none⟩)] w (Spelt G qt A sb T w0 w x ks)) : Calls Tryz.prog 55 #[.pointer (some ⟨sb, 0, none⟩), .pointer (some ⟨b, o, none⟩)] w (Spelt G qt A sb T w0 w x ks) := by
  obtain ⟨c0, _, _, _, c4, _⟩ := J.hat.below J.hw J.hb
  have hbw := Nat.lt_of_lt_of_le J.hb J.hw.size
  replace H := hid' H
  obtain ⟨hkl, ao, cap, rfl⟩ := J.hK.shape
  rcases hk with hk | hk | hk | hk | hk | hk | hk
  all_goals
    rw [hk] at c0
    go_enter Tryz.func55, Tryz.ntmps55
    go_wp2_with (go_at_call 86; refine H.out.mono ?_; rintro e w1 ⟨rfl, s1⟩; replace s1 := hid' s1)
    go_end0
    exact ⟨rfl, s1.out⟩

set_option maxHeartbeats 4000000 in
theorem for38 (J : Job G A sb T w0 w b o x kv n cb ks) (hk : x.kind = 52) (H : Calls Tryz.prog 88 #[.pointer (some ⟨sb, 0, none⟩), kv] w (Spelt G qt A sb T w0 w x ks)) : Calls Tryz.prog 56 #[.pointer (some ⟨sb, 0, none⟩), .pointer (some ⟨b, o, none⟩)] w (Spelt G qt A sb T w0 w x ks) := by
  obtain ⟨c0, _, _, _, c4, _⟩ := J.hat.below J.hw J.hb
  have hbw := Nat.lt_of_lt_of_le J.hb J.hw.size
  replace H := hid' H
  obtain ⟨hkl, ao, cap, rfl⟩ := J.hK.shape
  rcases hk with hk
  all_goals
    rw [hk] at c0
    go_enter Tryz.func56, Tryz.ntmps56
    go_wp2_with (go_at_call 88; refine H.out.mono ?_; rintro e w1 ⟨rfl, s1⟩; replace s1 := hid' s1)
    go_end0
    exact ⟨rfl, s1.out⟩

set_option maxHeartbeats 4000000 in
theorem param39 (J : Job G A sb T w0 w b o x kv n cb ks) (hk : x.kind = 46) (H : Calls Tryz.prog 90 #[.pointer (some ⟨sb, 0, none⟩), .pointer (some ⟨b, o, none⟩)] w (Spelt G qt A sb T w0 w x ks)) : Calls Tryz.prog 57 #[.pointer (some ⟨sb, 0, none⟩), .pointer (some ⟨b, o, none⟩)] w (Spelt G qt A sb T w0 w x ks) := by
  obtain ⟨c0, _, _, _, c4, _⟩ := J.hat.below J.hw J.hb
  have hbw := Nat.lt_of_lt_of_le J.hb J.hw.size
  replace H := hid' H
  obtain ⟨hkl, ao, cap, rfl⟩ := J.hK.shape
  rcases hk with hk
  all_goals
    rw [hk] at c0
    go_enter Tryz.func57, Tryz.ntmps57
    go_wp2_with (go_at_call 90; refine H.out.mono ?_; rintro e w1 ⟨rfl, s1⟩; replace s1 := hid' s1)
    go_end0
    exact ⟨rfl, s1.out⟩

set_option maxHeartbeats 4000000 in
theorem var39_any (J : Job G A sb T w0 w b o x kv n cb ks) (hk : x.kind = 43) (H : Calls Tryz.prog 89 #[.pointer (some ⟨sb, 0, none⟩), .pointer (some ⟨b, o, none⟩)] w (Spelt G qt A sb T w0 w x ks)) : Calls Tryz.prog 57 #[.pointer (some ⟨sb, 0, none⟩), .pointer (some ⟨b, o, none⟩)] w (Spelt G qt A sb T w0 w x ks) := by
  obtain ⟨c0, _, _, _, c4, _⟩ := J.hat.below J.hw J.hb
  have hbw := Nat.lt_of_lt_of_le J.hb J.hw.size
  replace H := hid' H
  obtain ⟨hkl, ao, cap, rfl⟩ := J.hK.shape
  rcases hk with hk
  all_goals
    rw [hk] at c0
    go_enter Tryz.func57, Tryz.ntmps57
    go_wp2_with (go_at_call 89; refine H.out.mono ?_; rintro e w1 ⟨rfl, s1⟩; replace s1 := hid' s1)
    go_end0
    exact ⟨rfl, s1.out⟩
end
end Go.Proofs.YtnnnfabpceapcaaGreatDoor

namespace Go.Proofs.YtnnnfabpceapcaaGreatDoor
set_option linter.unusedSimpArgs false
set_option linter.unusedSimpArgs false
open Go.RowKit
set_option linter.unusedVariables false
section
variable {G : NdH → List Tr → Bool} {qt : List UInt8 → List UInt8} {A : Nat → Prop} {sb : Nat} {T : List Pc} {w w0 : World} {b o : Nat} {x : NdH} {kv : Value} {n cb : Nat} {ks : List Tr}

set_option maxHeartbeats 4000000 in
theorem return38_0 (hg : ∀ x ks, G x ks = true → x.str.size < 4611686018427387904) (J : Job G A sb T w0 w b o x kv n cb (ks)) (hk : x.kind = 55) (hn0 : ks = []) : Calls Tryz.prog 56 #[.pointer (some ⟨sb, 0, none⟩), .pointer (some ⟨b, o, none⟩)] w (Spelt G qt A sb T w0 w x (ks)) := by
  subst hn0
  have hT := J.hT
  have hw := hid' J.hw
  have hA := hid' J.hA
  have hB : Hid (∀ {L n W}, St G (spellT qt) w0 A sb T w L n W → NdAt W b o x kv ∧ b < W.heap.size) := fun h => ⟨J.hat.below (h.bel J.hw J.hA) J.hb, Nat.lt_of_lt_of_le J.hb (h.bel J.hw J.hA).size⟩
  obtain ⟨c0, c1, c2, c3, c4, _⟩ := J.hat.below J.hw J.hb
  have hbw := Nat.lt_of_lt_of_le J.hb J.hw.size
  have s0 := St.start (G := G) (sp := spellT qt) (w0 := w0) J.sp
  have HK := hid' J.hK
  have hGs := J.hG
  obtain ⟨hkl, ao, cap, rfl⟩ := J.hK.shape
  have hL : wtL ([] : List Tr) = 0 := rfl
  have hS0 : szL ([] : List Tr) = 0 := rfl
  have HG := hid' hGs
  have hF : Hid ([] ++ (List.map lst [(⟨#[114, 101, 116, 117, 114, 110]⟩ : ByteArray)]).flatten ++ joinL (lst ⟨#[]⟩) (List.map (spellT qt) []) ++ (List.map lst [(⟨#[59, 10]⟩ : ByteArray)]).flatten = spellN qt x [] (List.map (spellT qt) [])) := by
    unfold Hid spellN
    simp [hk, lst, joinL]
  have hn : Hid (0 + [(⟨#[114, 101, 116, 117, 114, 110]⟩ : ByteArray)].length + wtL [] + [(⟨#[59, 10]⟩ : ByteArray)].length ≤ 19 + 23 * szL []) := by
    unfold Hid
    simp only [List.length_cons, List.length_nil, szL_cons, szL_nil]
    omega
  rw [hk] at c0
  go_enter Tryz.func56, Tryz.ntmps56
  go_wp2_with (first
    | (go_at_call 79; refine (say_st [(⟨#[59, 10]⟩ : ByteArray)] s2.out (by simp; omega) _ _ rfl rfl).mono ?_; rintro e w3 ⟨rfl, s3⟩; obtain ⟨⟨c0_2, c1_2, c2_2, c3_2, c4_2, c5_2⟩, l_2⟩ := hB.out s3.out)
    | (go_at_call 85; refine (list_st ⟨#[]⟩ hw.out hA.out HK.out HG.out s1.out (by simp; omega)).mono ?_; rintro e w2 ⟨rfl, s2⟩; obtain ⟨⟨c0_1, c1_1, c2_1, c3_1, c4_1, c5_1⟩, l_1⟩ := hB.out s2.out)
    | (go_at_call 79; refine (say_st [(⟨#[114, 101, 116, 117, 114, 110]⟩ : ByteArray)] s0.out (by simp; omega) _ _ rfl rfl).mono ?_; rintro e w1 ⟨rfl, s1⟩; obtain ⟨⟨c0_0, c1_0, c2_0, c3_0, c4_0, c5_0⟩, l_0⟩ := hB.out s1.out))
  go_end0
  exact s3.out.laid hF.out hn.out

set_option maxHeartbeats 4000000 in
theorem sizeof77_t {sp : Tr → List UInt8} {W : World} {L : List UInt8} {x0 : NdH} {kv0 : Value} {i : Nat} {ks0 : List Tr} (K : Kid G w0 b o x0 kv0 i cb ks0) (hw : Below w0.heap.size w0 w) (hA : ∀ k, k < w0.heap.size → A k) (h : St G sp w0 A sb T w L n W) (hT : T.length + n + wtT (Tr.node x0 ks0) + 10 ≤ 549755813888) (h0 : x0.kind = 16) :
    Calls Tryz.prog 109 #[.pointer (some ⟨sb, 0, none⟩), .pointer (some ⟨b, o, none⟩)] W fun e w' => e = .returned (.tuple #[]) ∧ Hid (St G sp w0 A sb T w (L ++ ([115, 105, 122, 101, 111, 102] ++ parenL (sp (Tr.node x0 ks0)))) (n + (wtT (Tr.node x0 ks0) + 4)) w') := by
  have hB : Hid (∀ {L n W}, St G sp w0 A sb T w L n W → W.cell? ⟨b, o, none⟩ = some (.int .i64 x0.kind) ∧ b < W.heap.size) := fun h => ⟨(K.hat.below (h.bel hw hA) K.hb).1, Nat.lt_of_lt_of_le K.hb (h.bel hw hA).size⟩
  obtain ⟨c0, hbw⟩ := hB.out h
  have s0 := hid' h
  have HK := hid' K
  clear h K
  have hF : Hid (∀ W', St G sp w0 A sb T w (L ++ (List.map lst [(⟨#[115, 105, 122, 101, 111, 102]⟩ : ByteArray)]).flatten ++ parenL (sp (Tr.node x0 ks0))) (n + [(⟨#[115, 105, 122, 101, 111, 102]⟩ : ByteArray)].length + (wtT (Tr.node x0 ks0) + 2)) W' → St G sp w0 A sb T w (L ++ ([115, 105, 122, 101, 111, 102] ++ parenL (sp (Tr.node x0 ks0)))) (n + (wtT (Tr.node x0 ks0) + 4)) W') := fun W' q => by
    have e : L ++ (List.map lst [(⟨#[115, 105, 122, 101, 111, 102]⟩ : ByteArray)]).flatten ++ parenL (sp (Tr.node x0 ks0)) = L ++ ([115, 105, 122, 101, 111, 102] ++ parenL (sp (Tr.node x0 ks0))) := by simp [lst]
    rw [e] at q
    obtain ⟨P, q1, q2, q3⟩ := q
    exact ⟨P, q1, q2, q3.more (by simp only [List.length_cons, List.length_nil]; omega)⟩
  rw [h0] at c0 hB
  go_enter Tryz.func109, Tryz.ntmps109
  go_wp2_with (first
    | (go_at_call 108; refine (within_st HK.out s1.out (by simp; omega)).mono ?_; rintro e w2 ⟨rfl, s2⟩; obtain ⟨c0_1, l_1⟩ := hB.out s2.out)
    | (go_at_call 79; refine (say_st [(⟨#[115, 105, 122, 101, 111, 102]⟩ : ByteArray)] s0.out (by simp; omega) _ _ rfl rfl).mono ?_; rintro e w1 ⟨rfl, s1⟩; obtain ⟨c0_0, l_0⟩ := hB.out s1.out))
  all_goals first
    | (go_end0; exact ⟨rfl, hF.out _ s2.out⟩)
    | exact bodyPost_ret (v := .tuple #[]) (by simp [results, Tryz.results109, go_sem]) rfl ⟨rfl, hF.out _ s2.out⟩

set_option maxHeartbeats 4000000 in
theorem sizeof77_c {sp : Tr → List UInt8} {W : World} {L : List UInt8} {x0 : NdH} {kv0 : Value} {i : Nat} {ks0 : List Tr} (K : Kid G w0 b o x0 kv0 i cb ks0) (hw : Below w0.heap.size w0 w) (hA : ∀ k, k < w0.heap.size → A k) (h : St G sp w0 A sb T w L n W) (hT : T.length + n + wtT (Tr.node x0 ks0) + 10 ≤ 549755813888) (h0 : x0.kind = 14) :
    Calls Tryz.prog 109 #[.pointer (some ⟨sb, 0, none⟩), .pointer (some ⟨b, o, none⟩)] W fun e w' => e = .returned (.tuple #[]) ∧ Hid (St G sp w0 A sb T w (L ++ ([115, 105, 122, 101, 111, 102] ++ ([32] ++ parenL (sp (Tr.node x0 ks0))))) (n + (wtT (Tr.node x0 ks0) + 4)) w') := by
  have hB : Hid (∀ {L n W}, St G sp w0 A sb T w L n W → W.cell? ⟨b, o, none⟩ = some (.int .i64 x0.kind) ∧ b < W.heap.size) := fun h => ⟨(K.hat.below (h.bel hw hA) K.hb).1, Nat.lt_of_lt_of_le K.hb (h.bel hw hA).size⟩
  obtain ⟨c0, hbw⟩ := hB.out h
  have s0 := hid' h
  have HK := hid' K
  clear h K
  have hF : Hid (∀ W', St G sp w0 A sb T w (L ++ (List.map lst [(⟨#[115, 105, 122, 101, 111, 102]⟩ : ByteArray)]).flatten ++ (List.map lst [(⟨#[32]⟩ : ByteArray)]).flatten ++ parenL (sp (Tr.node x0 ks0))) (n + [(⟨#[115, 105, 122, 101, 111, 102]⟩ : ByteArray)].length + [(⟨#[32]⟩ : ByteArray)].length + (wtT (Tr.node x0 ks0) + 2)) W' → St G sp w0 A sb T w (L ++ ([115, 105, 122, 101, 111, 102] ++ ([32] ++ parenL (sp (Tr.node x0 ks0))))) (n + (wtT (Tr.node x0 ks0) + 4)) W') := fun W' q => by
    have e : L ++ (List.map lst [(⟨#[115, 105, 122, 101, 111, 102]⟩ : ByteArray)]).flatten ++ (List.map lst [(⟨#[32]⟩ : ByteArray)]).flatten ++ parenL (sp (Tr.node x0 ks0)) = L ++ ([115, 105, 122, 101, 111, 102] ++ ([32] ++ parenL (sp (Tr.node x0 ks0)))) := by simp [lst]
    rw [e] at q
    obtain ⟨P, q1, q2, q3⟩ := q
    exact ⟨P, q1, q2, q3.more (by simp only [List.length_cons, List.length_nil]; omega)⟩
  rw [h0] at c0 hB
  go_enter Tryz.func109, Tryz.ntmps109
  go_wp2_with (first
    | (go_at_call 108; refine (within_st HK.out s2.out (by simp; omega)).mono ?_; rintro e w3 ⟨rfl, s3⟩; obtain ⟨c0_2, l_2⟩ := hB.out s3.out)
    | (go_at_call 79; refine (say_st [(⟨#[32]⟩ : ByteArray)] s1.out (by simp; omega) _ _ rfl rfl).mono ?_; rintro e w2 ⟨rfl, s2⟩; obtain ⟨c0_1, l_1⟩ := hB.out s2.out)
    | (go_at_call 79; refine (say_st [(⟨#[115, 105, 122, 101, 111, 102]⟩ : ByteArray)] s0.out (by simp; omega) _ _ rfl rfl).mono ?_; rintro e w1 ⟨rfl, s1⟩; obtain ⟨c0_0, l_0⟩ := hB.out s1.out))
  all_goals first
    | (go_end0; exact ⟨rfl, hF.out _ s3.out⟩)
    | exact bodyPost_ret (v := .tuple #[]) (by simp [results, Tryz.results109, go_sem]) rfl ⟨rfl, hF.out _ s3.out⟩

set_option maxHeartbeats 4000000 in
theorem sizeof77_o {sp : Tr → List UInt8} {W : World} {L : List UInt8} {x0 : NdH} {kv0 : Value} {i : Nat} {ks0 : List Tr} (K : Kid G w0 b o x0 kv0 i cb ks0) (hw : Below w0.heap.size w0 w) (hA : ∀ k, k < w0.heap.size → A k) (h : St G sp w0 A sb T w L n W) (hT : T.length + n + wtT (Tr.node x0 ks0) + 10 ≤ 549755813888) (h1 : x0.kind ≠ 16) (h2 : x0.kind ≠ 14) :
    Calls Tryz.prog 109 #[.pointer (some ⟨sb, 0, none⟩), .pointer (some ⟨b, o, none⟩)] W fun e w' => e = .returned (.tuple #[]) ∧ Hid (St G sp w0 A sb T w (L ++ ([115, 105, 122, 101, 111, 102] ++ ([32] ++ atL 12 (Tr.node x0 ks0) (sp (Tr.node x0 ks0))))) (n + (wtT (Tr.node x0 ks0) + 4)) w') := by
  have hB : Hid (∀ {L n W}, St G sp w0 A sb T w L n W → W.cell? ⟨b, o, none⟩ = some (.int .i64 x0.kind) ∧ b < W.heap.size) := fun h => ⟨(K.hat.below (h.bel hw hA) K.hb).1, Nat.lt_of_lt_of_le K.hb (h.bel hw hA).size⟩
  obtain ⟨c0, hbw⟩ := hB.out h
  have s0 := hid' h
  have HK := hid' K
  clear h K
  have hF : Hid (∀ W', St G sp w0 A sb T w (L ++ (List.map lst [(⟨#[115, 105, 122, 101, 111, 102]⟩ : ByteArray)]).flatten ++ (List.map lst [(⟨#[32]⟩ : ByteArray)]).flatten ++ atL 12 (Tr.node x0 ks0) (sp (Tr.node x0 ks0))) (n + [(⟨#[115, 105, 122, 101, 111, 102]⟩ : ByteArray)].length + [(⟨#[32]⟩ : ByteArray)].length + (wtT (Tr.node x0 ks0) + 2)) W' → St G sp w0 A sb T w (L ++ ([115, 105, 122, 101, 111, 102] ++ ([32] ++ atL 12 (Tr.node x0 ks0) (sp (Tr.node x0 ks0))))) (n + (wtT (Tr.node x0 ks0) + 4)) W') := fun W' q => by
    have e : L ++ (List.map lst [(⟨#[115, 105, 122, 101, 111, 102]⟩ : ByteArray)]).flatten ++ (List.map lst [(⟨#[32]⟩ : ByteArray)]).flatten ++ atL 12 (Tr.node x0 ks0) (sp (Tr.node x0 ks0)) = L ++ ([115, 105, 122, 101, 111, 102] ++ ([32] ++ atL 12 (Tr.node x0 ks0) (sp (Tr.node x0 ks0)))) := by simp [lst]
    rw [e] at q
    obtain ⟨P, q1, q2, q3⟩ := q
    exact ⟨P, q1, q2, q3.more (by simp only [List.length_cons, List.length_nil]; omega)⟩
  have k1 : (x0.kind == 16) = false := by simpa using h1
  have k2 : (x0.kind == 14) = false := by simpa using h2
  go_enter Tryz.func109, Tryz.ntmps109
  go_wp2_with (first
    | (go_at_call 83; refine (at_st 12 HK.out hw hA s2.out (by simp; omega)).mono ?_; rintro e w3 ⟨rfl, s3⟩; obtain ⟨c0_2, l_2⟩ := hB.out s3.out)
    | (go_at_call 79; refine (say_st [(⟨#[32]⟩ : ByteArray)] s1.out (by simp; omega) _ _ rfl rfl).mono ?_; rintro e w2 ⟨rfl, s2⟩; obtain ⟨c0_1, l_1⟩ := hB.out s2.out)
    | (go_at_call 79; refine (say_st [(⟨#[115, 105, 122, 101, 111, 102]⟩ : ByteArray)] s0.out (by simp; omega) _ _ rfl rfl).mono ?_; rintro e w1 ⟨rfl, s1⟩; obtain ⟨c0_0, l_0⟩ := hB.out s1.out))
  all_goals first
    | (go_end0; exact ⟨rfl, hF.out _ s3.out⟩)
    | exact bodyPost_ret (v := .tuple #[]) (by simp [results, Tryz.results109, go_sem]) rfl ⟨rfl, hF.out _ s3.out⟩
end
end Go.Proofs.YtnnnfabpceapcaaGreatDoor

namespace Go.Proofs.YtnnnfabpceapcaaGreatDoor
set_option linter.unusedSimpArgs false
open Go.RowKit
set_option linter.unusedVariables false
section
variable {G : NdH → List Tr → Bool} {qt : List UInt8 → List UInt8} {A : Nat → Prop} {sb : Nat} {T : List Pc} {w w0 : World} {b o : Nat} {x : NdH} {kv : Value} {n cb : Nat} {ks : List Tr}

set_option maxHeartbeats 4000000 in
theorem sizeof57_t {t0 : Tr} (hg : ∀ x ks, G x ks = true → x.str.size < 4611686018427387904) (J : Job G A sb T w0 w b o x kv n cb ([t0])) (hk : x.kind = 15) (h0 : ∀ x0 ks0, t0 = Tr.node x0 ks0 → x0.kind = 16) : Calls Tryz.prog 86 #[.pointer (some ⟨sb, 0, none⟩), .pointer (some ⟨b, o, none⟩)] w (Spelt G qt A sb T w0 w x ([t0])) := by
  have hT := J.hT
  have hw := hid' J.hw
  have hA := hid' J.hA
  have hB : Hid (∀ {L n W}, St G (spellT qt) w0 A sb T w L n W → NdAt W b o x kv ∧ b < W.heap.size) := fun h => ⟨J.hat.below (h.bel J.hw J.hA) J.hb, Nat.lt_of_lt_of_le J.hb (h.bel J.hw J.hA).size⟩
  obtain ⟨c0, c1, c2, c3, c4, _⟩ := J.hat.below J.hw J.hb
  have hbw := Nat.lt_of_lt_of_le J.hb J.hw.size
  have s0 := St.start (G := G) (sp := spellT qt) (w0 := w0) J.sp
  have HK := hid' J.hK
  have hGs := J.hG
  obtain ⟨hkl, ao, cap, rfl⟩ := J.hK.shape
  obtain ⟨m0, b0, off0, x0, kv0, ks0, _, ea0, ⟨hb0, _⟩, e0, hat0, hK0⟩ := HK.out.kid 0 (by simp)
  subst ea0
  simp at e0 hat0
  subst e0
  simp only [allL_cons, allL_nil, Bool.and_true] at hGs
  have g0 : allT G (Tr.node x0 ks0) = true := hGs
  have z0 : G x0 ks0 = true := by rw [allT_node, Bool.and_eq_true] at g0; exact g0.1
  have K0 : Hid (Kid G w0 b0 off0 x0 kv0 m0 cb ks0) := ⟨hat0, hb0, hK0, g0, hg _ _ z0⟩
  have zz0 := szT_pos (Tr.node x0 ks0)
  simp only [szL_cons, szL_nil] at hT
  have ww0 : wtT (Tr.node x0 ks0) + 3 = 23 * szT (Tr.node x0 ks0) := by unfold wtT; omega
  have hk0 := h0 x0 ks0 rfl
  have hF : Hid ([] ++ ([115, 105, 122, 101, 111, 102] ++ parenL (spellT qt (Tr.node x0 ks0))) = spellN qt x ([Tr.node x0 ks0]) (([Tr.node x0 ks0]).map (spellT qt))) := by
    unfold Hid spellN
    simp [hk, lst, hdT_node, hk0]
  have hn : Hid (0 + (wtT (Tr.node x0 ks0) + 4) ≤ 19 + 23 * szL ([Tr.node x0 ks0])) := by
    unfold Hid
    simp only [List.length_cons, List.length_nil, szL_cons, szL_nil]
    omega
  simp at hkl
  rw [hk] at c0
  go_enter Tryz.func86, Tryz.ntmps86
  go_wp2_with (first
    | (go_at_call 109; refine (sizeof77_t K0.out hw.out hA.out s0.out (by simp; omega) hk0).mono ?_; rintro e w1 ⟨rfl, s1⟩; obtain ⟨⟨c0_0, c1_0, c2_0, c3_0, c4_0, c5_0⟩, l_0⟩ := hB.out s1.out))
  go_end0
  exact s1.out.laid hF.out hn.out

set_option maxHeartbeats 4000000 in
theorem sizeof57_c {t0 : Tr} (hg : ∀ x ks, G x ks = true → x.str.size < 4611686018427387904) (J : Job G A sb T w0 w b o x kv n cb ([t0])) (hk : x.kind = 15) (h0 : ∀ x0 ks0, t0 = Tr.node x0 ks0 → x0.kind = 14) : Calls Tryz.prog 86 #[.pointer (some ⟨sb, 0, none⟩), .pointer (some ⟨b, o, none⟩)] w (Spelt G qt A sb T w0 w x ([t0])) := by
  have hT := J.hT
  have hw := hid' J.hw
  have hA := hid' J.hA
  have hB : Hid (∀ {L n W}, St G (spellT qt) w0 A sb T w L n W → NdAt W b o x kv ∧ b < W.heap.size) := fun h => ⟨J.hat.below (h.bel J.hw J.hA) J.hb, Nat.lt_of_lt_of_le J.hb (h.bel J.hw J.hA).size⟩
  obtain ⟨c0, c1, c2, c3, c4, _⟩ := J.hat.below J.hw J.hb
  have hbw := Nat.lt_of_lt_of_le J.hb J.hw.size
  have s0 := St.start (G := G) (sp := spellT qt) (w0 := w0) J.sp
  have HK := hid' J.hK
  have hGs := J.hG
  obtain ⟨hkl, ao, cap, rfl⟩ := J.hK.shape
  obtain ⟨m0, b0, off0, x0, kv0, ks0, _, ea0, ⟨hb0, _⟩, e0, hat0, hK0⟩ := HK.out.kid 0 (by simp)
  subst ea0
  simp at e0 hat0
  subst e0
  simp only [allL_cons, allL_nil, Bool.and_true] at hGs
  have g0 : allT G (Tr.node x0 ks0) = true := hGs
  have z0 : G x0 ks0 = true := by rw [allT_node, Bool.and_eq_true] at g0; exact g0.1
  have K0 : Hid (Kid G w0 b0 off0 x0 kv0 m0 cb ks0) := ⟨hat0, hb0, hK0, g0, hg _ _ z0⟩
  have zz0 := szT_pos (Tr.node x0 ks0)
  simp only [szL_cons, szL_nil] at hT
  have ww0 : wtT (Tr.node x0 ks0) + 3 = 23 * szT (Tr.node x0 ks0) := by unfold wtT; omega
  have hk0 := h0 x0 ks0 rfl
  have hF : Hid ([] ++ ([115, 105, 122, 101, 111, 102] ++ ([32] ++ parenL (spellT qt (Tr.node x0 ks0)))) = spellN qt x ([Tr.node x0 ks0]) (([Tr.node x0 ks0]).map (spellT qt))) := by
    unfold Hid spellN
    simp [hk, lst, hdT_node, hk0]
  have hn : Hid (0 + (wtT (Tr.node x0 ks0) + 4) ≤ 19 + 23 * szL ([Tr.node x0 ks0])) := by
    unfold Hid
    simp only [List.length_cons, List.length_nil, szL_cons, szL_nil]
    omega
  simp at hkl
  rw [hk] at c0
  go_enter Tryz.func86, Tryz.ntmps86
  go_wp2_with (first
    | (go_at_call 109; refine (sizeof77_c K0.out hw.out hA.out s0.out (by simp; omega) hk0).mono ?_; rintro e w1 ⟨rfl, s1⟩; obtain ⟨⟨c0_0, c1_0, c2_0, c3_0, c4_0, c5_0⟩, l_0⟩ := hB.out s1.out))
  go_end0
  exact s1.out.laid hF.out hn.out

set_option maxHeartbeats 4000000 in
theorem sizeof57_o {t0 : Tr} (hg : ∀ x ks, G x ks = true → x.str.size < 4611686018427387904) (J : Job G A sb T w0 w b o x kv n cb ([t0])) (hk : x.kind = 15) (h0 : ∀ x0 ks0, t0 = Tr.node x0 ks0 → x0.kind ≠ 16 ∧ x0.kind ≠ 14) : Calls Tryz.prog 86 #[.pointer (some ⟨sb, 0, none⟩), .pointer (some ⟨b, o, none⟩)] w (Spelt G qt A sb T w0 w x ([t0])) := by
  have hT := J.hT
  have hw := hid' J.hw
  have hA := hid' J.hA
  have hB : Hid (∀ {L n W}, St G (spellT qt) w0 A sb T w L n W → NdAt W b o x kv ∧ b < W.heap.size) := fun h => ⟨J.hat.below (h.bel J.hw J.hA) J.hb, Nat.lt_of_lt_of_le J.hb (h.bel J.hw J.hA).size⟩
  obtain ⟨c0, c1, c2, c3, c4, _⟩ := J.hat.below J.hw J.hb
  have hbw := Nat.lt_of_lt_of_le J.hb J.hw.size
  have s0 := St.start (G := G) (sp := spellT qt) (w0 := w0) J.sp
  have HK := hid' J.hK
  have hGs := J.hG
  obtain ⟨hkl, ao, cap, rfl⟩ := J.hK.shape
  obtain ⟨m0, b0, off0, x0, kv0, ks0, _, ea0, ⟨hb0, _⟩, e0, hat0, hK0⟩ := HK.out.kid 0 (by simp)
  subst ea0
  simp at e0 hat0
  subst e0
  simp only [allL_cons, allL_nil, Bool.and_true] at hGs
  have g0 : allT G (Tr.node x0 ks0) = true := hGs
  have z0 : G x0 ks0 = true := by rw [allT_node, Bool.and_eq_true] at g0; exact g0.1
  have K0 : Hid (Kid G w0 b0 off0 x0 kv0 m0 cb ks0) := ⟨hat0, hb0, hK0, g0, hg _ _ z0⟩
  have zz0 := szT_pos (Tr.node x0 ks0)
  simp only [szL_cons, szL_nil] at hT
  have ww0 : wtT (Tr.node x0 ks0) + 3 = 23 * szT (Tr.node x0 ks0) := by unfold wtT; omega
  have hk0 := h0 x0 ks0 rfl
  have hF : Hid ([] ++ ([115, 105, 122, 101, 111, 102] ++ ([32] ++ atL 12 (Tr.node x0 ks0) (spellT qt (Tr.node x0 ks0)))) = spellN qt x ([Tr.node x0 ks0]) (([Tr.node x0 ks0]).map (spellT qt))) := by
    unfold Hid spellN
    simp [hk, lst, hdT_node, hk0.1, hk0.2]
  have hn : Hid (0 + (wtT (Tr.node x0 ks0) + 4) ≤ 19 + 23 * szL ([Tr.node x0 ks0])) := by
    unfold Hid
    simp only [List.length_cons, List.length_nil, szL_cons, szL_nil]
    omega
  simp at hkl
  rw [hk] at c0
  go_enter Tryz.func86, Tryz.ntmps86
  go_wp2_with (first
    | (go_at_call 109; refine (sizeof77_o K0.out hw.out hA.out s0.out (by simp; omega) hk0.1 hk0.2).mono ?_; rintro e w1 ⟨rfl, s1⟩; obtain ⟨⟨c0_0, c1_0, c2_0, c3_0, c4_0, c5_0⟩, l_0⟩ := hB.out s1.out))
  go_end0
  exact s1.out.laid hF.out hn.out
end
end Go.Proofs.YtnnnfabpceapcaaGreatDoor

namespace Go.Proofs.YtnnnfabpceapcaaGreatDoor
set_option linter.unusedSimpArgs false
open Go.RowKit
set_option linter.unusedVariables false
section
variable {G : NdH → List Tr → Bool} {qt : List UInt8 → List UInt8} {A : Nat → Prop} {sb : Nat} {T : List Pc} {w w0 : World} {b o : Nat} {x : NdH} {kv : Value} {n cb : Nat} {ks : List Tr}

theorem St.dr {sp : Tr → List UInt8} {L : List UInt8} {W : World} (h : St G sp w0 A sb T w L n W) (k : Nat) : St G sp w0 A sb T w L n (W.drewN k) := by
  obtain ⟨P, q1, q2, q3⟩ := h
  have hb : Below W.heap.size W (W.drewN k) := ⟨rfl, rfl, rfl, Nat.le_refl _, fun _ _ => rfl⟩
  exact ⟨P, q1.below hb, q2.trans (On.of_below hb), q3⟩
set_option maxHeartbeats 4000000 in
theorem unary57_y {t0 : Tr} (hg : ∀ x ks, G x ks = true → x.str.size < 4611686018427387904) (J : Job G A sb T w0 w b o x kv n cb ([t0])) (hk : x.kind = 9) (h0 : ∀ x0 ks0, t0 = Tr.node x0 ks0 → x0.kind = 9 ∧ x0.str = x.str) : Calls Tryz.prog 86 #[.pointer (some ⟨sb, 0, none⟩), .pointer (some ⟨b, o, none⟩)] w (Spelt G qt A sb T w0 w x ([t0])) := by
  have hT := J.hT
  have hw := hid' J.hw
  have hA := hid' J.hA
  have hB : Hid (∀ {L n W}, St G (spellT qt) w0 A sb T w L n W → NdAt W b o x kv ∧ b < W.heap.size) := fun h => ⟨J.hat.below (h.bel J.hw J.hA) J.hb, Nat.lt_of_lt_of_le J.hb (h.bel J.hw J.hA).size⟩
  obtain ⟨c0, c1, c2, c3, c4, _⟩ := J.hat.below J.hw J.hb
  have hbw := Nat.lt_of_lt_of_le J.hb J.hw.size
  have s0 := St.start (G := G) (sp := spellT qt) (w0 := w0) J.sp
  have HK := hid' J.hK
  have hGs := J.hG
  obtain ⟨hkl, ao, cap, rfl⟩ := J.hK.shape
  obtain ⟨m0, b0, off0, x0, kv0, ks0, _, ea0, ⟨hb0, _⟩, e0, hat0, hK0⟩ := HK.out.kid 0 (by simp)
  subst ea0
  simp at e0 hat0
  subst e0
  simp only [allL_cons, allL_nil, Bool.and_true] at hGs
  have g0 : allT G (Tr.node x0 ks0) = true := hGs
  have z0 : G x0 ks0 = true := by rw [allT_node, Bool.and_eq_true] at g0; exact g0.1
  have K0 : Hid (Kid G w0 b0 off0 x0 kv0 m0 cb ks0) := ⟨hat0, hb0, hK0, g0, hg _ _ z0⟩
  have zz0 := szT_pos (Tr.node x0 ks0)
  simp only [szL_cons, szL_nil] at hT
  have ww0 : wtT (Tr.node x0 ks0) + 3 = 23 * szT (Tr.node x0 ks0) := by unfold wtT; omega
  have hk0 := h0 x0 ks0 rfl
  have hBK : Hid (∀ {L n W}, St G (spellT qt) w0 A sb T w L n W → NdAt W b0 off0 x0 kv0 ∧ b0 < W.heap.size) := fun h => ⟨hat0.below (h.bel J.hw J.hA) hb0, Nat.lt_of_lt_of_le hb0 (h.bel J.hw J.hA).size⟩
  have hF : Hid ([] ++ (List.map lst [x.str]).flatten ++ (List.map lst [(⟨#[32]⟩ : ByteArray)]).flatten ++ atL 12 (Tr.node x0 ks0) (spellT qt (Tr.node x0 ks0)) = spellN qt x ([Tr.node x0 ks0]) (([Tr.node x0 ks0]).map (spellT qt))) := by
    unfold Hid spellN
    simp [hk, lst, hdT_node, hk0.1, hk0.2]
  have hn : Hid (0 + [x.str].length + [(⟨#[32]⟩ : ByteArray)].length + (wtT (Tr.node x0 ks0) + 2) ≤ 19 + 23 * szL ([Tr.node x0 ks0])) := by
    unfold Hid
    simp only [List.length_cons, List.length_nil, szL_cons, szL_nil]
    omega
  simp at hkl
  rw [hk] at c0
  go_enter Tryz.func86, Tryz.ntmps86
  go_wp2_with (first
    | (go_at_call 79; refine (say_st [x.str] s0.out (by simp; omega) _ _ rfl rfl).mono ?_; rintro e w1 ⟨rfl, s1⟩; obtain ⟨⟨c0_0, c1_0, c2_0, c3_0, c4_0, c5_0⟩, l_0⟩ := hB.out s1.out; obtain ⟨⟨k0_0, k1_0, _, _, _, _⟩, kl_0⟩ := hBK.out s1.out; rw [hk0.1] at k0_0; rw [hk0.2] at k1_0; refine of_mark ?_))
  unfold Mark
  go_wp2
  go_quiet (fail)
  go_wp2_with (first
    | (go_at_call 83; refine (at_st 12 K0.out hw.out hA.out s2.out (by simp; omega)).mono ?_; rintro e w3 ⟨rfl, s3⟩; obtain ⟨⟨c0_2, c1_2, c2_2, c3_2, c4_2, c5_2⟩, l_2⟩ := hB.out s3.out)
    | (go_at_call 79; refine (say_st [(⟨#[32]⟩ : ByteArray)] (s1.out.dr _) (by simp; omega) _ _ rfl rfl).mono ?_; rintro e w2 ⟨rfl, s2⟩; obtain ⟨⟨c0_1, c1_1, c2_1, c3_1, c4_1, c5_1⟩, l_1⟩ := hB.out s2.out))
  go_end0
  exact s3.out.laid hF.out hn.out

set_option maxHeartbeats 4000000 in
theorem unary57_n1 {t0 : Tr} (hg : ∀ x ks, G x ks = true → x.str.size < 4611686018427387904) (J : Job G A sb T w0 w b o x kv n cb ([t0])) (hk : x.kind = 9) (h0 : ∀ x0 ks0, t0 = Tr.node x0 ks0 → x0.kind ≠ 9) : Calls Tryz.prog 86 #[.pointer (some ⟨sb, 0, none⟩), .pointer (some ⟨b, o, none⟩)] w (Spelt G qt A sb T w0 w x ([t0])) := by
  have hT := J.hT
  have hw := hid' J.hw
  have hA := hid' J.hA
  have hB : Hid (∀ {L n W}, St G (spellT qt) w0 A sb T w L n W → NdAt W b o x kv ∧ b < W.heap.size) := fun h => ⟨J.hat.below (h.bel J.hw J.hA) J.hb, Nat.lt_of_lt_of_le J.hb (h.bel J.hw J.hA).size⟩
  obtain ⟨c0, c1, c2, c3, c4, _⟩ := J.hat.below J.hw J.hb
  have hbw := Nat.lt_of_lt_of_le J.hb J.hw.size
  have s0 := St.start (G := G) (sp := spellT qt) (w0 := w0) J.sp
  have HK := hid' J.hK
  have hGs := J.hG
  obtain ⟨hkl, ao, cap, rfl⟩ := J.hK.shape
  obtain ⟨m0, b0, off0, x0, kv0, ks0, _, ea0, ⟨hb0, _⟩, e0, hat0, hK0⟩ := HK.out.kid 0 (by simp)
  subst ea0
  simp at e0 hat0
  subst e0
  simp only [allL_cons, allL_nil, Bool.and_true] at hGs
  have g0 : allT G (Tr.node x0 ks0) = true := hGs
  have z0 : G x0 ks0 = true := by rw [allT_node, Bool.and_eq_true] at g0; exact g0.1
  have K0 : Hid (Kid G w0 b0 off0 x0 kv0 m0 cb ks0) := ⟨hat0, hb0, hK0, g0, hg _ _ z0⟩
  have zz0 := szT_pos (Tr.node x0 ks0)
  simp only [szL_cons, szL_nil] at hT
  have ww0 : wtT (Tr.node x0 ks0) + 3 = 23 * szT (Tr.node x0 ks0) := by unfold wtT; omega
  have hk0 := h0 x0 ks0 rfl
  have hBK : Hid (∀ {L n W}, St G (spellT qt) w0 A sb T w L n W → NdAt W b0 off0 x0 kv0 ∧ b0 < W.heap.size) := fun h => ⟨hat0.below (h.bel J.hw J.hA) hb0, Nat.lt_of_lt_of_le hb0 (h.bel J.hw J.hA).size⟩
  have hF : Hid ([] ++ (List.map lst [x.str]).flatten ++ atL 12 (Tr.node x0 ks0) (spellT qt (Tr.node x0 ks0)) = spellN qt x ([Tr.node x0 ks0]) (([Tr.node x0 ks0]).map (spellT qt))) := by
    unfold Hid spellN
    simp [hk, lst, hdT_node, hk0]
  have hn : Hid (0 + [x.str].length + (wtT (Tr.node x0 ks0) + 2) ≤ 19 + 23 * szL ([Tr.node x0 ks0])) := by
    unfold Hid
    simp only [List.length_cons, List.length_nil, szL_cons, szL_nil]
    omega
  simp at hkl
  rw [hk] at c0
  go_enter Tryz.func86, Tryz.ntmps86
  go_wp2_with (first
    | (go_at_call 79; refine (say_st [x.str] s0.out (by simp; omega) _ _ rfl rfl).mono ?_; rintro e w1 ⟨rfl, s1⟩; obtain ⟨⟨c0_0, c1_0, c2_0, c3_0, c4_0, c5_0⟩, l_0⟩ := hB.out s1.out; obtain ⟨⟨k0_0, k1_0, _, _, _, _⟩, kl_0⟩ := hBK.out s1.out; have hkk : (x0.kind == 9) = false := by { simpa using hk0 }; refine of_mark ?_))
  unfold Mark
  go_wp2
  go_quiet (fail)
  go_wp2_with (first
    | (go_at_call 83; refine (at_st 12 K0.out hw.out hA.out (s1.out.dr _) (by simp; omega)).mono ?_; rintro e w2 ⟨rfl, s2⟩; obtain ⟨⟨c0_1, c1_1, c2_1, c3_1, c4_1, c5_1⟩, l_1⟩ := hB.out s2.out))
  go_end0
  exact s2.out.laid hF.out hn.out

set_option maxHeartbeats 4000000 in
theorem unary57_n2 {t0 : Tr} (hg : ∀ x ks, G x ks = true → x.str.size < 4611686018427387904) (J : Job G A sb T w0 w b o x kv n cb ([t0])) (hk : x.kind = 9) (h0 : ∀ x0 ks0, t0 = Tr.node x0 ks0 → x0.kind = 9 ∧ (x0.str.toList == x.str.toList) = false) : Calls Tryz.prog 86 #[.pointer (some ⟨sb, 0, none⟩), .pointer (some ⟨b, o, none⟩)] w (Spelt G qt A sb T w0 w x ([t0])) := by
  have hT := J.hT
  have hw := hid' J.hw
  have hA := hid' J.hA
  have hB : Hid (∀ {L n W}, St G (spellT qt) w0 A sb T w L n W → NdAt W b o x kv ∧ b < W.heap.size) := fun h => ⟨J.hat.below (h.bel J.hw J.hA) J.hb, Nat.lt_of_lt_of_le J.hb (h.bel J.hw J.hA).size⟩
  obtain ⟨c0, c1, c2, c3, c4, _⟩ := J.hat.below J.hw J.hb
  have hbw := Nat.lt_of_lt_of_le J.hb J.hw.size
  have s0 := St.start (G := G) (sp := spellT qt) (w0 := w0) J.sp
  have HK := hid' J.hK
  have hGs := J.hG
  obtain ⟨hkl, ao, cap, rfl⟩ := J.hK.shape
  obtain ⟨m0, b0, off0, x0, kv0, ks0, _, ea0, ⟨hb0, _⟩, e0, hat0, hK0⟩ := HK.out.kid 0 (by simp)
  subst ea0
  simp at e0 hat0
  subst e0
  simp only [allL_cons, allL_nil, Bool.and_true] at hGs
  have g0 : allT G (Tr.node x0 ks0) = true := hGs
  have z0 : G x0 ks0 = true := by rw [allT_node, Bool.and_eq_true] at g0; exact g0.1
  have K0 : Hid (Kid G w0 b0 off0 x0 kv0 m0 cb ks0) := ⟨hat0, hb0, hK0, g0, hg _ _ z0⟩
  have zz0 := szT_pos (Tr.node x0 ks0)
  simp only [szL_cons, szL_nil] at hT
  have ww0 : wtT (Tr.node x0 ks0) + 3 = 23 * szT (Tr.node x0 ks0) := by unfold wtT; omega
  have hk0 := h0 x0 ks0 rfl
  have hne : ¬ lst x0.str = lst x.str := fun e => by have := hk0.2; rw [lst_eq, lst_eq, e] at this; simp at this
  have hBK : Hid (∀ {L n W}, St G (spellT qt) w0 A sb T w L n W → NdAt W b0 off0 x0 kv0 ∧ b0 < W.heap.size) := fun h => ⟨hat0.below (h.bel J.hw J.hA) hb0, Nat.lt_of_lt_of_le hb0 (h.bel J.hw J.hA).size⟩
  have hF : Hid ([] ++ (List.map lst [x.str]).flatten ++ atL 12 (Tr.node x0 ks0) (spellT qt (Tr.node x0 ks0)) = spellN qt x ([Tr.node x0 ks0]) (([Tr.node x0 ks0]).map (spellT qt))) := by
    unfold Hid spellN
    simp [hk, hdT_node, hk0.1, hne]
  have hn : Hid (0 + [x.str].length + (wtT (Tr.node x0 ks0) + 2) ≤ 19 + 23 * szL ([Tr.node x0 ks0])) := by
    unfold Hid
    simp only [List.length_cons, List.length_nil, szL_cons, szL_nil]
    omega
  simp at hkl
  rw [hk] at c0
  go_enter Tryz.func86, Tryz.ntmps86
  go_wp2_with (first
    | (go_at_call 79; refine (say_st [x.str] s0.out (by simp; omega) _ _ rfl rfl).mono ?_; rintro e w1 ⟨rfl, s1⟩; obtain ⟨⟨c0_0, c1_0, c2_0, c3_0, c4_0, c5_0⟩, l_0⟩ := hB.out s1.out; obtain ⟨⟨k0_0, k1_0, _, _, _, _⟩, kl_0⟩ := hBK.out s1.out; rw [hk0.1] at k0_0; have hkk := hk0.2; refine of_mark ?_))
  unfold Mark
  go_wp2
  go_quiet (fail)
  go_wp2_with (first
    | (go_at_call 83; refine (at_st 12 K0.out hw.out hA.out (s1.out.dr _) (by simp; omega)).mono ?_; rintro e w2 ⟨rfl, s2⟩; obtain ⟨⟨c0_1, c1_1, c2_1, c3_1, c4_1, c5_1⟩, l_1⟩ := hB.out s2.out))
  go_end0
  exact s2.out.laid hF.out hn.out
end
end Go.Proofs.YtnnnfabpceapcaaGreatDoor

namespace Go.Proofs.YtnnnfabpceapcaaGreatDoor
set_option linter.unusedSimpArgs false
open Go.RowKit
set_option linter.unusedVariables false
section
variable {G : NdH → List Tr → Bool} {qt : List UInt8 → List UInt8} {A : Nat → Prop} {sb : Nat} {T : List Pc} {w w0 : World} {b o : Nat} {x : NdH} {kv : Value} {n cb : Nat} {ks : List Tr}
theorem St.dw {sp : Tr → List UInt8} {L : List UInt8} {W : World} (h : St G sp w0 A sb T w L n W) : St G sp w0 A sb T w L n W.drew := by
  obtain ⟨P, q1, q2, q3⟩ := h
  have hb : Below W.heap.size W W.drew := (Below.refl _ _).drew
  exact ⟨P, q1.below hb, q2.trans (On.of_below hb), q3⟩
theorem ite_b {c : Prop} [Decidable c] {p q : Int} (hp : 0 ≤ p ∧ p ≤ 11) (hq : 0 ≤ q ∧ q ≤ 11) : 0 ≤ (if c then p else q) ∧ (if c then p else q) ≤ 11 := by
  split
  · exact hp
  · exact hq
theorem bin_bound (s : ByteArray) : 0 ≤ binF s ∧ binF s ≤ 11 := by
  unfold binF
  repeat (refine ite_b (by decide) ?_)
  decide
theorem log_bound (s : ByteArray) : 0 ≤ logF s ∧ logF s ≤ 11 := by
  unfold logF
  repeat (refine ite_b (by decide) ?_)
  decide
theorem lvl_bound (x : NdH) : 0 ≤ lvl x ∧ lvl x ≤ 13 := by
  have h1 := bin_bound x.str
  have h2 := log_bound x.str
  unfold lvl
  repeat (first | omega | split)

set_option maxHeartbeats 4000000 in
theorem bin57_10 {t0 t1 : Tr} (hg : ∀ x ks, G x ks = true → x.str.size < 4611686018427387904) (J : Job G A sb T w0 w b o x kv n cb ([t0, t1])) (hx : x.str.size < 4611686018427387904) (hk : x.kind = 10) : Calls Tryz.prog 86 #[.pointer (some ⟨sb, 0, none⟩), .pointer (some ⟨b, o, none⟩)] w (Spelt G qt A sb T w0 w x ([t0, t1])) := by
  have hT := J.hT
  have hw := hid' J.hw
  have hA := hid' J.hA
  have hB : Hid (∀ {L n W}, St G (spellT qt) w0 A sb T w L n W → NdAt W b o x kv ∧ b < W.heap.size) := fun h => ⟨J.hat.below (h.bel J.hw J.hA) J.hb, Nat.lt_of_lt_of_le J.hb (h.bel J.hw J.hA).size⟩
  obtain ⟨c0, c1, c2, c3, c4, _⟩ := J.hat.below J.hw J.hb
  have hbw := Nat.lt_of_lt_of_le J.hb J.hw.size
  have s0 := St.start (G := G) (sp := spellT qt) (w0 := w0) J.sp
  have HK := hid' J.hK
  have hGs := J.hG
  obtain ⟨hkl, ao, cap, rfl⟩ := J.hK.shape
  obtain ⟨m0, b0, off0, x0, kv0, ks0, _, ea0, ⟨hb0, _⟩, e0, hat0, hK0⟩ := HK.out.kid 0 (by simp)
  subst ea0
  simp at e0 hat0
  subst e0
  obtain ⟨m1, b1, off1, x1, kv1, ks1, _, ea1, ⟨hb1, _⟩, e1, hat1, hK1⟩ := HK.out.kid 1 (by simp)
  injection ea1 with ea1
  injection ea1 with eb1 ec1
  subst eb1 ec1
  simp at e1 hat1
  subst e1
  simp only [allL_cons, allL_nil, Bool.and_true, Bool.and_eq_true] at hGs
  have g0 : allT G (Tr.node x0 ks0) = true := hGs.1
  have z0 : G x0 ks0 = true := by rw [allT_node, Bool.and_eq_true] at g0; exact g0.1
  have K0 : Hid (Kid G w0 b0 off0 x0 kv0 m0 cb ks0) := ⟨hat0, hb0, hK0, g0, hg _ _ z0⟩
  have zz0 := szT_pos (Tr.node x0 ks0)
  have g1 : allT G (Tr.node x1 ks1) = true := hGs.2
  have z1 : G x1 ks1 = true := by rw [allT_node, Bool.and_eq_true] at g1; exact g1.1
  have K1 : Hid (Kid G w0 b0 (off0 + 6) x1 kv1 m1 cb ks1) := ⟨hat1, hb1, hK1, g1, hg _ _ z1⟩
  have zz1 := szT_pos (Tr.node x1 ks1)
  simp only [szL_cons, szL_nil] at hT
  have ww0 : wtT (Tr.node x0 ks0) + 3 = 23 * szT (Tr.node x0 ks0) := by unfold wtT; omega
  have ww1 : wtT (Tr.node x1 ks1) + 3 = 23 * szT (Tr.node x1 ks1) := by unfold wtT; omega
  have hlb := lvl_bound x
  have HL : Hid (∀ {L n W}, St G (spellT qt) w0 A sb T w L n W → Calls Tryz.prog 107 #[.pointer (some ⟨b, o, none⟩)] W fun e w' => e = .returned (.int .i64 (lvl x)) ∧ Hid (St G (spellT qt) w0 A sb T w L n w')) := fun {L n W} h => by
    obtain ⟨na, nl⟩ := hB.out h
    refine (level75 na nl hx).mono fun e w' q => ⟨q.1, ?_⟩
    obtain ⟨P, q1, q2, q3⟩ := h
    exact ⟨P, q1.below q.2, q2.trans (On.of_below q.2), q3⟩
  obtain ⟨l, hl⟩ : ∃ l, l = lvl x := ⟨_, rfl⟩
  have hF : Hid ([] ++ atL l (Tr.node x0 ks0) (spellT qt (Tr.node x0 ks0)) ++ (List.map lst [(⟨#[32]⟩ : ByteArray), x.str, (⟨#[32]⟩ : ByteArray)]).flatten ++ atL (l + 1) (Tr.node x1 ks1) (spellT qt (Tr.node x1 ks1)) = spellN qt x ([Tr.node x0 ks0, Tr.node x1 ks1]) (([Tr.node x0 ks0, Tr.node x1 ks1]).map (spellT qt))) := by
    unfold Hid spellN
    simp [hk, lst, hl]
  have hn : Hid (0 + (wtT (Tr.node x0 ks0) + 2) + [(⟨#[32]⟩ : ByteArray), x.str, (⟨#[32]⟩ : ByteArray)].length + (wtT (Tr.node x1 ks1) + 2) ≤ 19 + 23 * szL ([Tr.node x0 ks0, Tr.node x1 ks1])) := by
    unfold Hid
    simp only [List.length_cons, List.length_nil, szL_cons, szL_nil]
    omega
  simp at hkl
  rw [hk] at c0
  rw [← hl] at HL hlb
  clear hl
  obtain ⟨hl0, hl1⟩ := hlb
  have hwr : IntKind.i64.wrap (l + 1) = l + 1 := Go.IntWalk.i64_in _ (by omega)
  have hwr' : wrap64 (l + 1) = l + 1 := by unfold wrap64; omega
  go_enter Tryz.func86, Tryz.ntmps86
  go_wp2
  go_region_with (first
    | (go_at_call 107; refine (HL.out s0.out.dw).mono ?_; rintro e v1 ⟨rfl, t1⟩)
    | (go_at_call 83; refine (at_st l K0.out hw.out hA.out t1.out (by simp; omega)).mono ?_; rintro e w1 ⟨rfl, s1⟩; obtain ⟨⟨c0_0, c1_0, c2_0, c3_0, c4_0, c5_0⟩, l_0⟩ := hB.out s1.out))
  all_goals
    go_wp2_with (go_at_call 79; refine (say_st [(⟨#[32]⟩ : ByteArray), x.str, (⟨#[32]⟩ : ByteArray)] s1.out (by simp; omega) _ _ rfl rfl).mono ?_; rintro e w2 ⟨rfl, s2⟩; obtain ⟨⟨c0_1, c1_1, c2_1, c3_1, c4_1, c5_1⟩, l_1⟩ := hB.out s2.out)
    go_region_with (first
      | (go_at_call 107; refine (HL.out s2.out.dw).mono ?_; rintro e v2 ⟨rfl, t2⟩)
      | (go_at_call 83; (try rw [hwr]); (try rw [hwr']); refine (at_st (l + 1) K1.out hw.out hA.out t2.out (by simp; omega)).mono ?_; rintro e w3 ⟨rfl, s3⟩))
    all_goals
      go_wp2
      go_end0
      exact s3.out.laid hF.out hn.out

set_option maxHeartbeats 4000000 in
theorem bin57_11 {t0 t1 : Tr} (hg : ∀ x ks, G x ks = true → x.str.size < 4611686018427387904) (J : Job G A sb T w0 w b o x kv n cb ([t0, t1])) (hx : x.str.size < 4611686018427387904) (hk : x.kind = 11) : Calls Tryz.prog 86 #[.pointer (some ⟨sb, 0, none⟩), .pointer (some ⟨b, o, none⟩)] w (Spelt G qt A sb T w0 w x ([t0, t1])) := by
  have hT := J.hT
  have hw := hid' J.hw
  have hA := hid' J.hA
  have hB : Hid (∀ {L n W}, St G (spellT qt) w0 A sb T w L n W → NdAt W b o x kv ∧ b < W.heap.size) := fun h => ⟨J.hat.below (h.bel J.hw J.hA) J.hb, Nat.lt_of_lt_of_le J.hb (h.bel J.hw J.hA).size⟩
  obtain ⟨c0, c1, c2, c3, c4, _⟩ := J.hat.below J.hw J.hb
  have hbw := Nat.lt_of_lt_of_le J.hb J.hw.size
  have s0 := St.start (G := G) (sp := spellT qt) (w0 := w0) J.sp
  have HK := hid' J.hK
  have hGs := J.hG
  obtain ⟨hkl, ao, cap, rfl⟩ := J.hK.shape
  obtain ⟨m0, b0, off0, x0, kv0, ks0, _, ea0, ⟨hb0, _⟩, e0, hat0, hK0⟩ := HK.out.kid 0 (by simp)
  subst ea0
  simp at e0 hat0
  subst e0
  obtain ⟨m1, b1, off1, x1, kv1, ks1, _, ea1, ⟨hb1, _⟩, e1, hat1, hK1⟩ := HK.out.kid 1 (by simp)
  injection ea1 with ea1
  injection ea1 with eb1 ec1
  subst eb1 ec1
  simp at e1 hat1
  subst e1
  simp only [allL_cons, allL_nil, Bool.and_true, Bool.and_eq_true] at hGs
  have g0 : allT G (Tr.node x0 ks0) = true := hGs.1
  have z0 : G x0 ks0 = true := by rw [allT_node, Bool.and_eq_true] at g0; exact g0.1
  have K0 : Hid (Kid G w0 b0 off0 x0 kv0 m0 cb ks0) := ⟨hat0, hb0, hK0, g0, hg _ _ z0⟩
  have zz0 := szT_pos (Tr.node x0 ks0)
  have g1 : allT G (Tr.node x1 ks1) = true := hGs.2
  have z1 : G x1 ks1 = true := by rw [allT_node, Bool.and_eq_true] at g1; exact g1.1
  have K1 : Hid (Kid G w0 b0 (off0 + 6) x1 kv1 m1 cb ks1) := ⟨hat1, hb1, hK1, g1, hg _ _ z1⟩
  have zz1 := szT_pos (Tr.node x1 ks1)
  simp only [szL_cons, szL_nil] at hT
  have ww0 : wtT (Tr.node x0 ks0) + 3 = 23 * szT (Tr.node x0 ks0) := by unfold wtT; omega
  have ww1 : wtT (Tr.node x1 ks1) + 3 = 23 * szT (Tr.node x1 ks1) := by unfold wtT; omega
  have hlb := lvl_bound x
  have HL : Hid (∀ {L n W}, St G (spellT qt) w0 A sb T w L n W → Calls Tryz.prog 107 #[.pointer (some ⟨b, o, none⟩)] W fun e w' => e = .returned (.int .i64 (lvl x)) ∧ Hid (St G (spellT qt) w0 A sb T w L n w')) := fun {L n W} h => by
    obtain ⟨na, nl⟩ := hB.out h
    refine (level75 na nl hx).mono fun e w' q => ⟨q.1, ?_⟩
    obtain ⟨P, q1, q2, q3⟩ := h
    exact ⟨P, q1.below q.2, q2.trans (On.of_below q.2), q3⟩
  obtain ⟨l, hl⟩ : ∃ l, l = lvl x := ⟨_, rfl⟩
  have hF : Hid ([] ++ atL l (Tr.node x0 ks0) (spellT qt (Tr.node x0 ks0)) ++ (List.map lst [(⟨#[32]⟩ : ByteArray), x.str, (⟨#[32]⟩ : ByteArray)]).flatten ++ atL (l + 1) (Tr.node x1 ks1) (spellT qt (Tr.node x1 ks1)) = spellN qt x ([Tr.node x0 ks0, Tr.node x1 ks1]) (([Tr.node x0 ks0, Tr.node x1 ks1]).map (spellT qt))) := by
    unfold Hid spellN
    simp [hk, lst, hl]
  have hn : Hid (0 + (wtT (Tr.node x0 ks0) + 2) + [(⟨#[32]⟩ : ByteArray), x.str, (⟨#[32]⟩ : ByteArray)].length + (wtT (Tr.node x1 ks1) + 2) ≤ 19 + 23 * szL ([Tr.node x0 ks0, Tr.node x1 ks1])) := by
    unfold Hid
    simp only [List.length_cons, List.length_nil, szL_cons, szL_nil]
    omega
  simp at hkl
  rw [hk] at c0
  rw [← hl] at HL hlb
  clear hl
  obtain ⟨hl0, hl1⟩ := hlb
  have hwr : IntKind.i64.wrap (l + 1) = l + 1 := Go.IntWalk.i64_in _ (by omega)
  have hwr' : wrap64 (l + 1) = l + 1 := by unfold wrap64; omega
  go_enter Tryz.func86, Tryz.ntmps86
  go_wp2
  go_region_with (first
    | (go_at_call 107; refine (HL.out s0.out.dw).mono ?_; rintro e v1 ⟨rfl, t1⟩)
    | (go_at_call 83; refine (at_st l K0.out hw.out hA.out t1.out (by simp; omega)).mono ?_; rintro e w1 ⟨rfl, s1⟩; obtain ⟨⟨c0_0, c1_0, c2_0, c3_0, c4_0, c5_0⟩, l_0⟩ := hB.out s1.out))
  all_goals
    go_wp2_with (go_at_call 79; refine (say_st [(⟨#[32]⟩ : ByteArray), x.str, (⟨#[32]⟩ : ByteArray)] s1.out (by simp; omega) _ _ rfl rfl).mono ?_; rintro e w2 ⟨rfl, s2⟩; obtain ⟨⟨c0_1, c1_1, c2_1, c3_1, c4_1, c5_1⟩, l_1⟩ := hB.out s2.out)
    go_region_with (first
      | (go_at_call 107; refine (HL.out s2.out.dw).mono ?_; rintro e v2 ⟨rfl, t2⟩)
      | (go_at_call 83; (try rw [hwr]); (try rw [hwr']); refine (at_st (l + 1) K1.out hw.out hA.out t2.out (by simp; omega)).mono ?_; rintro e w3 ⟨rfl, s3⟩))
    all_goals
      go_wp2
      go_end0
      exact s3.out.laid hF.out hn.out
end
end Go.Proofs.YtnnnfabpceapcaaGreatDoor
