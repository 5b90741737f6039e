/- The speller: an expression at a level; perhaps one. -/
import Derived.Test.YtnnnfabpceapcaaGreatDoorTextSt
import Derived.Test.YtnnnfabpceapcaaGreatDoorMay3
namespace Go.Proofs.YtnnnfabpceapcaaGreatDoor
set_option linter.unusedSimpArgs false
open Go.RowKit
set_option linter.unusedVariables false

theorem ret_i {a b : Int} (h : a = b) : Ending.returned (.int .i64 a) = .returned (.int .i64 b) := by rw [h]
set_option maxHeartbeats 4000000 in
theorem level75 {w : World} {b o : Nat} {x : NdH} {kv : Value} (h : NdAt w b o x kv) (hb : b < w.heap.size) (hs : x.str.size < 4611686018427387904) :
    Calls Tryz.prog 107 #[.pointer (some ⟨b, o, none⟩)] w fun e w' => e = .returned (.int .i64 (lvl x)) ∧ Below w.heap.size w w' := by
  have H45 : Hid (Calls Tryz.prog 42 #[.string x.str] w fun e w' => e = .returned (.int .i64 (logF x.str)) ∧ Below w.heap.size w w') := log45 x.str w hs
  have H44 : Hid (Calls Tryz.prog 41 #[.string x.str] w fun e w' => e = .returned (.int .i64 (binF x.str)) ∧ Below w.heap.size w w') := bin44 x.str w hs
  obtain ⟨c0, c1, _, _, _, _⟩ := h
  unfold lvl
  generalize logF x.str = q1 at *
  generalize binF x.str = q2 at *
  generalize x.str = s at *
  generalize x.kind = k at *
  by_cases k13 : k = 13
  · subst k13
    go_enter Tryz.func107, Tryz.ntmps107
    go_wp2
    go_ret
    exact ⟨rfl, Below.refl _ _⟩
  rw [if_neg k13]
  by_cases k12 : k = 12
  · subst k12
    go_enter Tryz.func107, Tryz.ntmps107
    go_wp2
    go_ret
    exact ⟨rfl, Below.refl _ _⟩
  rw [if_neg k12]
  by_cases k11 : k = 11
  · subst k11
    go_enter Tryz.func107, Tryz.ntmps107
    go_wp2_with (go_at_call 42; (with_reducible refine H45.out.mono ?_); rintro e w1 ⟨rfl, hb1⟩; replace hb1 := hid' hb1)
    go_ret
    exact ⟨rfl, hb1.out⟩
  rw [if_neg k11]
  by_cases k10 : k = 10
  · subst k10
    go_enter Tryz.func107, Tryz.ntmps107
    go_wp2_with (go_at_call 41; (with_reducible refine H44.out.mono ?_); rintro e w1 ⟨rfl, hb1⟩; replace hb1 := hid' hb1)
    go_ret
    exact ⟨rfl, hb1.out⟩
  rw [if_neg k10]
  by_cases k9 : k = 9 ∨ k = 14 ∨ k = 15
  · rw [if_pos k9]
    rcases k9 with rfl | rfl | rfl
    all_goals
      go_enter Tryz.func107, Tryz.ntmps107
      go_wp2
      go_ret
      exact ⟨rfl, Below.refl _ _⟩
  · rw [if_neg k9]
    have e1 : (k == 13) = false := by simpa using k13
    have e2 : (k == 12) = false := by simpa using k12
    have e3 : (k == 11) = false := by simpa using k11
    have e4 : (k == 10) = false := by simpa using k10
    have e5 : (k == 9) = false := by simp; omega
    have e6 : (k == 14) = false := by simp; omega
    have e7 : (k == 15) = false := by simp; omega
    go_enter Tryz.func107, Tryz.ntmps107
    go_wp2
    all_goals go_ret
    all_goals exact ⟨rfl, Below.refl _ _⟩

/-- A kid that may be spelt. -/
structure Kid (G : NdH → List Tr → Bool) (w0 : World) (b o : Nat) (x : NdH) (kv : Value) (i cb : Nat) (ks : List Tr) : Prop where
  hat : NdAt w0 b o x kv
  hb : b < w0.heap.size
  hK : Ks cb i w0 kv ks
  hG : allT G (Tr.node x ks) = true
  hs : x.str.size < 4611686018427387904
section
variable {G : NdH → List Tr → Bool} {sp : Tr → List UInt8} {A : Nat → Prop} {sb : Nat} {T : List Pc} {w w0 W : World} {L : List UInt8} {n : Nat} {b o : Nat} {x : NdH} {kv : Value} {i cb : Nat} {ks : List Tr}
theorem Kid.put (K : Kid G w0 b o x kv i cb ks) (h : St G sp w0 A sb T w L n W) (hT : T.length + n ≤ 1099511627776) :
    Calls Tryz.prog 84 #[.pointer (some ⟨sb, 0, none⟩), .pointer (some ⟨b, o, none⟩)] W fun e w' => e = .returned (.tuple #[]) ∧ Hid (St G sp w0 A sb T w (L ++ sp (Tr.node x ks)) (n + wtT (Tr.node x ks)) w') := put_st K.hat K.hb K.hK K.hG h hT
set_option maxHeartbeats 2000000 in
theorem within_st (K : Kid G w0 b o x kv i cb ks) (h : St G sp w0 A sb T w L n W) (hT : T.length + n + wtT (Tr.node x ks) + 2 ≤ 1099511627776) :
    Calls Tryz.prog 108 #[.pointer (some ⟨sb, 0, none⟩), .pointer (some ⟨b, o, none⟩)] W fun e w' => e = .returned (.tuple #[]) ∧ Hid (St G sp w0 A sb T w (L ++ parenL (sp (Tr.node x ks))) (n + (wtT (Tr.node x ks) + 2)) w') := by
  have s0 := hid' h
  have HK := hid' K
  clear h K
  have hF : Hid (∀ W', St G sp w0 A sb T w (L ++ (List.map lst [⟨#[40]⟩]).flatten ++ sp (Tr.node x ks) ++ (List.map lst [⟨#[41]⟩]).flatten) (n + [(⟨#[40]⟩ : ByteArray)].length + wtT (Tr.node x ks) + [(⟨#[41]⟩ : ByteArray)].length) W' → St G sp w0 A sb T w (L ++ parenL (sp (Tr.node x ks))) (n + (wtT (Tr.node x ks) + 2)) W') := fun W' q => by
    have e : L ++ (List.map lst [⟨#[40]⟩]).flatten ++ sp (Tr.node x ks) ++ (List.map lst [⟨#[41]⟩]).flatten = L ++ parenL (sp (Tr.node x ks)) := by
      unfold parenL
      simp [lst]
    rw [e] at q
    obtain ⟨P, q1, q2, q3⟩ := q
    exact ⟨P, q1, q2, q3.more (by rw [List.length_singleton, List.length_singleton]; omega)⟩
  go_enter Tryz.func108, Tryz.ntmps108
  go_wp2_with (first
    | (go_at_call 79; refine (say_st [⟨#[41]⟩] s2.out (by simp; omega) _ _ rfl rfl).mono ?_; rintro e w3 ⟨rfl, s3⟩)
    | (go_at_call 84; refine (HK.out.put s1.out (by simp; omega)).mono ?_; rintro e w2 ⟨rfl, s2⟩)
    | (go_at_call 79; refine (say_st [⟨#[40]⟩] s0.out (by simp; omega) _ _ rfl rfl).mono ?_; rintro e w1 ⟨rfl, s1⟩))
  go_end0
  exact ⟨rfl, hF.out _ s3.out⟩
set_option maxHeartbeats 2000000 in
theorem at_st (k : Int) (K : Kid G w0 b o x kv i cb ks) (hw : Below w0.heap.size w0 w) (hA : ∀ k, k < w0.heap.size → A k) (h : St G sp w0 A sb T w L n W) (hT : T.length + n + wtT (Tr.node x ks) + 2 ≤ 1099511627776) :
    Calls Tryz.prog 83 #[.pointer (some ⟨sb, 0, none⟩), .int .i64 k, .pointer (some ⟨b, o, none⟩)] W fun e w' => e = .returned (.tuple #[]) ∧ Hid (St G sp w0 A sb T w (L ++ atL k (Tr.node x ks) (sp (Tr.node x ks))) (n + (wtT (Tr.node x ks) + 2)) w') := by
  have hbl := h.bel hw hA
  have H1 := hid' (level75 (K.hat.below hbl K.hb) (Nat.lt_of_lt_of_le K.hb hbl.size) K.hs)
  have s0 : Hid (∀ w1, Below W.heap.size W w1 → St G sp w0 A sb T w L n w1) := fun w1 hb1 => by
    obtain ⟨P, q1, q2, q3⟩ := h
    exact ⟨P, q1.below hb1, q2.trans (On.of_below hb1), q3⟩
  have HK := hid' K
  clear h K hbl
  unfold atL
  rw [hdT_node]
  have hF : Hid (∀ W', St G sp w0 A sb T w (L ++ sp (Tr.node x ks)) (n + wtT (Tr.node x ks)) W' → St G sp w0 A sb T w (L ++ sp (Tr.node x ks)) (n + (wtT (Tr.node x ks) + 2)) W') := fun W' q => by
    obtain ⟨P, q1, q2, q3⟩ := q
    exact ⟨P, q1, q2, q3.more (by omega)⟩
  generalize lvl x = l at *
  by_cases hl : k ≤ l
  · rw [if_pos hl]
    go_enter Tryz.func83, Tryz.ntmps83
    go_wp2_with (first
      | (go_at_call 107; (with_reducible refine H1.out.mono ?_); rintro e w1 ⟨rfl, hb1⟩; replace s0 := hid' (s0.out w1 hb1); clear hb1)
      | (go_at_call 84; refine (HK.out.put s0.out (by omega)).mono ?_; rintro e w2 ⟨rfl, s2⟩))
    go_end0
    exact ⟨rfl, hF.out _ s2.out⟩
  · rw [if_neg hl]
    go_enter Tryz.func83, Tryz.ntmps83
    go_wp2_with (first
      | (go_at_call 107; (with_reducible refine H1.out.mono ?_); rintro e w1 ⟨rfl, hb1⟩; replace s0 := hid' (s0.out w1 hb1); clear hb1)
      | (go_at_call 108; refine (within_st HK.out s0.out (by omega)).mono ?_; rintro e w2 ⟨rfl, s2⟩))
    go_end0
    exact ⟨rfl, s2.out⟩
set_option maxHeartbeats 2000000 in
theorem perhaps_st (K : Kid G w0 b o x kv i cb ks) (hw : Below w0.heap.size w0 w) (hA : ∀ k, k < w0.heap.size → A k) (h : St G sp w0 A sb T w L n W) (hT : T.length + n + wtT (Tr.node x ks) ≤ 1099511627776) :
    Calls Tryz.prog 110 #[.pointer (some ⟨sb, 0, none⟩), .pointer (some ⟨b, o, none⟩)] W fun e w' => e = .returned (.tuple #[]) ∧ Hid (St G sp w0 A sb T w (L ++ perL (Tr.node x ks) (sp (Tr.node x ks))) (n + wtT (Tr.node x ks)) w') := by
  have hbl := h.bel hw hA
  obtain ⟨c0, _, _, _, _, _⟩ := K.hat.below hbl K.hb
  have hbW := Nat.lt_of_lt_of_le K.hb hbl.size
  have s0 := hid' h
  have HK := hid' K
  clear h K hbl
  unfold perL
  rw [hdT_node]
  by_cases hk : x.kind = 56
  · rw [if_pos hk]
    rw [hk] at c0
    go_enter Tryz.func110, Tryz.ntmps110
    go_wp2
    go_end0
    refine ⟨rfl, ?_⟩
    obtain ⟨P, q1, q2, q3⟩ := s0.out
    exact ⟨P, q1, q2, (q3.is (by simp)).more (by omega)⟩
  · rw [if_neg hk]
    have hk' : (x.kind == 56) = false := by simpa using hk
    go_enter Tryz.func110, Tryz.ntmps110
    generalize hkk : x.kind = k at *
    go_wp2_with (go_at_call 84; refine (HK.out.put s0.out (by omega)).mono ?_; rintro e w2 ⟨rfl, s2⟩)
    go_end0
    exact ⟨rfl, s2.out⟩
end
end Go.Proofs.YtnnnfabpceapcaaGreatDoor

namespace Go.Proofs.YtnnnfabpceapcaaGreatDoor
set_option linter.unusedSimpArgs false
open Go.RowKit
set_option linter.unusedVariables false
section
variable {G : NdH → List Tr → Bool} {sp : Tr → List UInt8} {A : Nat → Prop} {sb : Nat} {T : List Pc} {w w0 W : World} {L : List UInt8} {n : Nat} {b o : Nat} {x : NdH} {kv : Value} {i cb : Nat} {ks : List Tr}
set_option maxHeartbeats 2000000 in
theorem head_st (s : ByteArray) (K : Kid G w0 b o x kv i cb ks) (h : St G sp w0 A sb T w L n W) (hT : T.length + n + wtT (Tr.node x ks) + 2 ≤ 1099511627776) :
    Calls Tryz.prog 87 #[.pointer (some ⟨sb, 0, none⟩), .string s, .pointer (some ⟨b, o, none⟩)] W fun e w' => e = .returned (.tuple #[]) ∧ Hid (St G sp w0 A sb T w (L ++ (lst s ++ (sp (Tr.node x ks) ++ [41, 10]))) (n + (wtT (Tr.node x ks) + 2)) w') := by
  have s0 := hid' h
  have HK := hid' K
  clear h K
  have hF : Hid (∀ W', St G sp w0 A sb T w (L ++ (List.map lst [s]).flatten ++ sp (Tr.node x ks) ++ (List.map lst [⟨#[41, 10]⟩]).flatten) (n + [s].length + wtT (Tr.node x ks) + [(⟨#[41, 10]⟩ : ByteArray)].length) W' → St G sp w0 A sb T w (L ++ (lst s ++ (sp (Tr.node x ks) ++ [41, 10]))) (n + (wtT (Tr.node x ks) + 2)) W') := fun W' q => by
    have e : L ++ (List.map lst [s]).flatten ++ sp (Tr.node x ks) ++ (List.map lst [⟨#[41, 10]⟩]).flatten = L ++ (lst s ++ (sp (Tr.node x ks) ++ [41, 10])) := by
      simp [lst]
    rw [e] at q
    obtain ⟨P, q1, q2, q3⟩ := q
    exact ⟨P, q1, q2, q3.more (by rw [List.length_singleton, List.length_singleton]; omega)⟩
  go_enter Tryz.func87, Tryz.ntmps87
  go_wp2_with (first
    | (go_at_call 79; refine (say_st [⟨#[41, 10]⟩] s2.out (by simp; omega) _ _ rfl rfl).mono ?_; rintro e w3 ⟨rfl, s3⟩)
    | (go_at_call 84; refine (HK.out.put s1.out (by simp; omega)).mono ?_; rintro e w2 ⟨rfl, s2⟩)
    | (go_at_call 79; refine (say_st [s] s0.out (by simp; omega) _ _ rfl rfl).mono ?_; rintro e w1 ⟨rfl, s1⟩))
  go_end0
  exact ⟨rfl, hF.out _ s3.out⟩
end
end Go.Proofs.YtnnnfabpceapcaaGreatDoor

namespace Go.Proofs.YtnnnfabpceapcaaGreatDoor
set_option linter.unusedSimpArgs false
open Go.RowKit
set_option linter.unusedVariables false
section
variable {G : NdH → List Tr → Bool} {qt : List UInt8 → List UInt8} {A : Nat → Prop} {sb : Nat} {T : List Pc} {w w0 : World} {b o : Nat} {x : NdH} {kv : Value} {n cb : Nat} {ks : List Tr}

set_option maxHeartbeats 4000000 in
theorem name36 (hg : ∀ x ks, G x ks = true → x.str.size < 4611686018427387904) (J : Job G A sb T w0 w b o x kv n cb (ks)) (hk : x.kind = 4) : Calls Tryz.prog 55 #[.pointer (some ⟨sb, 0, none⟩), .pointer (some ⟨b, o, none⟩)] w (Spelt G qt A sb T w0 w x (ks)) := by
  have hT := J.hT
  have hw := hid' J.hw
  have hA := hid' J.hA
  have hB : Hid (∀ {L n W}, St G (spellT qt) w0 A sb T w L n W → NdAt W b o x kv ∧ b < W.heap.size) := fun h => ⟨J.hat.below (h.bel J.hw J.hA) J.hb, Nat.lt_of_lt_of_le J.hb (h.bel J.hw J.hA).size⟩
  obtain ⟨c0, c1, c2, c3, c4, _⟩ := J.hat.below J.hw J.hb
  have hbw := Nat.lt_of_lt_of_le J.hb J.hw.size
  have s0 := St.start (G := G) (sp := spellT qt) (w0 := w0) J.sp
  have HK := hid' J.hK
  have hGs := J.hG
  obtain ⟨hkl, ao, cap, rfl⟩ := J.hK.shape
  have hL := wtL_le ks
  have HG := hid' hGs
  have hF : Hid ([] ++ (List.map lst [x.str]).flatten = spellN qt x (ks) ((ks).map (spellT qt))) := by
    unfold Hid spellN
    simp [hk, lst]
  have hn : Hid (0 + [x.str].length ≤ 19 + 23 * szL (ks)) := by
    unfold Hid
    simp only [List.length_cons, List.length_nil, szL_cons, szL_nil]
    omega
  rw [hk] at c0
  go_enter Tryz.func55, Tryz.ntmps55
  go_wp2_with (first
    | (go_at_call 79; refine (say_st [x.str] s0.out (by simp; omega) _ _ rfl rfl).mono ?_; rintro e w1 ⟨rfl, s1⟩; obtain ⟨⟨c0_0, c1_0, c2_0, c3_0, c4_0, c5_0⟩, l_0⟩ := hB.out s1.out))
  go_end0
  exact s1.out.laid hF.out hn.out

set_option maxHeartbeats 4000000 in
theorem index36 {t0 t1 : Tr} (hg : ∀ x ks, G x ks = true → x.str.size < 4611686018427387904) (J : Job G A sb T w0 w b o x kv n cb ([t0, t1])) (hk : x.kind = 5) : Calls Tryz.prog 55 #[.pointer (some ⟨sb, 0, none⟩), .pointer (some ⟨b, o, none⟩)] w (Spelt G qt A sb T w0 w x ([t0, t1])) := by
  have hT := J.hT
  have hw := hid' J.hw
  have hA := hid' J.hA
  have hB : Hid (∀ {L n W}, St G (spellT qt) w0 A sb T w L n W → NdAt W b o x kv ∧ b < W.heap.size) := fun h => ⟨J.hat.below (h.bel J.hw J.hA) J.hb, Nat.lt_of_lt_of_le J.hb (h.bel J.hw J.hA).size⟩
  obtain ⟨c0, c1, c2, c3, c4, _⟩ := J.hat.below J.hw J.hb
  have hbw := Nat.lt_of_lt_of_le J.hb J.hw.size
  have s0 := St.start (G := G) (sp := spellT qt) (w0 := w0) J.sp
  have HK := hid' J.hK
  have hGs := J.hG
  obtain ⟨hkl, ao, cap, rfl⟩ := J.hK.shape
  obtain ⟨m0, b0, off0, x0, kv0, ks0, _, ea0, ⟨hb0, _⟩, e0, hat0, hK0⟩ := HK.out.kid 0 (by simp)
  subst ea0
  simp at e0 hat0
  subst e0
  obtain ⟨m1, b1, off1, x1, kv1, ks1, _, ea1, ⟨hb1, _⟩, e1, hat1, hK1⟩ := HK.out.kid 1 (by simp)
  injection ea1 with ea1
  injection ea1 with eb1 ec1
  subst eb1 ec1
  simp at e1 hat1
  subst e1
  simp only [allL_cons, allL_nil, Bool.and_true, Bool.and_eq_true] at hGs
  have g0 : allT G (Tr.node x0 ks0) = true := hGs.1
  have z0 : G x0 ks0 = true := by rw [allT_node, Bool.and_eq_true] at g0; exact g0.1
  have K0 : Hid (Kid G w0 b0 off0 x0 kv0 m0 cb ks0) := ⟨hat0, hb0, hK0, g0, hg _ _ z0⟩
  have zz0 := szT_pos (Tr.node x0 ks0)
  have g1 : allT G (Tr.node x1 ks1) = true := hGs.2
  have z1 : G x1 ks1 = true := by rw [allT_node, Bool.and_eq_true] at g1; exact g1.1
  have K1 : Hid (Kid G w0 b0 (off0 + 6) x1 kv1 m1 cb ks1) := ⟨hat1, hb1, hK1, g1, hg _ _ z1⟩
  have zz1 := szT_pos (Tr.node x1 ks1)
  simp only [szL_cons, szL_nil] at hT
  have ww0 : wtT (Tr.node x0 ks0) + 3 = 23 * szT (Tr.node x0 ks0) := by unfold wtT; omega
  have ww1 : wtT (Tr.node x1 ks1) + 3 = 23 * szT (Tr.node x1 ks1) := by unfold wtT; omega
  have hF : Hid ([] ++ atL 13 (Tr.node x0 ks0) (spellT qt (Tr.node x0 ks0)) ++ (List.map lst [(⟨#[91]⟩ : ByteArray)]).flatten ++ spellT qt (Tr.node x1 ks1) ++ (List.map lst [(⟨#[93]⟩ : ByteArray)]).flatten = spellN qt x ([Tr.node x0 ks0, Tr.node x1 ks1]) (([Tr.node x0 ks0, Tr.node x1 ks1]).map (spellT qt))) := by
    unfold Hid spellN
    simp [hk, lst]
  have hn : Hid (0 + (wtT (Tr.node x0 ks0) + 2) + [(⟨#[91]⟩ : ByteArray)].length + wtT (Tr.node x1 ks1) + [(⟨#[93]⟩ : ByteArray)].length ≤ 19 + 23 * szL ([Tr.node x0 ks0, Tr.node x1 ks1])) := by
    unfold Hid
    simp only [List.length_cons, List.length_nil, szL_cons, szL_nil]
    omega
  simp at hkl
  rw [hk] at c0
  go_enter Tryz.func55, Tryz.ntmps55
  go_wp2_with (first
    | (go_at_call 79; refine (say_st [(⟨#[93]⟩ : ByteArray)] s3.out (by simp; omega) _ _ rfl rfl).mono ?_; rintro e w4 ⟨rfl, s4⟩; obtain ⟨⟨c0_3, c1_3, c2_3, c3_3, c4_3, c5_3⟩, l_3⟩ := hB.out s4.out)
    | (go_at_call 84; refine (K1.out.put s2.out (by simp; omega)).mono ?_; rintro e w3 ⟨rfl, s3⟩; obtain ⟨⟨c0_2, c1_2, c2_2, c3_2, c4_2, c5_2⟩, l_2⟩ := hB.out s3.out)
    | (go_at_call 79; refine (say_st [(⟨#[91]⟩ : ByteArray)] s1.out (by simp; omega) _ _ rfl rfl).mono ?_; rintro e w2 ⟨rfl, s2⟩; obtain ⟨⟨c0_1, c1_1, c2_1, c3_1, c4_1, c5_1⟩, l_1⟩ := hB.out s2.out)
    | (go_at_call 83; refine (at_st 13 K0.out hw.out hA.out s0.out (by simp; omega)).mono ?_; rintro e w1 ⟨rfl, s1⟩; obtain ⟨⟨c0_0, c1_0, c2_0, c3_0, c4_0, c5_0⟩, l_0⟩ := hB.out s1.out))
  go_end0
  exact s4.out.laid hF.out hn.out

set_option maxHeartbeats 4000000 in
theorem field36 {t0 : Tr} (hg : ∀ x ks, G x ks = true → x.str.size < 4611686018427387904) (J : Job G A sb T w0 w b o x kv n cb ([t0])) (hk : x.kind = 6) : Calls Tryz.prog 55 #[.pointer (some ⟨sb, 0, none⟩), .pointer (some ⟨b, o, none⟩)] w (Spelt G qt A sb T w0 w x ([t0])) := by
  have hT := J.hT
  have hw := hid' J.hw
  have hA := hid' J.hA
  have hB : Hid (∀ {L n W}, St G (spellT qt) w0 A sb T w L n W → NdAt W b o x kv ∧ b < W.heap.size) := fun h => ⟨J.hat.below (h.bel J.hw J.hA) J.hb, Nat.lt_of_lt_of_le J.hb (h.bel J.hw J.hA).size⟩
  obtain ⟨c0, c1, c2, c3, c4, _⟩ := J.hat.below J.hw J.hb
  have hbw := Nat.lt_of_lt_of_le J.hb J.hw.size
  have s0 := St.start (G := G) (sp := spellT qt) (w0 := w0) J.sp
  have HK := hid' J.hK
  have hGs := J.hG
  obtain ⟨hkl, ao, cap, rfl⟩ := J.hK.shape
  obtain ⟨m0, b0, off0, x0, kv0, ks0, _, ea0, ⟨hb0, _⟩, e0, hat0, hK0⟩ := HK.out.kid 0 (by simp)
  subst ea0
  simp at e0 hat0
  subst e0
  simp only [allL_cons, allL_nil, Bool.and_true] at hGs
  have g0 : allT G (Tr.node x0 ks0) = true := hGs
  have z0 : G x0 ks0 = true := by rw [allT_node, Bool.and_eq_true] at g0; exact g0.1
  have K0 : Hid (Kid G w0 b0 off0 x0 kv0 m0 cb ks0) := ⟨hat0, hb0, hK0, g0, hg _ _ z0⟩
  have zz0 := szT_pos (Tr.node x0 ks0)
  simp only [szL_cons, szL_nil] at hT
  have ww0 : wtT (Tr.node x0 ks0) + 3 = 23 * szT (Tr.node x0 ks0) := by unfold wtT; omega
  have hF : Hid ([] ++ atL 13 (Tr.node x0 ks0) (spellT qt (Tr.node x0 ks0)) ++ (List.map lst [(⟨#[46]⟩ : ByteArray), x.str]).flatten = spellN qt x ([Tr.node x0 ks0]) (([Tr.node x0 ks0]).map (spellT qt))) := by
    unfold Hid spellN
    simp [hk, lst]
  have hn : Hid (0 + (wtT (Tr.node x0 ks0) + 2) + [(⟨#[46]⟩ : ByteArray), x.str].length ≤ 19 + 23 * szL ([Tr.node x0 ks0])) := by
    unfold Hid
    simp only [List.length_cons, List.length_nil, szL_cons, szL_nil]
    omega
  simp at hkl
  rw [hk] at c0
  go_enter Tryz.func55, Tryz.ntmps55
  go_wp2_with (first
    | (go_at_call 79; refine (say_st [(⟨#[46]⟩ : ByteArray), x.str] s1.out (by simp; omega) _ _ rfl rfl).mono ?_; rintro e w2 ⟨rfl, s2⟩; obtain ⟨⟨c0_1, c1_1, c2_1, c3_1, c4_1, c5_1⟩, l_1⟩ := hB.out s2.out)
    | (go_at_call 83; refine (at_st 13 K0.out hw.out hA.out s0.out (by simp; omega)).mono ?_; rintro e w1 ⟨rfl, s1⟩; obtain ⟨⟨c0_0, c1_0, c2_0, c3_0, c4_0, c5_0⟩, l_0⟩ := hB.out s1.out))
  go_end0
  exact s2.out.laid hF.out hn.out

set_option maxHeartbeats 4000000 in
theorem arrow36 {t0 : Tr} (hg : ∀ x ks, G x ks = true → x.str.size < 4611686018427387904) (J : Job G A sb T w0 w b o x kv n cb ([t0])) (hk : x.kind = 7) : Calls Tryz.prog 55 #[.pointer (some ⟨sb, 0, none⟩), .pointer (some ⟨b, o, none⟩)] w (Spelt G qt A sb T w0 w x ([t0])) := by
  have hT := J.hT
  have hw := hid' J.hw
  have hA := hid' J.hA
  have hB : Hid (∀ {L n W}, St G (spellT qt) w0 A sb T w L n W → NdAt W b o x kv ∧ b < W.heap.size) := fun h => ⟨J.hat.below (h.bel J.hw J.hA) J.hb, Nat.lt_of_lt_of_le J.hb (h.bel J.hw J.hA).size⟩
  obtain ⟨c0, c1, c2, c3, c4, _⟩ := J.hat.below J.hw J.hb
  have hbw := Nat.lt_of_lt_of_le J.hb J.hw.size
  have s0 := St.start (G := G) (sp := spellT qt) (w0 := w0) J.sp
  have HK := hid' J.hK
  have hGs := J.hG
  obtain ⟨hkl, ao, cap, rfl⟩ := J.hK.shape
  obtain ⟨m0, b0, off0, x0, kv0, ks0, _, ea0, ⟨hb0, _⟩, e0, hat0, hK0⟩ := HK.out.kid 0 (by simp)
  subst ea0
  simp at e0 hat0
  subst e0
  simp only [allL_cons, allL_nil, Bool.and_true] at hGs
  have g0 : allT G (Tr.node x0 ks0) = true := hGs
  have z0 : G x0 ks0 = true := by rw [allT_node, Bool.and_eq_true] at g0; exact g0.1
  have K0 : Hid (Kid G w0 b0 off0 x0 kv0 m0 cb ks0) := ⟨hat0, hb0, hK0, g0, hg _ _ z0⟩
  have zz0 := szT_pos (Tr.node x0 ks0)
  simp only [szL_cons, szL_nil] at hT
  have ww0 : wtT (Tr.node x0 ks0) + 3 = 23 * szT (Tr.node x0 ks0) := by unfold wtT; omega
  have hF : Hid ([] ++ atL 13 (Tr.node x0 ks0) (spellT qt (Tr.node x0 ks0)) ++ (List.map lst [(⟨#[45, 62]⟩ : ByteArray), x.str]).flatten = spellN qt x ([Tr.node x0 ks0]) (([Tr.node x0 ks0]).map (spellT qt))) := by
    unfold Hid spellN
    simp [hk, lst]
  have hn : Hid (0 + (wtT (Tr.node x0 ks0) + 2) + [(⟨#[45, 62]⟩ : ByteArray), x.str].length ≤ 19 + 23 * szL ([Tr.node x0 ks0])) := by
    unfold Hid
    simp only [List.length_cons, List.length_nil, szL_cons, szL_nil]
    omega
  simp at hkl
  rw [hk] at c0
  go_enter Tryz.func55, Tryz.ntmps55
  go_wp2_with (first
    | (go_at_call 79; refine (say_st [(⟨#[45, 62]⟩ : ByteArray), x.str] s1.out (by simp; omega) _ _ rfl rfl).mono ?_; rintro e w2 ⟨rfl, s2⟩; obtain ⟨⟨c0_1, c1_1, c2_1, c3_1, c4_1, c5_1⟩, l_1⟩ := hB.out s2.out)
    | (go_at_call 83; refine (at_st 13 K0.out hw.out hA.out s0.out (by simp; omega)).mono ?_; rintro e w1 ⟨rfl, s1⟩; obtain ⟨⟨c0_0, c1_0, c2_0, c3_0, c4_0, c5_0⟩, l_0⟩ := hB.out s1.out))
  go_end0
  exact s2.out.laid hF.out hn.out
end
end Go.Proofs.YtnnnfabpceapcaaGreatDoor

namespace Go.Proofs.YtnnnfabpceapcaaGreatDoor
set_option linter.unusedSimpArgs false
open Go.RowKit
set_option linter.unusedVariables false
section
variable {G : NdH → List Tr → Bool} {qt : List UInt8 → List UInt8} {A : Nat → Prop} {sb : Nat} {T : List Pc} {w w0 : World} {b o : Nat} {x : NdH} {kv : Value} {n cb : Nat} {ks : List Tr}

set_option maxHeartbeats 4000000 in
theorem call36 (hg : ∀ x ks, G x ks = true → x.str.size < 4611686018427387904) (J : Job G A sb T w0 w b o x kv n cb (ks)) (hk : x.kind = 8) : Calls Tryz.prog 55 #[.pointer (some ⟨sb, 0, none⟩), .pointer (some ⟨b, o, none⟩)] w (Spelt G qt A sb T w0 w x (ks)) := by
  have hT := J.hT
  have hw := hid' J.hw
  have hA := hid' J.hA
  have hB : Hid (∀ {L n W}, St G (spellT qt) w0 A sb T w L n W → NdAt W b o x kv ∧ b < W.heap.size) := fun h => ⟨J.hat.below (h.bel J.hw J.hA) J.hb, Nat.lt_of_lt_of_le J.hb (h.bel J.hw J.hA).size⟩
  obtain ⟨c0, c1, c2, c3, c4, _⟩ := J.hat.below J.hw J.hb
  have hbw := Nat.lt_of_lt_of_le J.hb J.hw.size
  have s0 := St.start (G := G) (sp := spellT qt) (w0 := w0) J.sp
  have HK := hid' J.hK
  have hGs := J.hG
  obtain ⟨hkl, ao, cap, rfl⟩ := J.hK.shape
  have hL := wtL_le ks
  have HG := hid' hGs
  have hF : Hid ([] ++ (List.map lst [x.str, (⟨#[40]⟩ : ByteArray)]).flatten ++ joinL (lst ⟨#[44, 32]⟩) (ks.map (spellT qt)) ++ (List.map lst [(⟨#[41]⟩ : ByteArray)]).flatten = spellN qt x (ks) ((ks).map (spellT qt))) := by
    unfold Hid spellN
    simp [hk, lst]
  have hn : Hid (0 + [x.str, (⟨#[40]⟩ : ByteArray)].length + wtL ks + [(⟨#[41]⟩ : ByteArray)].length ≤ 19 + 23 * szL (ks)) := by
    unfold Hid
    simp only [List.length_cons, List.length_nil, szL_cons, szL_nil]
    omega
  rw [hk] at c0
  go_enter Tryz.func55, Tryz.ntmps55
  go_wp2_with (first
    | (go_at_call 79; refine (say_st [(⟨#[41]⟩ : ByteArray)] s2.out (by simp; omega) _ _ rfl rfl).mono ?_; rintro e w3 ⟨rfl, s3⟩; obtain ⟨⟨c0_2, c1_2, c2_2, c3_2, c4_2, c5_2⟩, l_2⟩ := hB.out s3.out)
    | (go_at_call 85; refine (list_st ⟨#[44, 32]⟩ hw.out hA.out HK.out HG.out s1.out (by simp; omega)).mono ?_; rintro e w2 ⟨rfl, s2⟩; obtain ⟨⟨c0_1, c1_1, c2_1, c3_1, c4_1, c5_1⟩, l_1⟩ := hB.out s2.out)
    | (go_at_call 79; refine (say_st [x.str, (⟨#[40]⟩ : ByteArray)] s0.out (by simp; omega) _ _ rfl rfl).mono ?_; rintro e w1 ⟨rfl, s1⟩; obtain ⟨⟨c0_0, c1_0, c2_0, c3_0, c4_0, c5_0⟩, l_0⟩ := hB.out s1.out))
  go_end0
  exact s3.out.laid hF.out hn.out

set_option maxHeartbeats 4000000 in
theorem cast57 {t0 t1 : Tr} (hg : ∀ x ks, G x ks = true → x.str.size < 4611686018427387904) (J : Job G A sb T w0 w b o x kv n cb ([t0, t1])) (hk : x.kind = 14) : Calls Tryz.prog 86 #[.pointer (some ⟨sb, 0, none⟩), .pointer (some ⟨b, o, none⟩)] w (Spelt G qt A sb T w0 w x ([t0, t1])) := by
  have hT := J.hT
  have hw := hid' J.hw
  have hA := hid' J.hA
  have hB : Hid (∀ {L n W}, St G (spellT qt) w0 A sb T w L n W → NdAt W b o x kv ∧ b < W.heap.size) := fun h => ⟨J.hat.below (h.bel J.hw J.hA) J.hb, Nat.lt_of_lt_of_le J.hb (h.bel J.hw J.hA).size⟩
  obtain ⟨c0, c1, c2, c3, c4, _⟩ := J.hat.below J.hw J.hb
  have hbw := Nat.lt_of_lt_of_le J.hb J.hw.size
  have s0 := St.start (G := G) (sp := spellT qt) (w0 := w0) J.sp
  have HK := hid' J.hK
  have hGs := J.hG
  obtain ⟨hkl, ao, cap, rfl⟩ := J.hK.shape
  obtain ⟨m0, b0, off0, x0, kv0, ks0, _, ea0, ⟨hb0, _⟩, e0, hat0, hK0⟩ := HK.out.kid 0 (by simp)
  subst ea0
  simp at e0 hat0
  subst e0
  obtain ⟨m1, b1, off1, x1, kv1, ks1, _, ea1, ⟨hb1, _⟩, e1, hat1, hK1⟩ := HK.out.kid 1 (by simp)
  injection ea1 with ea1
  injection ea1 with eb1 ec1
  subst eb1 ec1
  simp at e1 hat1
  subst e1
  simp only [allL_cons, allL_nil, Bool.and_true, Bool.and_eq_true] at hGs
  have g0 : allT G (Tr.node x0 ks0) = true := hGs.1
  have z0 : G x0 ks0 = true := by rw [allT_node, Bool.and_eq_true] at g0; exact g0.1
  have K0 : Hid (Kid G w0 b0 off0 x0 kv0 m0 cb ks0) := ⟨hat0, hb0, hK0, g0, hg _ _ z0⟩
  have zz0 := szT_pos (Tr.node x0 ks0)
  have g1 : allT G (Tr.node x1 ks1) = true := hGs.2
  have z1 : G x1 ks1 = true := by rw [allT_node, Bool.and_eq_true] at g1; exact g1.1
  have K1 : Hid (Kid G w0 b0 (off0 + 6) x1 kv1 m1 cb ks1) := ⟨hat1, hb1, hK1, g1, hg _ _ z1⟩
  have zz1 := szT_pos (Tr.node x1 ks1)
  simp only [szL_cons, szL_nil] at hT
  have ww0 : wtT (Tr.node x0 ks0) + 3 = 23 * szT (Tr.node x0 ks0) := by unfold wtT; omega
  have ww1 : wtT (Tr.node x1 ks1) + 3 = 23 * szT (Tr.node x1 ks1) := by unfold wtT; omega
  have hF : Hid ([] ++ parenL (spellT qt (Tr.node x0 ks0)) ++ atL 12 (Tr.node x1 ks1) (spellT qt (Tr.node x1 ks1)) = spellN qt x ([Tr.node x0 ks0, Tr.node x1 ks1]) (([Tr.node x0 ks0, Tr.node x1 ks1]).map (spellT qt))) := by
    unfold Hid spellN
    simp [hk, lst]
  have hn : Hid (0 + (wtT (Tr.node x0 ks0) + 2) + (wtT (Tr.node x1 ks1) + 2) ≤ 19 + 23 * szL ([Tr.node x0 ks0, Tr.node x1 ks1])) := by
    unfold Hid
    simp only [List.length_cons, List.length_nil, szL_cons, szL_nil]
    omega
  simp at hkl
  rw [hk] at c0
  go_enter Tryz.func86, Tryz.ntmps86
  go_wp2_with (first
    | (go_at_call 83; refine (at_st 12 K1.out hw.out hA.out s1.out (by simp; omega)).mono ?_; rintro e w2 ⟨rfl, s2⟩; obtain ⟨⟨c0_1, c1_1, c2_1, c3_1, c4_1, c5_1⟩, l_1⟩ := hB.out s2.out)
    | (go_at_call 108; refine (within_st K0.out s0.out (by simp; omega)).mono ?_; rintro e w1 ⟨rfl, s1⟩; obtain ⟨⟨c0_0, c1_0, c2_0, c3_0, c4_0, c5_0⟩, l_0⟩ := hB.out s1.out))
  go_end0
  exact s2.out.laid hF.out hn.out

set_option maxHeartbeats 4000000 in
theorem cond57 {t0 t1 t2 : Tr} (hg : ∀ x ks, G x ks = true → x.str.size < 4611686018427387904) (J : Job G A sb T w0 w b o x kv n cb ([t0, t1, t2])) (hk : x.kind = 12) : Calls Tryz.prog 86 #[.pointer (some ⟨sb, 0, none⟩), .pointer (some ⟨b, o, none⟩)] w (Spelt G qt A sb T w0 w x ([t0, t1, t2])) := by
  have hT := J.hT
  have hw := hid' J.hw
  have hA := hid' J.hA
  have hB : Hid (∀ {L n W}, St G (spellT qt) w0 A sb T w L n W → NdAt W b o x kv ∧ b < W.heap.size) := fun h => ⟨J.hat.below (h.bel J.hw J.hA) J.hb, Nat.lt_of_lt_of_le J.hb (h.bel J.hw J.hA).size⟩
  obtain ⟨c0, c1, c2, c3, c4, _⟩ := J.hat.below J.hw J.hb
  have hbw := Nat.lt_of_lt_of_le J.hb J.hw.size
  have s0 := St.start (G := G) (sp := spellT qt) (w0 := w0) J.sp
  have HK := hid' J.hK
  have hGs := J.hG
  obtain ⟨hkl, ao, cap, rfl⟩ := J.hK.shape
  obtain ⟨m0, b0, off0, x0, kv0, ks0, _, ea0, ⟨hb0, _⟩, e0, hat0, hK0⟩ := HK.out.kid 0 (by simp)
  subst ea0
  simp at e0 hat0
  subst e0
  obtain ⟨m1, b1, off1, x1, kv1, ks1, _, ea1, ⟨hb1, _⟩, e1, hat1, hK1⟩ := HK.out.kid 1 (by simp)
  injection ea1 with ea1
  injection ea1 with eb1 ec1
  subst eb1 ec1
  simp at e1 hat1
  subst e1
  obtain ⟨m2, b2, off2, x2, kv2, ks2, _, ea2, ⟨hb2, _⟩, e2, hat2, hK2⟩ := HK.out.kid 2 (by simp)
  injection ea2 with ea2
  injection ea2 with eb2 ec2
  subst eb2 ec2
  simp at e2 hat2
  subst e2
  simp only [allL_cons, allL_nil, Bool.and_true, Bool.and_eq_true] at hGs
  have g0 : allT G (Tr.node x0 ks0) = true := hGs.1
  have z0 : G x0 ks0 = true := by rw [allT_node, Bool.and_eq_true] at g0; exact g0.1
  have K0 : Hid (Kid G w0 b0 off0 x0 kv0 m0 cb ks0) := ⟨hat0, hb0, hK0, g0, hg _ _ z0⟩
  have zz0 := szT_pos (Tr.node x0 ks0)
  have g1 : allT G (Tr.node x1 ks1) = true := hGs.2.1
  have z1 : G x1 ks1 = true := by rw [allT_node, Bool.and_eq_true] at g1; exact g1.1
  have K1 : Hid (Kid G w0 b0 (off0 + 6) x1 kv1 m1 cb ks1) := ⟨hat1, hb1, hK1, g1, hg _ _ z1⟩
  have zz1 := szT_pos (Tr.node x1 ks1)
  have g2 : allT G (Tr.node x2 ks2) = true := hGs.2.2
  have z2 : G x2 ks2 = true := by rw [allT_node, Bool.and_eq_true] at g2; exact g2.1
  have K2 : Hid (Kid G w0 b0 (off0 + 12) x2 kv2 m2 cb ks2) := ⟨hat2, hb2, hK2, g2, hg _ _ z2⟩
  have zz2 := szT_pos (Tr.node x2 ks2)
  simp only [szL_cons, szL_nil] at hT
  have ww0 : wtT (Tr.node x0 ks0) + 3 = 23 * szT (Tr.node x0 ks0) := by unfold wtT; omega
  have ww1 : wtT (Tr.node x1 ks1) + 3 = 23 * szT (Tr.node x1 ks1) := by unfold wtT; omega
  have ww2 : wtT (Tr.node x2 ks2) + 3 = 23 * szT (Tr.node x2 ks2) := by unfold wtT; omega
  have hF : Hid ([] ++ atL 2 (Tr.node x0 ks0) (spellT qt (Tr.node x0 ks0)) ++ (List.map lst [(⟨#[32, 63, 32]⟩ : ByteArray)]).flatten ++ spellT qt (Tr.node x1 ks1) ++ (List.map lst [(⟨#[32, 58, 32]⟩ : ByteArray)]).flatten ++ atL 1 (Tr.node x2 ks2) (spellT qt (Tr.node x2 ks2)) = spellN qt x ([Tr.node x0 ks0, Tr.node x1 ks1, Tr.node x2 ks2]) (([Tr.node x0 ks0, Tr.node x1 ks1, Tr.node x2 ks2]).map (spellT qt))) := by
    unfold Hid spellN
    simp [hk, lst]
  have hn : Hid (0 + (wtT (Tr.node x0 ks0) + 2) + [(⟨#[32, 63, 32]⟩ : ByteArray)].length + wtT (Tr.node x1 ks1) + [(⟨#[32, 58, 32]⟩ : ByteArray)].length + (wtT (Tr.node x2 ks2) + 2) ≤ 19 + 23 * szL ([Tr.node x0 ks0, Tr.node x1 ks1, Tr.node x2 ks2])) := by
    unfold Hid
    simp only [List.length_cons, List.length_nil, szL_cons, szL_nil]
    omega
  simp at hkl
  rw [hk] at c0
  go_enter Tryz.func86, Tryz.ntmps86
  go_wp2_with (first
    | (go_at_call 83; refine (at_st 1 K2.out hw.out hA.out s4.out (by simp; omega)).mono ?_; rintro e w5 ⟨rfl, s5⟩; obtain ⟨⟨c0_4, c1_4, c2_4, c3_4, c4_4, c5_4⟩, l_4⟩ := hB.out s5.out)
    | (go_at_call 79; refine (say_st [(⟨#[32, 58, 32]⟩ : ByteArray)] s3.out (by simp; omega) _ _ rfl rfl).mono ?_; rintro e w4 ⟨rfl, s4⟩; obtain ⟨⟨c0_3, c1_3, c2_3, c3_3, c4_3, c5_3⟩, l_3⟩ := hB.out s4.out)
    | (go_at_call 84; refine (K1.out.put s2.out (by simp; omega)).mono ?_; rintro e w3 ⟨rfl, s3⟩; obtain ⟨⟨c0_2, c1_2, c2_2, c3_2, c4_2, c5_2⟩, l_2⟩ := hB.out s3.out)
    | (go_at_call 79; refine (say_st [(⟨#[32, 63, 32]⟩ : ByteArray)] s1.out (by simp; omega) _ _ rfl rfl).mono ?_; rintro e w2 ⟨rfl, s2⟩; obtain ⟨⟨c0_1, c1_1, c2_1, c3_1, c4_1, c5_1⟩, l_1⟩ := hB.out s2.out)
    | (go_at_call 83; refine (at_st 2 K0.out hw.out hA.out s0.out (by simp; omega)).mono ?_; rintro e w1 ⟨rfl, s1⟩; obtain ⟨⟨c0_0, c1_0, c2_0, c3_0, c4_0, c5_0⟩, l_0⟩ := hB.out s1.out))
  go_end0
  exact s5.out.laid hF.out hn.out

set_option maxHeartbeats 4000000 in
theorem assign57 {t0 t1 : Tr} (hg : ∀ x ks, G x ks = true → x.str.size < 4611686018427387904) (J : Job G A sb T w0 w b o x kv n cb ([t0, t1])) (hk : x.kind = 13) : Calls Tryz.prog 86 #[.pointer (some ⟨sb, 0, none⟩), .pointer (some ⟨b, o, none⟩)] w (Spelt G qt A sb T w0 w x ([t0, t1])) := by
  have hT := J.hT
  have hw := hid' J.hw
  have hA := hid' J.hA
  have hB : Hid (∀ {L n W}, St G (spellT qt) w0 A sb T w L n W → NdAt W b o x kv ∧ b < W.heap.size) := fun h => ⟨J.hat.below (h.bel J.hw J.hA) J.hb, Nat.lt_of_lt_of_le J.hb (h.bel J.hw J.hA).size⟩
  obtain ⟨c0, c1, c2, c3, c4, _⟩ := J.hat.below J.hw J.hb
  have hbw := Nat.lt_of_lt_of_le J.hb J.hw.size
  have s0 := St.start (G := G) (sp := spellT qt) (w0 := w0) J.sp
  have HK := hid' J.hK
  have hGs := J.hG
  obtain ⟨hkl, ao, cap, rfl⟩ := J.hK.shape
  obtain ⟨m0, b0, off0, x0, kv0, ks0, _, ea0, ⟨hb0, _⟩, e0, hat0, hK0⟩ := HK.out.kid 0 (by simp)
  subst ea0
  simp at e0 hat0
  subst e0
  obtain ⟨m1, b1, off1, x1, kv1, ks1, _, ea1, ⟨hb1, _⟩, e1, hat1, hK1⟩ := HK.out.kid 1 (by simp)
  injection ea1 with ea1
  injection ea1 with eb1 ec1
  subst eb1 ec1
  simp at e1 hat1
  subst e1
  simp only [allL_cons, allL_nil, Bool.and_true, Bool.and_eq_true] at hGs
  have g0 : allT G (Tr.node x0 ks0) = true := hGs.1
  have z0 : G x0 ks0 = true := by rw [allT_node, Bool.and_eq_true] at g0; exact g0.1
  have K0 : Hid (Kid G w0 b0 off0 x0 kv0 m0 cb ks0) := ⟨hat0, hb0, hK0, g0, hg _ _ z0⟩
  have zz0 := szT_pos (Tr.node x0 ks0)
  have g1 : allT G (Tr.node x1 ks1) = true := hGs.2
  have z1 : G x1 ks1 = true := by rw [allT_node, Bool.and_eq_true] at g1; exact g1.1
  have K1 : Hid (Kid G w0 b0 (off0 + 6) x1 kv1 m1 cb ks1) := ⟨hat1, hb1, hK1, g1, hg _ _ z1⟩
  have zz1 := szT_pos (Tr.node x1 ks1)
  simp only [szL_cons, szL_nil] at hT
  have ww0 : wtT (Tr.node x0 ks0) + 3 = 23 * szT (Tr.node x0 ks0) := by unfold wtT; omega
  have ww1 : wtT (Tr.node x1 ks1) + 3 = 23 * szT (Tr.node x1 ks1) := by unfold wtT; omega
  have hF : Hid ([] ++ atL 13 (Tr.node x0 ks0) (spellT qt (Tr.node x0 ks0)) ++ (List.map lst [(⟨#[32]⟩ : ByteArray), x.str, (⟨#[32]⟩ : ByteArray)]).flatten ++ spellT qt (Tr.node x1 ks1) = spellN qt x ([Tr.node x0 ks0, Tr.node x1 ks1]) (([Tr.node x0 ks0, Tr.node x1 ks1]).map (spellT qt))) := by
    unfold Hid spellN
    simp [hk, lst]
  have hn : Hid (0 + (wtT (Tr.node x0 ks0) + 2) + [(⟨#[32]⟩ : ByteArray), x.str, (⟨#[32]⟩ : ByteArray)].length + wtT (Tr.node x1 ks1) ≤ 19 + 23 * szL ([Tr.node x0 ks0, Tr.node x1 ks1])) := by
    unfold Hid
    simp only [List.length_cons, List.length_nil, szL_cons, szL_nil]
    omega
  simp at hkl
  rw [hk] at c0
  go_enter Tryz.func86, Tryz.ntmps86
  go_wp2_with (first
    | (go_at_call 84; refine (K1.out.put s2.out (by simp; omega)).mono ?_; rintro e w3 ⟨rfl, s3⟩; obtain ⟨⟨c0_2, c1_2, c2_2, c3_2, c4_2, c5_2⟩, l_2⟩ := hB.out s3.out)
    | (go_at_call 79; refine (say_st [(⟨#[32]⟩ : ByteArray), x.str, (⟨#[32]⟩ : ByteArray)] s1.out (by simp; omega) _ _ rfl rfl).mono ?_; rintro e w2 ⟨rfl, s2⟩; obtain ⟨⟨c0_1, c1_1, c2_1, c3_1, c4_1, c5_1⟩, l_1⟩ := hB.out s2.out)
    | (go_at_call 83; refine (at_st 13 K0.out hw.out hA.out s0.out (by simp; omega)).mono ?_; rintro e w1 ⟨rfl, s1⟩; obtain ⟨⟨c0_0, c1_0, c2_0, c3_0, c4_0, c5_0⟩, l_0⟩ := hB.out s1.out))
  go_end0
  exact s3.out.laid hF.out hn.out
end
end Go.Proofs.YtnnnfabpceapcaaGreatDoor
