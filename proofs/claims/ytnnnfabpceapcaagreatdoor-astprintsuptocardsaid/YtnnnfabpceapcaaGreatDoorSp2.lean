/- The speller: variables and numbers. -/
import Derived.Test.YtnnnfabpceapcaaGreatDoorTextSt
namespace Go.Proofs.YtnnnfabpceapcaaGreatDoor
open Go.RowKit
set_option linter.unusedVariables false
section
variable {G : NdH → List Tr → Bool} {qt : List UInt8 → List UInt8} {A : Nat → Prop} {sb : Nat} {T : List Pc} {w w0 : World} {b o : Nat} {x : NdH} {kv : Value} {n cb : Nat} {ks : List Tr}

set_option maxHeartbeats 4000000 in
theorem vars39 {t0 : Tr} {r : List Tr} (J : Job G A sb T w0 w b o x kv n cb (t0 :: r)) (hr : r ≠ []) (hk : x.kind = 42) : Calls Tryz.prog 57 #[.pointer (some ⟨sb, 0, none⟩), .pointer (some ⟨b, o, none⟩)] w (Spelt G qt A sb T w0 w x (t0 :: r)) := by
  have hrl : 0 < r.length := List.length_pos_iff.2 hr
  have hL := wtL_le (t0 :: r)
  rw [wtL_cons] at hL
  have hT := J.hT
  obtain ⟨c0, _, _, _, c4, _⟩ := J.hat.below J.hw J.hb
  have hbw := Nat.lt_of_lt_of_le J.hb J.hw.size
  have s0 := St.start (G := G) (sp := spellT qt) (w0 := w0) J.sp
  have HK := hid' J.hK
  obtain ⟨hkl, ao, cap, rfl⟩ := J.hK.shape
  have hroom := HK.out.room (by simp)
  obtain ⟨m0, b0, off, x0, kv0, ks0, _, rfl, ⟨hb0, _⟩, e0, hat0, hK0⟩ := HK.out.kid 0 (by simp)
  simp at e0 hat0
  subst e0
  have HKt := hid' HK.out.tail
  have hGs := J.hG
  rw [allL_cons, Bool.and_eq_true] at hGs
  have hF : Hid ([] ++ spellT qt (Tr.node x0 ks0) ++ (List.map lst [⟨#[32]⟩]).flatten ++ joinL (lst ⟨#[44, 32]⟩) (r.map (spellT qt)) ++ (List.map lst [⟨#[59, 10]⟩]).flatten = spellN qt x (Tr.node x0 ks0 :: r) ((Tr.node x0 ks0 :: r).map (spellT qt))) := by
    show _ = _
    unfold spellN
    simp [hk, lst]
  have hn : Hid (0 + wtT (Tr.node x0 ks0) + [(⟨#[32]⟩ : ByteArray)].length + wtL r + [(⟨#[59, 10]⟩ : ByteArray)].length ≤ 19 + 23 * szL (Tr.node x0 ks0 :: r)) := by unfold Hid; rw [List.length_singleton, List.length_singleton]; omega
  simp at hkl hroom
  rw [hk] at c0
  go_enter Tryz.func57, Tryz.ntmps57
  go_wp2_with (first
    | (go_at_call 79; refine (say_st [⟨#[59, 10]⟩] s3.out (by simp; omega) _ _ rfl rfl).mono ?_; rintro e w4 ⟨rfl, s4⟩)
    | (go_at_call 85; refine (list_st ⟨#[44, 32]⟩ J.hw J.hA HKt.out hGs.2 s2.out (by simp; omega)).mono ?_; rintro e w3 ⟨rfl, s3⟩)
    | (go_at_call 79; refine (say_st [⟨#[32]⟩] s1.out (by simp; omega) _ _ rfl rfl).mono ?_; rintro e w2 ⟨rfl, s2⟩)
    | (go_at_call 84; refine (put_st hat0 hb0 hK0 hGs.1 s0.out (by omega)).mono ?_; rintro e w1 ⟨rfl, s1⟩))
  go_end0
  exact s4.out.laid hF.out hn.out

set_option maxHeartbeats 4000000 in
theorem var60 (J : Job G A sb T w0 w b o x kv n cb ks) (hk : x.kind = 43) (hf : x.flag = false) : Calls Tryz.prog 89 #[.pointer (some ⟨sb, 0, none⟩), .pointer (some ⟨b, o, none⟩)] w (Spelt G qt A sb T w0 w x ks) := by
  have hL := wtL_le ks
  have hT := J.hT
  have hB : Hid (∀ {L n W}, St G (spellT qt) w0 A sb T w L n W → NdAt W b o x kv ∧ b < W.heap.size) := fun h => ⟨J.hat.below (h.bel J.hw J.hA) J.hb, Nat.lt_of_lt_of_le J.hb (h.bel J.hw J.hA).size⟩
  obtain ⟨c0, c1, _, c3, c4, _⟩ := J.hat.below J.hw J.hb
  have hbw := Nat.lt_of_lt_of_le J.hb J.hw.size
  have s0 := St.start (G := G) (sp := spellT qt) (w0 := w0) J.sp
  have HK := hid' J.hK
  obtain ⟨hkl, ao, cap, rfl⟩ := J.hK.shape
  cases ks with
  | nil =>
    have hF : Hid ([] ++ (List.map lst [x.str]).flatten = spellN qt x [] (List.map (spellT qt) [])) := by
      show _ = _
      unfold spellN
      simp [hk, hf]
    go_enter Tryz.func89, Tryz.ntmps89
    go_wp2_with (go_at_call 79; refine (say_st [x.str] s0.out (by simp; omega) _ _ rfl rfl).mono ?_; rintro e w1 ⟨rfl, s1⟩; obtain ⟨⟨d0, d1, d2, d3, d4, d5⟩, hl1⟩ := hB.out s1.out; rw [hf] at d3)
    go_end0
    exact s1.out.laid hF.out (by simp; omega)
  | cons t0 r =>
    rw [wtL_cons] at hL
    have hGs := J.hG
    rw [allL_cons, Bool.and_eq_true] at hGs
    obtain ⟨m0, b0, off, x0, kv0, ks0, _, rfl, ⟨hb0, _⟩, e0, hat0, hK0⟩ := HK.out.kid 0 (by simp)
    simp at e0 hat0
    subst e0
    have hF : Hid ([] ++ (List.map lst [x.str]).flatten ++ (List.map lst [⟨#[32, 61, 32]⟩]).flatten ++ spellT qt (Tr.node x0 ks0) = spellN qt x (Tr.node x0 ks0 :: r) (List.map (spellT qt) (Tr.node x0 ks0 :: r))) := by
      show _ = _
      unfold spellN
      simp [hk, hf, lst]
    have hn : Hid (0 + [x.str].length + [(⟨#[32, 61, 32]⟩ : ByteArray)].length + wtT (Tr.node x0 ks0) ≤ 19 + 23 * szL (Tr.node x0 ks0 :: r)) := by unfold Hid; rw [List.length_singleton, List.length_singleton]; omega
    simp at hkl
    go_enter Tryz.func89, Tryz.ntmps89
    go_wp2_with (first
      | (go_at_call 84; refine (put_st hat0 hb0 hK0 hGs.1 s2.out (by simp; omega)).mono ?_; rintro e w3 ⟨rfl, s3⟩)
      | (go_at_call 79; refine (say_st [⟨#[32, 61, 32]⟩] s1.out (by simp; omega) _ _ rfl rfl).mono ?_; rintro e w2 ⟨rfl, s2⟩)
      | (go_at_call 79; refine (say_st [x.str] s0.out (by simp; omega) _ _ rfl rfl).mono ?_; rintro e w1 ⟨rfl, s1⟩; obtain ⟨⟨d0, d1, d2, d3, d4, d5⟩, hl1⟩ := hB.out s1.out; rw [hf] at d3))
    go_end0
    exact s3.out.laid hF.out hn.out

set_option maxHeartbeats 4000000 in
theorem var39 (J : Job G A sb T w0 w b o x kv n cb ks) (hk : x.kind = 43) (hf : x.flag = false) : Calls Tryz.prog 57 #[.pointer (some ⟨sb, 0, none⟩), .pointer (some ⟨b, o, none⟩)] w (Spelt G qt A sb T w0 w x ks) := by
  have H := hid' (var60 (qt := qt) J hk hf)
  obtain ⟨c0, _, _, _, c4, _⟩ := J.hat.below J.hw J.hb
  have hbw := Nat.lt_of_lt_of_le J.hb J.hw.size
  obtain ⟨hkl, ao, cap, rfl⟩ := J.hK.shape
  rw [hk] at c0
  go_enter Tryz.func57, Tryz.ntmps57
  go_wp2_with (go_at_call 89; refine H.out.mono ?_; rintro e w1 ⟨rfl, s1⟩; replace s1 := hid' s1)
  go_end0
  exact ⟨rfl, s1.out⟩

theorem small93 (k : Nat) (hk : k < 10) (w : World) : Calls Tryz.prog 122 #[.int .i64 (k : Int)] w fun e w' => e = .returned (.string ⟨#[digC k]⟩) ∧ w' = w := by
  have : k = 0 ∨ k = 1 ∨ k = 2 ∨ k = 3 ∨ k = 4 ∨ k = 5 ∨ k = 6 ∨ k = 7 ∨ k = 8 ∨ k = 9 := by omega
  rcases this with rfl | rfl | rfl | rfl | rfl | rfl | rfl | rfl | rfl | rfl
  all_goals
    go_enter Tryz.func122, Tryz.ntmps122
    go_wp2
    go_ret
    exact ⟨rfl, rfl⟩
theorem format87 (k : Nat) (hk : k < 10) (w : World) : Calls Tryz.prog 116 #[.int .u64 (k : Int), .int .i64 10] w fun e w' => e = .returned (.string ⟨#[digC k]⟩) ∧ w' = w := by
  have H := hid' (small93 k hk w)
  go_enter Tryz.func116, Tryz.ntmps116
  go_wp2_with (go_at_call 122; refine H.out.mono ?_; rintro e w1 ⟨rfl, rfl⟩)
  go_ret
  exact ⟨rfl, rfl⟩
theorem format73 (k : Nat) (hk : k < 10) (w : World) : Calls Tryz.prog 105 #[.int .u64 (k : Int), .int .i64 10] w fun e w' => e = .returned (.string ⟨#[digC k]⟩) ∧ w' = w := by
  have H := hid' (format87 k hk w)
  go_enter Tryz.func105, Tryz.ntmps105
  go_wp2_with (go_at_call 116; refine H.out.mono ?_; rintro e w1 ⟨rfl, rfl⟩)
  go_ret
  exact ⟨rfl, rfl⟩
theorem decF_len : ∀ (f n : Nat), (decF f n).length ≤ f
  | 0, _ => Nat.le_refl _
  | f + 1, n => by
    unfold decF
    split
    · simp
    · have := decF_len f (n / 10)
      simp
      omega
/-- FormatUint answers. -/
def FmtIs (k : Nat) : Prop := ∀ w : World, Calls Tryz.prog 105 #[.int .u64 (k : Int), .int .i64 10] w fun e w' => e = .returned (.string ⟨(decF 20 k).toArray⟩) ∧ Below w.heap.size w w'
theorem fmt_small (k : Nat) (hk : k < 10) : FmtIs k := fun w => (format73 k hk w).mono fun e w' h => ⟨by rw [h.1]; unfold decF; rw [if_pos hk], by rw [h.2]; exact Below.refl _ _⟩
set_option maxHeartbeats 4000000 in
theorem number51 {k : Nat} (hF : FmtIs k) (h : NdAt w b o x kv) (hb : b < w.heap.size) (hn : x.num = (k : Int)) (hk : k < 4294967296) : Calls Tryz.prog 80 #[.pointer (some ⟨b, o, none⟩)] w fun e w' => (∃ s, e = .returned (.string s) ∧ lst s = numL x) ∧ Below w.heap.size w w' := by
  obtain ⟨c0, _, c2, c3, _, _⟩ := h
  have H := hid' (hF w)
  have hc : Hid (∀ w', Below w.heap.size w w' → w'.cell? ⟨b, o + 3, none⟩ = some (.bool x.flag)) := fun w' hw => (hw.cell (p := ⟨b, o + 3, none⟩) hb).trans c3
  have hX : Hid (numL x = decF 20 k ++ (if x.flag then [117] else [])) := by
    show _ = _
    unfold numL
    rw [hn]
    rfl
  rw [hn] at c2
  have hl := decF_len 20 k
  generalize decF 20 k = l at *
  generalize numL x = q at *
  go_enter Tryz.func80, Tryz.ntmps80
  cases hf : x.flag with
  | false =>
    rw [hf] at c3 hc hX
    go_wp2_with (go_at_call 105; refine H.out.mono ?_; rintro e w1 ⟨rfl, hb1⟩; have d3 := hc.out w1 hb1; have hl1 := Nat.lt_of_lt_of_le hb hb1.size; replace hb1 := hid' hb1)
    go_ret
    exact ⟨⟨_, rfl, by rw [hX.out]; simp [lst]⟩, hb1.out⟩
  | true =>
    rw [hf] at c3 hc hX
    go_wp2_with (go_at_call 105; refine H.out.mono ?_; rintro e w1 ⟨rfl, hb1⟩; have d3 := hc.out w1 hb1; have hl1 := Nat.lt_of_lt_of_le hb hb1.size; replace hb1 := hid' hb1)
    go_ret
    exact ⟨⟨_, rfl, by rw [hX.out]; simp [lst]⟩, hb1.out⟩
set_option maxHeartbeats 4000000 in
theorem num36 {k : Nat} (hF : FmtIs k) (hn : x.num = (k : Int)) (hlt : k < 4294967296) (J : Job G A sb T w0 w b o x kv n cb ks) (hk : x.kind = 1) : Calls Tryz.prog 55 #[.pointer (some ⟨sb, 0, none⟩), .pointer (some ⟨b, o, none⟩)] w (Spelt G qt A sb T w0 w x ks) := by
  have hT := J.hT
  have H := hid' (number51 hF (J.hat.below J.hw J.hb) (Nat.lt_of_lt_of_le J.hb J.hw.size) hn hlt)
  obtain ⟨c0, _, _, _, c4, _⟩ := J.hat.below J.hw J.hb
  have hbw := Nat.lt_of_lt_of_le J.hb J.hw.size
  have s0 : Hid (∀ w1, Below w.heap.size w w1 → St G (spellT qt) w0 A sb T w [] 0 w1) := fun w1 h => ⟨[], by simpa using J.sp.below h, On.of_below h, Says.nil⟩
  obtain ⟨hkl, ao, cap, rfl⟩ := J.hK.shape
  have hX : Hid (numL x = spellN qt x ks (ks.map (spellT qt))) := by
    show _ = _
    unfold spellN
    rw [if_pos hk]
  rw [hk] at c0
  go_enter Tryz.func55, Tryz.ntmps55
  go_wp2_with (first
    | (go_at_call 79; refine (say_st [s] s0.out (by simp; omega) _ _ rfl rfl).mono ?_; rintro e w2 ⟨rfl, s2⟩)
    | (go_at_call 80; refine H.out.mono ?_; rintro e w1 ⟨⟨s, rfl, hs⟩, hb1⟩; replace hs := hid' hs; replace s0 := hid' (s0.out w1 hb1); clear hb1))
  go_end0
  exact s2.out.laid (by rw [← hX.out, ← hs.out]; simp) (by simp; omega)
end
end Go.Proofs.YtnnnfabpceapcaaGreatDoor
