/- The token that begins at a place, by the document. -/
import Derived.Test.YtfnekmhhhjdeiaaRQuot
import Derived.Test.YtfnekmhhhjdeiaaRResv
import Derived.Test.YtfnekmhhhjdeiaaQuiet
namespace Go.Proofs.Ytfnekmhhhjdeiaa
open Go.RowKit
set_option linter.unusedVariables false

theorem tokP_form {p : Nat} {X : Option (Tok × Nat)} {e : Ending} (h : TokP p X e) : ∃ (k : Int) (t : ByteArray) (m : Int) (u : Bool) (a b : Int) (z : Bool), e = .returned (.tuple #[.agg #[.int .i64 k, .string t, .int .u32 m, .bool u, .int .i64 a, .int .i64 b], .bool z]) := by
  match X, h with
  | none, ⟨k, t, m, u, a, b, h⟩ => exact ⟨k, t, m, u, a, b, _, h⟩
  | some (t, n), h => exact ⟨_, _, _, _, _, _, _, h⟩

def marksA : Array Value := (marksL.map fun x => Value.string (strL x)).toArray
theorem marksA_at (k : Nat) (h : k < 43) : marksA[k]? = some (.string (strL (marksL.getD k []))) := by
  have hl : k < marksL.length := h
  show (marksL.map fun x => Value.string (strL x)).toArray[k]? = _
  rw [List.getElem?_toArray, List.getElem?_map, List.getElem?_eq_getElem hl, List.getD_eq_getElem?_getD, List.getElem?_eq_getElem hl]
  rfl
theorem marks45 (w : World) : Calls Try.prog 45 #[] w fun e w' => e = .returned (.slice (some ⟨w.heap.size, 0, none⟩) 43 43) ∧ w' = w.alloc (.cells marksA 9) := by
  go_enter Try.func45, Try.ntmps45
  go_wp2
  go_ret
  exact ⟨rfl, rfl⟩

set_option maxHeartbeats 4000000 in
theorem token24_num (s : ByteArray) (p : Nat) (hp : p < s.size) (hl : letr s[p] = false) (hd : dig s[p] = true) (X : Option (Tok × Nat))
    (hc : ∀ w, Calls Try.prog 43 #[.string s, .int .i64 (p : Int)] w fun e w' => TokP p X e ∧ Below w.heap.size w w') (w : World) :
    Calls Try.prog 24 #[.string s, .int .i64 (p : Int)] w fun e w' => TokP p X e ∧ Below w.heap.size w w' := by
  have hp' : (p : Int) < s.size := by omega
  go_enter Try.func24, Try.ntmps24
  go_wp2_with (first
    | (go_at_call 27; refine (letter27 _ _).mono ?_; rintro e w1 ⟨rfl, rfl⟩)
    | (go_at_call 28; refine (digit28 _ _).mono ?_; rintro e w1 ⟨rfl, rfl⟩)
    | (go_at_call 43; (with_reducible refine (hc _).mono ?_); rintro e w1 ⟨ht, hb1⟩; obtain ⟨k, t, m, u, a, b, z, rfl⟩ := tokP_form ht; replace ht := hid ht; obtain ⟨⟨k0, k1, k2, k3, k4, k5⟩, hz, hB, hlz⟩ := zkept hb1; have z0 := hz 0; have z1 := hz 1; have z2 := hz 2; have z3 := hz 3; have z4 := hz 4; have z5 := hz 5; clear hz))
  exact bodyPost_ret (v := .tuple #[.agg #[.int .i64 k, .string t, .int .u32 m, .bool u, .int .i64 a, .int .i64 b], .bool z]) (by simp [results, Try.results24, go_sem, k0, k1, k2, k3, k4, k5]) rfl ⟨ht.out, below_set6 hB _ _ _ _ _ _⟩

set_option maxHeartbeats 4000000 in
theorem token24_quot (s : ByteArray) (p : Nat) (hp : p < s.size) (hl : letr s[p] = false) (hd : dig s[p] = false) (hm : s[p].toNat = 34 ∨ s[p].toNat = 39) (X : Option (Tok × Nat))
    (hc : ∀ w, Calls Try.prog 44 #[.string s, .int .i64 (p : Int)] w fun e w' => TokP p X e ∧ Below w.heap.size w w') (w : World) :
    Calls Try.prog 24 #[.string s, .int .i64 (p : Int)] w fun e w' => TokP p X e ∧ Below w.heap.size w w' := by
  have hp' : (p : Int) < s.size := by omega
  rcases hm with hm | hm
  · have a4' : ((s[p].toNat : Int) == 34) = true := by simp; omega
    clear hm
    go_enter Try.func24, Try.ntmps24
    go_wp2_with (first
      | (go_at_call 27; refine (letter27 _ _).mono ?_; rintro e w1 ⟨rfl, rfl⟩)
      | (go_at_call 28; refine (digit28 _ _).mono ?_; rintro e w1 ⟨rfl, rfl⟩)
      | (go_at_call 44; (with_reducible refine (hc _).mono ?_); rintro e w1 ⟨ht, hb1⟩; obtain ⟨k, t, m, u, a, b, z, rfl⟩ := tokP_form ht; replace ht := hid ht; obtain ⟨⟨k0, k1, k2, k3, k4, k5⟩, hz, hB, hlz⟩ := zkept hb1; have z0 := hz 0; have z1 := hz 1; have z2 := hz 2; have z3 := hz 3; have z4 := hz 4; have z5 := hz 5; clear hz))
    exact bodyPost_ret (v := .tuple #[.agg #[.int .i64 k, .string t, .int .u32 m, .bool u, .int .i64 a, .int .i64 b], .bool z]) (by simp [results, Try.results24, go_sem, k0, k1, k2, k3, k4, k5]) rfl ⟨ht.out, below_set6 hB _ _ _ _ _ _⟩
  · have a3' : ((s[p].toNat : Int) == 34) = false := by simp; omega
    have a4' : ((s[p].toNat : Int) == 39) = true := by simp; omega
    clear hm
    go_enter Try.func24, Try.ntmps24
    go_wp2_with (first
      | (go_at_call 27; refine (letter27 _ _).mono ?_; rintro e w1 ⟨rfl, rfl⟩)
      | (go_at_call 28; refine (digit28 _ _).mono ?_; rintro e w1 ⟨rfl, rfl⟩)
      | (go_at_call 44; (with_reducible refine (hc _).mono ?_); rintro e w1 ⟨ht, hb1⟩; obtain ⟨k, t, m, u, a, b, z, rfl⟩ := tokP_form ht; replace ht := hid ht; obtain ⟨⟨k0, k1, k2, k3, k4, k5⟩, hz, hB, hlz⟩ := zkept hb1; have z0 := hz 0; have z1 := hz 1; have z2 := hz 2; have z3 := hz 3; have z4 := hz 4; have z5 := hz 5; clear hz))
    exact bodyPost_ret (v := .tuple #[.agg #[.int .i64 k, .string t, .int .u32 m, .bool u, .int .i64 a, .int .i64 b], .bool z]) (by simp [results, Try.results24, go_sem, k0, k1, k2, k3, k4, k5]) rfl ⟨ht.out, below_set6 hB _ _ _ _ _ _⟩

theorem ext_mid (s : ByteArray) (p k : Nat) : s.extract p k = strL (((lst s).drop p).take (k - p)) := ext_list (by rw [ext_data, strL_list]; rfl)
theorem ext_mid_size (s : ByteArray) (p k : Nat) (h : k ≤ s.size) (hp : p ≤ k) : (s.extract p k).size = k - p := by rw [ByteArray.size_extract]; omega

set_option maxRecDepth 20000 in
set_option maxHeartbeats 8000000 in
theorem token24_name (s : ByteArray) (p : Nat) (hp : p < s.size) (hs : s.size < 4294967281) (hl : letr s[p] = true) (w : World) :
    Calls Try.prog 24 #[.string s, .int .i64 (p : Int)] w fun e w' => TokP p (nameF ((lst s).drop p)) e ∧ Below w.heap.size w w' := by
  have hp' : (p : Int) < s.size := by omega
  obtain ⟨X, hX⟩ : ∃ X, X = nameF ((lst s).drop p) := ⟨_, rfl⟩
  rw [← hX]
  replace hX := hid hX
  go_enter Try.func24, Try.ntmps24
  go_wp2_with (go_at_call 27; refine (letter27 _ _).mono ?_; rintro e w1 ⟨rfl, rfl⟩)
  go_loop [7] (fun i => ∃ k : Nat, p ≤ k ∧ k ≤ s.size ∧ i = .int .i64 k ∧ (((lst s).drop p).takeWhile nm).length = (k - p) + (((lst s).drop k).takeWhile nm).length) (fun i => s.size - (intOf i).toNat)
  case atStart => exact ⟨p, Nat.le_refl _, by omega, rfl, by simp⟩
  case round =>
    obtain ⟨k, hk1, hk, rfl, hn⟩ := hrel
    have HN := hid hn
    clear hn
    have hks : (k : Int) ≤ s.size := by omega
    have hpk : (p : Int) ≤ k := by omega
    by_cases hgo : ∃ h : k < s.size, nm s[k] = true
    · obtain ⟨hlt, hnm⟩ := hgo
      have HN2 := HN.out
      rw [lst_cons s k hlt, tw_yes hnm] at HN2
      replace HN2 := hid HN2
      cases hlk : letr s[k]
      · have hdk : dig s[k] = true := by unfold nm at hnm; rw [hlk] at hnm; exact hnm
        clear hnm
        go_wp2_with (first
          | (go_at_call 27; refine (letter27 _ _).mono ?_; rintro e w1 ⟨rfl, rfl⟩)
          | (go_at_call 28; refine (digit28 _ _).mono ?_; rintro e w1 ⟨rfl, rfl⟩))
        exact ⟨⟨k + 1, by omega, by omega, vi (by omega), by rw [HN2.out]; omega⟩, by simp [intOf]; omega⟩
      · clear hnm
        go_wp2_with (first
          | (go_at_call 27; refine (letter27 _ _).mono ?_; rintro e w1 ⟨rfl, rfl⟩)
          | (go_at_call 28; refine (digit28 _ _).mono ?_; rintro e w1 ⟨rfl, rfl⟩))
        exact ⟨⟨k + 1, by omega, by omega, vi (by omega), by rw [HN2.out]; omega⟩, by simp [intOf]; omega⟩
    · have hk0 : (((lst s).drop p).takeWhile nm).length = k - p := by
        rw [HN.out]
        by_cases hlt : k < s.size
        · have : nm s[k] = false := by
            cases h : nm s[k]
            · rfl
            · exact absurd ⟨hlt, h⟩ hgo
          rw [lst_cons s k hlt, tw_no this]
          rfl
        · rw [lst_nil s k (by omega)]
          rfl
      have hfin := name_eq hk0
      rw [← hX.out] at hfin
      replace hfin := hid hfin
      have hT := ext_mid_size s p k hk hk1
      have hre := fun w => reserved16 (s.extract p k) (by omega) w
      have hstr := hid (ext_mid s p k)
      rw [show lst (s.extract p k) = ((lst s).drop p).take (k - p) by rw [hstr.out, lst_strL]] at hre
      generalize hY : resv (((lst s).drop p).take (k - p)) = Y at hre hfin
      clear hY hk0
      by_cases hlt : k < s.size
      · have hnm : nm s[k] = false := by
          cases h : nm s[k]
          · rfl
          · exact absurd ⟨hlt, h⟩ hgo
        have hlk : letr s[k] = false := by (unfold nm at hnm; simp at hnm; exact hnm.1)
        have hdk : dig s[k] = false := by (unfold nm at hnm; simp at hnm; exact hnm.2)
        clear hgo hnm
        cases Y
        · go_wp2_with (first
            | (go_at_call 27; refine (letter27 _ _).mono ?_; rintro e w1 ⟨rfl, rfl⟩)
            | (go_at_call 28; refine (digit28 _ _).mono ?_; rintro e w1 ⟨rfl, rfl⟩)
            | (go_at_call 16; (with_reducible refine (hre _).mono ?_); rintro e w1 ⟨rfl, rfl⟩))
          refine bodyPost_ret (v := .tuple #[.agg #[.int .i64 2, .string (s.extract p k), .int .u32 0, .bool false, .int .i64 (p : Int), .int .i64 (k : Int)], .bool true]) (by simp [results, Try.results24, go_sem]) rfl ⟨?_, below_box _ _⟩
          rw [hfin.out, hstr.out, show (k : Int) = ((p + (k - p) : Nat) : Int) by omega]
          rfl
        · go_wp2_with (first
            | (go_at_call 27; refine (letter27 _ _).mono ?_; rintro e w1 ⟨rfl, rfl⟩)
            | (go_at_call 28; refine (digit28 _ _).mono ?_; rintro e w1 ⟨rfl, rfl⟩)
            | (go_at_call 16; (with_reducible refine (hre _).mono ?_); rintro e w1 ⟨rfl, rfl⟩))
          refine bodyPost_ret (v := .tuple #[.agg #[.int .i64 3, .string (s.extract p k), .int .u32 0, .bool false, .int .i64 (p : Int), .int .i64 (k : Int)], .bool true]) (by simp [results, Try.results24, go_sem]) rfl ⟨?_, below_box _ _⟩
          rw [hfin.out, hstr.out, show (k : Int) = ((p + (k - p) : Nat) : Int) by omega]
          rfl
      · clear hgo
        cases Y
        · go_wp2_with (first
            | (go_at_call 16; (with_reducible refine (hre _).mono ?_); rintro e w1 ⟨rfl, rfl⟩))
          refine bodyPost_ret (v := .tuple #[.agg #[.int .i64 2, .string (s.extract p k), .int .u32 0, .bool false, .int .i64 (p : Int), .int .i64 (k : Int)], .bool true]) (by simp [results, Try.results24, go_sem]) rfl ⟨?_, below_box _ _⟩
          rw [hfin.out, hstr.out, show (k : Int) = ((p + (k - p) : Nat) : Int) by omega]
          rfl
        · go_wp2_with (first
            | (go_at_call 16; (with_reducible refine (hre _).mono ?_); rintro e w1 ⟨rfl, rfl⟩))
          refine bodyPost_ret (v := .tuple #[.agg #[.int .i64 3, .string (s.extract p k), .int .u32 0, .bool false, .int .i64 (p : Int), .int .i64 (k : Int)], .bool true]) (by simp [results, Try.results24, go_sem]) rfl ⟨?_, below_box _ _⟩
          rw [hfin.out, hstr.out, show (k : Int) = ((p + (k - p) : Nat) : Int) by omega]
          rfl
end Go.Proofs.Ytfnekmhhhjdeiaa
