/- Names, words, marks: their tokens, by the program. -/
import Derived.Test.YtjeioblhpfogfaaGreatDoorX02
set_option linter.unusedVariables false
set_option linter.unusedSimpArgs false
set_option maxRecDepth 20000
set_option maxHeartbeats 8000000
namespace Go.Proofs.YtjeioblhpfogfaaGreatDoorLx
open Go.RowKit

theorem clone54 (s : ByteArray) (hlim : s.size ≤ 281474976710656) (w : World) : Calls Tryz.prog 218 #[.string s] w fun e w' => e = .returned (.string s) ∧ Below w.heap.size w w' := by
  go_enter Tryz.func218, Tryz.ntmps218
  go_wp2_with (go_at_call 248; refine (Tryz.stringslite_Clone s _ hlim).mono ?_; rintro e w1 ⟨rfl, hb1⟩)
  go_ret
  exact ⟨rfl, hb1⟩

theorem take_while (p : UInt8 → Bool) (l : List UInt8) : l.take (l.takeWhile p).length = l.takeWhile p := (List.prefix_iff_eq_take.1 (List.takeWhile_prefix p)).symm
theorem tw_yes {p : UInt8 → Bool} {c : UInt8} {r : List UInt8} (h : p c = true) : ((c :: r).takeWhile p).length = 1 + (r.takeWhile p).length := by
  rw [List.takeWhile_cons_of_pos h, List.length_cons]; omega
theorem tw_no {p : UInt8 → Bool} {c : UInt8} {r : List UInt8} (h : p c = false) : ((c :: r).takeWhile p).length = 0 := by
  rw [List.takeWhile_cons_of_neg (by rw [h]; simp)]; rfl

theorem below_set6a {w W : World} (h : Below w.heap.size w W) (v0 v1 v2 v3 v4 v5 : Value) (o : Obj) : Below w.heap.size w (((((((W.setCell ⟨w.heap.size, 0, none⟩ v0).setCell ⟨w.heap.size, 1, none⟩ v1).setCell ⟨w.heap.size, 2, none⟩ v2).setCell ⟨w.heap.size, 3, none⟩ v3).setCell ⟨w.heap.size, 4, none⟩ v4).setCell ⟨w.heap.size, 5, none⟩ v5).alloc o) :=
  (below_set6 h v0 v1 v2 v3 v4 v5).alloc (below_set6 h v0 v1 v2 v3 v4 v5).size o
theorem ext0_size (s : ByteArray) (k : Nat) (h : k ≤ s.size) : (s.extract 0 k).size = k := by rw [ByteArray.size_extract]; omega

theorem name_eq {l : List UInt8} {k : Nat} (h : (l.takeWhile nm).length = k) : nameF l = some (⟨if resv (l.take k) then 3 else 2, l.take k, 0, false⟩, k) := by
  unfold nameF
  rw [← h, take_while]

theorem name38 (hR : ∀ (t : ByteArray) (w : World), Calls Tryz.prog 198 #[.string t] w fun e w' => e = .returned (.bool (resv (lst t))) ∧ w' = w)
    (s : ByteArray) (hs : s.size < 4294967281) (h0 : 0 < s.size) (hm : nm s[0] = true) (w : World) :
    Calls Tryz.prog 175 #[.string s] w fun e w' => e = .returned (readV (nameF (lst s))) ∧ Below w.heap.size w w' := by
  obtain ⟨X, hX⟩ : ∃ X, X = nameF (lst s) := ⟨_, rfl⟩
  rw [← hX]
  replace hX := hid hX
  have hst : Hid (((lst s).takeWhile nm).length = 1 + (((lst s).drop 1).takeWhile nm).length) := by
    show _ = _
    conv => lhs; rw [lst_cons0 s h0]
    rw [tw_yes hm]
  clear hm
  go_enter Tryz.func175, Tryz.ntmps175
  go_wp2
  go_loop [4] (fun i => ∃ k : Nat, 1 ≤ k ∧ k ≤ s.size ∧ i = .int .i64 k ∧ ((lst s).takeWhile nm).length = k + (((lst s).drop k).takeWhile nm).length) (fun i => s.size - (intOf i).toNat)
  case atStart => exact ⟨1, Nat.le_refl _, by omega, rfl, hst.out⟩
  case round =>
    obtain ⟨k, hk1, hk, rfl, hn⟩ := hrel
    have HN := hid hn
    clear hn hst
    have hks : (k : Int) ≤ s.size := by omega
    by_cases hgo : ∃ h : k < s.size, nm s[k] = true
    · obtain ⟨hlt, hnm⟩ := hgo
      have HN2 := HN.out
      rw [lst_cons s k hlt, tw_yes hnm] at HN2
      replace HN2 := hid HN2
      go_wp2_with (go_at_call 174; refine (isInName26 _ _).mono ?_; rintro e w1 ⟨rfl, rfl⟩)
      exact ⟨⟨k + 1, by omega, by omega, vi (by omega), by rw [HN2.out]; omega⟩, by simp [intOf]; omega⟩
    · have hk0 : Hid (((lst s).takeWhile nm).length = k) := by
        show _ = _
        rw [HN.out]
        by_cases hlt : k < s.size
        · have : nm s[k] = false := by
            cases h : nm s[k]
            · rfl
            · exact absurd ⟨hlt, h⟩ hgo
          rw [lst_cons s k hlt, tw_no this]
          rfl
        · rw [lst_nil s k (by omega)]
          rfl
      have hfin := name_eq hk0.out
      rw [← hX.out] at hfin
      replace hfin := hid hfin
      have hT := ext0_size s k hk
      have hcl := fun w => clone54 (s.extract 0 k) (by omega) w
      have hre := fun w => hR (s.extract 0 k) w
      rw [lst_ext0] at hre
      have hstr := hid (lst_strL_ext0 s k)
      generalize hY : resv ((lst s).take k) = Y at hre hfin
      clear hY
      by_cases hlt : k < s.size
      · have hnm : nm s[k] = false := by
          cases h : nm s[k]
          · rfl
          · exact absurd ⟨hlt, h⟩ hgo
        clear hgo
        cases Y
        · go_wp2_with (first
          | (go_at_call 174; refine (isInName26 _ _).mono ?_; rintro e w1 ⟨rfl, rfl⟩)
          | (go_at_call 218; (with_reducible refine (hcl _).mono ?_); rintro e w1 ⟨rfl, hb1⟩; obtain ⟨⟨k0, k1, k2, k3, k4, k5⟩, hz, hB, hlz⟩ := zkept hb1; have z0 := hz 0; have z1 := hz 1; have z2 := hz 2; have z3 := hz 3; have z4 := hz 4; have z5 := hz 5; clear hz)
          | (go_at_call 198; (with_reducible refine (hre _).mono ?_); rintro e w2 ⟨rfl, rfl⟩))
          refine bodyPost_ret (v := .tuple #[.agg #[.int .i64 2, .string (s.extract 0 k), .int .u32 0, .bool false, .int .i64 0, .int .i64 0], .int .i64 (k : Int)]) (by simp [results, Tryz.results175, go_sem, k0, k1, k2, k3, k4, k5, hlz]) rfl ⟨ret_v ?_, below_set6a hB _ _ _ _ _ _ _⟩
          rw [hfin.out, hstr.out]
          rfl
        · go_wp2_with (first
          | (go_at_call 174; refine (isInName26 _ _).mono ?_; rintro e w1 ⟨rfl, rfl⟩)
          | (go_at_call 218; (with_reducible refine (hcl _).mono ?_); rintro e w1 ⟨rfl, hb1⟩; obtain ⟨⟨k0, k1, k2, k3, k4, k5⟩, hz, hB, hlz⟩ := zkept hb1; have z0 := hz 0; have z1 := hz 1; have z2 := hz 2; have z3 := hz 3; have z4 := hz 4; have z5 := hz 5; clear hz)
          | (go_at_call 198; (with_reducible refine (hre _).mono ?_); rintro e w2 ⟨rfl, rfl⟩))
          refine bodyPost_ret (v := .tuple #[.agg #[.int .i64 3, .string (s.extract 0 k), .int .u32 0, .bool false, .int .i64 0, .int .i64 0], .int .i64 (k : Int)]) (by simp [results, Tryz.results175, go_sem, k0, k1, k2, k3, k4, k5, hlz]) rfl ⟨ret_v ?_, below_set6a hB _ _ _ _ _ _ _⟩
          rw [hfin.out, hstr.out]
          rfl
      · clear hgo
        cases Y
        · go_wp2_with (first
          | (go_at_call 174; refine (isInName26 _ _).mono ?_; rintro e w1 ⟨rfl, rfl⟩)
          | (go_at_call 218; (with_reducible refine (hcl _).mono ?_); rintro e w1 ⟨rfl, hb1⟩; obtain ⟨⟨k0, k1, k2, k3, k4, k5⟩, hz, hB, hlz⟩ := zkept hb1; have z0 := hz 0; have z1 := hz 1; have z2 := hz 2; have z3 := hz 3; have z4 := hz 4; have z5 := hz 5; clear hz)
          | (go_at_call 198; (with_reducible refine (hre _).mono ?_); rintro e w2 ⟨rfl, rfl⟩))
          refine bodyPost_ret (v := .tuple #[.agg #[.int .i64 2, .string (s.extract 0 k), .int .u32 0, .bool false, .int .i64 0, .int .i64 0], .int .i64 (k : Int)]) (by simp [results, Tryz.results175, go_sem, k0, k1, k2, k3, k4, k5, hlz]) rfl ⟨ret_v ?_, below_set6a hB _ _ _ _ _ _ _⟩
          rw [hfin.out, hstr.out]
          rfl
        · go_wp2_with (first
          | (go_at_call 174; refine (isInName26 _ _).mono ?_; rintro e w1 ⟨rfl, rfl⟩)
          | (go_at_call 218; (with_reducible refine (hcl _).mono ?_); rintro e w1 ⟨rfl, hb1⟩; obtain ⟨⟨k0, k1, k2, k3, k4, k5⟩, hz, hB, hlz⟩ := zkept hb1; have z0 := hz 0; have z1 := hz 1; have z2 := hz 2; have z3 := hz 3; have z4 := hz 4; have z5 := hz 5; clear hz)
          | (go_at_call 198; (with_reducible refine (hre _).mono ?_); rintro e w2 ⟨rfl, rfl⟩))
          refine bodyPost_ret (v := .tuple #[.agg #[.int .i64 3, .string (s.extract 0 k), .int .u32 0, .bool false, .int .i64 0, .int .i64 0], .int .i64 (k : Int)]) (by simp [results, Tryz.results175, go_sem, k0, k1, k2, k3, k4, k5, hlz]) rfl ⟨ret_v ?_, below_set6a hB _ _ _ _ _ _ _⟩
          rw [hfin.out, hstr.out]
          rfl

theorem take_all {l : List UInt8} {a b : Nat} (h : l.length ≤ a) (h2 : l.length ≤ b) : l.take a = l.take b := by rw [List.take_of_length_le h, List.take_of_length_le h2]
theorem mark_some {l : List UInt8} {k : Nat} (h1 : 1 ≤ k) (h3 : k ≤ 3) (hl : k ≤ l.length) (h : isM (l.take k) = true) (hn : ∀ j, k < j → j ≤ 3 → j ≤ l.length → isM (l.take j) = false) :
    markF l = some (⟨4, l.take k, 0, false⟩, k) := by
  have hlen : (l.take k).length = k := by rw [List.length_take]; omega
  have aux : ∀ j, k ≤ j → j ≤ 3 → (isM (l.take j) = true ∧ l.take j = l.take k) ∨ (isM (l.take j) = false ∧ k < j) := by
    intro j hj hj3
    by_cases e : j = k
    · subst e; exact .inl ⟨h, rfl⟩
    · by_cases hjl : j ≤ l.length
      · exact .inr ⟨hn j (by omega) hj3 hjl, by omega⟩
      · by_cases ek : k = l.length
        · have e2 := take_all (l := l) (a := j) (b := k) (by omega) (by omega)
          exact .inl ⟨by rw [e2]; exact h, e2⟩
        · have e2 := take_all (l := l) (a := j) (b := l.length) (by omega) (by omega)
          exact .inr ⟨by rw [e2]; exact hn l.length (by omega) (by omega) (Nat.le_refl _), by omega⟩
  unfold markF
  rcases aux 3 h3 (by omega) with ⟨a1, a2⟩ | ⟨a1, a2⟩
  · rw [if_pos a1, a2, hlen]
  · rw [if_neg (by rw [a1]; simp)]
    rcases aux 2 (by omega) (by omega) with ⟨b1, b2⟩ | ⟨b1, b2⟩
    · rw [if_pos b1, b2, hlen]
    · rw [if_neg (by rw [b1]; simp)]
      rcases aux 1 (by omega) (by omega) with ⟨c1, c2⟩ | ⟨c1, c2⟩
      · rw [if_pos c1, c2, hlen]
      · omega
theorem mark_none {l : List UInt8} (h0 : 1 ≤ l.length) (hn : ∀ j, 0 < j → j ≤ 3 → j ≤ l.length → isM (l.take j) = false) : markF l = none := by
  have aux : ∀ j, 1 ≤ j → j ≤ 3 → isM (l.take j) = false := by
    intro j hj hj3
    by_cases hjl : j ≤ l.length
    · exact hn j hj hj3 hjl
    · rw [take_all (l := l) (a := j) (b := l.length) (by omega) (by omega)]
      exact hn l.length (by omega) (by omega) (Nat.le_refl _)
  unfold markF
  rw [if_neg (by rw [aux 3 (by omega) (by omega)]; simp), if_neg (by rw [aux 2 (by omega) (by omega)]; simp), if_neg (by rw [aux 1 (by omega) (by omega)]; simp)]

theorem mark41 (hM : ∀ (t : ByteArray) (w : World), Calls Tryz.prog 220 #[.string t] w fun e w' => e = .returned (.bool (isM (lst t))) ∧ w' = w)
    (s : ByteArray) (hs : s.size < 4294967281) (h0 : 0 < s.size) (w : World) :
    Calls Tryz.prog 178 #[.string s] w fun e w' => e = .returned (readV (markF (lst s))) ∧ Below w.heap.size w w' := by
  obtain ⟨X, hX⟩ : ∃ X, X = markF (lst s) := ⟨_, rfl⟩
  rw [← hX]
  replace hX := hid hX
  have hlen := lst_len s
  go_enter Tryz.func178, Tryz.ntmps178
  go_wp2
  go_loop [4] (fun i => ∃ k : Nat, k ≤ 3 ∧ k ≤ s.size ∧ i = .int .i64 k ∧ ∀ j, k < j → j ≤ 3 → j ≤ (lst s).length → isM ((lst s).take j) = false) (fun i => (intOf i).toNat)
  case atStart =>
    refine ⟨min 3 s.size, by omega, by omega, ?_, fun j h1 h2 h3 => by omega⟩
    exact vi (by omega)
  case round =>
    obtain ⟨k, hk3, hk, rfl, hn⟩ := hrel
    have HN := hid hn
    clear hn
    have hks : (k : Int) ≤ s.size := by omega
    by_cases hk0 : 0 < k
    · have hk0' : (0 : Int) < k := by omega
      have hT := ext0_size s k hk
      have hcl := fun w => clone54 (s.extract 0 k) (by omega) w
      have hre := fun w => hM (s.extract 0 k) w
      rw [lst_ext0] at hre
      have hstr := hid (lst_strL_ext0 s k)
      cases hY : isM ((lst s).take k)
      · rw [hY] at hre
        replace hY := hid hY
        go_wp2_with (go_at_call 220; (with_reducible refine (hre _).mono ?_); rintro e w2 ⟨rfl, rfl⟩)
        refine ⟨⟨k - 1, by omega, by omega, vi (by omega), fun j h1 h2 h3 => ?_⟩, by simp [intOf]; omega⟩
        by_cases e : j = k
        · subst e; exact hY.out
        · exact HN.out j (by omega) h2 h3
      · rw [hY] at hre
        have hfin := mark_some (by omega) hk3 (by omega) hY HN.out
        rw [← hX.out] at hfin
        replace hfin := hid hfin
        clear hY
        go_wp2_with (first
          | (go_at_call 218; (with_reducible refine (hcl _).mono ?_); rintro e w1 ⟨rfl, hb1⟩; obtain ⟨⟨k0, k1, k2, k3, k4, k5⟩, hz, hB, hlz⟩ := zkept hb1; have z0 := hz 0; have z1 := hz 1; have z2 := hz 2; have z3 := hz 3; have z4 := hz 4; have z5 := hz 5; clear hz)
          | (go_at_call 220; (with_reducible refine (hre _).mono ?_); rintro e w2 ⟨rfl, rfl⟩))
        refine bodyPost_ret (v := .tuple #[.agg #[.int .i64 4, .string (s.extract 0 k), .int .u32 0, .bool false, .int .i64 0, .int .i64 0], .int .i64 (k : Int)]) (by simp [results, Tryz.results178, go_sem, k0, k1, k2, k3, k4, k5]) rfl ⟨ret_v ?_, below_set6 hB _ _ _ _ _ _⟩
        rw [hfin.out, hstr.out]
        rfl
    · obtain rfl : k = 0 := by omega
      have hfin := mark_none (l := lst s) (by omega) HN.out
      rw [← hX.out] at hfin
      replace hfin := hid hfin
      go_wp2
      rw [hfin.out]
      exact bodyPost_ret (v := readV none) (by simp [results, Tryz.results178, go_sem, readV, zeroV]) rfl ⟨rfl, below_box _ _⟩
end Go.Proofs.YtjeioblhpfogfaaGreatDoorLx
