/- The token that begins at a place, by the document. -/
import Derived.Test.YtjeioblhpfogfaaGreatDoorX10
import Derived.Test.YtjeioblhpfogfaaGreatDoorX44
import Derived.Test.YtjeioblhpfogfaaGreatDoorX45
set_option linter.unusedVariables false
set_option linter.unusedSimpArgs false
set_option maxRecDepth 20000
set_option maxHeartbeats 8000000
namespace Go.Proofs.YtjeioblhpfogfaaGreatDoorLx
open Go.RowKit

theorem tokP_form {p : Nat} {X : Option (Tok × Nat)} {e : Ending} (h : TokP p X e) : ∃ (k : Int) (t : ByteArray) (m : Int) (u : Bool) (a b : Int) (z : Bool), e = .returned (.tuple #[.agg #[.int .i64 k, .string t, .int .u32 m, .bool u, .int .i64 a, .int .i64 b], .bool z]) := by
  match X, h with
  | none, ⟨k, t, m, u, a, b, h⟩ => exact ⟨k, t, m, u, a, b, _, h⟩
  | some (t, n), h => exact ⟨_, _, _, _, _, _, _, h⟩

def marksA : Array Value := (marksL.map fun x => Value.string (strL x)).toArray
theorem marksA_at (k : Nat) (h : k < 43) : marksA[k]? = some (.string (strL (marksL.getD k []))) := by
  have hl : k < marksL.length := h
  show (marksL.map fun x => Value.string (strL x)).toArray[k]? = _
  rw [List.getElem?_toArray, List.getElem?_map, List.getElem?_eq_getElem hl, List.getD_eq_getElem?_getD, List.getElem?_eq_getElem hl]
  rfl
theorem marks45 (w : World) : Calls Tryz.prog 118 #[] w fun e w' => e = .returned (.slice (some ⟨w.heap.size, 0, none⟩) 43 43) ∧ w' = w.alloc (.cells marksA 9) := by
  go_enter Tryz.func118, Tryz.ntmps118
  go_wp2
  go_ret
  exact ⟨rfl, rfl⟩

theorem token24_num (s : ByteArray) (p : Nat) (hp : p < s.size) (hl : letr s[p] = false) (hd : dig s[p] = true) (X : Option (Tok × Nat))
    (hc : ∀ w, Calls Tryz.prog 116 #[.string s, .int .i64 (p : Int)] w fun e w' => TokP p X e ∧ Below w.heap.size w w') (w : World) :
    Calls Tryz.prog 70 #[.string s, .int .i64 (p : Int)] w fun e w' => TokP p X e ∧ Below w.heap.size w w' := by
  have hp' : (p : Int) < s.size := by omega
  go_enter Tryz.func70, Tryz.ntmps70
  go_wp2_with (first
    | (go_at_call 114; refine (letter27 _ _).mono ?_; rintro e w1 ⟨rfl, rfl⟩)
    | (go_at_call 115; refine (digit28 _ _).mono ?_; rintro e w1 ⟨rfl, rfl⟩)
    | (go_at_call 116; (with_reducible refine (hc _).mono ?_); rintro e w1 ⟨ht, hb1⟩; obtain ⟨k, t, m, u, a, b, z, rfl⟩ := tokP_form ht; replace ht := hid ht; obtain ⟨⟨k0, k1, k2, k3, k4, k5⟩, hz, hB, hlz⟩ := zkept hb1; have z0 := hz 0; have z1 := hz 1; have z2 := hz 2; have z3 := hz 3; have z4 := hz 4; have z5 := hz 5; clear hz))
  exact bodyPost_ret (v := .tuple #[.agg #[.int .i64 k, .string t, .int .u32 m, .bool u, .int .i64 a, .int .i64 b], .bool z]) (by simp [results, Tryz.results70, go_sem, k0, k1, k2, k3, k4, k5]) rfl ⟨ht.out, below_set6 hB _ _ _ _ _ _⟩

theorem token24_quot (s : ByteArray) (p : Nat) (hp : p < s.size) (hl : letr s[p] = false) (hd : dig s[p] = false) (hm : s[p].toNat = 34 ∨ s[p].toNat = 39) (X : Option (Tok × Nat))
    (hc : ∀ w, Calls Tryz.prog 117 #[.string s, .int .i64 (p : Int)] w fun e w' => TokP p X e ∧ Below w.heap.size w w') (w : World) :
    Calls Tryz.prog 70 #[.string s, .int .i64 (p : Int)] w fun e w' => TokP p X e ∧ Below w.heap.size w w' := by
  have hp' : (p : Int) < s.size := by omega
  rcases hm with hm | hm
  · have a4' : ((s[p].toNat : Int) == 34) = true := by simp; omega
    clear hm
    go_enter Tryz.func70, Tryz.ntmps70
    go_wp2_with (first
      | (go_at_call 114; refine (letter27 _ _).mono ?_; rintro e w1 ⟨rfl, rfl⟩)
      | (go_at_call 115; refine (digit28 _ _).mono ?_; rintro e w1 ⟨rfl, rfl⟩)
      | (go_at_call 117; (with_reducible refine (hc _).mono ?_); rintro e w1 ⟨ht, hb1⟩; obtain ⟨k, t, m, u, a, b, z, rfl⟩ := tokP_form ht; replace ht := hid ht; obtain ⟨⟨k0, k1, k2, k3, k4, k5⟩, hz, hB, hlz⟩ := zkept hb1; have z0 := hz 0; have z1 := hz 1; have z2 := hz 2; have z3 := hz 3; have z4 := hz 4; have z5 := hz 5; clear hz))
    exact bodyPost_ret (v := .tuple #[.agg #[.int .i64 k, .string t, .int .u32 m, .bool u, .int .i64 a, .int .i64 b], .bool z]) (by simp [results, Tryz.results70, go_sem, k0, k1, k2, k3, k4, k5]) rfl ⟨ht.out, below_set6 hB _ _ _ _ _ _⟩
  · have a3' : ((s[p].toNat : Int) == 34) = false := by simp; omega
    have a4' : ((s[p].toNat : Int) == 39) = true := by simp; omega
    clear hm
    go_enter Tryz.func70, Tryz.ntmps70
    go_wp2_with (first
      | (go_at_call 114; refine (letter27 _ _).mono ?_; rintro e w1 ⟨rfl, rfl⟩)
      | (go_at_call 115; refine (digit28 _ _).mono ?_; rintro e w1 ⟨rfl, rfl⟩)
      | (go_at_call 117; (with_reducible refine (hc _).mono ?_); rintro e w1 ⟨ht, hb1⟩; obtain ⟨k, t, m, u, a, b, z, rfl⟩ := tokP_form ht; replace ht := hid ht; obtain ⟨⟨k0, k1, k2, k3, k4, k5⟩, hz, hB, hlz⟩ := zkept hb1; have z0 := hz 0; have z1 := hz 1; have z2 := hz 2; have z3 := hz 3; have z4 := hz 4; have z5 := hz 5; clear hz))
    exact bodyPost_ret (v := .tuple #[.agg #[.int .i64 k, .string t, .int .u32 m, .bool u, .int .i64 a, .int .i64 b], .bool z]) (by simp [results, Tryz.results70, go_sem, k0, k1, k2, k3, k4, k5]) rfl ⟨ht.out, below_set6 hB _ _ _ _ _ _⟩

theorem ext_mid (s : ByteArray) (p k : Nat) : s.extract p k = strL (((lst s).drop p).take (k - p)) := ext_list (by rw [ext_data, strL_list]; rfl)
theorem ext_mid_size (s : ByteArray) (p k : Nat) (h : k ≤ s.size) (hp : p ≤ k) : (s.extract p k).size = k - p := by rw [ByteArray.size_extract]; omega

theorem token24_name (s : ByteArray) (p : Nat) (hp : p < s.size) (hs : s.size < 4294967281) (hl : letr s[p] = true) (w : World) :
    Calls Tryz.prog 70 #[.string s, .int .i64 (p : Int)] w fun e w' => TokP p (nameF ((lst s).drop p)) e ∧ Below w.heap.size w w' := by
  have hp' : (p : Int) < s.size := by omega
  obtain ⟨X, hX⟩ : ∃ X, X = nameF ((lst s).drop p) := ⟨_, rfl⟩
  rw [← hX]
  replace hX := hid hX
  go_enter Tryz.func70, Tryz.ntmps70
  go_wp2_with (go_at_call 114; refine (letter27 _ _).mono ?_; rintro e w1 ⟨rfl, rfl⟩)
  go_loop [7] (fun i => ∃ k : Nat, p ≤ k ∧ k ≤ s.size ∧ i = .int .i64 k ∧ (((lst s).drop p).takeWhile nm).length = (k - p) + (((lst s).drop k).takeWhile nm).length) (fun i => s.size - (intOf i).toNat)
  case atStart => exact ⟨p, Nat.le_refl _, by omega, rfl, by simp⟩
  case round =>
    obtain ⟨k, hk1, hk, rfl, hn⟩ := hrel
    have HN := hid hn
    clear hn
    have hks : (k : Int) ≤ s.size := by omega
    have hpk : (p : Int) ≤ k := by omega
    by_cases hgo : ∃ h : k < s.size, nm s[k] = true
    · obtain ⟨hlt, hnm⟩ := hgo
      have HN2 := HN.out
      rw [lst_cons s k hlt, tw_yes hnm] at HN2
      replace HN2 := hid HN2
      cases hlk : letr s[k]
      · have hdk : dig s[k] = true := by unfold nm at hnm; rw [hlk] at hnm; exact hnm
        clear hnm
        go_wp2_with (first
          | (go_at_call 114; refine (letter27 _ _).mono ?_; rintro e w1 ⟨rfl, rfl⟩)
          | (go_at_call 115; refine (digit28 _ _).mono ?_; rintro e w1 ⟨rfl, rfl⟩))
        exact ⟨⟨k + 1, by omega, by omega, vi (by omega), by rw [HN2.out]; omega⟩, by simp [intOf]; omega⟩
      · clear hnm
        go_wp2_with (first
          | (go_at_call 114; refine (letter27 _ _).mono ?_; rintro e w1 ⟨rfl, rfl⟩)
          | (go_at_call 115; refine (digit28 _ _).mono ?_; rintro e w1 ⟨rfl, rfl⟩))
        exact ⟨⟨k + 1, by omega, by omega, vi (by omega), by rw [HN2.out]; omega⟩, by simp [intOf]; omega⟩
    · have hk0 : (((lst s).drop p).takeWhile nm).length = k - p := by
        rw [HN.out]
        by_cases hlt : k < s.size
        · have : nm s[k] = false := by
            cases h : nm s[k]
            · rfl
            · exact absurd ⟨hlt, h⟩ hgo
          rw [lst_cons s k hlt, tw_no this]
          rfl
        · rw [lst_nil s k (by omega)]
          rfl
      have hfin := name_eq hk0
      rw [← hX.out] at hfin
      replace hfin := hid hfin
      have hT := ext_mid_size s p k hk hk1
      have hre := fun w => reserved16 (s.extract p k) (by omega) w
      have hstr := hid (ext_mid s p k)
      rw [show lst (s.extract p k) = ((lst s).drop p).take (k - p) by rw [hstr.out, lst_strL]] at hre
      generalize hY : resv (((lst s).drop p).take (k - p)) = Y at hre hfin
      clear hY hk0
      by_cases hlt : k < s.size
      · have hnm : nm s[k] = false := by
          cases h : nm s[k]
          · rfl
          · exact absurd ⟨hlt, h⟩ hgo
        have hlk : letr s[k] = false := by (unfold nm at hnm; simp at hnm; exact hnm.1)
        have hdk : dig s[k] = false := by (unfold nm at hnm; simp at hnm; exact hnm.2)
        clear hgo hnm
        cases Y
        · go_wp2_with (first
            | (go_at_call 114; refine (letter27 _ _).mono ?_; rintro e w1 ⟨rfl, rfl⟩)
            | (go_at_call 115; refine (digit28 _ _).mono ?_; rintro e w1 ⟨rfl, rfl⟩)
            | (go_at_call 108; (with_reducible refine (hre _).mono ?_); rintro e w1 ⟨rfl, rfl⟩))
          refine bodyPost_ret (v := .tuple #[.agg #[.int .i64 2, .string (s.extract p k), .int .u32 0, .bool false, .int .i64 (p : Int), .int .i64 (k : Int)], .bool true]) (by simp [results, Tryz.results70, go_sem]) rfl ⟨?_, below_box _ _⟩
          rw [hfin.out, hstr.out, show (k : Int) = ((p + (k - p) : Nat) : Int) by omega]
          rfl
        · go_wp2_with (first
            | (go_at_call 114; refine (letter27 _ _).mono ?_; rintro e w1 ⟨rfl, rfl⟩)
            | (go_at_call 115; refine (digit28 _ _).mono ?_; rintro e w1 ⟨rfl, rfl⟩)
            | (go_at_call 108; (with_reducible refine (hre _).mono ?_); rintro e w1 ⟨rfl, rfl⟩))
          refine bodyPost_ret (v := .tuple #[.agg #[.int .i64 3, .string (s.extract p k), .int .u32 0, .bool false, .int .i64 (p : Int), .int .i64 (k : Int)], .bool true]) (by simp [results, Tryz.results70, go_sem]) rfl ⟨?_, below_box _ _⟩
          rw [hfin.out, hstr.out, show (k : Int) = ((p + (k - p) : Nat) : Int) by omega]
          rfl
      · clear hgo
        cases Y
        · go_wp2_with (first
            | (go_at_call 108; (with_reducible refine (hre _).mono ?_); rintro e w1 ⟨rfl, rfl⟩))
          refine bodyPost_ret (v := .tuple #[.agg #[.int .i64 2, .string (s.extract p k), .int .u32 0, .bool false, .int .i64 (p : Int), .int .i64 (k : Int)], .bool true]) (by simp [results, Tryz.results70, go_sem]) rfl ⟨?_, below_box _ _⟩
          rw [hfin.out, hstr.out, show (k : Int) = ((p + (k - p) : Nat) : Int) by omega]
          rfl
        · go_wp2_with (first
            | (go_at_call 108; (with_reducible refine (hre _).mono ?_); rintro e w1 ⟨rfl, rfl⟩))
          refine bodyPost_ret (v := .tuple #[.agg #[.int .i64 3, .string (s.extract p k), .int .u32 0, .bool false, .int .i64 (p : Int), .int .i64 (k : Int)], .bool true]) (by simp [results, Tryz.results70, go_sem]) rfl ⟨?_, below_box _ _⟩
          rw [hfin.out, hstr.out, show (k : Int) = ((p + (k - p) : Nat) : Int) by omega]
          rfl
end Go.Proofs.YtjeioblhpfogfaaGreatDoorLx
namespace Go.Proofs.YtjeioblhpfogfaaGreatDoorLx
open Go.RowKit

theorem token24_mark (s : ByteArray) (p : Nat) (hp : p < s.size) (hs : s.size < 4294967281) (hl : letr s[p] = false) (hd : dig s[p] = false) (hm1 : ¬ s[p].toNat = 34) (hm2 : ¬ s[p].toNat = 39) (w : World) :
    Calls Tryz.prog 70 #[.string s, .int .i64 (p : Int)] w fun e w' => TokP p (markF ((lst s).drop p)) e ∧ Below w.heap.size w w' := by
  have hp' : (p : Int) < s.size := by omega
  have a3' : ((s[p].toNat : Int) == 34) = false := by simp; omega
  have a4' : ((s[p].toNat : Int) == 39) = false := by simp; omega
  clear hm1 hm2
  obtain ⟨X, hX⟩ : ∃ X, X = markF ((lst s).drop p) := ⟨_, rfl⟩
  rw [← hX]
  replace hX := hid hX
  have hlen : 1 ≤ ((lst s).drop p).length := by rw [List.length_drop, lst_len]; omega
  replace hlen := hid hlen
  go_enter Tryz.func70, Tryz.ntmps70
  go_wp2_with (first
    | (go_at_call 114; refine (letter27 _ _).mono ?_; rintro e w1 ⟨rfl, rfl⟩)
    | (go_at_call 115; refine (digit28 _ _).mono ?_; rintro e w1 ⟨rfl, rfl⟩)
    | (go_at_call 118; refine (marks45 _).mono ?_; rintro e w1 ⟨rfl, rfl⟩))
  obtain ⟨W0, hW0⟩ : ∃ W0, W0 = (w.alloc zBox).alloc (.cells marksA 9) := ⟨_, rfl⟩
  have hB0 : Below (w.alloc box0).heap.size (w.alloc box0) W0 := by rw [hW0]; exact below_box _ _
  have hat0 : Hid (∀ k, k < 43 → W0.cell? ⟨w.heap.size + 1, k, none⟩ = some (.string (strL (marksL.getD k [])))) := fun k hlt => by
    have h1 : ((w.alloc zBox).alloc (.cells marksA 9)).cell? ⟨(w.alloc zBox).heap.size, k, none⟩ = some (.string (strL (marksL.getD k []))) := (World.cell?_alloc_at _ _ _ _ rfl).trans (marksA_at k hlt)
    rw [show (w.alloc zBox).heap.size = w.heap.size + 1 by simp, ← hW0] at h1
    exact h1
  have hl0 : w.heap.size + 1 < W0.heap.size := by rw [hW0]; simp
  rw [← hW0]
  clear hW0
  obtain ⟨⟨k0, k1, k2, k3, k4, k5⟩, hz, hB, hlz⟩ := zkept hB0
  have z0 := hz 0
  have z1 := hz 1
  have z2 := hz 2
  have z3 := hz 3
  have z4 := hz 4
  have z5 := hz 5
  have hBd : Hid (∀ n, Below w.heap.size w (W0.drewN n)) := fun n => hB.trans ⟨rfl, rfl, rfl, Nat.le_refl _, fun _ _ => rfl⟩
  clear hz hB0 hB
  go_loopw [10] (fun i wr => ∃ k d : Nat, k ≤ 43 ∧ i = .int .i64 k ∧ (∀ j, j < k → (marksL.getD j []).isPrefixOf ((lst s).drop p) = false) ∧ wr = W0.drewN d) (fun i _ => 43 - (intOf i).toNat)
  case atStart => exact ⟨0, 0, Nat.zero_le _, rfl, fun j h => by omega, rfl⟩
  case round =>
    obtain ⟨k, d, hk, rfl, hno, rfl⟩ := hrel
    have HN := hid hno
    clear hno
    by_cases hlt : k < 43
    · have hlt' : (k : Int) < 43 := by omega
      have hat := hat0.out k hlt
      have hml := marks_le ⟨k, hlt⟩
      have hsz := strL_size (marksL.getD k [])
      have hci := fun w => is42 s (strL (marksL.getD k [])) (marksL.getD k []) (strL_list _) p (by omega) (by omega) w
      have hfs := fun h => find_some (l := (lst s).drop p) hlt h HN.out
      have hfH := hid hfs
      clear hfs
      dsimp only at hml
      generalize hM : marksL.getD k [] = m at *
      have HM := hid hM
      clear hM
      cases hpre : m.isPrefixOf ((lst s).drop p)
      · rw [hpre] at hci
        replace hpre := hid hpre
        go_wp2_with (go_at_call 113; (with_reducible refine (hci _).mono ?_); rintro e w1 ⟨rfl, rfl⟩)
        go_roundw
        case rel =>
          refine ⟨k + 1, d, by omega, vi (by omega), fun j hj => ?_, rfl⟩
          by_cases e : j = k
          · subst e; rw [HM.out]; exact hpre.out
          · exact HN.out j (by omega)
        case measure => simp [intOf]; omega
      · rw [hpre] at hci
        have hfin := hfH.out hpre
        rw [← hX.out] at hfin
        replace hfin := hid hfin
        have hml1 := hml.2
        clear hfH hpre hml
        obtain ⟨T, hT⟩ : ∃ T, T = strL m := ⟨_, rfl⟩
        rw [← hT] at hat hsz hci
        replace hT := hid hT
        have hsz' : (T.size : Int) ≤ 3 := by omega
        go_wp2_with (go_at_call 113; (with_reducible refine (hci _).mono ?_); rintro e w1 ⟨rfl, rfl⟩)
        refine Go.Proofs.YtjeioblhpfogfaaGreatDoor.region_quiet_tail (C := fun w' => ∃ n, w' = W0.drewN n) 13 mixed (by kernel_rfl) ⟨d + 1, rfl⟩ ?_
        simp only [List.take_succ_cons, List.take_zero, List.drop_succ_cons, List.drop_zero]
        repeat quiet_step (fail)
        refine wpQuiet_nil ?_
        rintro _ ⟨nr, rfl⟩
        go_wp2
        rw [hfin.out]
        refine bodyPost_ret (v := .tuple #[.agg #[.int .i64 4, .string T, .int .u32 0, .bool false, .int .i64 (p : Int), .int .i64 ((p : Int) + m.length)], .bool true]) (by simp [results, Tryz.results70, go_sem, k0, k1, k2, k3, k4, k5]) rfl ⟨?_, below_set6 (hBd.out _) _ _ _ _ _ _⟩
        rw [hT.out, show (p : Int) + (m.length : Int) = ((p + m.length : Nat) : Int) by omega]
        rfl
    · have : k = 43 := by omega
      subst this
      have hfin := find_none hlen.out HN.out
      rw [← hX.out] at hfin
      replace hfin := hid hfin
      go_wp2
      rw [hfin.out]
      exact bodyPost_ret (v := .tuple #[zeroV, .bool false]) (by simp [results, Tryz.results70, go_sem, zeroV, k0, k1, k2, k3, k4, k5]) rfl ⟨tokP_none, below_set6 (hBd.out _) _ _ _ _ _ _⟩
end Go.Proofs.YtjeioblhpfogfaaGreatDoorLx
namespace Go.Proofs.YtjeioblhpfogfaaGreatDoorLx
open Go.RowKit

theorem letr_nm (c : UInt8) (hd : dig c = false) : nm c = letr c := by unfold nm; rw [hd, Bool.or_false]
theorem token24 (s : ByteArray) (p : Nat) (hp : p < s.size) (hs : s.size < 4294967281) (w : World) :
    Calls Tryz.prog 70 #[.string s, .int .i64 (p : Int)] w fun e w' => TokP p (readF ((lst s).drop p)) e ∧ Below w.heap.size w w' := by
  have hl := lst_cons s p hp
  have hr : readF ((lst s).drop p) = if dig s[p] then numF ((lst s).drop p) else if nm s[p] then nameF ((lst s).drop p) else if s[p].toNat = 39 then charF ((lst s).drop p) else if s[p].toNat = 34 then textF ((lst s).drop p) else markF ((lst s).drop p) := by
    rw [hl]; rfl
  cases hd : dig s[p]
  · have hn := letr_nm s[p] hd
    cases hle : letr s[p]
    · rw [hle] at hn
      by_cases h39 : s[p].toNat = 39
      · rw [hr, hd, hn, if_neg (by simp), if_neg (by simp), if_pos h39, char_quot]
        have hq : s[p] = 39 := UInt8.toNat_inj.1 h39
        have := quoted44 s p hp hs (.inr h39)
        rw [hq] at this
        exact token24_quot s p hp hle hd (.inr h39) _ this w
      · by_cases h34 : s[p].toNat = 34
        · rw [hr, hd, hn, if_neg (by simp), if_neg (by simp), if_neg h39, if_pos h34, text_quot]
          have hq : s[p] = 34 := UInt8.toNat_inj.1 h34
          have := quoted44 s p hp hs (.inl h34)
          rw [hq] at this
          exact token24_quot s p hp hle hd (.inl h34) _ this w
        · rw [hr, hd, hn, if_neg (by simp), if_neg (by simp), if_neg h39, if_neg h34]
          exact token24_mark s p hp hs hle hd h34 h39 w
    · rw [hle] at hn
      rw [hr, hd, hn, if_neg (by simp), if_pos rfl]
      exact token24_name s p hp hs hle w
  · have hle : letr s[p] = false := by
      cases h : letr s[p]
      · rfl
      · rw [letr_dig h] at hd; cases hd
    rw [hr, hd, if_pos rfl]
    exact token24_num s p hp hle hd _ (fun w => number43 s p hp hs w) w

end Go.Proofs.YtjeioblhpfogfaaGreatDoorLx
