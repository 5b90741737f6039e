/- Names, by the program and by the document. -/
import Derived.Test.YtjeioblhpfogfaaGreatDoorX01
set_option linter.unusedVariables false
set_option linter.unusedSimpArgs false
set_option maxRecDepth 20000
set_option maxHeartbeats 8000000
namespace Go.Proofs.YtjeioblhpfogfaaGreatDoorLx
open Go.RowKit

/-- Is a text a name? -/
def namedB : List UInt8 → Bool
  | [] => false
  | c :: r => letr c && r.all nm
theorem letr_dig {c : UInt8} (h : letr c = true) : dig c = false := by
  simp only [letr, dig, Bool.or_eq_true, Bool.and_eq_true, decide_eq_true_eq, Bool.and_eq_false_iff, decide_eq_false_iff_not] at h ⊢
  omega
theorem all_cons {p : UInt8 → Bool} {c : UInt8} {r : List UInt8} : (c :: r).all p = (p c && r.all p) := rfl

theorem named18 (s : ByteArray) (hs : s.size < 4611686018427387904) (w : World) : Calls Tryz.prog 107 #[.string s] w fun e w' => e = .returned (.bool (namedB (lst s))) ∧ w' = w := by
  by_cases h0 : 0 < s.size
  · have hl := lst_cons0 s h0
    have hne := nonempty h0
    have hX : Hid (namedB (lst s) = (letr s[0] && ((lst s).drop 1).all nm)) := by
      show namedB (lst s) = _
      conv => lhs; rw [hl]
      rfl
    generalize namedB (lst s) = X at hX ⊢
    go_enter Tryz.func107, Tryz.ntmps107
    go_wp2
    go_loop [3] (fun i => ∃ k : Nat, k ≤ s.size ∧ i = .int .i64 k ∧ ((k = 0) ∨ (0 < k ∧ X = ((lst s).drop k).all nm))) (fun i => s.size - (intOf i).toNat)
    case atStart => exact ⟨0, Nat.zero_le _, rfl, .inl rfl⟩
    case round =>
      obtain ⟨k, hk, rfl, hx⟩ := hrel
      rcases hx with rfl | ⟨hk0, hx⟩
      · cases hq : letr s[0]
        · have e' : Hid (X = false) := by show X = false; rw [hX.out, hq]; rfl
          go_wp2_with (first | (go_at_call 114; refine (letter27 _ _).mono ?_; rintro e w1 ⟨rfl, rfl⟩) | (go_at_call 115; refine (digit28 _ _).mono ?_; rintro e w1 ⟨rfl, rfl⟩))
          go_ret
          exact ⟨ret_b e'.out.symm, rfl⟩
        · have e' : Hid (X = ((lst s).drop 1).all nm) := by show X = _; rw [hX.out, hq]; rfl
          go_wp2_with (first | (go_at_call 114; refine (letter27 _ _).mono ?_; rintro e w1 ⟨rfl, rfl⟩) | (go_at_call 115; refine (digit28 _ _).mono ?_; rintro e w1 ⟨rfl, rfl⟩))
          exact ⟨⟨1, by omega, rfl, .inr ⟨by omega, e'.out⟩⟩, by simp [intOf]; omega⟩
      · have HX := hid hx
        clear hx
        have hk0' : ((k : Int) == 0) = false := by simp; omega
        by_cases hlt : k < s.size
        · have e := HX.out
          rw [lst_cons s k hlt, all_cons] at e
          unfold nm at e
          cases hq : letr s[k]
          · cases hd : dig s[k]
            · rw [hq, hd] at e
              have e' : Hid (X = false) := e
              clear e
              go_wp2_with (first | (go_at_call 114; refine (letter27 _ _).mono ?_; rintro e w1 ⟨rfl, rfl⟩) | (go_at_call 115; refine (digit28 _ _).mono ?_; rintro e w1 ⟨rfl, rfl⟩))
              all_goals first
                | (go_ret; exact ⟨ret_b e'.out.symm, rfl⟩)
                | (exfalso; simp_all)
            · rw [hq, hd] at e
              have e' : Hid (X = ((lst s).drop (k + 1)).all nm) := e
              clear e
              go_wp2_with (first | (go_at_call 114; refine (letter27 _ _).mono ?_; rintro e w1 ⟨rfl, rfl⟩) | (go_at_call 115; refine (digit28 _ _).mono ?_; rintro e w1 ⟨rfl, rfl⟩))
              all_goals first
                | exact ⟨⟨k + 1, by omega, vi (by omega), .inr ⟨by omega, e'.out⟩⟩, by simp [intOf]; omega⟩
                | (exfalso; simp_all)
          · rw [hq] at e
            have e' : Hid (X = ((lst s).drop (k + 1)).all nm) := e
            clear e
            go_wp2_with (first | (go_at_call 114; refine (letter27 _ _).mono ?_; rintro e w1 ⟨rfl, rfl⟩) | (go_at_call 115; refine (digit28 _ _).mono ?_; rintro e w1 ⟨rfl, rfl⟩))
            exact ⟨⟨k + 1, by omega, vi (by omega), .inr ⟨by omega, e'.out⟩⟩, by simp [intOf]; omega⟩
        · have e := HX.out
          rw [lst_nil s k (by omega)] at e
          have e' : Hid (X = true) := e
          clear e
          go_wp2
          go_ret
          exact ⟨ret_b (by rw [e'.out]), rfl⟩
  · obtain rfl := empty_eq h0
    go_enter Tryz.func107, Tryz.ntmps107
    go_wp2
    go_loop [3] (fun i => i = .int .i64 0) (fun _ => 0)
    case atStart => rfl
    case round =>
      subst hrel
      go_wp2
      go_ret
      exact ⟨rfl, rfl⟩
end Go.Proofs.YtjeioblhpfogfaaGreatDoorLx
namespace Go.Proofs.YtjeioblhpfogfaaGreatDoorLx
open Go.RowKit
theorem reserved16_no (s : ByteArray) (hs : s.size < 4611686018427387904) (h : namedB (lst s) = false) (w : World) : Calls Tryz.prog 108 #[.string s] w fun e w' => e = .returned (.bool false) ∧ w' = w := by
  have hn := named18 s hs
  rw [h] at hn
  go_enter Tryz.func108, Tryz.ntmps108
  go_wp2_with (go_at_call 107; (with_reducible refine (hn _).mono ?_); rintro e w1 ⟨rfl, rfl⟩)
  go_ret
  exact ⟨rfl, rfl⟩
/-- All words, a blank about each. -/
abbrev WS : ByteArray := ⟨#[32, 98, 114, 101, 97, 107, 32, 99, 104, 97, 114, 32, 99, 111, 110, 116, 105, 110, 117, 101, 32, 100, 111, 32, 101, 108, 115, 101, 32, 102, 111, 114, 32, 103, 101, 116, 98, 121, 116, 101, 32, 105, 102, 32, 105, 110, 116, 32, 112, 117, 116, 98, 121, 116, 101, 32, 114, 101, 116, 117, 114, 110, 32, 115, 105, 122, 101, 111, 102, 32, 115, 116, 114, 117, 99, 116, 32, 117, 105, 110, 116, 32, 118, 111, 105, 100, 32, 119, 104, 105, 108, 101, 32]⟩
def WL : List UInt8 := WS.data.toList
/-- Does a text stand at a place of it, between blanks? -/
def matB (l : List UInt8) (j : Nat) : Bool := (WL[j]? == some 32) && ((WL.drop (j + 1)).take l.length == l) && (WL[j + 1 + l.length]? == some 32)
theorem hit_word : ∀ k n : Fin 93, (WL[k.val]? == some 32 && WL[k.val + 1 + n.val]? == some 32 && namedB ((WL.drop (k.val + 1)).take n.val)) = true → words.contains ((WL.drop (k.val + 1)).take n.val) = true := by decide +kernel
theorem word_hit : (words.all fun x => (List.range 93).any fun j => decide (j + x.length + 2 ≤ 93) && matB x j) = true := by decide +kernel
theorem resv_hit {l : List UInt8} {k : Nat} (hn : namedB l = true) (hr : k + l.length + 2 ≤ 93) (h : matB l k = true) : resv l = true := by
  unfold matB at h
  simp only [Bool.and_eq_true, beq_iff_eq] at h
  obtain ⟨⟨h1, h2⟩, h3⟩ := h
  have := hit_word ⟨k, by omega⟩ ⟨l.length, by omega⟩
  simp only [Bool.and_eq_true, beq_iff_eq] at this
  rw [h2] at this
  exact this ⟨⟨h1, h3⟩, hn⟩
theorem resv_none {l : List UInt8} (h : ∀ j, j + l.length + 2 ≤ 93 → matB l j = false) : resv l = false := by
  rw [Bool.eq_false_iff]
  intro hw
  have hm : l ∈ words := List.contains_iff_mem.1 hw
  have h1 := List.all_eq_true.1 word_hit l hm
  obtain ⟨j, hj, h2⟩ := List.any_eq_true.1 h1
  simp only [Bool.and_eq_true, decide_eq_true_eq] at h2
  rw [h j h2.1] at h2
  cases h2.2
theorem ws_size : WS.size = 93 := rfl
theorem ws_get (k : Nat) (h : k < WS.size) : WL[k]? = some WS[k] := List.getElem?_eq_getElem (l := WL) h
section
variable {s : ByteArray} {k : Nat}
theorem mat_ext (hr : k + s.size + 2 ≤ 93) : ((WS.extract (k + 1) (k + 1 + s.size)).toList = s.toList) ↔ ((WL.drop (k + 1)).take (lst s).length = lst s) := by
  rw [ByteArray.toList_eq, ByteArray.toList_eq, ext_data, lst_len, Nat.add_sub_cancel_left]
  exact Iff.rfl
theorem mat_yes (hr : k + s.size + 2 ≤ 93) (h1' : ((WS[k]'(by rw [ws_size]; omega)).toNat : Int) = 32) (h2 : (WS.extract (k + 1) (k + 1 + s.size)).toList = s.toList) (h3' : ((WS[k + 1 + s.size]'(by rw [ws_size]; omega)).toNat : Int) = 32) : matB (lst s) k = true := by
  have h1 : (WS[k]'(by rw [ws_size]; omega)).toNat = 32 := by omega
  have h3 : (WS[k + 1 + s.size]'(by rw [ws_size]; omega)).toNat = 32 := by omega
  unfold matB
  rw [ws_get k (by rw [ws_size]; omega), lst_len, ws_get (k + 1 + s.size) (by rw [ws_size]; omega), UInt8.toNat_inj.1 (h1.trans (show (32 : Nat) = (32 : UInt8).toNat from rfl)), UInt8.toNat_inj.1 (h3.trans (show (32 : Nat) = (32 : UInt8).toNat from rfl))]
  have := (mat_ext hr).1 h2
  rw [lst_len] at this
  simp [this]
theorem mat_no1 (hr : k + s.size + 2 ≤ 93) (h1' : ¬ ((WS[k]'(by rw [ws_size]; omega)).toNat : Int) = 32) : matB (lst s) k = false := by
  have h1 : ¬ (WS[k]'(by rw [ws_size]; omega)).toNat = 32 := by omega
  unfold matB
  rw [ws_get k (by rw [ws_size]; omega)]
  have : (some (WS[k]'(by rw [ws_size]; omega)) == some (32 : UInt8)) = false := by
    rw [Bool.eq_false_iff]; intro e; exact h1 (by rw [Option.some.inj (eq_of_beq e)]; rfl)
  rw [this]; rfl
theorem mat_no2 (hr : k + s.size + 2 ≤ 93) (h2 : ¬ (WS.extract (k + 1) (k + 1 + s.size)).toList = s.toList) : matB (lst s) k = false := by
  unfold matB
  have : ((WL.drop (k + 1)).take (lst s).length == lst s) = false := by
    rw [Bool.eq_false_iff]; intro e; exact h2 ((mat_ext hr).2 (eq_of_beq e))
  rw [this]; simp
theorem mat_no3 (hr : k + s.size + 2 ≤ 93) (h3' : ¬ ((WS[k + 1 + s.size]'(by rw [ws_size]; omega)).toNat : Int) = 32) : matB (lst s) k = false := by
  have h3 : ¬ (WS[k + 1 + s.size]'(by rw [ws_size]; omega)).toNat = 32 := by omega
  unfold matB
  rw [lst_len, ws_get (k + 1 + s.size) (by rw [ws_size]; omega)]
  have : (some (WS[k + 1 + s.size]'(by rw [ws_size]; omega)) == some (32 : UInt8)) = false := by
    rw [Bool.eq_false_iff]; intro e; exact h3 (by rw [Option.some.inj (eq_of_beq e)]; rfl)
  rw [this]; simp
end

theorem reserved16_yes (s : ByteArray) (hs : s.size < 4611686018427387904) (h : namedB (lst s) = true) (w : World) : Calls Tryz.prog 108 #[.string s] w fun e w' => e = .returned (.bool (resv (lst s))) ∧ w' = w := by
  have hn := named18 s hs
  rw [h] at hn
  have hlen := lst_len s
  obtain ⟨X, hX⟩ : ∃ X, X = resv (lst s) := ⟨_, rfl⟩
  rw [← hX]
  replace hX := hid hX
  replace h := hid h
  go_enter Tryz.func108, Tryz.ntmps108
  go_wp2_with (go_at_call 107; (with_reducible refine (hn _).mono ?_); rintro e w1 ⟨rfl, rfl⟩)
  clear hn
  go_loop [3] (fun i => ∃ k : Nat, k ≤ 93 ∧ i = .int .i64 k ∧ ∀ j, j < k → j + (lst s).length + 2 ≤ 93 → matB (lst s) j = false) (fun i => 94 - (intOf i).toNat)
  case atStart => exact ⟨0, by omega, rfl, fun j hj => by omega⟩
  case round =>
    obtain ⟨k, hk, rfl, hno⟩ := hrel
    have HN := hid hno
    clear hno
    by_cases hr : k + s.size + 2 ≤ 93
    · have h1 : (k : Int) < 93 := by omega
      have h2 : (k : Int) + 1 + s.size ≤ 93 := by omega
      have h3 : (k : Int) + 1 + s.size < 93 := by omega
      have h4 : (k : Int) + s.size + 2 ≤ 93 := by omega
      have h5 : (k : Int) + 1 ≤ (k : Int) + 1 + s.size := by omega
      have step : Hid (matB (lst s) k = false → ∀ j, j < k + 1 → j + (lst s).length + 2 ≤ 93 → matB (lst s) j = false) := fun hf j hj hj2 => by
        by_cases e : j = k
        · subst e; exact hf
        · exact HN.out j (by omega) hj2
      go_wp2
      all_goals (try simp only [beq_iff_eq, beq_eq_false_iff_ne, ne_eq] at *)
      · have hf := resv_hit h.out (by omega) (mat_yes hr (by assumption) (by assumption) (by assumption))
        go_ret
        exact ⟨ret_b (by rw [hX.out, hf]), by trivial⟩
      · exact ⟨⟨k + 1, by omega, vi (by omega), step.out (mat_no3 hr (by assumption))⟩, by simp [intOf]; omega⟩
      all_goals first
        | exact ⟨⟨k + 1, by omega, vi (by omega), step.out (mat_no2 hr (by assumption))⟩, by simp [intOf]; omega⟩
        | exact ⟨⟨k + 1, by omega, vi (by omega), step.out (mat_no1 hr (by assumption))⟩, by simp [intOf]; omega⟩
        | trace_state
    · have hf := resv_none (l := lst s) (fun j hj => HN.out j (by omega) hj)
      have h4 : ¬ (k : Int) + s.size + 2 ≤ 93 := by omega
      replace hf := hid hf
      go_wp2
      go_ret
      exact ⟨ret_b (by rw [hX.out, hf.out]), rfl⟩
theorem resv_named {l : List UInt8} (h : namedB l = false) : resv l = false := by
  rw [Bool.eq_false_iff]
  intro hw
  have hm : l ∈ words := List.contains_iff_mem.1 hw
  have : ∀ x ∈ words, namedB x = true := by decide +kernel
  rw [this l hm] at h
  cases h
theorem reserved16 (s : ByteArray) (hs : s.size < 4611686018427387904) (w : World) : Calls Tryz.prog 108 #[.string s] w fun e w' => e = .returned (.bool (resv (lst s))) ∧ w' = w := by
  cases h : namedB (lst s)
  · rw [resv_named h]; exact reserved16_no s hs h w
  · exact reserved16_yes s hs h w
end Go.Proofs.YtjeioblhpfogfaaGreatDoorLx
