/- Names, by the program and by the document. -/
import Derived.Test.YtfnekmhhhjdeiaaRow
namespace Go.Proofs.Ytfnekmhhhjdeiaa
open Go.RowKit
set_option linter.unusedVariables false

/-- Is a text a name? -/
def namedB : List UInt8 → Bool
  | [] => false
  | c :: r => letr c && r.all nm
theorem letr_dig {c : UInt8} (h : letr c = true) : dig c = false := by
  simp only [letr, dig, Bool.or_eq_true, Bool.and_eq_true, decide_eq_true_eq, Bool.and_eq_false_iff, decide_eq_false_iff_not] at h ⊢
  omega
theorem all_cons {p : UInt8 → Bool} {c : UInt8} {r : List UInt8} : (c :: r).all p = (p c && r.all p) := rfl

set_option maxHeartbeats 2000000 in
theorem named17 (s : ByteArray) (hs : s.size < 4611686018427387904) (w : World) : Calls Try.prog 17 #[.string s] w fun e w' => e = .returned (.bool (namedB (lst s))) ∧ w' = w := by
  by_cases h0 : 0 < s.size
  · have hl := lst_cons0 s h0
    have hne := nonempty h0
    have h0' : (0 : Int) < s.size := by omega
    cases hd : dig s[0]
    · have hX : Hid (namedB (lst s) = (lst s).all nm) := by
        show namedB (lst s) = (lst s).all nm
        rw [hl]
        show (letr s[0] && _) = (nm s[0] && _)
        unfold nm
        rw [hd, Bool.or_false]
      generalize namedB (lst s) = X at hX ⊢
      go_enter Try.func17, Try.ntmps17
      go_wp2_with (go_at_call 25; refine (isDigit25 _ _).mono ?_; rintro e w1 ⟨rfl, rfl⟩)
      go_loop [13] (fun i => ∃ k : Nat, k ≤ s.size ∧ i = .int .i64 k ∧ X = ((lst s).drop k).all nm) (fun i => s.size - (intOf i).toNat)
      case atStart => exact ⟨0, Nat.zero_le _, rfl, hX.out⟩
      case round =>
        obtain ⟨k, hk, rfl, hx⟩ := hrel
        have HX := hid hx
        clear hx
        by_cases hlt : k < s.size
        · have e := HX.out
          rw [lst_cons s k hlt, all_cons] at e
          cases hn : nm s[k]
          · rw [hn] at e
            have e' : Hid (X = false) := e
            go_wp2_with (go_at_call 26; refine (isInName26 _ _).mono ?_; rintro e w1 ⟨rfl, rfl⟩)
            go_ret
            exact ⟨ret_b e'.out.symm, rfl⟩
          · rw [hn] at e
            have e' : Hid (X = ((lst s).drop (k + 1)).all nm) := e
            clear e
            go_wp2_with (go_at_call 26; refine (isInName26 _ _).mono ?_; rintro e w1 ⟨rfl, rfl⟩)
            exact ⟨⟨k + 1, by omega, vi (by omega), e'.out⟩, by simp [intOf]; omega⟩
        · have e := HX.out
          rw [lst_nil s k (by omega)] at e
          have e' : Hid (X = true) := e
          clear e
          go_wp2
          go_ret
          exact ⟨ret_b e'.out.symm, rfl⟩
    · have hX : Hid (namedB (lst s) = false) := by
        show namedB (lst s) = false
        rw [hl]
        show (letr s[0] && _) = false
        cases hq : letr s[0]
        · rfl
        · rw [letr_dig hq] at hd; cases hd
      go_enter Try.func17, Try.ntmps17
      go_wp2_with (go_at_call 25; refine (isDigit25 _ _).mono ?_; rintro e w1 ⟨rfl, rfl⟩)
      go_ret
      exact ⟨ret_b hX.out.symm, rfl⟩
  · obtain rfl := empty_eq h0
    go_enter Try.func17, Try.ntmps17
    go_wp2
    go_ret
    exact ⟨rfl, rfl⟩

/-- May a byte stand at a place of a name? -/
def okAt (k : Nat) (c : UInt8) : Bool := letr c || (decide (0 < k) && dig c)
set_option maxHeartbeats 2000000 in
theorem named18 (s : ByteArray) (hs : s.size < 4611686018427387904) (w : World) : Calls Try.prog 18 #[.string s] w fun e w' => e = .returned (.bool (namedB (lst s))) ∧ w' = w := by
  by_cases h0 : 0 < s.size
  · have hl := lst_cons0 s h0
    have hne := nonempty h0
    have hX : Hid (namedB (lst s) = (letr s[0] && ((lst s).drop 1).all nm)) := by
      show namedB (lst s) = _
      conv => lhs; rw [hl]
      rfl
    generalize namedB (lst s) = X at hX ⊢
    go_enter Try.func18, Try.ntmps18
    go_wp2
    go_loop [3] (fun i => ∃ k : Nat, k ≤ s.size ∧ i = .int .i64 k ∧ ((k = 0) ∨ (0 < k ∧ X = ((lst s).drop k).all nm))) (fun i => s.size - (intOf i).toNat)
    case atStart => exact ⟨0, Nat.zero_le _, rfl, .inl rfl⟩
    case round =>
      obtain ⟨k, hk, rfl, hx⟩ := hrel
      rcases hx with rfl | ⟨hk0, hx⟩
      · cases hq : letr s[0]
        · have e' : Hid (X = false) := by show X = false; rw [hX.out, hq]; rfl
          go_wp2_with (first | (go_at_call 27; refine (letter27 _ _).mono ?_; rintro e w1 ⟨rfl, rfl⟩) | (go_at_call 28; refine (digit28 _ _).mono ?_; rintro e w1 ⟨rfl, rfl⟩))
          go_ret
          exact ⟨ret_b e'.out.symm, rfl⟩
        · have e' : Hid (X = ((lst s).drop 1).all nm) := by show X = _; rw [hX.out, hq]; rfl
          go_wp2_with (first | (go_at_call 27; refine (letter27 _ _).mono ?_; rintro e w1 ⟨rfl, rfl⟩) | (go_at_call 28; refine (digit28 _ _).mono ?_; rintro e w1 ⟨rfl, rfl⟩))
          exact ⟨⟨1, by omega, rfl, .inr ⟨by omega, e'.out⟩⟩, by simp [intOf]; omega⟩
      · have HX := hid hx
        clear hx
        have hk0' : ((k : Int) == 0) = false := by simp; omega
        by_cases hlt : k < s.size
        · have e := HX.out
          rw [lst_cons s k hlt, all_cons] at e
          unfold nm at e
          cases hq : letr s[k]
          · cases hd : dig s[k]
            · rw [hq, hd] at e
              have e' : Hid (X = false) := e
              clear e
              go_wp2_with (first | (go_at_call 27; refine (letter27 _ _).mono ?_; rintro e w1 ⟨rfl, rfl⟩) | (go_at_call 28; refine (digit28 _ _).mono ?_; rintro e w1 ⟨rfl, rfl⟩))
              all_goals first
                | (go_ret; exact ⟨ret_b e'.out.symm, rfl⟩)
                | (exfalso; simp_all)
            · rw [hq, hd] at e
              have e' : Hid (X = ((lst s).drop (k + 1)).all nm) := e
              clear e
              go_wp2_with (first | (go_at_call 27; refine (letter27 _ _).mono ?_; rintro e w1 ⟨rfl, rfl⟩) | (go_at_call 28; refine (digit28 _ _).mono ?_; rintro e w1 ⟨rfl, rfl⟩))
              all_goals first
                | exact ⟨⟨k + 1, by omega, vi (by omega), .inr ⟨by omega, e'.out⟩⟩, by simp [intOf]; omega⟩
                | (exfalso; simp_all)
          · rw [hq] at e
            have e' : Hid (X = ((lst s).drop (k + 1)).all nm) := e
            clear e
            go_wp2_with (first | (go_at_call 27; refine (letter27 _ _).mono ?_; rintro e w1 ⟨rfl, rfl⟩) | (go_at_call 28; refine (digit28 _ _).mono ?_; rintro e w1 ⟨rfl, rfl⟩))
            exact ⟨⟨k + 1, by omega, vi (by omega), .inr ⟨by omega, e'.out⟩⟩, by simp [intOf]; omega⟩
        · have e := HX.out
          rw [lst_nil s k (by omega)] at e
          have e' : Hid (X = true) := e
          clear e
          go_wp2
          go_ret
          exact ⟨ret_b (by rw [e'.out]), rfl⟩
  · obtain rfl := empty_eq h0
    go_enter Try.func18, Try.ntmps18
    go_wp2
    go_loop [3] (fun i => i = .int .i64 0) (fun _ => 0)
    case atStart => rfl
    case round =>
      subst hrel
      go_wp2
      go_ret
      exact ⟨rfl, rfl⟩
end Go.Proofs.Ytfnekmhhhjdeiaa
