/- A token, and what may stand behind it: plain mathematics. -/
import Derived.Test.YtfnekmhhhjdeiaaJoin
namespace Go.Proofs.Ytfnekmhhhjdeiaa
open Go.RowKit
set_option linter.unusedVariables false

theorem dig_zero {base v : Nat} {l : List UInt8} (h : (digG base v l).2 = 0) : digG base v l = (v, 0) := by
  match l with
  | [] => rfl
  | c :: r =>
    by_cases hc : hexv c < base
    · rw [dig_yes hc] at h; simp at h
    · exact dig_no hc
theorem dig_cut {base : Nat} {E : List UInt8} : ∀ (k : List UInt8) (v : Nat), (digG base v (k ++ E)).2 ≤ k.length → digG base v (k ++ E) = digG base v k
  | [], v, h => by
    rw [List.nil_append] at h ⊢
    rw [dig_zero (by simpa using h)]
    rfl
  | a :: t, v, h => by
    rw [List.cons_append] at h ⊢
    by_cases hc : hexv a < base
    · rw [dig_yes hc] at h ⊢
      rw [dig_yes hc]
      have h2 : (digG base (min (v * base + hexv a) 4294967296) (t ++ E)).2 ≤ t.length := by simpa using h
      rw [dig_cut t _ h2]
    · rw [dig_no hc, dig_no hc]
theorem dig_same {base : Nat} {c : UInt8} {r r' : List UInt8} : ∀ (k : List UInt8) (v : Nat), (digG base v (k ++ c :: r)).2 ≤ k.length → digG base v (k ++ c :: r') = digG base v (k ++ c :: r)
  | [], v, h => by
    rw [List.nil_append] at h ⊢
    rw [List.nil_append]
    by_cases hc : hexv c < base
    · rw [dig_yes hc] at h; simp at h
    · rw [dig_no hc, dig_no hc]
  | a :: t, v, h => by
    rw [List.cons_append] at h ⊢
    rw [List.cons_append]
    by_cases hc : hexv a < base
    · rw [dig_yes hc] at h ⊢
      rw [dig_yes hc]
      have h2 : (digG base (min (v * base + hexv a) 4294967296) (t ++ c :: r)).2 ≤ t.length := by simpa using h
      rw [dig_same t _ h2]
    · rw [dig_no hc, dig_no hc]
theorem head_app {p : UInt8 → Bool} {k E : List UInt8} {n : Nat} (h : n < k.length) : headIs p ((k ++ E).drop n) = headIs p (k.drop n) := by
  rw [drop_ext (by omega)]
  match hk : k.drop n with
  | [] =>
    have := congrArg List.length hk
    rw [List.length_drop] at this
    simp at this
    omega
  | a :: t => rfl
theorem head_at {p : UInt8 → Bool} {k E : List UInt8} : headIs p ((k ++ E).drop k.length) = headIs p E := by rw [List.drop_left]
theorem head_end {p : UInt8 → Bool} {k : List UInt8} : headIs p (k.drop k.length) = false := by rw [List.drop_length]; rfl

theorem numEnd_cases {v n m : Nat} {l : List UInt8} {t : Tok} (h : numEnd v n l = some (t, m)) : (headIs isU (l.drop n) = true ∧ m = n + 1 ∧ headIs nm (l.drop (n + 1)) = false ∧ t = ⟨5, [], v, true⟩) ∨ (headIs isU (l.drop n) = false ∧ m = n ∧ headIs nm (l.drop n) = false ∧ t = ⟨5, [], v, decide (2147483648 ≤ v)⟩) := by
  unfold numEnd at h
  cases hu : headIs isU (l.drop n)
  · simp only [hu, Bool.false_eq_true, if_false, Bool.or_false] at h
    cases hn : headIs nm (l.drop n)
    · simp only [hn, Bool.false_eq_true, if_false, Option.some.injEq, Prod.mk.injEq] at h
      exact .inr ⟨rfl, h.2.symm, rfl, h.1.symm⟩
    · simp [hn] at h
  · simp only [hu, if_true, Bool.or_true] at h
    cases hn : headIs nm (l.drop (n + 1))
    · simp only [hn, Bool.false_eq_true, if_false, Option.some.injEq, Prod.mk.injEq] at h
      exact .inl ⟨rfl, h.2.symm, rfl, h.1.symm⟩
    · simp [hn] at h
theorem numEnd_u {v n : Nat} {l : List UInt8} (hu : headIs isU (l.drop n) = true) (hn : headIs nm (l.drop (n + 1)) = false) : numEnd v n l = some (⟨5, [], v, true⟩, n + 1) := by
  unfold numEnd
  simp only [hu, if_true, hn, Bool.false_eq_true, if_false, Bool.or_true]
theorem numEnd_p {v n : Nat} {l : List UInt8} (hu : headIs isU (l.drop n) = false) (hn : headIs nm (l.drop n) = false) : numEnd v n l = some (⟨5, [], v, decide (2147483648 ≤ v)⟩, n) := by
  unfold numEnd
  simp only [hu, hn, Bool.false_eq_true, if_false, Bool.or_false]
/-- Behind a number's end. -/
theorem numEnd_cut {v n : Nat} {k E E' : List UInt8} {t : Tok} (hn : n ≤ k.length) (h : numEnd v n (k ++ E) = some (t, k.length)) (hE : ∀ p : UInt8 → Bool, (p = isU ∨ p = nm) → headIs p E = false → headIs p E' = false) : numEnd v n (k ++ E') = some (t, k.length) := by
  rcases numEnd_cases h with ⟨hu, hl, hm, rfl⟩ | ⟨hu, hl, hm, rfl⟩
  · have hlt : n < k.length := by omega
    rw [head_app hlt] at hu
    rw [← hl, head_at] at hm
    have := numEnd_u (v := v) (n := n) (l := k ++ E') (by rw [head_app hlt]; exact hu) (by rw [← hl, head_at]; exact hE nm (.inr rfl) hm)
    rw [this, hl]
  · rw [← hl, head_at] at hu hm
    have := numEnd_p (v := v) (n := n) (l := k ++ E') (by rw [← hl, head_at]; exact hE isU (.inl rfl) hu) (by rw [← hl, head_at]; exact hE nm (.inr rfl) hm)
    rw [this, hl]
theorem numAt_cut {b f : Nat} {k E E' : List UInt8} {t : Tok} (hf : f ≤ k.length) (hk : k ≠ []) (h : numAt b f (k ++ E) = some (t, k.length))
    (hD : ∀ v (k' : List UInt8), (digG b v (k' ++ E)).2 ≤ k'.length → digG b v (k' ++ E') = digG b v (k' ++ E)) (hE : ∀ p : UInt8 → Bool, (p = isU ∨ p = nm) → headIs p E = false → headIs p E' = false) : numAt b f (k ++ E') = some (t, k.length) := by
  unfold numAt at h ⊢
  dsimp only at h ⊢
  rw [drop_ext hf] at h ⊢
  have h0 : ∀ F : List UInt8, headIs (fun c => decide (c.toNat = 48)) (k ++ F) = headIs (fun c => decide (c.toNat = 48)) k := fun F => by
    match k, hk with
    | a :: t, _ => rfl
  rw [h0] at h ⊢
  split at h
  · cases h
  · rename_i hno
    have hle : f + (digG b 0 (k.drop f ++ E)).2 ≤ k.length := by
      rcases numEnd_cases h with ⟨_, hl, _⟩ | ⟨_, hl, _⟩ <;> omega
    rw [hD 0 (k.drop f) (by rw [List.length_drop]; omega), if_neg hno]
    exact numEnd_cut hle h hE
theorem isX_len {l : List UInt8} (h : isX l = true) : 2 ≤ l.length := by
  unfold isX at h
  rw [Bool.or_eq_true] at h
  rcases h with h | h
  · exact (List.isPrefixOf_iff_prefix.1 h).length_le
  · exact (List.isPrefixOf_iff_prefix.1 h).length_le
theorem numAt_two {b : Nat} {l : List UInt8} {t : Tok} {n : Nat} (h : numAt b 2 l = some (t, n)) : 2 ≤ n := by
  unfold numAt at h
  dsimp only at h
  split at h
  · cases h
  · rcases numEnd_cases h with ⟨_, hl, _⟩ | ⟨_, hl, _⟩ <;> omega
theorem isX_two {k E : List UInt8} (h : 2 ≤ k.length) : isX (k ++ E) = isX k := by
  unfold isX
  rw [pre2_long h, pre2_long h]
theorem numF_cut {k E E' : List UInt8} {t : Tok} (hk : k ≠ []) (h : numF (k ++ E) = some (t, k.length))
    (hX : k.length = 1 → isX (k ++ E) = false → isX (k ++ E') = false) (hD : ∀ b, b ≤ 16 → ∀ v (k' : List UInt8), (digG b v (k' ++ E)).2 ≤ k'.length → digG b v (k' ++ E') = digG b v (k' ++ E)) (hE : ∀ p : UInt8 → Bool, (p = isU ∨ p = nm) → headIs p E = false → headIs p E' = false) : numF (k ++ E') = some (t, k.length) := by
  have hpos : 1 ≤ k.length := by cases k with | nil => exact absurd rfl hk | cons a t => simp
  unfold numF at h ⊢
  cases hx : isX (k ++ E)
  · rw [hx, if_neg (by simp)] at h
    have hx' : isX (k ++ E') = false := by
      by_cases h1 : k.length = 1
      · exact hX h1 hx
      · rw [isX_two (by omega)] at hx ⊢; exact hx
    rw [hx', if_neg (by simp)]
    exact numAt_cut (Nat.zero_le _) hk h (hD 10 (by omega)) hE
  · rw [hx, if_pos rfl] at h
    have h2 := numAt_two h
    have hx' : isX (k ++ E') = true := by rw [isX_two h2] at hx ⊢; exact hx
    rw [hx', if_pos rfl]
    exact numAt_cut h2 hk h (hD 16 (by omega)) hE

theorem esc_two {l : List UInt8} {b : UInt8} {n : Nat} (h : escF l = some (b, n)) : 2 ≤ n := by
  match l with
  | [] => simp [escF] at h
  | [d] =>
    simp only [escF] at h
    repeat' split at h
    all_goals simp at h
    all_goals omega
  | [d, e] =>
    simp only [escF] at h
    repeat' split at h
    all_goals simp at h
    all_goals omega
  | d :: e :: f :: q =>
    simp only [escF] at h
    repeat' split at h
    all_goals simp at h
    all_goals omega
theorem esc_cut {l E : List UInt8} {b : UInt8} {n : Nat} (h : escF (l ++ E) = some (b, n)) (hn : n ≤ l.length + 1) : escF l = some (b, n) := by
  match l, h, hn with
  | [], h, hn =>
    have := esc_two h
    simp at hn
    omega
  | [d], h, hn =>
    match E, h with
    | [], h => exact h
    | [e], h =>
      simp only [List.cons_append, List.nil_append, escF] at h ⊢
      exact h
    | e :: f :: q, h =>
      simp only [List.length_cons, List.length_nil] at hn
      simp only [List.cons_append, List.nil_append, escF] at h ⊢
      repeat' split at h
      all_goals first
        | (simp_all; done)
        | (exfalso; simp at h; omega)
  | [d, e], h, hn =>
    match E, h with
    | [], h => exact h
    | f :: q, h =>
      simp only [List.length_cons, List.length_nil] at hn
      simp only [List.cons_append, List.nil_append, escF] at h ⊢
      repeat' split at h
      all_goals first
        | (simp_all; done)
        | (exfalso; simp at h; omega)
  | d :: e :: f :: q, h, hn => exact h
theorem unit_cut {mk : UInt8} {l E : List UInt8} {b : UInt8} {n : Nat} (h : unitF mk (l ++ E) = some (b, n)) (hn : n ≤ l.length) : unitF mk l = some (b, n) := by
  match l, h, hn with
  | [], h, hn =>
    have := unitF_len h
    simp at hn
    omega
  | a :: t, h, hn =>
    rw [List.cons_append] at h
    simp only [unitF] at h ⊢
    split at h
    · cases h
    · rename_i h1
      rw [if_neg h1]
      split at h
      · rename_i h2
        rw [if_pos h2]
        exact esc_cut h (by simpa using hn)
      · rename_i h2
        rw [if_neg h2]
        exact h
theorem units_cut {mk : UInt8} {E : List UInt8} : ∀ (N : Nat) (l : List UInt8), l.length ≤ N → (units mk (l ++ E)).2 < l.length → [mk].isPrefixOf ((l ++ E).drop (units mk (l ++ E)).2) = true → units mk (l ++ E) = units mk l
  | N, l, hN, hlt, hp => by
    cases hu : unitF mk (l ++ E) with
    | none =>
      rw [units_none hu] at hp hlt ⊢
      rw [List.drop_zero] at hp
      match l, hlt, hp with
      | a :: t, _, hp =>
        have : mk = a := by simpa [List.isPrefixOf] using hp
        subst this
        exact (units_none unit_mark).symm
    | some p =>
      obtain ⟨b, n⟩ := p
      have hn1 := unitF_len hu
      rw [units_some hu] at hp hlt ⊢
      have hnl : n ≤ l.length := by dsimp only at hlt; omega
      have hul := unit_cut hu hnl
      rw [units_some hul]
      match N, hN with
      | 0, hN => omega
      | N + 1, hN =>
        rw [drop_ext hnl] at hp hlt ⊢
        have hp2 : [mk].isPrefixOf ((l.drop n ++ E).drop (units mk (l.drop n ++ E)).2) = true := by
          rw [← drop_ext hnl, List.drop_drop]; rw [← drop_ext hnl] at hp; exact hp
        rw [units_cut N (l.drop n) (by rw [List.length_drop]; omega) (by rw [List.length_drop]; dsimp only at hlt; omega) hp2]
end Go.Proofs.Ytfnekmhhhjdeiaa
