/- The place whose turn it is. -/
import Derived.Test.YtjhndnhldhmjnaaDoorNx
namespace Go.Proofs.YtjhndnhldhmjnaaDoor
open Go.RowKit Go.Maps
set_option linter.unusedVariables false
set_option linter.unusedSimpArgs false
theorem NextR.unique {f : Nat → Wd} {m n : Nat} {r r' : Int} (h : NextR f m n r) (h' : NextR f m n r') : r = r' := by
  rcases h with ⟨e, h⟩ | ⟨k, e, h1, h2, h3, h4⟩
  · rcases h' with ⟨e', h'⟩ | ⟨k', e', h1', h2', h3', h4'⟩
    · rw [e, e']
    · exact absurd h3' (by rw [h k' h1' h2']; decide)
  · rcases h' with ⟨e', h'⟩ | ⟨k', e', h1', h2', h3', h4'⟩
    · exact absurd h3 (by rw [h' k h1 h2]; decide)
    · have a : ¬ k < k' := fun c => by rw [h4' k h1 c] at h3; cases h3
      have b : ¬ k' < k := fun c => by rw [h4 k' h1' c] at h3'; cases h3'
      omega
noncomputable def nextF (f : Nat → Wd) (m n : Nat) : Int := @Classical.epsilon Int ⟨-1⟩ (NextR f m n)
theorem nextF_is {f : Nat → Wd} {m n : Nat} {r : Int} (h : NextR f m n r) : r = nextF f m n := h.unique (Classical.epsilon_spec (p := NextR f m n) ⟨r, h⟩)
theorem nextT {w : World} {g m cp : Nat} {f : Nat → Wd} (h : RowU w g m f) (hT : TabM w) (n : Nat) (hm : m ≤ 1024) (hn : n ≤ 65536) : Calls Tryd.prog 43 #[.slice (some ⟨g, 0, none⟩) m cp, .int .i64 n] w fun e w' => e = .returned (.int .i64 (nextF f m n)) ∧ ∃ d, w' = w.drewN d := by
  refine (next43 h hT n hm hn).mono ?_
  rintro e w' ⟨⟨r, rfl, hr⟩, hd⟩
  exact ⟨by rw [nextF_is hr], hd⟩
/-- What next tells, if it tells. -/
theorem nextF_total (f : Nat → Wd) (m n : Nat) (hn : ∃ r, NextR f m n r) : NextR f m n (nextF f m n) := by
  obtain ⟨r, hr⟩ := hn
  rw [← nextF_is hr]
  exact hr
theorem next_ex (f : Nat → Wd) (m n : Nat) : ∃ r, NextR f m n r := by
  by_cases h : ∃ k, n ≤ k ∧ k / 64 < m ∧ inQ f k = true
  · obtain ⟨k, h1, h2, h3⟩ := h
    have : ∀ d, ∀ k, k ≤ n + d → n ≤ k → k / 64 < m → inQ f k = true → ∃ r, NextR f m n r := by
      intro d
      induction d with
      | zero => exact fun k hk h1 h2 h3 => ⟨k, .inr ⟨k, rfl, h1, h2, h3, fun j hj hjk => by omega⟩⟩
      | succ d ih =>
        intro k hk h1 h2 h3
        by_cases c : ∃ j, n ≤ j ∧ j < k ∧ inQ f j = true
        · obtain ⟨j, j1, j2, j3⟩ := c
          exact ih j (by omega) j1 (by omega) j3
        · refine ⟨k, .inr ⟨k, rfl, h1, h2, h3, fun j hj hjk => ?_⟩⟩
          cases e : inQ f j
          · rfl
          · exact absurd ⟨j, hj, hjk, e⟩ c
    exact this k k (by omega) h1 h2 h3
  · refine ⟨-1, .inl ⟨rfl, fun k h1 h2 => ?_⟩⟩
    cases e : inQ f k
    · rfl
    · exact absurd ⟨k, h1, h2, e⟩ h
theorem nextF_spec (f : Nat → Wd) (m n : Nat) : NextR f m n (nextF f m n) := nextF_total f m n (next_ex f m n)
/-- What is taken. -/
noncomputable def takeF (f : Nat → Wd) (m n : Nat) : Int := if nextF f m n = -1 then nextF f m 0 else nextF f m n
theorem takeF_spec (f : Nat → Wd) (m n : Nat) : (takeF f m n = -1 ∧ ∀ k, k / 64 < m → inQ f k = false) ∨ (∃ k : Nat, takeF f m n = k ∧ k / 64 < m ∧ inQ f k = true) := by
  unfold takeF
  rcases nextF_spec f m n with ⟨e, h⟩ | ⟨k, e, h1, h2, h3, h4⟩
  · rw [if_pos e]
    rcases nextF_spec f m 0 with ⟨e', h'⟩ | ⟨k', e', h1', h2', h3', h4'⟩
    · exact .inl ⟨e', fun k hk => h' k (Nat.zero_le _) hk⟩
    · exact .inr ⟨k', e', h2', h3'⟩
  · rw [if_neg (by omega)]
    exact .inr ⟨k, e, h2, h3⟩
theorem take_neg {f : Nat → Wd} {m n : Nat} : nextF f m n = -1 ∨ ∃ k : Nat, nextF f m n = k ∧ k / 64 < m := by
  rcases nextF_spec f m n with ⟨e, h⟩ | ⟨k, e, h1, h2, h3, h4⟩
  · exact .inl e
  · exact .inr ⟨k, e, h2⟩
set_option maxRecDepth 20000 in
set_option maxHeartbeats 1000000 in
theorem take50 {w : World} {p o g n a : Nat} {st : Nat → Wd} (h : QuM w p o g n a st) (hT : TabM w) (ha : a ≤ 65536) (hn : n ≤ 65472) : Calls Tryd.prog 50 #[.pointer (some ⟨p, o, none⟩)] w fun e w' =>
    (e = .returned (.int .i64 (-1)) ∧ (∀ k, k / 64 < words n → inQ st k = false) ∧ ∃ d, w' = w.drewN d) ∨
    (∃ k d : Nat, e = .returned (.int .i64 k) ∧ k / 64 < words n ∧ inQ st k = true ∧ w' = ((w.drewN d).setCell ⟨g, k / 64, none⟩ (uv (st (k / 64) &&& ~~~bitW k))).setCell ⟨p, o + 1, none⟩ (.int .i64 ((k + 1 : Nat) : Int))) := by
  have HQ := hid' h
  have HT := hid' hT
  have cv := h.cv
  have ca := h.ca
  have fa := h.fa
  have hw : words n ≤ 1024 := by unfold words; omega
  have N1 : Hid (∀ d, Calls Tryd.prog 43 #[.slice (some ⟨g, 0, none⟩) (words n) (words n), .int .i64 a] (w.drewN d) fun e w' => e = .returned (.int .i64 (nextF st (words n) a)) ∧ ∃ m, w' = (w.drewN d).drewN m) := fun d => nextT (w := w.drewN d) HQ.out.row HT.out a hw ha
  have N0 : Hid (∀ d, Calls Tryd.prog 43 #[.slice (some ⟨g, 0, none⟩) (words n) (words n), .int .i64 0] (w.drewN d) fun e w' => e = .returned (.int .i64 (nextF st (words n) 0)) ∧ ∃ m, w' = (w.drewN d).drewN m) := fun d => nextT (w := w.drewN d) HQ.out.row HT.out 0 hw (by omega)
  have R : Hid (∀ (d : Nat) (k : Nat), k / 64 < words n → Calls Tryd.prog 41 #[.slice (some ⟨g, 0, none⟩) (words n) (words n), .int .i64 k] (w.drewN d) fun e w' => e = .returned (.tuple #[]) ∧ ∃ m, w' = ((w.drewN d).drewN m).setCell ⟨g, k / 64, none⟩ (uv (st (k / 64) &&& ~~~bitW k))) := fun d k hk => remove41 (w := w.drewN d) (h := HQ.out.row) (hn := hk) (hm := hw)
  have S := hid' (takeF_spec st (words n) a)
  have ne := h.ne
  unfold takeF at S
  clear h hT
  rcases take_neg (f := st) (m := words n) (n := a) with e1 | ⟨k1, e1, k1m⟩
  · rw [if_pos e1] at S
    rw [e1] at N1
    rcases take_neg (f := st) (m := words n) (n := 0) with e0 | ⟨k0, e0, k0m⟩
    · rw [e0] at N0 S
      clear e0 e1
      go_enter Tryd.func50, Tryd.ntmps50
      go_wp2
      go_quiet (exact Calls.quiet_of (N1.out _))
      go_wp2_with (go_at_call 43; refine (N0.out _).mono ?_; rintro e9 w9 ⟨rfl, d9, rfl⟩)
      go_ret
      exact .inl ⟨rfl, (S.out.resolve_right (fun ⟨k, e, _⟩ => by omega)).2, ⟨_, rfl⟩⟩
    · rw [e0] at N0 S
      have hin : Hid (inQ st k0 = true) := by
        rcases S.out with ⟨e, _⟩ | ⟨k, e, _, hk⟩
        · omega
        · have : k0 = k := by omega
          subst this; exact hk
      clear e0 e1 S
      have nk : ((k0 : Int) == -1) = false := by simp
      go_enter Tryd.func50, Tryd.ntmps50
      go_wp2
      go_quiet (exact Calls.quiet_of (N1.out _))
      go_wp2_with (first | (go_at_call 43; refine (N0.out _).mono ?_; rintro e9 w9 ⟨rfl, d9, rfl⟩; rw [World.drewN_drewN]) | (go_at_call 41; refine (R.out _ k0 k0m).mono ?_; rintro e8 w8 ⟨rfl, d8, rfl⟩; rw [World.drewN_drewN]))
      go_ret
      exact .inr ⟨k0, _, rfl, k0m, hin.out, rfl⟩
  · rw [if_neg (by omega)] at S
    have hin : Hid (inQ st k1 = true) := by
      rcases S.out with ⟨e, _⟩ | ⟨k, e, _, hk⟩
      · omega
      · have : k1 = k := by omega
        subst this; exact hk
    rw [e1] at N1
    clear e1 S
    have nk : ((k1 : Int) == -1) = false := by simp
    go_enter Tryd.func50, Tryd.ntmps50
    go_wp2
    go_quiet (exact Calls.quiet_of (N1.out _))
    go_wp2_with (first | (go_at_call 41; refine (R.out _ k1 k1m).mono ?_; rintro e8 w8 ⟨rfl, d8, rfl⟩; rw [World.drewN_drewN]))
    go_ret
    exact .inr ⟨k1, _, rfl, k1m, hin.out, rfl⟩
end Go.Proofs.YtjhndnhldhmjnaaDoor
