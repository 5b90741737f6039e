/- fits. -/
import Derived.Test.YtmcadffagnbiaaaTy
namespace Go.Proofs.Ytmcadffagnbiaaa
open Go.RowKit
set_option linter.unusedVariables false
set_option linter.unusedSimpArgs false

/-- Are the parts that count as they may be? -/
def fitF (t : Ty) (r : Int) : Bool :=
  if t.k = 0 ∨ t.k = 1 ∨ t.k = 2 ∨ t.k = 3 then true
  else if t.k = 4 then scalF t.e && decide (1 ≤ t.n) && decide (t.n ≤ 1024)
  else if t.k = 6 then scalF t.e
  else if t.k = 5 ∨ t.k = 7 then decide (0 ≤ t.s) && decide (t.s < r)
  else false
set_option maxHeartbeats 4000000 in
theorem fit30 (t : Ty) (r : Int) (w : World) : Calls Try.prog 30 #[t.val, .int .i64 r] w fun e w' => e = .returned (.bool (fitF t r)) ∧ Below w.heap.size w w' := by
  obtain ⟨k, e, n, s⟩ := t
  unfold Ty.val fitF
  dsimp only
  have HS := fun k w => scal31 k w
  by_cases h0 : k = 0
  · subst h0
    go_enter Try.func30, Try.ntmps30
    go_wp2
    go_ret
    exact ⟨rfl, below1 _ _⟩
  by_cases h1 : k = 1
  · subst h1
    go_enter Try.func30, Try.ntmps30
    go_wp2
    go_ret
    exact ⟨rfl, below1 _ _⟩
  by_cases h2 : k = 2
  · subst h2
    go_enter Try.func30, Try.ntmps30
    go_wp2
    go_ret
    exact ⟨rfl, below1 _ _⟩
  by_cases h3 : k = 3
  · subst h3
    go_enter Try.func30, Try.ntmps30
    go_wp2
    go_ret
    exact ⟨rfl, below1 _ _⟩
  rw [if_neg (by omega)]
  by_cases h4 : k = 4
  · subst h4
    rw [if_pos rfl]
    have hq := HS e
    generalize scalF e = q at *
    by_cases g1 : 1 ≤ n
    · by_cases g2 : n ≤ 1024
      · cases q
        all_goals
          go_enter Try.func30, Try.ntmps30
          go_wp2_with (go_at_call 31; refine (hq _).mono ?_; rintro e1 w1 ⟨rfl, rfl⟩)
          go_ret
          exact ⟨by simp [g1, g2] <;> omega, below1 _ _⟩
      · cases q
        all_goals
          go_enter Try.func30, Try.ntmps30
          go_wp2_with (go_at_call 31; refine (hq _).mono ?_; rintro e1 w1 ⟨rfl, rfl⟩)
          go_ret
          exact ⟨by simp [g1, g2] <;> omega, below1 _ _⟩
    · cases q
      all_goals
        go_enter Try.func30, Try.ntmps30
        go_wp2_with (go_at_call 31; refine (hq _).mono ?_; rintro e1 w1 ⟨rfl, rfl⟩)
        go_ret
        exact ⟨by simp [g1] <;> omega, below1 _ _⟩
  rw [if_neg h4]
  by_cases h6 : k = 6
  · subst h6
    rw [if_pos rfl]
    go_enter Try.func30, Try.ntmps30
    go_wp2_with (go_at_call 31; refine (HS _ _).mono ?_; rintro e1 w1 ⟨rfl, rfl⟩)
    go_ret
    exact ⟨rfl, below1 _ _⟩
  rw [if_neg h6]
  by_cases h57 : k = 5 ∨ k = 7
  · rw [if_pos h57]
    rcases h57 with rfl | rfl
    all_goals
      by_cases g1 : 0 ≤ s
      · go_enter Try.func30, Try.ntmps30
        go_wp2
        go_ret
        exact ⟨by simp [g1] <;> omega, below1 _ _⟩
      · go_enter Try.func30, Try.ntmps30
        go_wp2
        go_ret
        exact ⟨by simp [g1] <;> omega, below1 _ _⟩
  · rw [if_neg h57]
    have h5 : ¬ k = 5 := fun h => h57 (.inl h)
    have h7 : ¬ k = 7 := fun h => h57 (.inr h)
    go_enter Try.func30, Try.ntmps30
    go_wp2
    go_ret
    exact ⟨rfl, below1 _ _⟩

end Go.Proofs.Ytmcadffagnbiaaa
