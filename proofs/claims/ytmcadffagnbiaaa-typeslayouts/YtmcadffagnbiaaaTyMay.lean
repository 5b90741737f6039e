/- May, the document's. -/
import Derived.Test.YtmcadffagnbiaaaTy
namespace Go.Proofs.Ytmcadffagnbiaaa
open Go.RowKit
set_option linter.unusedVariables false
set_option linter.unusedSimpArgs false

set_option maxHeartbeats 4000000 in
theorem may27 (t : Ty) (r : Int) (w : World) : Calls Try.prog 27 #[t.val, .int .i64 r] w fun e w' => e = .returned (.bool (mayF t r)) ∧ Below w.heap.size w w' := by
  obtain ⟨k, e, n, s⟩ := t
  unfold Ty.val mayF
  dsimp only
  have HS := fun k w => scal32 k w
  by_cases h03 : k = 0 ∨ k = 1 ∨ k = 2 ∨ k = 3
  · rw [if_pos h03]
    by_cases g1 : e = 0
    · by_cases g2 : n = 0
      · rcases h03 with rfl | rfl | rfl | rfl
        all_goals
          go_enter Try.func27, Try.ntmps27
          go_wp2
          go_ret
          exact ⟨by simp [g1, g2] <;> omega, below1 _ _⟩
      · rcases h03 with rfl | rfl | rfl | rfl
        all_goals
          go_enter Try.func27, Try.ntmps27
          go_wp2
          go_ret
          exact ⟨by simp [g1, g2] <;> omega, below1 _ _⟩
    · rcases h03 with rfl | rfl | rfl | rfl
      all_goals
        go_enter Try.func27, Try.ntmps27
        go_wp2
        go_ret
        exact ⟨by simp [g1] <;> omega, below1 _ _⟩
  rw [if_neg h03]
  have h0 : ¬ k = 0 := by omega
  have h1 : ¬ k = 1 := by omega
  have h2 : ¬ k = 2 := by omega
  have h3 : ¬ k = 3 := by omega
  by_cases h4 : k = 4
  · subst h4
    rw [if_pos rfl]
    have hq := HS e
    generalize scalF e = q at *
    by_cases g1 : 1 ≤ n
    · by_cases g2 : n ≤ 1024
      · cases q
        all_goals
          go_enter Try.func27, Try.ntmps27
          go_wp2_with (go_at_call 32; refine (hq _).mono ?_; rintro e1 w1 ⟨rfl, rfl⟩)
          go_ret
          exact ⟨by simp [g1, g2] <;> omega, below1 _ _⟩
      · cases q
        all_goals
          go_enter Try.func27, Try.ntmps27
          go_wp2_with (go_at_call 32; refine (hq _).mono ?_; rintro e1 w1 ⟨rfl, rfl⟩)
          go_ret
          exact ⟨by simp [g1, g2] <;> omega, below1 _ _⟩
    · cases q
      all_goals
        go_enter Try.func27, Try.ntmps27
        go_wp2_with (go_at_call 32; refine (hq _).mono ?_; rintro e1 w1 ⟨rfl, rfl⟩)
        go_ret
        exact ⟨by simp [g1] <;> omega, below1 _ _⟩
  rw [if_neg h4]
  by_cases h57 : k = 5 ∨ k = 7
  · rw [if_pos h57]
    by_cases g1 : e = 0
    · by_cases g2 : n = 0
      · by_cases g3 : 0 ≤ s
        · rcases h57 with rfl | rfl
          all_goals
            go_enter Try.func27, Try.ntmps27
            go_wp2
            go_ret
            exact ⟨by simp [g1, g2, g3] <;> omega, below1 _ _⟩
        · rcases h57 with rfl | rfl
          all_goals
            go_enter Try.func27, Try.ntmps27
            go_wp2
            go_ret
            exact ⟨by simp [g1, g2, g3] <;> omega, below1 _ _⟩
      · by_cases g3 : 0 ≤ s
        · rcases h57 with rfl | rfl
          all_goals
            go_enter Try.func27, Try.ntmps27
            go_wp2
            go_ret
            exact ⟨by simp [g1, g2, g3] <;> omega, below1 _ _⟩
        · rcases h57 with rfl | rfl
          all_goals
            go_enter Try.func27, Try.ntmps27
            go_wp2
            go_ret
            exact ⟨by simp [g1, g2, g3] <;> omega, below1 _ _⟩
    · by_cases g3 : 0 ≤ s
      · rcases h57 with rfl | rfl
        all_goals
          go_enter Try.func27, Try.ntmps27
          go_wp2
          go_ret
          exact ⟨by simp [g1, g3] <;> omega, below1 _ _⟩
      · rcases h57 with rfl | rfl
        all_goals
          go_enter Try.func27, Try.ntmps27
          go_wp2
          go_ret
          exact ⟨by simp [g1, g3] <;> omega, below1 _ _⟩
  rw [if_neg h57]
  have h5 : ¬ k = 5 := fun h => h57 (.inl h)
  have h7 : ¬ k = 7 := fun h => h57 (.inr h)
  by_cases h6 : k = 6
  · subst h6
    rw [if_pos rfl]
    have hq := HS e
    generalize scalF e = q at *
    by_cases g2 : n = 0
    · cases q
      all_goals
        go_enter Try.func27, Try.ntmps27
        go_wp2_with (go_at_call 32; refine (hq _).mono ?_; rintro e1 w1 ⟨rfl, rfl⟩)
        go_ret
        exact ⟨by simp [g2] <;> omega, below1 _ _⟩
    · cases q
      all_goals
        go_enter Try.func27, Try.ntmps27
        go_wp2_with (go_at_call 32; refine (hq _).mono ?_; rintro e1 w1 ⟨rfl, rfl⟩)
        go_ret
        exact ⟨by simp [g2] <;> omega, below1 _ _⟩
  rw [if_neg h6]
  go_enter Try.func27, Try.ntmps27
  go_wp2
  go_ret
  exact ⟨rfl, below1 _ _⟩
theorem check14 (t : Ty) (r : Int) (w : World) : Calls Try.prog 14 #[t.val, .int .i64 r] w fun e w' => e = .returned (.int .i64 (if mayF t r then 0 else 1)) ∧ Below w.heap.size w w' := by
  have hm := may27 t r
  generalize mayF t r = q at *
  obtain ⟨k, e, n, s⟩ := t
  unfold Ty.val at *
  dsimp only at hm ⊢
  cases q
  all_goals
    go_enter Try.func14, Try.ntmps14
    go_wp2_with (go_at_call 27; refine (hm _).mono ?_; rintro e1 w1 ⟨rfl, hb1⟩)
    go_ret
    exact ⟨rfl, (below1 _ _).trans (hb1.mono (by simp))⟩

end Go.Proofs.Ytmcadffagnbiaaa
