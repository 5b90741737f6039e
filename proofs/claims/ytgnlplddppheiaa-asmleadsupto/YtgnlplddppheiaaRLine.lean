/- The document's line. -/
import Derived.Test.YtgnlplddppheiaaLine
namespace Go.Proofs.Ytgnlplddppheiaa
open Go.RowKit
set_option linter.unusedVariables false

theorem may38 (op d a b i : Int) (i0 : -2147483648 ≤ i) (i1 : i ≤ 2147483647) (w : World) :
    Calls Try.prog 38 #[.agg #[.int .i64 op, .int .i64 d, .int .i64 a, .int .i64 b, .int .i32 i]] w fun e w' => e = .returned (.bool (mayI op d a b i)) ∧ Below w.heap.size w w' := by
  cases h : mayI op d a b i
  · exact may19_no (row_of op) rfl i0 i1 h w
  · exact may19_yes (row_of op) rfl i0 i1 h w

theorem lead_no {o : Int} (h : leadF o = false) : o ≠ 39 ∧ o ≠ 40 ∧ o ≠ 41 ∧ o ≠ 42 := by
  unfold leadF askF at h
  simp at h
  omega
theorem lead_yes {o : Int} (h : leadF o = true) : o = 39 ∨ o = 40 ∨ o = 41 ∨ o = 42 := by
  unfold leadF askF at h
  simp at h
  omega

set_option maxHeartbeats 4000000 in
theorem line25 (x : Ln) (i0 : -2147483648 ≤ x.imm) (i1 : x.imm ≤ 2147483647) (w : World) :
    Calls Try.prog 25 #[x.val] w fun e w' => e = .returned (.bool x.ok) ∧ Below w.heap.size w w' := by
  obtain ⟨l, o, d, a, b, i, t⟩ := x
  unfold Ln.val Ln.ok
  simp only at *
  by_cases hl : l = 0
  · subst hl
    rw [if_pos rfl]
    have hM := may38 o d a b i i0 i1
    generalize mayI o d a b i = q at *
    by_cases ht : t = 0
    · subst ht
      go_enter Try.func25, Try.ntmps25
      go_wp2_with (go_at_call 38; refine (hM _).mono ?_; rintro e w1 ⟨rfl, hb1⟩)
      go_ret
      exact ⟨ret_b (by simp), below_call hb1⟩
    · have ht' : (t == 0) = false := by simp [ht]
      by_cases hp : 0 < t
      · have hp0 : decide (0 ≤ t) = true := decide_eq_true (by omega)
        cases hld : leadF o
        · obtain ⟨n1, n2, n3, n4⟩ := lead_no hld
          clear hld
          go_enter Try.func25, Try.ntmps25
          go_wp2
          go_ret
          exact ⟨ret_b (by simp [ht']), below1 _ _⟩
        · by_cases hi : i = 0
          · subst hi
            rcases lead_yes hld with e1 | e1 | e1 | e1
            all_goals
              subst e1
              clear hld
              go_enter Try.func25, Try.ntmps25
              go_wp2_with (go_at_call 38; refine (hM _).mono ?_; rintro e w1 ⟨rfl, hb1⟩)
              go_ret
              exact ⟨ret_b (by simp [ht', hp0]), below_call hb1⟩
          · have hi' : (i == 0) = false := by simp [hi]
            rcases lead_yes hld with e1 | e1 | e1 | e1
            all_goals
              subst e1
              clear hld
              go_enter Try.func25, Try.ntmps25
              go_wp2
              go_ret
              exact ⟨ret_b (by simp [ht', hi']), below1 _ _⟩
      · have hp0 : decide (0 ≤ t) = false := decide_eq_false (by omega)
        go_enter Try.func25, Try.ntmps25
        go_wp2
        all_goals
          go_ret
          exact ⟨ret_b (by simp), below1 _ _⟩
  · rw [if_neg hl]
    by_cases hp : 0 < l
    · go_enter Try.func25, Try.ntmps25
      go_wp2
      all_goals
        go_ret
        exact ⟨ret_b (by simp [*]), below1 _ _⟩
    · have hp0 : decide (0 < l) = false := decide_eq_false hp
      go_enter Try.func25, Try.ntmps25
      go_wp2
      go_ret
      exact ⟨ret_b (by simp), below1 _ _⟩
end Go.Proofs.Ytgnlplddppheiaa
