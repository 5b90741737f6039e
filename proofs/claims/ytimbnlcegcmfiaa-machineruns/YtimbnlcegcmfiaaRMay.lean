/- Which images may be, by the document's answer. -/
import Derived.Test.YtimbnlcegcmfiaaNew
namespace Go.Proofs.Ytimbnlcegcmfiaa
open Go.RowKit
set_option linter.unusedVariables false

section
variable {w : World} {N p q r : Nat} {sl : Value} {s : St}
theorem reg16_in (h : IsM w N p q r sl s) (k : Nat) (hk : k < 16) : Calls Try.prog 16 #[.pointer (some ⟨p, 0, none⟩), .int .i64 (k : Int)] w fun e w' => e = .returned (.int .u32 (s.reg k)) ∧ w' = w := by
  have hc := h.reg k hk
  go_enter Try.func16, Try.ntmps16
  go_wp2
  go_ret
  exact ⟨rfl, rfl⟩
end

set_option maxHeartbeats 2000000 in
theorem may27_yes (m : Im) (h : m.may = true) (w : World) :
    Calls Try.prog 27 #[m.val] w fun e w' => e = .returned (.bool true) ∧ Below w.heap.size w w' := by
  obtain ⟨h1, h2, h3, h4, h5, h6, h7, h8⟩ := Im.may_true h
  obtain ⟨b0, b1, b2⟩ := place_bounds h3
  have h2' : (m.code.size : Int) % 4 = 0 := by omega
  have h1' : (m.code.size : Int) ≤ 1048576 := by omega
  have h1'' : (4 : Int) ≤ m.code.size := by omega
  clear h h3
  go_enter Try.func27, Try.ntmps27
  go_wp2
  go_ret
  exact ⟨rfl, below_box _ _⟩

theorem Im.may_false2 {m : Im} (h : m.may = false) : ¬ m.code.size ≤ 1048576 ∨ ¬ m.code.size % 4 = 0 ∨ ¬ 0 ≤ m.entry ∨ ¬ m.entry < m.code.size ∨ ¬ m.entry % 4 = 0 ∨ ¬ 0 ≤ m.global ∨ ¬ m.global ≤ 65536 ∨ ¬ (m.data.size : Int) ≤ m.global ∨ ¬ 0 ≤ m.frame ∨ ¬ m.frame ≤ 65536 := by
  rcases Im.may_false h with h | h | h | h | h | h | h | h
  · exact .inl h
  · exact .inr (.inl h)
  · unfold placeB at h
    simp only [Bool.and_eq_false_iff, decide_eq_false_iff_not] at h
    omega
  all_goals omega

set_option maxHeartbeats 4000000 in
theorem may27_no (m : Im) (h : m.may = false) (w : World) :
    Calls Try.prog 27 #[m.val] w fun e w' => e = .returned (.bool false) ∧ Below w.heap.size w w' := by
  have h' := Im.may_false2 h
  clear h
  go_enter Try.func27, Try.ntmps27
  go_wp2
  all_goals go_ret
  all_goals first
    | exact ⟨rfl, below_box _ _⟩
    | exact ⟨ret_b (decide_eq_false (by omega)), below_box _ _⟩
    | (exfalso; simp_all; omega)

theorem check12 (m : Im) (w : World) :
    Calls Try.prog 12 #[m.val] w fun e w' => e = .returned (.int .i64 (if m.may then 0 else 1)) ∧ Below w.heap.size w w' := by
  cases h : m.may
  · go_enter Try.func12, Try.ntmps12
    go_wp2_with (first | (go_at_call 27; refine (may27_no m h _).mono ?_; rintro e w1 ⟨rfl, hb1⟩))
    go_ret
    exact ⟨rfl, below_box2 hb1⟩
  · go_enter Try.func12, Try.ntmps12
    go_wp2_with (first | (go_at_call 27; refine (may27_yes m h _).mono ?_; rintro e w1 ⟨rfl, hb1⟩))
    go_ret
    exact ⟨rfl, below_box2 hb1⟩

theorem below_then {w w1 w2 : World} (h1 : Below w.heap.size w w1) (h2 : Below w1.heap.size w1 w2) : Below w.heap.size w w2 := h1.trans (h2.mono h1.size)

end Go.Proofs.Ytimbnlcegcmfiaa
