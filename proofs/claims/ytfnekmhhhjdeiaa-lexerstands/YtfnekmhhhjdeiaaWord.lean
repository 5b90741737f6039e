/- Words and marks: is a text one? By the program. -/
import Derived.Test.YtfnekmhhhjdeiaaText
namespace Go.Proofs.Ytfnekmhhhjdeiaa
open Go.RowKit
set_option linter.unusedVariables false

theorem lst_eq (s : ByteArray) : s.toList = lst s := ByteArray.toList_eq s
theorem beq_lst (s : ByteArray) (l : List UInt8) : (s.toList == l) = (lst s == l) := by rw [lst_eq]

set_option maxHeartbeats 4000000 in
theorem reserved15 (s : ByteArray) (w : World) : Calls Try.prog 15 #[.string s] w fun e w' => e = .returned (.bool (resv (lst s))) ∧ w' = w := by
  obtain ⟨l, hl⟩ : ∃ l, l = s.toList := ⟨_, rfl⟩
  have hr : resv (lst s) = words.contains l := by rw [hl, lst_eq]; rfl
  obtain ⟨X, hX⟩ : ∃ X, X = resv (lst s) := ⟨_, rfl⟩
  rw [← hX]
  rw [hr, hl] at hX
  replace hX := hid hX
  clear hr hl
  go_enter Try.func15, Try.ntmps15
  go_wp2
  all_goals go_ret
  all_goals (simp only [beq_iff_eq, beq_eq_false_iff_ne, ne_eq] at *)
  all_goals first
    | contradiction
    | (refine ⟨ret_b ?_, by trivial⟩; rw [hX.out]; simp [words, *]; done)
set_option maxHeartbeats 8000000 in
theorem isMark56 (s : ByteArray) (w : World) : Calls Try.prog 56 #[.string s] w fun e w' => e = .returned (.bool (isM (lst s))) ∧ w' = w := by
  obtain ⟨l, hl⟩ : ∃ l, l = s.toList := ⟨_, rfl⟩
  have hr : isM (lst s) = marksL.contains l := by rw [hl, lst_eq]; rfl
  obtain ⟨X, hX⟩ : ∃ X, X = isM (lst s) := ⟨_, rfl⟩
  rw [← hX]
  rw [hr, hl] at hX
  replace hX := hid hX
  clear hr hl
  go_enter Try.func56, Try.ntmps56
  go_wp2
  all_goals go_ret
  all_goals (simp only [beq_iff_eq, beq_eq_false_iff_ne, ne_eq] at *)
  all_goals first
    | contradiction
    | (refine ⟨ret_b ?_, by trivial⟩; rw [hX.out]; simp [marksL, marks3, marks2, marks1, *]; done)
end Go.Proofs.Ytfnekmhhhjdeiaa
