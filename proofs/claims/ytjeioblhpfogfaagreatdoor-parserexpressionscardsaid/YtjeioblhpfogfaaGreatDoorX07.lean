/- Words and marks: is a text one? By the program. -/
import Derived.Test.YtjeioblhpfogfaaGreatDoorX02
set_option linter.unusedVariables false
set_option linter.unusedSimpArgs false
set_option maxRecDepth 20000
set_option maxHeartbeats 8000000
namespace Go.Proofs.YtjeioblhpfogfaaGreatDoorLx
open Go.RowKit

theorem lst_eq (s : ByteArray) : s.toList = lst s := ByteArray.toList_eq s
theorem reserved15 (s : ByteArray) (w : World) : Calls Tryz.prog 198 #[.string s] w fun e w' => e = .returned (.bool (resv (lst s))) ∧ w' = w := by
  obtain ⟨l, hl⟩ : ∃ l, l = s.toList := ⟨_, rfl⟩
  have hr : resv (lst s) = words.contains l := by rw [hl, lst_eq]; rfl
  obtain ⟨X, hX⟩ : ∃ X, X = resv (lst s) := ⟨_, rfl⟩
  rw [← hX]
  rw [hr, hl] at hX
  replace hX := hid hX
  clear hr hl
  go_enter Tryz.func198, Tryz.ntmps198
  go_wp2
  all_goals go_ret
  all_goals (simp only [beq_iff_eq, beq_eq_false_iff_ne, ne_eq] at *)
  all_goals first
    | contradiction
    | (refine ⟨ret_b ?_, by trivial⟩; rw [hX.out]; simp [words, *]; done)
theorem isMark56 (s : ByteArray) (w : World) : Calls Tryz.prog 220 #[.string s] w fun e w' => e = .returned (.bool (isM (lst s))) ∧ w' = w := by
  obtain ⟨l, hl⟩ : ∃ l, l = s.toList := ⟨_, rfl⟩
  have hr : isM (lst s) = marksL.contains l := by rw [hl, lst_eq]; rfl
  obtain ⟨X, hX⟩ : ∃ X, X = isM (lst s) := ⟨_, rfl⟩
  rw [← hX]
  rw [hr, hl] at hX
  replace hX := hid hX
  clear hr hl
  go_enter Tryz.func220, Tryz.ntmps220
  go_wp2
  all_goals go_ret
  all_goals (simp only [beq_iff_eq, beq_eq_false_iff_ne, ne_eq] at *)
  all_goals first
    | contradiction
    | (refine ⟨ret_b ?_, by trivial⟩; rw [hX.out]; simp [marksL, marks3, marks2, marks1, *]; done)
end Go.Proofs.YtjeioblhpfogfaaGreatDoorLx
