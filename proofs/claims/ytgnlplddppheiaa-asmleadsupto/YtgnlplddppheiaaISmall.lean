/- The contracts of the small functions of layer isa and of the document's answers to them: which parts an Op has, whether a register may stand there, the least and the greatest Imm, an Op's shape. -/
import Derived.Test.YtgnlplddppheiaaProg
import Derived.Test.YtgnlplddppheiaaIPlain
import Derived.WalkKit
namespace Go.Proofs.Ytgnlplddppheiaa
open Go.RowKit
set_option linter.unusedVariables false
theorem ret_i {k : IntKind} {a b : Int} (h : a = b) : Ending.returned (.int k a) = .returned (.int k b) := by rw [h]
theorem ret_b {a b : Bool} (h : a = b) : Ending.returned (.bool a) = .returned (.bool b) := by rw [h]

set_option maxHeartbeats 1000000 in
theorem parts18 (op : Int) (w : World) :
    Calls Try.prog 54 #[.int .i64 op] w fun e w' => e = .returned (.int .i64 (partsF op)) ∧ w' = w := by
  go_enter Try.func54, Try.ntmps54
  go_wp2
  all_goals go_ret
  all_goals (refine ⟨?_, rfl⟩; first | exact ret_i (b := partsF op) (by unfold partsF; simp_all; try omega))

theorem fits21 (r h : Int) (w : World) :
    Calls Try.prog 55 #[.int .i64 r, .int .i64 h] w fun e w' => e = .returned (.bool (fitsB r (h != 0))) ∧ w' = w := by
  go_enter Try.func55, Try.ntmps55
  go_wp2
  all_goals go_ret
  all_goals (refine ⟨?_, rfl⟩; exact ret_b (b := fitsB r (h != 0)) (by simp_all [fitsB]; try omega))

theorem fits26 (r : Int) (h : Bool) (w : World) :
    Calls Try.prog 49 #[.int .i64 r, .bool h] w fun e w' => e = .returned (.bool (fitsB r h)) ∧ w' = w := by
  cases h
  all_goals go_enter Try.func49, Try.ntmps49
  all_goals go_wp2
  all_goals go_ret
  all_goals (refine ⟨?_, rfl⟩; exact ret_b (b := fitsB r _) (by rw [Bool.eq_iff_iff]; simp_all [fitsB]; try omega))

set_option maxHeartbeats 1000000 in
theorem span22 {p lo hi n : Int} {D A B sg is : Bool} (R : Row p lo hi D A B n sg is) (w : World) :
    Calls Try.prog 56 #[.int .i64 p] w fun e w' => e = .returned (.tuple #[.int .i32 lo, .int .i32 hi]) ∧ w' = w := by
  rcases R.out with ⟨rfl, rfl, rfl, rfl, rfl, rfl, rfl, rfl, rfl⟩ | ⟨rfl, rfl, rfl, rfl, rfl, rfl, rfl, rfl, rfl⟩ | ⟨rfl, rfl, rfl, rfl, rfl, rfl, rfl, rfl, rfl⟩ | ⟨rfl, rfl, rfl, rfl, rfl, rfl, rfl, rfl, rfl⟩ | ⟨rfl, rfl, rfl, rfl, rfl, rfl, rfl, rfl, rfl⟩ | ⟨rfl, rfl, rfl, rfl, rfl, rfl, rfl, rfl, rfl⟩ | ⟨rfl, rfl, rfl, rfl, rfl, rfl, rfl, rfl, rfl⟩ | ⟨rfl, rfl, rfl, rfl, rfl, rfl, rfl, rfl, rfl⟩ | ⟨rfl, rfl, rfl, rfl, rfl, rfl, rfl, rfl, rfl⟩ | ⟨rfl, rfl, rfl, rfl, rfl, rfl, rfl, rfl, rfl⟩ | ⟨rfl, rfl, rfl, rfl, rfl, rfl, rfl, rfl, rfl⟩
  all_goals clear R
  all_goals go_enter Try.func56, Try.ntmps56
  all_goals go_wp2
  all_goals go_ret2
  all_goals exact ⟨rfl, rfl⟩
end Go.Proofs.Ytgnlplddppheiaa
