/- The contracts of the small functions of layer word (Conv, Common, Unsigned, Commutes, Traps) and of the document's answers to them: each call returns what its plain function says, with the world as it was. -/
import Derived.Test.YtbclbdeljllofaaProg
import Derived.WalkKit
namespace Go.Proofs.Ytbclbdeljllofaa
open Go.RowKit

def convF (k x : Int) : Int := if k = 3 then x.tmod 256 else x
def commonF (a b : Int) : Int := if a = 2 ∨ b = 2 then 2 else 1
def unsF (k : Int) : Int := if k = 4 then 5 else if k = 6 then 7 else if k = 13 then 12 else if k = 16 then 17 else if k = 18 then 19 else k
def comF (k : Int) : Bool := k == 1 || k == 3 || k == 8 || k == 9 || k == 10 || k == 14 || k == 15
def trapF (k : Int) : Bool := k == 4 || k == 5 || k == 6 || k == 7

theorem ret_i {k : IntKind} {a b : Int} (h : a = b) : Ending.returned (.int k a) = .returned (.int k b) := by rw [h]
theorem ret_b {a b : Bool} (h : a = b) : Ending.returned (.bool a) = .returned (.bool b) := by rw [h]

theorem conv10 (k x : Int) (w : World) :
    Calls Try.prog 10 #[.int .i64 k, .int .u32 x] w fun e w' => e = .returned (.int .u32 (convF k x)) ∧ w' = w := by
  go_enter Try.func10, Try.ntmps10
  go_wp2
  all_goals go_ret
  · exact ⟨ret_i (b := convF k x) (by unfold convF; rw [if_pos (by simpa using ‹(k == 3) = true›)]), rfl⟩
  · exact ⟨ret_i (b := convF k x) (by unfold convF; rw [if_neg (by simpa using ‹(k == 3) = false›)]), rfl⟩
theorem conv11 (k x : Int) (w : World) :
    Calls Try.prog 11 #[.int .i64 k, .int .u32 x] w fun e w' => e = .returned (.int .u32 (convF k x)) ∧ w' = w := by
  go_enter Try.func11, Try.ntmps11
  go_wp2
  all_goals go_ret
  · exact ⟨ret_i (b := convF k x) (by unfold convF; rw [if_pos (by simpa using ‹(k == 3) = true›)]), rfl⟩
  · exact ⟨ret_i (b := convF k x) (by unfold convF; rw [if_neg (by simpa using ‹(k == 3) = false›)]), rfl⟩
theorem common12 (a b : Int) (w : World) :
    Calls Try.prog 12 #[.int .i64 a, .int .i64 b] w fun e w' => e = .returned (.int .i64 (commonF a b)) ∧ w' = w := by
  go_enter Try.func12, Try.ntmps12
  go_wp2
  all_goals go_ret
  all_goals (refine ⟨?_, rfl⟩; first | exact ret_i (b := commonF a b) (by simp_all [commonF]))
theorem common13 (a b : Int) (w : World) :
    Calls Try.prog 13 #[.int .i64 a, .int .i64 b] w fun e w' => e = .returned (.int .i64 (commonF a b)) ∧ w' = w := by
  go_enter Try.func13, Try.ntmps13
  go_wp2
  all_goals go_ret
  all_goals (refine ⟨?_, rfl⟩; first | exact ret_i (b := commonF a b) (by simp_all [commonF]))
theorem uns14 (k : Int) (w : World) :
    Calls Try.prog 14 #[.int .i64 k] w fun e w' => e = .returned (.int .i64 (unsF k)) ∧ w' = w := by
  go_enter Try.func14, Try.ntmps14
  go_wp2
  all_goals go_ret
  all_goals (refine ⟨?_, rfl⟩; first | exact ret_i (b := unsF k) (by simp_all [unsF]))
theorem uns15 (k : Int) (w : World) :
    Calls Try.prog 15 #[.int .i64 k] w fun e w' => e = .returned (.int .i64 (unsF k)) ∧ w' = w := by
  go_enter Try.func15, Try.ntmps15
  go_wp2
  all_goals go_ret
  all_goals (refine ⟨?_, rfl⟩; first | exact ret_i (b := unsF k) (by simp_all [unsF]))
theorem com16 (k : Int) (w : World) :
    Calls Try.prog 16 #[.int .i64 k] w fun e w' => e = .returned (.bool (comF k)) ∧ w' = w := by
  go_enter Try.func16, Try.ntmps16
  go_wp2
  all_goals go_ret
  all_goals (refine ⟨?_, rfl⟩; first | exact ret_b (b := comF k) (by simp_all [comF]))
theorem com17 (k : Int) (w : World) :
    Calls Try.prog 17 #[.int .i64 k] w fun e w' => e = .returned (.bool (comF k)) ∧ w' = w := by
  go_enter Try.func17, Try.ntmps17
  go_wp2
  all_goals go_ret
  all_goals (refine ⟨?_, rfl⟩; first | exact ret_b (b := comF k) (by simp_all [comF]))
theorem trap18 (k : Int) (w : World) :
    Calls Try.prog 18 #[.int .i64 k] w fun e w' => e = .returned (.bool (trapF k)) ∧ w' = w := by
  go_enter Try.func18, Try.ntmps18
  go_wp2
  all_goals go_ret
  all_goals (refine ⟨?_, rfl⟩; first | exact ret_b (b := trapF k) (by simp_all [trapF]))
theorem trap19 (k : Int) (w : World) :
    Calls Try.prog 19 #[.int .i64 k] w fun e w' => e = .returned (.bool (trapF k)) ∧ w' = w := by
  go_enter Try.func19, Try.ntmps19
  go_wp2
  all_goals go_ret
  all_goals (refine ⟨?_, rfl⟩; first | exact ret_b (b := trapF k) (by simp_all [trapF]))
end Go.Proofs.Ytbclbdeljllofaa
