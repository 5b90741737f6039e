/- Next at a place that is none, by the document. -/
import Derived.Test.YtfnekmhhhjdeiaaNext
namespace Go.Proofs.Ytfnekmhhhjdeiaa
open Go.RowKit
set_option linter.unusedVariables false

set_option maxHeartbeats 1000000 in
theorem next10_arg (s : ByteArray) (k : Int) (hk : k < 0 ∨ (s.size : Int) < k) (w : World) : Calls Try.prog 10 #[.string s, .int .i64 k] w fun e w' => e = .returned argV ∧ Below w.heap.size w w' := by
  go_enter Try.func10, Try.ntmps10
  go_wp2_with fail
  all_goals first
    | exact bodyPost_ret (v := argV) (by simp [results, Try.results10, go_sem, argV, zeroV]) rfl ⟨rfl, below_box _ _⟩
    | (exfalso; simp_all; omega)

end Go.Proofs.Ytfnekmhhhjdeiaa
