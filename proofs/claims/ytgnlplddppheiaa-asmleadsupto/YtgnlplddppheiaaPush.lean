/- pushGroup, way by way. -/
import Derived.Test.YtgnlplddppheiaaKept
import Derived.OwnWalk
namespace Go.Proofs.Ytgnlplddppheiaa
open Go.RowKit
set_option linter.unusedVariables false

set_option maxHeartbeats 1000000 in
/-- Nobody of the group leads over it. -/
theorem push_skip {tb n k o : Nat} {h : Nat → Int} {v : Value} {w : World} (ht : IsTree w tb n h) (hk : k < n) (hn : n ≤ 4000000) (hs : (o : Int) < h (7 * k + 1) ∨ h (7 * k + 4) ≤ o) :
    Calls Try.prog 53 #[.slice (some ⟨tb, 0, none⟩) n n, .int .i64 k, .int .i64 o, v] w fun e w' => e = .returned v ∧ w' = w := by
  have c1 := ht.cell hk (show 1 < 7 by omega)
  have c4 := ht.cell hk (show 4 < 7 by omega)
  generalize h (7 * k + 1) = x1 at *
  generalize h (7 * k + 4) = x4 at *
  by_cases h1 : (o : Int) < x1
  · clear hs
    go_enter Try.func53, Try.ntmps53
    go_wp2
    go_ret
    exact ⟨rfl, rfl⟩
  · have h4 : x4 ≤ o := by omega
    clear hs
    go_enter Try.func53, Try.ntmps53
    go_wp2
    go_ret
    exact ⟨rfl, rfl⟩

set_option maxHeartbeats 1000000 in
/-- All of the group lead over it, and have room. -/
theorem push_take {tb n k o : Nat} {h : Nat → Int} {v : Value} {w : World} (ht : IsTree w tb n h) (hk : k < n) (hn : n ≤ 4000000) (h1 : h (7 * k + 1) ≤ o) (h4 : (o : Int) < h (7 * k + 4)) (h2 : h (7 * k + 2) ≤ o) (h3 : (o : Int) < h (7 * k + 3)) (h5 : 0 < h (7 * k + 5))
    (r1 : h (7 * k + 5) ≤ 9223372036854775807) (t0 : 0 ≤ h (7 * k + 6)) (t1 : h (7 * k + 6) ≤ 4000000) :
    Calls Try.prog 53 #[.slice (some ⟨tb, 0, none⟩) n n, .int .i64 k, .int .i64 o, v] w fun e w' => e = .returned v ∧ IsTree w' tb n (takeH h k 1) ∧ Kept (fun b => b = tb) w w' := by
  have c1 := ht.cell hk (show 1 < 7 by omega)
  have c2 := ht.cell hk (show 2 < 7 by omega)
  have c3 := ht.cell hk (show 3 < 7 by omega)
  have c4 := ht.cell hk (show 4 < 7 by omega)
  have c5 := ht.cell hk (show 5 < 7 by omega)
  have hT := take_tree (m := 1) ht hk (by omega) (by omega) (by omega) (by omega)
  generalize h (7 * k + 1) = x1 at *
  generalize h (7 * k + 2) = x2 at *
  generalize h (7 * k + 3) = x3 at *
  generalize h (7 * k + 4) = x4 at *
  generalize h (7 * k + 5) = x5 at *
  generalize h (7 * k + 6) = x6 at *
  go_enter Try.func53, Try.ntmps53
  go_wp2_with (go_at_call 61; refine hT.mono ?_; rintro e w' ⟨rfl, hw1, hw2⟩)
  go_ret
  exact ⟨rfl, hw1, hw2⟩
end Go.Proofs.Ytgnlplddppheiaa
