/- The tree's small functions: none, both, take. -/
import Derived.Test.YtgnlplddppheiaaProg
import Derived.WalkKit
import Derived.Deep.OwnRows
namespace Go.Proofs.Ytgnlplddppheiaa
set_option linter.unusedVariables false
open Go.RowKit

theorem below1 (w : World) (o : Obj) : Below w.heap.size w (w.alloc o) := (Below.refl _ _).alloc (Nat.le_refl _) o
theorem below2 (w : World) (o p : Obj) : Below w.heap.size w ((w.alloc o).alloc p) := (below1 w o).alloc (by simp) p
theorem below3 (w : World) (o p q : Obj) : Below w.heap.size w (((w.alloc o).alloc p).alloc q) := (below2 w o p).alloc (by simp; omega) q

theorem none51 (w : World) :
    Calls Try.prog 51 #[] w fun e w' => e = .returned (.agg #[.int .i64 (-1), .int .i64 9223372036854775807, .int .i64 (-9223372036854775808), .int .i64 9223372036854775807, .int .i64 (-9223372036854775808), .int .i64 9223372036854775807, .int .i64 0]) ∧ Below w.heap.size w w' := by
  go_enter Try.func51, Try.ntmps51
  go_wp2
  exact bodyPost_ret (v := .agg #[.int .i64 (-1), .int .i64 9223372036854775807, .int .i64 (-9223372036854775808), .int .i64 9223372036854775807, .int .i64 (-9223372036854775808), .int .i64 9223372036854775807, .int .i64 0]) (by simp [results, Try.results51, go_sem]) rfl ⟨rfl, (Below.refl _ _).alloc (Nat.le_refl _) _⟩

set_option maxHeartbeats 4000000 in
theorem both60 (a0 a1 a2 a3 a4 a5 a6 b0 b1 b2 b3 b4 b5 b6 : Int) (w : World) :
    Calls Try.prog 60 #[.agg #[.int .i64 a0, .int .i64 a1, .int .i64 a2, .int .i64 a3, .int .i64 a4, .int .i64 a5, .int .i64 a6], .agg #[.int .i64 b0, .int .i64 b1, .int .i64 b2, .int .i64 b3, .int .i64 b4, .int .i64 b5, .int .i64 b6]] w
      fun e w' => e = .returned (.agg #[.int .i64 (-1), .int .i64 (min a1 b1), .int .i64 (max a2 b2), .int .i64 (min a3 b3), .int .i64 (max a4 b4), .int .i64 (min a5 b5), .int .i64 0]) ∧ Below w.heap.size w w' := by
  go_enter Try.func60, Try.ntmps60
  go_wp2
  all_goals
    refine bodyPost_ret (v := .agg #[.int .i64 (-1), .int .i64 (min a1 b1), .int .i64 (max a2 b2), .int .i64 (min a3 b3), .int .i64 (max a4 b4), .int .i64 (min a5 b5), .int .i64 0]) (by simp [results, Try.results60, go_sem]; omega) rfl ⟨rfl, below3 _ _ _ _⟩

theorem take61 {tb o : Nat} {r t n : Int} {w : World} (h5 : w.cell? ⟨tb, o + 5, none⟩ = some (.int .i64 r)) (h6 : w.cell? ⟨tb, o + 6, none⟩ = some (.int .i64 t)) (f5 : w.frozen? ⟨tb, o + 5, none⟩ = false) (f6 : w.frozen? ⟨tb, o + 6, none⟩ = false)
    (r0 : -9223372036854775808 ≤ r - n) (r1 : r - n ≤ 9223372036854775807) (t0 : -9223372036854775808 ≤ t + n) (t1 : t + n ≤ 9223372036854775807) :
    Calls Try.prog 61 #[.pointer (some ⟨tb, o, none⟩), .int .i64 n] w fun e w' => e = .returned (.tuple #[]) ∧ w' = (w.setCell ⟨tb, o + 5, none⟩ (.int .i64 (r - n))).setCell ⟨tb, o + 6, none⟩ (.int .i64 (t + n)) := by
  go_enter Try.func61, Try.ntmps61
  go_wp2
  go_end0
  exact ⟨rfl, rfl⟩
end Go.Proofs.Ytgnlplddppheiaa
