/- New, of both: so many bytes, all 0, or none. -/
import Derived.Test.YtimbnlcegcmfiaaMMem
namespace Go.Proofs.Ytimbnlcegcmfiaa
open Go.RowKit

theorem info5 : (Try.prog.info? 5).map (fun i => (i.zero, i.size, i.bytes)) = some (some (.int .u8 0), 1, 1) := by kernel_rfl

/-- The world behind New. -/
def newW (w : World) (T : TypeId) (n : Nat) : World := (w.alloc (.cells (madeCells #[.int .u8 0] n) 5)).alloc (.cells #[.slice (some ⟨w.heap.size, 0, none⟩) n n] T)

theorem newW_is (w : World) (T : TypeId) (n : Nat) (lo : 1 ≤ n) (hi : n ≤ 262144) : IsMem (newW w T n) T (w.heap.size + 1) w.heap.size n (fun _ => 0) := by
  refine ⟨?_, ?_, by omega, lo, hi⟩
  · have := Deep.blk_alloc_new (w.alloc (.cells (madeCells #[.int .u8 0] n) 5)) (.cells #[.slice (some ⟨w.heap.size, 0, none⟩) n n] T)
    simpa [newW] using this
  · exact (World.rowIs_made w (.int .u8 0) n 5).alloc _

theorem newW_below (w : World) (T : TypeId) (n : Nat) : Below w.heap.size w (newW w T n) :=
  ((Below.refl _ _).alloc (Nat.le_refl _) _).alloc (by simp) _

theorem newW_size (w : World) (T : TypeId) (n : Nat) : (newW w T n).heap.size = w.heap.size + 2 := by simp [newW]

theorem new18_yes (n : Nat) (lo : 1 ≤ n) (hi : n ≤ 262144) (w : World) :
    Calls Try.prog 44 #[.int .i64 n] w fun e w' => e = .returned (.tuple #[.pointer (some ⟨w.heap.size + 1, 0, none⟩), .int .i64 0]) ∧ w' = newW w 92 n := by
  have hmk := run_make_row' (P := Try.prog) 39 5 (.int .u8 0) 1 Try.underlying39 info5 rfl .i64 .i64 n (by omega) (by omega)
  go_enter Try.func44, Try.ntmps44
  go_wp2
  go_ret2
  exact ⟨rfl, rfl⟩

theorem new18_no (n : Int) (h : n < 1 ∨ 262144 < n) (w : World) :
    Calls Try.prog 44 #[.int .i64 n] w fun e w' => e = .returned (.tuple #[.pointer none, .int .i64 1]) ∧ w' = w := by
  by_cases h1 : n < 1
  · clear h
    go_enter Try.func44, Try.ntmps44
    go_wp2
    go_ret2
    exact ⟨rfl, rfl⟩
  · have h2 : 262144 < n := by omega
    clear h
    go_enter Try.func44, Try.ntmps44
    go_wp2
    go_ret2
    exact ⟨rfl, rfl⟩

theorem new19_yes (n : Nat) (lo : 1 ≤ n) (hi : n ≤ 262144) (w : World) :
    Calls Try.prog 28 #[.int .i64 n] w fun e w' => e = .returned (.tuple #[.pointer (some ⟨w.heap.size + 1, 0, none⟩), .int .i64 0]) ∧ w' = newW w 50 n := by
  have hmk := run_make_row' (P := Try.prog) 39 5 (.int .u8 0) 1 Try.underlying39 info5 rfl .i64 .i64 n (by omega) (by omega)
  go_enter Try.func28, Try.ntmps28
  go_wp2
  go_ret2
  exact ⟨rfl, rfl⟩

theorem new19_no (n : Int) (h : n < 1 ∨ 262144 < n) (w : World) :
    Calls Try.prog 28 #[.int .i64 n] w fun e w' => e = .returned (.tuple #[.pointer none, .int .i64 1]) ∧ w' = w := by
  by_cases h1 : n < 1
  · clear h
    go_enter Try.func28, Try.ntmps28
    go_wp2
    go_ret2
    exact ⟨rfl, rfl⟩
  · have h2 : 262144 < n := by omega
    clear h
    go_enter Try.func28, Try.ntmps28
    go_wp2
    go_ret2
    exact ⟨rfl, rfl⟩
end Go.Proofs.Ytimbnlcegcmfiaa
