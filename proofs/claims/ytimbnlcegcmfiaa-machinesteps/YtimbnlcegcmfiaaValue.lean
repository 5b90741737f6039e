/- What goes to D. -/
import Derived.Test.YtimbnlcegcmfiaaParts
import Derived.Test.YtimbnlcegcmfiaaWAlu
import Derived.Deep.RegionWith
namespace Go.Proofs.Ytimbnlcegcmfiaa
open Go.RowKit
set_option linter.unusedVariables false
section
variable {w : World} {N p q r : Nat} {sl : Value} {s : St}

theorem mtrap67_0 (w : World) : Calls Try.prog 67 #[.int .i64 0] w fun e w' => e = .returned (.int .i64 0) ∧ w' = w := by
  go_enter Try.func67, Try.ntmps67
  go_wp2
  go_ret
  exact ⟨rfl, rfl⟩
theorem mtrap67_1 (w : World) : Calls Try.prog 67 #[.int .i64 1] w fun e w' => e = .returned (.int .i64 5) ∧ w' = w := by
  go_enter Try.func67, Try.ntmps67
  go_wp2
  go_ret
  exact ⟨rfl, rfl⟩

theorem ret_uk {a b c d : Int} (h : a = b) (g : c = d) : Ending.returned (.tuple #[.int .u32 a, .int .i64 c]) = .returned (.tuple #[.int .u32 b, .int .i64 d]) := by rw [h, g]
theorem below_box (w : World) (o : Obj) : Below w.heap.size w (w.alloc o) := (Below.refl _ _).alloc (Nat.le_refl _) _
theorem below_box2 {w w1 : World} {o : Obj} (h : Below (w.alloc o).heap.size (w.alloc o) w1) : Below w.heap.size w w1 := (below_box w o).trans (h.mono (by simp))

theorem boxed {w w1 : World} {c : Array Value} {t : TypeId} (hb : Below (w.alloc (.cells c t)).drew.heap.size (w.alloc (.cells c t)).drew w1) (i : Nat) (v : Value) (hv : c[i]? = some v) : w1.cell? ⟨w.heap.size, i, none⟩ = some v := by
  have := hb.cell (p := ⟨w.heap.size, i, none⟩) (by simp)
  rw [this]
  have hb2 : (w.alloc (.cells c t)).drew.heap[w.heap.size]? = some (.cells c t) := Deep.blk_alloc_new w (.cells c t)
  simp only [World.cell?, hb2]
  exact hv

theorem value_addi (h : IsM w N p q r sl s) (d b i : Int) (a : Nat) (ha : a < 16) :
    Calls Try.prog 72 #[.pointer (some ⟨p, 0, none⟩), .agg #[.int .i64 32, .int .i64 d, .int .i64 a, .int .i64 b, .int .i32 i]] w fun e w' => e = .returned (.tuple #[.int .u32 (adr s a i), .int .i64 0]) ∧ Below w.heap.size w w' := by
  go_enter Try.func72, Try.ntmps72
  go_wp2_with (go_at_call 69; refine (address69 (h.alloc _) _ _ _ _ a ha).mono ?_; rintro e w1 ⟨rfl, hb1⟩)
  go_ret2
  exact ⟨rfl, below_box2 hb1⟩

theorem value_low (d a b i : Int) (v : Value) (w : World) :
    Calls Try.prog 72 #[v, .agg #[.int .i64 33, .int .i64 d, .int .i64 a, .int .i64 b, .int .i32 i]] w fun e w' => e = .returned (.tuple #[.int .u32 (i % 4294967296), .int .i64 0]) ∧ Below w.heap.size w w' := by
  go_enter Try.func72, Try.ntmps72
  go_wp2
  go_ret2
  exact ⟨rfl, below_box w _⟩

theorem value_high (h : IsM w N p q r sl s) (hO : Ok s) (a b i : Int) (d : Nat) (hd : d < 16) :
    Calls Try.prog 72 #[.pointer (some ⟨p, 0, none⟩), .agg #[.int .i64 34, .int .i64 d, .int .i64 a, .int .i64 b, .int .i32 i]] w fun e w' => e = .returned (.tuple #[.int .u32 (highF (s.reg d) i), .int .i64 0]) ∧ Below w.heap.size w w' := by
  have hc := h.reg d hd
  have hp := h.plt
  obtain ⟨r0, r1⟩ := hO.regs d hd
  go_enter Try.func72, Try.ntmps72
  go_wp2
  go_quiet (fail)
  go_wp2
  go_ret2
  exact ⟨rfl, (below_box w _).trans ((below_drewN _ _).mono (by simp))⟩

theorem value_alu (h : IsM w N p q r sl s) (hO : Ok s) (op d i : Int) (a b : Nat) (ha : a < 16) (hb : b < 16) (o1 : op ≤ 19) :
    Calls Try.prog 72 #[.pointer (some ⟨p, 0, none⟩), .agg #[.int .i64 op, .int .i64 d, .int .i64 a, .int .i64 b, .int .i32 i]] w fun e w' => e = .returned (.tuple #[.int .u32 (aluV op (s.reg a) (s.reg b)), .int .i64 (aluT op (s.reg b))]) ∧ Below w.heap.size w w' := by
  have hc := h.reg a ha
  have hc2 := h.reg b hb
  have hp := h.plt
  obtain ⟨a0, a1⟩ := hO.regs a ha
  obtain ⟨b0, b1⟩ := hO.regs b hb
  have n1 : ¬ op = 32 := by omega
  have n2 : ¬ op = 33 := by omega
  have n3 : ¬ op = 34 := by omega
  have n4 : ¬ op = 35 := by omega
  have n5 : ¬ op = 36 := by omega
  have n6 : ¬ op = 44 := by omega
  go_enter Try.func72, Try.ntmps72
  go_wp2
  go_quiet (exact Calls.quiet_of_same (alu7 op _ _ a0 a1 b0 b1 _))
  go_wp2
  go_ret2
  exact ⟨rfl, (below_box w _).trans ((below_drewN _ _).mono (by simp))⟩

theorem below_drew (w : World) : Below w.heap.size w w.drew := ⟨rfl, rfl, rfl, Nat.le_refl _, fun _ _ => rfl⟩
end
end Go.Proofs.Ytimbnlcegcmfiaa
