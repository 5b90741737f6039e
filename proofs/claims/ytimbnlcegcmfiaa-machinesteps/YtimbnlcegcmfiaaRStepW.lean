/- The document's machine: a step, whatever the instruction. -/
import Derived.Test.YtimbnlcegcmfiaaRFetch
import Derived.Test.YtimbnlcegcmfiaaRStep
namespace Go.Proofs.Ytimbnlcegcmfiaa
open Go.RowKit
set_option linter.unusedVariables false
section
variable {w : World} {m : Im} {N p q r : Nat} {sl : Value} {s : St}

theorem cell_allocY {W : World} {o : Obj} {a : Addr} (h : a.block < W.heap.size) : (W.alloc o).cell? a = W.cell? a := World.cell?_of_block (w := W) (Below.heap_alloc _ _ _ h)
theorem cells5Y {w1 : World} {g : Nat} (hg : g < w1.heap.size) {u0 u1 u2 u3 u4 : Value} (k0 : w1.cell? ⟨g, 0, none⟩ = some u0) (k1 : w1.cell? ⟨g, 1, none⟩ = some u1) (k2 : w1.cell? ⟨g, 2, none⟩ = some u2) (k3 : w1.cell? ⟨g, 3, none⟩ = some u3) (k4 : w1.cell? ⟨g, 4, none⟩ = some u4) (v0 v1 v2 v3 v4 : Value) (o : Obj) :
    ((((((w1.setCell ⟨g, 0, none⟩ v0).setCell ⟨g, 1, none⟩ v1).setCell ⟨g, 2, none⟩ v2).setCell ⟨g, 3, none⟩ v3).setCell ⟨g, 4, none⟩ v4).alloc o).cell? ⟨g, 0, none⟩ = some v0 ∧
    ((((((w1.setCell ⟨g, 0, none⟩ v0).setCell ⟨g, 1, none⟩ v1).setCell ⟨g, 2, none⟩ v2).setCell ⟨g, 3, none⟩ v3).setCell ⟨g, 4, none⟩ v4).alloc o).cell? ⟨g, 1, none⟩ = some v1 ∧
    ((((((w1.setCell ⟨g, 0, none⟩ v0).setCell ⟨g, 1, none⟩ v1).setCell ⟨g, 2, none⟩ v2).setCell ⟨g, 3, none⟩ v3).setCell ⟨g, 4, none⟩ v4).alloc o).cell? ⟨g, 2, none⟩ = some v2 ∧
    ((((((w1.setCell ⟨g, 0, none⟩ v0).setCell ⟨g, 1, none⟩ v1).setCell ⟨g, 2, none⟩ v2).setCell ⟨g, 3, none⟩ v3).setCell ⟨g, 4, none⟩ v4).alloc o).cell? ⟨g, 3, none⟩ = some v3 ∧
    ((((((w1.setCell ⟨g, 0, none⟩ v0).setCell ⟨g, 1, none⟩ v1).setCell ⟨g, 2, none⟩ v2).setCell ⟨g, 3, none⟩ v3).setCell ⟨g, 4, none⟩ v4).alloc o).cell? ⟨g, 4, none⟩ = some v4 := by
  refine ⟨?_, ?_, ?_, ?_, ?_⟩
  all_goals
    rw [cell_allocY (by simpa using hg)]
    simp [go_sem, k0, k1, k2, k3, k4]

theorem codeWord_bytesY {c : ByteArray} {k : Nat} {B0 B1 B2 B3 : UInt8} (h0 : k < c.size) (h1 : k + 1 < c.size) (h2 : k + 2 < c.size) (h3 : k + 3 < c.size) (e0 : c[k] = B0) (e1 : c[k + 1] = B1) (e2 : c[k + 2] = B2) (e3 : c[k + 3] = B3) :
    bits .or .u32 (bits .or .u32 (bits .or .u32 (bits .or .u32 0 ((B3.toNat : Int) % 4294967296) * 256 % 4294967296) ((B2.toNat : Int) % 4294967296) * 256 % 4294967296) ((B1.toNat : Int) % 4294967296) * 256 % 4294967296) ((B0.toNat : Int) % 4294967296) = codeWord c k := by
  subst e0 e1 e2 e3
  exact codeWord_down h0 h1 h2 h3

set_option maxHeartbeats 4000000 in
theorem fetched35_yes (h : IsR w m N p q r sl s) (hO : Ok s) (k : Nat) (hk : s.pc = (k : Int)) (hb : placeB s.code s.pc = true) (hl : k + 4 ≤ s.code.size) (hu : uOk (codeWord s.code k) = true) :
    Calls Try.prog 35 #[.pointer (some ⟨p, 0, none⟩)] w fun e w' => e = .returned (.tuple #[.agg #[.int .i64 (uOp (codeWord s.code k)), .int .i64 (uD (codeWord s.code k)), .int .i64 (uA (codeWord s.code k)), .int .i64 (uB (codeWord s.code k)), .int .i32 (uI (codeWord s.code k))], .bool true]) ∧ Below w.heap.size w w' := by
  have hdec : ∀ u, u = codeWord s.code k → ∀ w, Calls Try.prog 52 #[.int .u32 u] w fun e w' => e = .returned (.tuple #[.agg #[.int .i64 (uOp (codeWord s.code k)), .int .i64 (uD (codeWord s.code k)), .int .i64 (uA (codeWord s.code k)), .int .i64 (uB (codeWord s.code k)), .int .i32 (uI (codeWord s.code k))], .int .i64 0]) ∧ Below w.heap.size w w' := by
    rintro u rfl w
    exact dec52_yes _ (codeWord_lo _ _) (codeWord_hi _ _) hu w
  clear hu
  have hp := h.plt
  have hc0 := h.c0
  have hc23 := h.c23
  obtain ⟨b0, b1, b2⟩ := place_bounds hb
  rw [hk] at hc23 b0 b1 b2
  have hs := hO.csize
  have h1' : decide ((k : Int) < 0) = false := decide_eq_false (by omega)
  have h2' : ((k : Int) % 4 != 0) = false := by simp [b2]
  have h2'' : ((k : Int).tmod 4 != 0) = false := by rw [Int.tmod_eq_emod_of_nonneg b0]; exact h2'
  have h3' : decide ((s.code.size : Int) ≤ (k : Int)) = false := decide_eq_false (by omega)
  have g0 : IntKind.i64.wrap ((k : Int) + 0) = (k : Int) := by simp [IntKind.wrap, IntKind.bits, IntKind.signed]; omega
  have g1 : IntKind.i64.wrap ((k : Int) + 1) = (k : Int) + 1 := by simp [IntKind.wrap, IntKind.bits, IntKind.signed]; omega
  have g2 : IntKind.i64.wrap ((k : Int) + 2) = (k : Int) + 2 := by simp [IntKind.wrap, IntKind.bits, IntKind.signed]; omega
  have g3 : IntKind.i64.wrap ((k : Int) + 3) = (k : Int) + 3 := by simp [IntKind.wrap, IntKind.bits, IntKind.signed]; omega
  have l0 : (k : Int) < (s.code.size : Int) := by omega
  have l1 : (k : Int) + 1 < (s.code.size : Int) := by omega
  have l2 : (k : Int) + 2 < (s.code.size : Int) := by omega
  have l3 : (k : Int) + 3 < (s.code.size : Int) := by omega
  have t1 : ((k : Int) + 1).toNat = k + 1 := by omega
  have t2 : ((k : Int) + 2).toNat = k + 2 := by omega
  have t3 : ((k : Int) + 3).toNat = k + 3 := by omega
  have q0 : k < s.code.size := by omega
  have q1 : k + 1 < s.code.size := by omega
  have q2 : k + 2 < s.code.size := by omega
  have q3 : k + 3 < s.code.size := by omega
  have z1 : 0 ≤ (k : Int) + 1 := by omega
  have z2 : 0 ≤ (k : Int) + 2 := by omega
  have z3 : 0 ≤ (k : Int) + 3 := by omega
  obtain ⟨B0, e0⟩ : ∃ B, s.code[k] = B := ⟨_, rfl⟩
  obtain ⟨B1, e1⟩ : ∃ B, s.code[k + 1] = B := ⟨_, rfl⟩
  obtain ⟨B2, e2⟩ : ∃ B, s.code[k + 2] = B := ⟨_, rfl⟩
  obtain ⟨B3, e3⟩ : ∃ B, s.code[k + 3] = B := ⟨_, rfl⟩
  have hcw := codeWord_bytesY q0 q1 q2 q3 e0 e1 e2 e3
  clear h hb hO
  go_enter Try.func35, Try.ntmps35
  go_wp2
  go_quiet (fail)
  go_wp2
  refine wp_loop_rounds 5 ?_
  rw [rounds_succ]
  go_wp2
  go_quiet (fail)
  go_wp2
  rw [rounds_succ]
  go_wp2
  go_quiet (fail)
  go_wp2
  rw [rounds_succ]
  go_wp2
  go_quiet (fail)
  go_wp2
  rw [rounds_succ]
  go_wp2
  go_quiet (fail)
  go_wp2
  rw [rounds_succ]
  go_wp2_with (first | (go_at_call 52; refine (hdec _ rfl _).mono ?_; rintro e w1 ⟨rfl, hb1⟩; obtain ⟨⟨k0, k1, k2, k3, k4⟩, hz, hb2⟩ := zero_kept (w := w) hb1 ⟨rfl, rfl, rfl, Nat.le_refl _, fun _ _ => rfl⟩; have y0 := hz 0; have y1 := hz 1; have y2 := hz 2; have y3 := hz 3; have y4 := hz 4; have hs1 : w.heap.size < w1.heap.size := (by have hq := hb1.size; simp at hq; omega); clear hz hb1))
  obtain ⟨C0, C1, C2, C3, C4⟩ := cells5Y hs1 k0 k1 k2 k3 k4 (.int .i64 (uOp (codeWord s.code k))) (.int .i64 (uD (codeWord s.code k))) (.int .i64 (uA (codeWord s.code k))) (.int .i64 (uB (codeWord s.code k))) (.int .i32 (uI (codeWord s.code k))) (.cells #[.int .i64 (uOp (codeWord s.code k)), .int .i64 (uD (codeWord s.code k)), .int .i64 (uA (codeWord s.code k)), .int .i64 (uB (codeWord s.code k)), .int .i32 (uI (codeWord s.code k))] 74)
  refine bodyPost_ret (v := .tuple #[.agg #[.int .i64 (uOp (codeWord s.code k)), .int .i64 (uD (codeWord s.code k)), .int .i64 (uA (codeWord s.code k)), .int .i64 (uB (codeWord s.code k)), .int .i32 (uI (codeWord s.code k))], .bool true]) (by simp [results, Try.results35, go_sem, C0, C1, C2, C3, C4]) rfl ⟨rfl, ?_⟩
  first
    | exact below_set5 (hb2.alloc hb2.size _) _ _ _ _ _
    | exact (below_set5 hb2 _ _ _ _ _).alloc (by simp; omega) _

end
end Go.Proofs.Ytimbnlcegcmfiaa

namespace Go.Proofs.Ytimbnlcegcmfiaa
open Go.RowKit
set_option linter.unusedVariables false
section
variable {w : World} {m : Im} {N p q r : Nat} {sl : Value} {s : St}

theorem cell_allocN {W : World} {o : Obj} {a : Addr} (h : a.block < W.heap.size) : (W.alloc o).cell? a = W.cell? a := World.cell?_of_block (w := W) (Below.heap_alloc _ _ _ h)
theorem cells5N {w1 : World} {g : Nat} (hg : g < w1.heap.size) {u0 u1 u2 u3 u4 : Value} (k0 : w1.cell? ⟨g, 0, none⟩ = some u0) (k1 : w1.cell? ⟨g, 1, none⟩ = some u1) (k2 : w1.cell? ⟨g, 2, none⟩ = some u2) (k3 : w1.cell? ⟨g, 3, none⟩ = some u3) (k4 : w1.cell? ⟨g, 4, none⟩ = some u4) (v0 v1 v2 v3 v4 : Value) (o : Obj) :
    ((((((w1.setCell ⟨g, 0, none⟩ v0).setCell ⟨g, 1, none⟩ v1).setCell ⟨g, 2, none⟩ v2).setCell ⟨g, 3, none⟩ v3).setCell ⟨g, 4, none⟩ v4).alloc o).cell? ⟨g, 0, none⟩ = some v0 ∧
    ((((((w1.setCell ⟨g, 0, none⟩ v0).setCell ⟨g, 1, none⟩ v1).setCell ⟨g, 2, none⟩ v2).setCell ⟨g, 3, none⟩ v3).setCell ⟨g, 4, none⟩ v4).alloc o).cell? ⟨g, 1, none⟩ = some v1 ∧
    ((((((w1.setCell ⟨g, 0, none⟩ v0).setCell ⟨g, 1, none⟩ v1).setCell ⟨g, 2, none⟩ v2).setCell ⟨g, 3, none⟩ v3).setCell ⟨g, 4, none⟩ v4).alloc o).cell? ⟨g, 2, none⟩ = some v2 ∧
    ((((((w1.setCell ⟨g, 0, none⟩ v0).setCell ⟨g, 1, none⟩ v1).setCell ⟨g, 2, none⟩ v2).setCell ⟨g, 3, none⟩ v3).setCell ⟨g, 4, none⟩ v4).alloc o).cell? ⟨g, 3, none⟩ = some v3 ∧
    ((((((w1.setCell ⟨g, 0, none⟩ v0).setCell ⟨g, 1, none⟩ v1).setCell ⟨g, 2, none⟩ v2).setCell ⟨g, 3, none⟩ v3).setCell ⟨g, 4, none⟩ v4).alloc o).cell? ⟨g, 4, none⟩ = some v4 := by
  refine ⟨?_, ?_, ?_, ?_, ?_⟩
  all_goals
    rw [cell_allocN (by simpa using hg)]
    simp [go_sem, k0, k1, k2, k3, k4]

theorem codeWord_bytesN {c : ByteArray} {k : Nat} {B0 B1 B2 B3 : UInt8} (h0 : k < c.size) (h1 : k + 1 < c.size) (h2 : k + 2 < c.size) (h3 : k + 3 < c.size) (e0 : c[k] = B0) (e1 : c[k + 1] = B1) (e2 : c[k + 2] = B2) (e3 : c[k + 3] = B3) :
    bits .or .u32 (bits .or .u32 (bits .or .u32 (bits .or .u32 0 ((B3.toNat : Int) % 4294967296) * 256 % 4294967296) ((B2.toNat : Int) % 4294967296) * 256 % 4294967296) ((B1.toNat : Int) % 4294967296) * 256 % 4294967296) ((B0.toNat : Int) % 4294967296) = codeWord c k := by
  subst e0 e1 e2 e3
  exact codeWord_down h0 h1 h2 h3

set_option maxHeartbeats 4000000 in
theorem fetched35_no (h : IsR w m N p q r sl s) (hO : Ok s) (k : Nat) (hk : s.pc = (k : Int)) (hb : placeB s.code s.pc = true) (hl : k + 4 ≤ s.code.size) (hu : uOk (codeWord s.code k) = false) :
    Calls Try.prog 35 #[.pointer (some ⟨p, 0, none⟩)] w fun e w' => e = .returned (.tuple #[.agg #[.int .i64 0, .int .i64 0, .int .i64 0, .int .i64 0, .int .i32 0], .bool false]) ∧ Below w.heap.size w w' := by
  have hdec : ∀ u, u = codeWord s.code k → ∀ w, Calls Try.prog 52 #[.int .u32 u] w fun e w' => e = .returned (.tuple #[.agg #[.int .i64 0, .int .i64 0, .int .i64 0, .int .i64 0, .int .i32 0], .int .i64 1]) ∧ Below w.heap.size w w' := by
    rintro u rfl w
    exact dec52_no _ (codeWord_lo _ _) (codeWord_hi _ _) hu w
  clear hu
  have hp := h.plt
  have hc0 := h.c0
  have hc23 := h.c23
  obtain ⟨b0, b1, b2⟩ := place_bounds hb
  rw [hk] at hc23 b0 b1 b2
  have hs := hO.csize
  have h1' : decide ((k : Int) < 0) = false := decide_eq_false (by omega)
  have h2' : ((k : Int) % 4 != 0) = false := by simp [b2]
  have h2'' : ((k : Int).tmod 4 != 0) = false := by rw [Int.tmod_eq_emod_of_nonneg b0]; exact h2'
  have h3' : decide ((s.code.size : Int) ≤ (k : Int)) = false := decide_eq_false (by omega)
  have g0 : IntKind.i64.wrap ((k : Int) + 0) = (k : Int) := by simp [IntKind.wrap, IntKind.bits, IntKind.signed]; omega
  have g1 : IntKind.i64.wrap ((k : Int) + 1) = (k : Int) + 1 := by simp [IntKind.wrap, IntKind.bits, IntKind.signed]; omega
  have g2 : IntKind.i64.wrap ((k : Int) + 2) = (k : Int) + 2 := by simp [IntKind.wrap, IntKind.bits, IntKind.signed]; omega
  have g3 : IntKind.i64.wrap ((k : Int) + 3) = (k : Int) + 3 := by simp [IntKind.wrap, IntKind.bits, IntKind.signed]; omega
  have l0 : (k : Int) < (s.code.size : Int) := by omega
  have l1 : (k : Int) + 1 < (s.code.size : Int) := by omega
  have l2 : (k : Int) + 2 < (s.code.size : Int) := by omega
  have l3 : (k : Int) + 3 < (s.code.size : Int) := by omega
  have t1 : ((k : Int) + 1).toNat = k + 1 := by omega
  have t2 : ((k : Int) + 2).toNat = k + 2 := by omega
  have t3 : ((k : Int) + 3).toNat = k + 3 := by omega
  have q0 : k < s.code.size := by omega
  have q1 : k + 1 < s.code.size := by omega
  have q2 : k + 2 < s.code.size := by omega
  have q3 : k + 3 < s.code.size := by omega
  have z1 : 0 ≤ (k : Int) + 1 := by omega
  have z2 : 0 ≤ (k : Int) + 2 := by omega
  have z3 : 0 ≤ (k : Int) + 3 := by omega
  obtain ⟨B0, e0⟩ : ∃ B, s.code[k] = B := ⟨_, rfl⟩
  obtain ⟨B1, e1⟩ : ∃ B, s.code[k + 1] = B := ⟨_, rfl⟩
  obtain ⟨B2, e2⟩ : ∃ B, s.code[k + 2] = B := ⟨_, rfl⟩
  obtain ⟨B3, e3⟩ : ∃ B, s.code[k + 3] = B := ⟨_, rfl⟩
  have hcw := codeWord_bytesN q0 q1 q2 q3 e0 e1 e2 e3
  clear h hb hO
  go_enter Try.func35, Try.ntmps35
  go_wp2
  go_quiet (fail)
  go_wp2
  refine wp_loop_rounds 5 ?_
  rw [rounds_succ]
  go_wp2
  go_quiet (fail)
  go_wp2
  rw [rounds_succ]
  go_wp2
  go_quiet (fail)
  go_wp2
  rw [rounds_succ]
  go_wp2
  go_quiet (fail)
  go_wp2
  rw [rounds_succ]
  go_wp2
  go_quiet (fail)
  go_wp2
  rw [rounds_succ]
  go_wp2_with (first | (go_at_call 52; refine (hdec _ rfl _).mono ?_; rintro e w1 ⟨rfl, hb1⟩; obtain ⟨⟨k0, k1, k2, k3, k4⟩, hz, hb2⟩ := zero_kept (w := w) hb1 ⟨rfl, rfl, rfl, Nat.le_refl _, fun _ _ => rfl⟩; have y0 := hz 0; have y1 := hz 1; have y2 := hz 2; have y3 := hz 3; have y4 := hz 4; have hs1 : w.heap.size < w1.heap.size := (by have hq := hb1.size; simp at hq; omega); clear hz hb1))
  obtain ⟨C0, C1, C2, C3, C4⟩ := cells5N hs1 k0 k1 k2 k3 k4 (.int .i64 0) (.int .i64 0) (.int .i64 0) (.int .i64 0) (.int .i32 0) (.cells #[.int .i64 0, .int .i64 0, .int .i64 0, .int .i64 0, .int .i32 0] 74)
  refine bodyPost_ret (v := .tuple #[.agg #[.int .i64 0, .int .i64 0, .int .i64 0, .int .i64 0, .int .i32 0], .bool false]) (by simp [results, Try.results35, go_sem, C0, C1, C2, C3, C4]) rfl ⟨rfl, ?_⟩
  first
    | exact below_set5 (hb2.alloc hb2.size _) _ _ _ _ _
    | exact (below_set5 hb2 _ _ _ _ _).alloc (by simp; omega) _

end
end Go.Proofs.Ytimbnlcegcmfiaa

namespace Go.Proofs.Ytimbnlcegcmfiaa
open Go.RowKit
set_option linter.unusedVariables false
section
variable {w : World} {m : Im} {N p q r : Nat} {sl : Value} {s : St}

set_option maxHeartbeats 2000000 in
theorem moves_off (h : IsR w m N p q r sl s) (op d b i : Int) (a : Nat) (ha : a < 16) (ho : op < 35 ∨ 38 < op) : Calls Try.prog 40 #[.pointer (some ⟨p, 0, none⟩), .agg #[.int .i64 op, .int .i64 d, .int .i64 a, .int .i64 b, .int .i32 i]] w fun e w' => e = .returned (.bool false) ∧ IsR w' m N p q r sl s ∧ Kept (Mine p r sl) w w' := by
  have hp := h.plt
  have hc := h.reg a ha
  have hc6 := h.c6
  have ha' : (a : Int) < 16 := by omega
  have n1 : ¬ op = 35 := by omega
  have n2 : ¬ op = 36 := by omega
  have n3 : ¬ op = 37 := by omega
  have n4 : ¬ op = 38 := by omega
  have hN1 : ∀ n, IsR ((w.alloc (.cells #[.int .i64 op, .int .i64 d, .int .i64 a, .int .i64 b, .int .i32 i] 74)).drewN n) m N p q r sl s := fun n => (h.alloc _).below (below_drewN _ n)
  have hk1 : ∀ n, Kept (Mine p r sl) w ((w.alloc (.cells #[.int .i64 op, .int .i64 d, .int .i64 a, .int .i64 b, .int .i32 i] 74)).drewN n) := fun n => Kept.of_below ((below_box w _).trans ((below_drewN _ n).mono (by simp)))
  clear h ho
  go_enter Try.func40, Try.ntmps40
  go_wp2
  go_quiet (fail)
  go_wp2
  go_ret
  exact ⟨rfl, hN1 _, hk1 _⟩

/-- The plain function, instruction by instruction. -/
theorem doF_giv (s : St) (op : Int) (d a b : Nat) (i : Int) (ho : op ≤ 36) (hz : (valF s op d a b i).2 = 0) : doF s op d a b i = { s with reg := wr s.reg d (valF s op d a b i).1, pc := s.pc + 4 } := by
  unfold doF giF
  rw [if_neg (by omega), if_neg (by omega), if_neg (by omega), if_neg (by omega), if_neg (by omega), if_neg (by omega), if_neg (by omega : ¬ op = 44), if_pos hz, if_pos rfl]
theorem doF_giv_trap (s : St) (op : Int) (d a b : Nat) (i : Int) (ho : op ≤ 36) (hz : ¬ (valF s op d a b i).2 = 0) : doF s op d a b i = trapS s (valF s op d a b i).2 := by
  unfold doF giF
  rw [if_neg (by omega), if_neg (by omega), if_neg (by omega), if_neg (by omega), if_neg (by omega), if_neg (by omega), if_neg (by omega : ¬ op = 44), if_neg hz, if_neg hz]

theorem racts (h : IsR w m N p q r sl s) (hO : Ok s) (hl : s.out.length ≤ 1000000) (hk : s.kind = 3) (op : Int) (d a b : Nat) (i : Int) (K : Known op d a b i)
    (G : Went w m N p q r sl s op d a b i (if 39 ≤ op ∧ op ≤ 43 then brF s op a i else s.pc + 4)) : RSteps w m N p q r sl true (doF s op d a b i) := by
  have hd : d < 16 := by have := K.d1; omega
  have ha : a < 16 := by have := K.a1; omega
  have hb : b < 16 := by have := K.b1; omega
  have A0 := adr_lo s a i
  have A1 := adr_hi s a i
  have hA : adr s a i = ((adr s a i).toNat : Int) := by omega
  obtain ⟨hx, ht⟩ := hO.fin hk
  by_cases o1 : op ≤ 19
  · rw [if_neg (by omega)] at G
    have e : valF s op d a b i = (aluV op (s.reg a) (s.reg b), aluT op (s.reg b)) := by
      unfold valF
      rw [if_neg (by omega), if_neg (by omega), if_neg (by omega), if_neg (by omega), if_neg (by omega)]
    by_cases hz : aluT op (s.reg b) = 0
    · rw [doF_giv s op d a b i (by omega) (by rw [e]; exact hz), e]
      exact rstep_alu h hO hk G o1 hd ha hb hz
    · rw [doF_giv_trap s op d a b i (by omega) (by rw [e]; exact hz), e]
      exact rstep_alu_trap h hO hx hk G o1 ha hb hz
  have o19 : 19 < op := by omega
  have hoff : op < 35 ∨ 38 < op → ∀ W, IsR W m N p q r sl s → Calls Try.prog 40 #[.pointer (some ⟨p, 0, none⟩), .agg #[.int .i64 op, .int .i64 d, .int .i64 a, .int .i64 b, .int .i32 i]] W fun e w' => e = .returned (.bool false) ∧ IsR w' m N p q r sl s ∧ Kept (Mine p r sl) W w' := fun ho W hW => moves_off hW op d b i a ha ho
  by_cases o32 : op = 32
  · subst o32
    rw [if_neg (by omega)] at G
    rw [doF_giv s 32 d a b i (by omega) (by simp [valF])]
    exact rstep_does (s' := { s with reg := wr s.reg d (valF s 32 d a b i).1 }) h hk G o19 (hoff (by omega)) (fun W hW => does_addi hW hO b i d a hd ha) hk
  by_cases o33 : op = 33
  · subst o33
    rw [if_neg (by omega)] at G
    rw [doF_giv s 33 d a b i (by omega) (by simp [valF])]
    exact rstep_does (s' := { s with reg := wr s.reg d (valF s 33 d a b i).1 }) h hk G o19 (hoff (by omega)) (fun W hW => does_low hW b i d a hd) hk
  by_cases o34 : op = 34
  · subst o34
    rw [if_neg (by omega)] at G
    rw [doF_giv s 34 d a b i (by omega) (by simp [valF])]
    exact rstep_does (s' := { s with reg := wr s.reg d (valF s 34 d a b i).1 }) h hk G o19 (hoff (by omega)) (fun W hW => does_high hW hO b i d a hd ha) hk
  by_cases o35 : op = 35
  · subst o35
    rw [if_neg (by omega)] at G
    have e : valF s 35 d a b i = ld4 s.mem (adr s a i).toNat := by simp [valF]
    unfold ld4 at e
    by_cases hok : (adr s a i).toNat % 4 = 0 ∧ (adr s a i).toNat + 4 ≤ 262144
    · rw [if_pos hok] at e
      rw [doF_giv s 35 d a b i (by omega) (by rw [e]), e]
      exact rstep_moves (s' := { s with reg := wr s.reg d (wordAt s.mem (adr s a i).toNat) }) h hk G o19 (fun W hW => moves_load4_yes hW b i d a hd ha _ hA hok) hk
    · rw [if_neg hok] at e
      rw [doF_giv_trap s 35 d a b i (by omega) (by rw [e]; decide), e]
      exact rstep_moves_over h hk G o19 (fun W hW => moves_load4_no hW hx b i d a ha _ hA (by omega) hok) (by simp [trapS])
  by_cases o36 : op = 36
  · subst o36
    rw [if_neg (by omega)] at G
    have e : valF s 36 d a b i = ld1 s.mem (adr s a i).toNat := by simp [valF]
    unfold ld1 at e
    by_cases hok : (adr s a i).toNat < 262144
    · rw [if_pos hok] at e
      rw [doF_giv s 36 d a b i (by omega) (by rw [e]), e]
      exact rstep_moves (s' := { s with reg := wr s.reg d ((s.mem (adr s a i).toNat).toNat : Int) }) h hk G o19 (fun W hW => moves_load1_yes hW b i d a hd ha _ hA hok) hk
    · rw [if_neg hok] at e
      rw [doF_giv_trap s 36 d a b i (by omega) (by rw [e]; decide), e]
      exact rstep_moves_over h hk G o19 (fun W hW => moves_load1_no hW hx b i d a ha _ hA (by omega) hok) (by simp [trapS])
  by_cases h1 : op = 37 ∨ op = 38
  · rw [if_neg (by omega)] at G
    have e : doF s op d a b i = if (stF s op d a i).2 = 0 then { (stF s op d a i).1 with pc := s.pc + 4 } else trapS s (stF s op d a i).2 := by unfold doF; rw [if_pos h1]
    have h5 : ¬ (5 : Int) = 0 := by decide
    rw [e]
    unfold stF
    by_cases hkk : stOk op (adr s a i).toNat = true
    · rw [if_pos hkk, if_pos rfl]
      rcases h1 with rfl | rfl
      · have hk' : (adr s a i).toNat % 4 = 0 ∧ (adr s a i).toNat + 4 ≤ 262144 := by simpa [stOk] using hkk
        exact rstep_moves (s' := { s with mem := lay s.mem (adr s a i).toNat (four (s.reg d)) }) h hk G o19 (fun W hW => moves_four_yes hW hO b i d a hd ha _ hA hk') hk
      · have hk' : (adr s a i).toNat < 262144 := by simpa [stOk] using hkk
        exact rstep_moves (s' := { s with mem := lay s.mem (adr s a i).toNat [by8 (s.reg d)] }) h hk G o19 (fun W hW => moves_one_yes hW hO b i d a hd ha _ hA hk') hk
    · rw [if_neg hkk, if_neg h5]
      rcases h1 with rfl | rfl
      · have hk' : ¬ ((adr s a i).toNat % 4 = 0 ∧ (adr s a i).toNat + 4 ≤ 262144) := by simpa [stOk] using hkk
        exact rstep_moves_over h hk G o19 (fun W hW => moves_four_no hW hx b i d a hd ha _ hA (by omega) hk') (by simp [trapS])
      · have hk' : ¬ (adr s a i).toNat < 262144 := by simpa [stOk] using hkk
        exact rstep_moves_over h hk G o19 (fun W hW => moves_one_no hW hx b i d a hd ha _ hA (by omega) hk') (by simp [trapS])
  by_cases h2 : op = 39 ∨ op = 40 ∨ op = 41 ∨ op = 43
  · have e : doF s op d a b i = { s with pc := brF s op a i } := by unfold doF; rw [if_neg h1, if_pos h2]
    rw [e]
    rw [if_pos (by omega)] at G
    exact rstep_does (s' := s) h hk G o19 (hoff (by omega)) (fun W hW => does_none hW op d a b i h2) hk
  by_cases h3 : op = 42
  · have e : doF s op d a b i = { s with reg := upd s.reg 14 ((s.pc + 4) % 4294967296), pc := brF s op a i } := by unfold doF; rw [if_neg h1, if_neg h2, if_pos h3]
    rw [e]
    rw [if_pos (by omega)] at G
    subst h3
    exact rstep_does (s' := { s with reg := upd s.reg 14 ((s.pc + 4) % 4294967296) }) h hk G o19 (hoff (by omega)) (fun W hW => does_call hW hO d a b i) hk
  rw [if_neg (by omega)] at G
  by_cases h4 : op = 45
  · have e : doF s op d a b i = { s with out := s.out ++ [by8 (s.reg a)], pc := s.pc + 4 } := by unfold doF; rw [if_neg h1, if_neg h2, if_neg h3, if_pos h4]
    rw [e]
    subst h4
    exact rstep_does (s' := { s with out := s.out ++ [by8 (s.reg a)] }) h hk G o19 (hoff (by omega)) (fun W hW => does_put hW hO hl d b i a ha) hk
  by_cases h5 : op = 46
  · have e : doF s op d a b i = trapS s i := by unfold doF; rw [if_neg h1, if_neg h2, if_neg h3, if_neg h4, if_pos h5]
    rw [e]
    have hi := K.trap h5
    subst h5
    exact rstep_does_over h hk G o19 (hoff (by omega)) (fun W hW => does_trap hW hx d a b i hi.1 hi.2) (by simp [trapS])
  by_cases h6 : op = 47
  · have e : doF s op d a b i = { s with kind := 1, exit := wrap32 (s.reg a) } := by unfold doF; rw [if_neg h1, if_neg h2, if_neg h3, if_neg h4, if_neg h5, if_pos h6]
    rw [e]
    subst h6
    exact rstep_does_over (s' := { s with kind := 1, exit := wrap32 (s.reg a) }) h hk G o19 (hoff (by omega)) (fun W hW => does_halt hW ht d b i a ha) (by simp)
  have h7 : op = 44 := by have := K.o1; have := K.gap; omega
  have e : doF s op d a b i = { getS s with reg := wr s.reg d (getV s), pc := s.pc + 4 } := by
    unfold doF giF
    rw [if_neg h1, if_neg h2, if_neg h3, if_neg h4, if_neg h5, if_neg h6, if_pos h7, if_pos rfl]
  rw [e]
  subst h7
  by_cases hu : s.used < s.input.size
  · have e1 : getV s = (s.input[s.used].toNat : Int) := by unfold getV; rw [dif_pos hu]
    have e2 : getS s = { s with used := s.used + 1 } := by unfold getS; rw [if_pos hu]
    rw [e1, e2]
    exact rstep_does (s' := { s with used := s.used + 1, reg := wr s.reg d (s.input[s.used].toNat : Int) }) h hk G o19 (hoff (by omega)) (fun W hW => does_get_one hW hO hu a b i d hd) hk
  · have hu2 : s.used = s.input.size := by have := hO.used; omega
    have e1 : getV s = 4294967295 := by unfold getV; rw [dif_neg hu]
    have e2 : getS s = s := by unfold getS; rw [if_neg hu]
    rw [e1, e2]
    exact rstep_does (s' := { s with reg := wr s.reg d 4294967295 }) h hk G o19 (hoff (by omega)) (fun W hW => does_get_end hW hu2 a b i d hd) hk

theorem rstep18 (h : IsR w m N p q r sl s) (hO : Ok s) (hl : s.out.length ≤ 1000000) : RSteps w m N p q r sl (decide (s.kind = 3)) (stepF s) := by
  unfold stepF
  by_cases hk : s.kind = 3
  · rw [if_pos hk, decide_eq_true hk]
    obtain ⟨hx, ht⟩ := hO.fin hk
    by_cases hp : placeB s.code s.pc = true
    · obtain ⟨b0, b1, b2⟩ := place_bounds hp
      have hkn : s.pc = (s.pc.toNat : Int) := by omega
      have hl4 : s.pc.toNat + 4 ≤ s.code.size := by have := hO.c4; omega
      by_cases hu : uOk (codeWord s.code s.pc.toNat) = true
      · have hf : fetchB s = true := by unfold fetchB; rw [hp, hu]; rfl
        rw [if_pos hf]
        have hw : wordU s = codeWord s.code s.pc.toNat := rfl
        rw [hw]
        obtain ⟨K, e1, e2, e3⟩ := knownN hu
        have hv := fetched35_yes h hO s.pc.toNat hkn hp hl4 hu
        rw [e1, e2, e3] at hv
        clear e1 e2 e3 hw hf hu
        generalize uOp (codeWord s.code s.pc.toNat) = op at hv K ⊢
        generalize (uD (codeWord s.code s.pc.toNat)).toNat = d at hv K ⊢
        generalize (uA (codeWord s.code s.pc.toNat)).toNat = a at hv K ⊢
        generalize (uB (codeWord s.code s.pc.toNat)).toNat = b at hv K ⊢
        generalize uI (codeWord s.code s.pc.toNat) = i at hv K ⊢
        have ha16 : a < 16 := by have := K.a1; omega
        exact racts h hO hl hk op d a b i K ⟨hv, fun W hW => goes37 hW hO op d b i a ha16 K.i0 K.i1⟩
      · have hu' : uOk (codeWord s.code s.pc.toNat) = false := by simpa using hu
        have hf : ¬ fetchB s = true := by unfold fetchB; rw [hp, hu']; simp
        rw [if_neg hf]
        exact rstep_trap h hx hk (fetched35_no h hO s.pc.toNat hkn hp hl4 hu')
    · have hp' : placeB s.code s.pc = false := by simpa using hp
      have hf : ¬ fetchB s = true := by unfold fetchB; rw [hp']; simp
      rw [if_neg hf]
      exact rstep_trap h hx hk (fetched35_none h hp')
  · rw [if_neg hk, decide_eq_false hk]
    exact rstep_over h hk
end
end Go.Proofs.Ytimbnlcegcmfiaa
