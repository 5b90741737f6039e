/- The document's machine: the instruction at the place. -/
import Derived.Test.YtimbnlcegcmfiaaRFetch
namespace Go.Proofs.Ytimbnlcegcmfiaa
open Go.RowKit
set_option linter.unusedVariables false
section
variable {w : World} {m : Im} {N p q r : Nat} {sl : Value} {s : St}

theorem cell_allocY {W : World} {o : Obj} {a : Addr} (h : a.block < W.heap.size) : (W.alloc o).cell? a = W.cell? a := World.cell?_of_block (w := W) (Below.heap_alloc _ _ _ h)
theorem cells5Y {w1 : World} {g : Nat} (hg : g < w1.heap.size) {u0 u1 u2 u3 u4 : Value} (k0 : w1.cell? ⟨g, 0, none⟩ = some u0) (k1 : w1.cell? ⟨g, 1, none⟩ = some u1) (k2 : w1.cell? ⟨g, 2, none⟩ = some u2) (k3 : w1.cell? ⟨g, 3, none⟩ = some u3) (k4 : w1.cell? ⟨g, 4, none⟩ = some u4) (v0 v1 v2 v3 v4 : Value) (o : Obj) :
    ((((((w1.setCell ⟨g, 0, none⟩ v0).setCell ⟨g, 1, none⟩ v1).setCell ⟨g, 2, none⟩ v2).setCell ⟨g, 3, none⟩ v3).setCell ⟨g, 4, none⟩ v4).alloc o).cell? ⟨g, 0, none⟩ = some v0 ∧
    ((((((w1.setCell ⟨g, 0, none⟩ v0).setCell ⟨g, 1, none⟩ v1).setCell ⟨g, 2, none⟩ v2).setCell ⟨g, 3, none⟩ v3).setCell ⟨g, 4, none⟩ v4).alloc o).cell? ⟨g, 1, none⟩ = some v1 ∧
    ((((((w1.setCell ⟨g, 0, none⟩ v0).setCell ⟨g, 1, none⟩ v1).setCell ⟨g, 2, none⟩ v2).setCell ⟨g, 3, none⟩ v3).setCell ⟨g, 4, none⟩ v4).alloc o).cell? ⟨g, 2, none⟩ = some v2 ∧
    ((((((w1.setCell ⟨g, 0, none⟩ v0).setCell ⟨g, 1, none⟩ v1).setCell ⟨g, 2, none⟩ v2).setCell ⟨g, 3, none⟩ v3).setCell ⟨g, 4, none⟩ v4).alloc o).cell? ⟨g, 3, none⟩ = some v3 ∧
    ((((((w1.setCell ⟨g, 0, none⟩ v0).setCell ⟨g, 1, none⟩ v1).setCell ⟨g, 2, none⟩ v2).setCell ⟨g, 3, none⟩ v3).setCell ⟨g, 4, none⟩ v4).alloc o).cell? ⟨g, 4, none⟩ = some v4 := by
  refine ⟨?_, ?_, ?_, ?_, ?_⟩
  all_goals
    rw [cell_allocY (by simpa using hg)]
    simp [go_sem, k0, k1, k2, k3, k4]

theorem codeWord_bytesY {c : ByteArray} {k : Nat} {B0 B1 B2 B3 : UInt8} (h0 : k < c.size) (h1 : k + 1 < c.size) (h2 : k + 2 < c.size) (h3 : k + 3 < c.size) (e0 : c[k] = B0) (e1 : c[k + 1] = B1) (e2 : c[k + 2] = B2) (e3 : c[k + 3] = B3) :
    bits .or .u32 (bits .or .u32 (bits .or .u32 (bits .or .u32 0 ((B3.toNat : Int) % 4294967296) * 256 % 4294967296) ((B2.toNat : Int) % 4294967296) * 256 % 4294967296) ((B1.toNat : Int) % 4294967296) * 256 % 4294967296) ((B0.toNat : Int) % 4294967296) = codeWord c k := by
  subst e0 e1 e2 e3
  exact codeWord_down h0 h1 h2 h3

set_option maxHeartbeats 4000000 in
theorem fetched35_yes (h : IsR w m N p q r sl s) (hO : Ok s) (k : Nat) (hk : s.pc = (k : Int)) (hb : placeB s.code s.pc = true) (hl : k + 4 ≤ s.code.size) (hu : uOk (codeWord s.code k) = true) :
    Calls Try.prog 35 #[.pointer (some ⟨p, 0, none⟩)] w fun e w' => e = .returned (.tuple #[.agg #[.int .i64 (uOp (codeWord s.code k)), .int .i64 (uD (codeWord s.code k)), .int .i64 (uA (codeWord s.code k)), .int .i64 (uB (codeWord s.code k)), .int .i32 (uI (codeWord s.code k))], .bool true]) ∧ Below w.heap.size w w' := by
  have hdec : ∀ u, u = codeWord s.code k → ∀ w, Calls Try.prog 52 #[.int .u32 u] w fun e w' => e = .returned (.tuple #[.agg #[.int .i64 (uOp (codeWord s.code k)), .int .i64 (uD (codeWord s.code k)), .int .i64 (uA (codeWord s.code k)), .int .i64 (uB (codeWord s.code k)), .int .i32 (uI (codeWord s.code k))], .int .i64 0]) ∧ Below w.heap.size w w' := by
    rintro u rfl w
    exact dec52_yes _ (codeWord_lo _ _) (codeWord_hi _ _) hu w
  clear hu
  have hp := h.plt
  have hc0 := h.c0
  have hc23 := h.c23
  obtain ⟨b0, b1, b2⟩ := place_bounds hb
  rw [hk] at hc23 b0 b1 b2
  have hs := hO.csize
  have h1' : decide ((k : Int) < 0) = false := decide_eq_false (by omega)
  have h2' : ((k : Int) % 4 != 0) = false := by simp [b2]
  have h2'' : ((k : Int).tmod 4 != 0) = false := by rw [Int.tmod_eq_emod_of_nonneg b0]; exact h2'
  have h3' : decide ((s.code.size : Int) ≤ (k : Int)) = false := decide_eq_false (by omega)
  have g0 : IntKind.i64.wrap ((k : Int) + 0) = (k : Int) := by simp [IntKind.wrap, IntKind.bits, IntKind.signed]; omega
  have g1 : IntKind.i64.wrap ((k : Int) + 1) = (k : Int) + 1 := by simp [IntKind.wrap, IntKind.bits, IntKind.signed]; omega
  have g2 : IntKind.i64.wrap ((k : Int) + 2) = (k : Int) + 2 := by simp [IntKind.wrap, IntKind.bits, IntKind.signed]; omega
  have g3 : IntKind.i64.wrap ((k : Int) + 3) = (k : Int) + 3 := by simp [IntKind.wrap, IntKind.bits, IntKind.signed]; omega
  have l0 : (k : Int) < (s.code.size : Int) := by omega
  have l1 : (k : Int) + 1 < (s.code.size : Int) := by omega
  have l2 : (k : Int) + 2 < (s.code.size : Int) := by omega
  have l3 : (k : Int) + 3 < (s.code.size : Int) := by omega
  have t1 : ((k : Int) + 1).toNat = k + 1 := by omega
  have t2 : ((k : Int) + 2).toNat = k + 2 := by omega
  have t3 : ((k : Int) + 3).toNat = k + 3 := by omega
  have q0 : k < s.code.size := by omega
  have q1 : k + 1 < s.code.size := by omega
  have q2 : k + 2 < s.code.size := by omega
  have q3 : k + 3 < s.code.size := by omega
  have z1 : 0 ≤ (k : Int) + 1 := by omega
  have z2 : 0 ≤ (k : Int) + 2 := by omega
  have z3 : 0 ≤ (k : Int) + 3 := by omega
  obtain ⟨B0, e0⟩ : ∃ B, s.code[k] = B := ⟨_, rfl⟩
  obtain ⟨B1, e1⟩ : ∃ B, s.code[k + 1] = B := ⟨_, rfl⟩
  obtain ⟨B2, e2⟩ : ∃ B, s.code[k + 2] = B := ⟨_, rfl⟩
  obtain ⟨B3, e3⟩ : ∃ B, s.code[k + 3] = B := ⟨_, rfl⟩
  have hcw := codeWord_bytesY q0 q1 q2 q3 e0 e1 e2 e3
  clear h hb hO
  go_enter Try.func35, Try.ntmps35
  go_wp2
  go_quiet (fail)
  go_wp2
  refine wp_loop_rounds 5 ?_
  rw [rounds_succ]
  go_wp2
  go_quiet (fail)
  go_wp2
  rw [rounds_succ]
  go_wp2
  go_quiet (fail)
  go_wp2
  rw [rounds_succ]
  go_wp2
  go_quiet (fail)
  go_wp2
  rw [rounds_succ]
  go_wp2
  go_quiet (fail)
  go_wp2
  rw [rounds_succ]
  go_wp2_with (first | (go_at_call 52; refine (hdec _ rfl _).mono ?_; rintro e w1 ⟨rfl, hb1⟩; obtain ⟨⟨k0, k1, k2, k3, k4⟩, hz, hb2⟩ := zero_kept (w := w) hb1 ⟨rfl, rfl, rfl, Nat.le_refl _, fun _ _ => rfl⟩; have y0 := hz 0; have y1 := hz 1; have y2 := hz 2; have y3 := hz 3; have y4 := hz 4; have hs1 : w.heap.size < w1.heap.size := (by have hq := hb1.size; simp at hq; omega); clear hz hb1))
  obtain ⟨C0, C1, C2, C3, C4⟩ := cells5Y hs1 k0 k1 k2 k3 k4 (.int .i64 (uOp (codeWord s.code k))) (.int .i64 (uD (codeWord s.code k))) (.int .i64 (uA (codeWord s.code k))) (.int .i64 (uB (codeWord s.code k))) (.int .i32 (uI (codeWord s.code k))) (.cells #[.int .i64 (uOp (codeWord s.code k)), .int .i64 (uD (codeWord s.code k)), .int .i64 (uA (codeWord s.code k)), .int .i64 (uB (codeWord s.code k)), .int .i32 (uI (codeWord s.code k))] 74)
  refine bodyPost_ret (v := .tuple #[.agg #[.int .i64 (uOp (codeWord s.code k)), .int .i64 (uD (codeWord s.code k)), .int .i64 (uA (codeWord s.code k)), .int .i64 (uB (codeWord s.code k)), .int .i32 (uI (codeWord s.code k))], .bool true]) (by simp [results, Try.results35, go_sem, C0, C1, C2, C3, C4]) rfl ⟨rfl, ?_⟩
  first
    | exact below_set5 (hb2.alloc hb2.size _) _ _ _ _ _
    | exact (below_set5 hb2 _ _ _ _ _).alloc (by simp; omega) _

end
end Go.Proofs.Ytimbnlcegcmfiaa
