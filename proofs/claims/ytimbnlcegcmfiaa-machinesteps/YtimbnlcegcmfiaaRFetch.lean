/- The document's machine: the instruction at the place, and where it goes on. -/
import Derived.Test.YtimbnlcegcmfiaaRMach
import Derived.Test.YtimbnlcegcmfiaaIDec13Yes
import Derived.Test.YtimbnlcegcmfiaaIDec13Other
import Derived.Test.YtimbnlcegcmfiaaIDec13No
import Derived.Deep.QuietTactic
import Derived.BigQuiet
namespace Go.Proofs.Ytimbnlcegcmfiaa
open Go.RowKit
set_option linter.unusedVariables false

theorem dec52_yes (u : Int) (u0 : 0 ≤ u) (u1 : u < 4294967296) (h : uOk u = true) (w : World) :
    Calls Try.prog 52 #[.int .u32 u] w fun e w' => e = .returned (.tuple #[.agg #[.int .i64 (uOp u), .int .i64 (uD u), .int .i64 (uA u), .int .i64 (uB u), .int .i32 (uI u)], .int .i64 0]) ∧ Below w.heap.size w w' := by
  unfold uOk at h
  simp only [Bool.and_eq_true, beq_iff_eq] at h
  exact decode13_yes (row_of (u / 16777216)) rfl u0 u1 rfl rfl rfl rfl rfl h.1 h.2 w

theorem dec52_no (u : Int) (u0 : 0 ≤ u) (u1 : u < 4294967296) (h : uOk u = false) (w : World) :
    Calls Try.prog 52 #[.int .u32 u] w fun e w' => e = .returned (.tuple #[.agg #[.int .i64 0, .int .i64 0, .int .i64 0, .int .i64 0, .int .i32 0], .int .i64 1]) ∧ Below w.heap.size w w' := by
  cases hm : uMay u
  · exact decode13_no (row_of (u / 16777216)) rfl u0 u1 rfl rfl rfl rfl rfl hm w
  · unfold uOk at h
    rw [hm] at h
    have h' : ¬ wordF (nF (uP u)) (uOp u) (uD u) (uA u) (uB u) (uI u) = u := by simpa using h
    exact decode13_other (row_of (u / 16777216)) rfl u0 u1 rfl rfl rfl rfl rfl hm h' w

section
variable {w : World} {m : Im} {N p q r : Nat} {sl : Value} {s : St}

/-- No instruction begins there. -/
theorem fetched35_none (h : IsR w m N p q r sl s) (hb : placeB s.code s.pc = false) :
    Calls Try.prog 35 #[.pointer (some ⟨p, 0, none⟩)] w fun e w' => e = .returned (.tuple #[.agg #[.int .i64 0, .int .i64 0, .int .i64 0, .int .i64 0, .int .i32 0], .bool false]) ∧ Below w.heap.size w w' := by
  have hp := h.plt
  have hc0 := h.c0
  have hc23 := h.c23
  by_cases h1 : s.pc < 0
  · clear h hb
    go_enter Try.func35, Try.ntmps35
    go_wp2
    go_quiet (fail)
    go_wp2
    refine bodyPost_ret (v := .tuple #[.agg #[.int .i64 0, .int .i64 0, .int .i64 0, .int .i64 0, .int .i32 0], .bool false]) (by simp [results, Try.results35, go_sem]) rfl ⟨rfl, ?_⟩
    exact below_set5 ((below_box w _).trans ((below_drewN _ _).mono (by simp))) _ _ _ _ _
  · have h1' : decide (s.pc < 0) = false := decide_eq_false h1
    by_cases h2 : s.pc % 4 = 0
    · have h3 : (s.code.size : Int) ≤ s.pc := by
        unfold placeB at hb
        simp only [Bool.and_eq_false_iff, decide_eq_false_iff_not] at hb
        omega
      have h0 : 0 ≤ s.pc := by omega
      have h2' : (s.pc % 4 != 0) = false := by simp [h2]
      have h2'' : (s.pc.tmod 4 != 0) = false := by rw [Int.tmod_eq_emod_of_nonneg h0]; exact h2'
      clear h hb
      go_enter Try.func35, Try.ntmps35
      go_wp2
      go_quiet (fail)
      go_wp2
      refine bodyPost_ret (v := .tuple #[.agg #[.int .i64 0, .int .i64 0, .int .i64 0, .int .i64 0, .int .i32 0], .bool false]) (by simp [results, Try.results35, go_sem]) rfl ⟨rfl, ?_⟩
      exact below_set5 ((below_box w _).trans ((below_drewN _ _).mono (by simp))) _ _ _ _ _
    · have h0 : 0 ≤ s.pc := by omega
      have h2' : (s.pc % 4 != 0) = true := by simp [h2]
      have h2'' : (s.pc.tmod 4 != 0) = true := by rw [Int.tmod_eq_emod_of_nonneg h0]; exact h2'
      clear h hb
      go_enter Try.func35, Try.ntmps35
      go_wp2
      go_quiet (fail)
      go_wp2
      refine bodyPost_ret (v := .tuple #[.agg #[.int .i64 0, .int .i64 0, .int .i64 0, .int .i64 0, .int .i32 0], .bool false]) (by simp [results, Try.results35, go_sem]) rfl ⟨rfl, ?_⟩
      exact below_set5 ((below_box w _).trans ((below_drewN _ _).mono (by simp))) _ _ _ _ _

theorem codeWord_down {c : ByteArray} {k : Nat} (h0 : k < c.size) (h1 : k + 1 < c.size) (h2 : k + 2 < c.size) (h3 : k + 3 < c.size) :
    bits .or .u32 (bits .or .u32 (bits .or .u32 (bits .or .u32 0 ((c[k + 3].toNat : Int) % 4294967296) * 256 % 4294967296) ((c[k + 2].toNat : Int) % 4294967296) * 256 % 4294967296) ((c[k + 1].toNat : Int) % 4294967296) * 256 % 4294967296) ((c[k].toNat : Int) % 4294967296) = codeWord c k := by
  rw [byteAt_eq h0, byteAt_eq h1, byteAt_eq h2, byteAt_eq h3]
  exact down4 _ _ _ _ (byteAt_lt _ _) (byteAt_lt _ _) (byteAt_lt _ _) (byteAt_lt _ _)

set_option maxHeartbeats 4000000 in
theorem goes37 (h : IsR w m N p q r sl s) (hO : Ok s) (op d b i : Int) (a : Nat) (ha : a < 16) (i0 : -8388608 ≤ i) (i1 : i ≤ 8388607) :
    Calls Try.prog 37 #[.pointer (some ⟨p, 0, none⟩), .agg #[.int .i64 op, .int .i64 d, .int .i64 a, .int .i64 b, .int .i32 i]] w fun e w' => e = .returned (.int .i64 (if 39 ≤ op ∧ op ≤ 43 then brF s op a i else s.pc + 4)) ∧ Below w.heap.size w w' := by
  have hp := h.plt
  have hc := h.reg a ha
  have hc23 := h.c23
  obtain ⟨x0, x1⟩ := hO.regs a ha
  have p0 := hO.pc0
  have p1 := hO.pc1
  have ha' : (a : Int) < 16 := by omega
  have hb0 := below_box w (.cells #[.int .i64 op, .int .i64 d, .int .i64 a, .int .i64 b, .int .i32 i] 74)
  have hb1 : ∀ n, Below w.heap.size w ((w.alloc (.cells #[.int .i64 op, .int .i64 d, .int .i64 a, .int .i64 b, .int .i32 i] 74)).drewN n) := fun n => hb0.trans ((below_drewN _ _).mono (by simp))
  clear h
  by_cases o1 : op = 39
  · subst o1
    by_cases hz : s.reg a = 0
    · have hz1 : (s.reg a == 0) = true := by simp [hz]
      go_enter Try.func37, Try.ntmps37
      go_wp2
      go_quiet (fail)
      go_wp2
      go_ret
      exact ⟨ret_j (by simp [brF, hz]), hb1 _⟩
    · have hz1 : (s.reg a == 0) = false := by simp [hz]
      go_enter Try.func37, Try.ntmps37
      go_wp2
      go_quiet (fail)
      go_wp2
      go_ret
      exact ⟨ret_j (by simp [brF, hz]), hb1 _⟩
  by_cases o2 : op = 40
  · subst o2
    by_cases hz : s.reg a = 0
    · have hz1 : (s.reg a != 0) = false := by simp [hz]
      go_enter Try.func37, Try.ntmps37
      go_wp2
      go_quiet (fail)
      go_wp2
      go_ret
      exact ⟨ret_j (by simp [brF, hz]), hb1 _⟩
    · have hz1 : (s.reg a != 0) = true := by simp [hz]
      go_enter Try.func37, Try.ntmps37
      go_wp2
      go_quiet (fail)
      go_wp2
      go_ret
      exact ⟨ret_j (by simp [brF, hz]), hb1 _⟩
  by_cases o3 : op = 41
  · subst o3
    go_enter Try.func37, Try.ntmps37
    go_wp2
    go_ret
    exact ⟨ret_j (by simp [brF]), hb0⟩
  by_cases o4 : op = 42
  · subst o4
    go_enter Try.func37, Try.ntmps37
    go_wp2
    go_ret
    exact ⟨ret_j (by simp [brF]), hb0⟩
  by_cases o5 : op = 43
  · subst o5
    go_enter Try.func37, Try.ntmps37
    go_wp2
    go_quiet (fail)
    go_wp2
    go_ret
    exact ⟨ret_j (by simp [brF]), hb1 _⟩
  go_enter Try.func37, Try.ntmps37
  go_wp2
  go_ret
  exact ⟨ret_j (by first | rfl | rw [if_neg (by omega)]), hb0⟩
end
end Go.Proofs.Ytimbnlcegcmfiaa
