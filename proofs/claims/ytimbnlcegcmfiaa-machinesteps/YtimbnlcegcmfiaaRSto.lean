/- The document's machine: what stores. -/
import Derived.Test.YtimbnlcegcmfiaaRMoves
namespace Go.Proofs.Ytimbnlcegcmfiaa
open Go.RowKit
set_option linter.unusedVariables false
section
variable {w : World} {m : Im} {N p q r : Nat} {sl : Value} {s : St}

set_option maxRecDepth 100000 in
set_option maxHeartbeats 4000000 in
theorem moves_four_yes (h : IsR w m N p q r sl s) (hO : Ok s) (b i : Int) (d a : Nat) (hd : d < 16) (ha : a < 16) (A : Nat) (hA : adr s a i = (A : Int)) (hok : A % 4 = 0 ∧ A + 4 ≤ 262144) : RActs 40 (.bool true) w m N p q r sl 37 d a b i { s with mem := lay s.mem A (four (s.reg d)) } := by
  have hx : Hid (0 ≤ s.reg d ∧ s.reg d < 4294967296) := hO.regs d hd
  clear hO
  have hp := h.plt
  have hc := h.reg a ha
  have ha' : (a : Int) < 16 := by omega
  have hA1 : (s.reg a + i % 4294967296) % 4294967296 = (A : Int) := by rw [← hA]; unfold adr; omega
  have hd' : (d : Int) < 16 := by omega
  haveI := after_some
  have hB : Hid (∀ n, IsR ((w.alloc (.cells #[.int .i64 37, .int .i64 d, .int .i64 a, .int .i64 b, .int .i32 i] 74)).drewN n) m N p q r sl s) := fun n => (h.alloc (.cells #[.int .i64 37, .int .i64 d, .int .i64 a, .int .i64 b, .int .i32 i] 74)).below (below_drewN _ n)
  have hb0 : Hid (∀ n, Below w.heap.size w ((w.alloc (.cells #[.int .i64 37, .int .i64 d, .int .i64 a, .int .i64 b, .int .i32 i] 74)).drewN n)) := fun n => (below_box w (.cells #[.int .i64 37, .int .i64 d, .int .i64 a, .int .i64 b, .int .i32 i] 74)).trans ((below_drewN _ n).mono (by simp))
  have fx : ∀ (n : Nat) (t : After ((w.alloc (.cells #[.int .i64 37, .int .i64 d, .int .i64 a, .int .i64 b, .int .i32 i] 74)).drewN n)) (j : Nat) (v : Value), (#[.int .i64 37, .int .i64 d, .int .i64 a, .int .i64 b, .int .i32 i] : Array Value)[j]? = some v → t.1.cell? ⟨w.heap.size, j, none⟩ = some v := fun n t => fun j v hv => boxed2 (((below_drewN _ n).trans t.2)) j v hv
  have fx0 := fun n t => fx n t 0 _ rfl
  have fx1 := fun n t => fx n t 1 _ rfl
  have fx2 := fun n t => fx n t 2 _ rfl
  have fx3 := fun n t => fx n t 3 _ rfl
  have fx4 := fun n t => fx n t 4 _ rfl
  have fd : ∀ (n : Nat) (t : After ((w.alloc (.cells #[.int .i64 37, .int .i64 d, .int .i64 a, .int .i64 b, .int .i32 i] 74)).drewN n)), t.1.cell? ⟨p, 7 + d, none⟩ = some (.int .u32 (s.reg d)) := fun n t => ((hB.out n).below t.2).reg d hd
  have f6 : ∀ (n : Nat) (t : After ((w.alloc (.cells #[.int .i64 37, .int .i64 d, .int .i64 a, .int .i64 b, .int .i32 i] 74)).drewN n)), t.1.cell? ⟨p, 6, none⟩ = some (.pointer (some ⟨q, 0, none⟩)) := fun n t => ((hB.out n).below t.2).c6
  clear h fx
  unfold RActs
  go_enter Try.func40, Try.ntmps40
  go_wp2
  go_quiet (fail)
  go_wp2
  refine region_after 12 mixed2 (by kernel_rfl) ?_
  simp only [List.take_succ_cons, List.take_zero, List.drop_succ_cons, List.drop_zero]
  repeat quiet_step (fail)
  refine wpQuiet_nil ?_
  intro w1 hb1
  have hM1 : Hid (IsR w1 m N p q r sl s) := (hB.out _).below hb1
  have hb2 : Hid (Below w.heap.size w w1) := (hb0.out _).trans (hb1.mono (by simp))
  have y1 : w1.cell? ⟨w.heap.size, 1, none⟩ = some (.int .i64 d) := fx1 _ ⟨w1, hb1⟩
  have hs1 : w.heap.size < w1.heap.size := by have hq := hb1.size; simp at hq; omega
  clear fd f6 fx0 fx1 fx2 fx3 fx4 hb1
  go_wp2_with (first
    | (go_at_call 58; (try rw [hA1]); refine (rstore4_yes hM1.out.mem hok.1 hok.2 hx.out.1 hx.out.2).mono ?_; rintro e w2 ⟨rfl, hM2, hO2⟩))
  go_ret
  exact ⟨rfl, sl, hM1.out.setMem hM2 hO2, (Kept.of_below hb2.out).ahead (Kept.of_only hO2 (mine_r p r sl)) (fun _ _ e => e), .inl rfl⟩

set_option maxRecDepth 100000 in
set_option maxHeartbeats 4000000 in
theorem moves_four_no (h : IsR w m N p q r sl s) (hx : s.exit = 0) (b i : Int) (d a : Nat) (hd : d < 16) (ha : a < 16) (A : Nat) (hA : adr s a i = (A : Int)) (hlt : A < 4294967296) (hok : ¬ (A % 4 = 0 ∧ A + 4 ≤ 262144)) : RActs 40 (.bool true) w m N p q r sl 37 d a b i (trapS s 5) := by
  have hp := h.plt
  have hc := h.reg a ha
  have ha' : (a : Int) < 16 := by omega
  have hA1 : (s.reg a + i % 4294967296) % 4294967296 = (A : Int) := by rw [← hA]; unfold adr; omega
  have hd' : (d : Int) < 16 := by omega
  haveI := after_some
  have hB : Hid (∀ n, IsR ((w.alloc (.cells #[.int .i64 37, .int .i64 d, .int .i64 a, .int .i64 b, .int .i32 i] 74)).drewN n) m N p q r sl s) := fun n => (h.alloc (.cells #[.int .i64 37, .int .i64 d, .int .i64 a, .int .i64 b, .int .i32 i] 74)).below (below_drewN _ n)
  have hb0 : Hid (∀ n, Below w.heap.size w ((w.alloc (.cells #[.int .i64 37, .int .i64 d, .int .i64 a, .int .i64 b, .int .i32 i] 74)).drewN n)) := fun n => (below_box w (.cells #[.int .i64 37, .int .i64 d, .int .i64 a, .int .i64 b, .int .i32 i] 74)).trans ((below_drewN _ n).mono (by simp))
  have fx : ∀ (n : Nat) (t : After ((w.alloc (.cells #[.int .i64 37, .int .i64 d, .int .i64 a, .int .i64 b, .int .i32 i] 74)).drewN n)) (j : Nat) (v : Value), (#[.int .i64 37, .int .i64 d, .int .i64 a, .int .i64 b, .int .i32 i] : Array Value)[j]? = some v → t.1.cell? ⟨w.heap.size, j, none⟩ = some v := fun n t => fun j v hv => boxed2 (((below_drewN _ n).trans t.2)) j v hv
  have fx0 := fun n t => fx n t 0 _ rfl
  have fx1 := fun n t => fx n t 1 _ rfl
  have fx2 := fun n t => fx n t 2 _ rfl
  have fx3 := fun n t => fx n t 3 _ rfl
  have fx4 := fun n t => fx n t 4 _ rfl
  have fd : ∀ (n : Nat) (t : After ((w.alloc (.cells #[.int .i64 37, .int .i64 d, .int .i64 a, .int .i64 b, .int .i32 i] 74)).drewN n)), t.1.cell? ⟨p, 7 + d, none⟩ = some (.int .u32 (s.reg d)) := fun n t => ((hB.out n).below t.2).reg d hd
  have f6 : ∀ (n : Nat) (t : After ((w.alloc (.cells #[.int .i64 37, .int .i64 d, .int .i64 a, .int .i64 b, .int .i32 i] 74)).drewN n)), t.1.cell? ⟨p, 6, none⟩ = some (.pointer (some ⟨q, 0, none⟩)) := fun n t => ((hB.out n).below t.2).c6
  clear h fx
  unfold RActs
  go_enter Try.func40, Try.ntmps40
  go_wp2
  go_quiet (fail)
  go_wp2
  refine region_after 12 mixed2 (by kernel_rfl) ?_
  simp only [List.take_succ_cons, List.take_zero, List.drop_succ_cons, List.drop_zero]
  repeat quiet_step (fail)
  refine wpQuiet_nil ?_
  intro w1 hb1
  have hM1 : Hid (IsR w1 m N p q r sl s) := (hB.out _).below hb1
  have hb2 : Hid (Below w.heap.size w w1) := (hb0.out _).trans (hb1.mono (by simp))
  have y1 : w1.cell? ⟨w.heap.size, 1, none⟩ = some (.int .i64 d) := fx1 _ ⟨w1, hb1⟩
  have hs1 : w.heap.size < w1.heap.size := by have hq := hb1.size; simp at hq; omega
  clear fd f6 fx0 fx1 fx2 fx3 fx4 hb1
  go_wp2_with (first
    | (go_at_call 58; (try rw [hA1]); refine (rstore4_no hM1.out.mem hlt hok).mono ?_; rintro e w' ⟨rfl, hw⟩; have hv := hw.symm; clear hw; subst hv)
    | (go_at_call 36; refine (trap36 hM1.out hx 5).mono ?_; rintro e w2 ⟨rfl, hM2, hK2⟩))
  go_ret
  exact ⟨rfl, sl, hM2, (Kept.of_below hb2.out).trans hK2, .inl rfl⟩

set_option maxRecDepth 100000 in
set_option maxHeartbeats 4000000 in
theorem moves_one_yes (h : IsR w m N p q r sl s) (hO : Ok s) (b i : Int) (d a : Nat) (hd : d < 16) (ha : a < 16) (A : Nat) (hA : adr s a i = (A : Int)) (hok : A < 262144) : RActs 40 (.bool true) w m N p q r sl 38 d a b i { s with mem := lay s.mem A [by8 (s.reg d)] } := by
  have hx : Hid (0 ≤ s.reg d ∧ s.reg d < 4294967296) := hO.regs d hd
  clear hO
  have hp := h.plt
  have hc := h.reg a ha
  have ha' : (a : Int) < 16 := by omega
  have hA1 : (s.reg a + i % 4294967296) % 4294967296 = (A : Int) := by rw [← hA]; unfold adr; omega
  have hd' : (d : Int) < 16 := by omega
  haveI := after_some
  have hB : Hid (∀ n, IsR ((w.alloc (.cells #[.int .i64 38, .int .i64 d, .int .i64 a, .int .i64 b, .int .i32 i] 74)).drewN n) m N p q r sl s) := fun n => (h.alloc (.cells #[.int .i64 38, .int .i64 d, .int .i64 a, .int .i64 b, .int .i32 i] 74)).below (below_drewN _ n)
  have hb0 : Hid (∀ n, Below w.heap.size w ((w.alloc (.cells #[.int .i64 38, .int .i64 d, .int .i64 a, .int .i64 b, .int .i32 i] 74)).drewN n)) := fun n => (below_box w (.cells #[.int .i64 38, .int .i64 d, .int .i64 a, .int .i64 b, .int .i32 i] 74)).trans ((below_drewN _ n).mono (by simp))
  have fx : ∀ (n : Nat) (t : After ((w.alloc (.cells #[.int .i64 38, .int .i64 d, .int .i64 a, .int .i64 b, .int .i32 i] 74)).drewN n)) (j : Nat) (v : Value), (#[.int .i64 38, .int .i64 d, .int .i64 a, .int .i64 b, .int .i32 i] : Array Value)[j]? = some v → t.1.cell? ⟨w.heap.size, j, none⟩ = some v := fun n t => fun j v hv => boxed2 (((below_drewN _ n).trans t.2)) j v hv
  have fx0 := fun n t => fx n t 0 _ rfl
  have fx1 := fun n t => fx n t 1 _ rfl
  have fx2 := fun n t => fx n t 2 _ rfl
  have fx3 := fun n t => fx n t 3 _ rfl
  have fx4 := fun n t => fx n t 4 _ rfl
  have fd : ∀ (n : Nat) (t : After ((w.alloc (.cells #[.int .i64 38, .int .i64 d, .int .i64 a, .int .i64 b, .int .i32 i] 74)).drewN n)), t.1.cell? ⟨p, 7 + d, none⟩ = some (.int .u32 (s.reg d)) := fun n t => ((hB.out n).below t.2).reg d hd
  have f6 : ∀ (n : Nat) (t : After ((w.alloc (.cells #[.int .i64 38, .int .i64 d, .int .i64 a, .int .i64 b, .int .i32 i] 74)).drewN n)), t.1.cell? ⟨p, 6, none⟩ = some (.pointer (some ⟨q, 0, none⟩)) := fun n t => ((hB.out n).below t.2).c6
  clear h fx
  unfold RActs
  go_enter Try.func40, Try.ntmps40
  go_wp2
  go_quiet (fail)
  go_wp2
  refine region_after 12 mixed2 (by kernel_rfl) ?_
  simp only [List.take_succ_cons, List.take_zero, List.drop_succ_cons, List.drop_zero]
  repeat quiet_step (fail)
  refine wpQuiet_nil ?_
  intro w1 hb1
  have hM1 : Hid (IsR w1 m N p q r sl s) := (hB.out _).below hb1
  have hb2 : Hid (Below w.heap.size w w1) := (hb0.out _).trans (hb1.mono (by simp))
  have y1 : w1.cell? ⟨w.heap.size, 1, none⟩ = some (.int .i64 d) := fx1 _ ⟨w1, hb1⟩
  have hs1 : w.heap.size < w1.heap.size := by have hq := hb1.size; simp at hq; omega
  clear fd f6 fx0 fx1 fx2 fx3 fx4 hb1
  go_wp2_with (first
    | (go_at_call 59; (try rw [hA1]); refine (rstore1_yes hM1.out.mem hok hx.out.1).mono ?_; rintro e w2 ⟨rfl, hM2, hO2⟩))
  go_ret
  exact ⟨rfl, sl, hM1.out.setMem hM2 hO2, (Kept.of_below hb2.out).ahead (Kept.of_only hO2 (mine_r p r sl)) (fun _ _ e => e), .inl rfl⟩

set_option maxRecDepth 100000 in
set_option maxHeartbeats 4000000 in
theorem moves_one_no (h : IsR w m N p q r sl s) (hx : s.exit = 0) (b i : Int) (d a : Nat) (hd : d < 16) (ha : a < 16) (A : Nat) (hA : adr s a i = (A : Int)) (hlt : A < 4294967296) (hok : ¬ (A < 262144)) : RActs 40 (.bool true) w m N p q r sl 38 d a b i (trapS s 5) := by
  have hp := h.plt
  have hc := h.reg a ha
  have ha' : (a : Int) < 16 := by omega
  have hA1 : (s.reg a + i % 4294967296) % 4294967296 = (A : Int) := by rw [← hA]; unfold adr; omega
  have hd' : (d : Int) < 16 := by omega
  haveI := after_some
  have hB : Hid (∀ n, IsR ((w.alloc (.cells #[.int .i64 38, .int .i64 d, .int .i64 a, .int .i64 b, .int .i32 i] 74)).drewN n) m N p q r sl s) := fun n => (h.alloc (.cells #[.int .i64 38, .int .i64 d, .int .i64 a, .int .i64 b, .int .i32 i] 74)).below (below_drewN _ n)
  have hb0 : Hid (∀ n, Below w.heap.size w ((w.alloc (.cells #[.int .i64 38, .int .i64 d, .int .i64 a, .int .i64 b, .int .i32 i] 74)).drewN n)) := fun n => (below_box w (.cells #[.int .i64 38, .int .i64 d, .int .i64 a, .int .i64 b, .int .i32 i] 74)).trans ((below_drewN _ n).mono (by simp))
  have fx : ∀ (n : Nat) (t : After ((w.alloc (.cells #[.int .i64 38, .int .i64 d, .int .i64 a, .int .i64 b, .int .i32 i] 74)).drewN n)) (j : Nat) (v : Value), (#[.int .i64 38, .int .i64 d, .int .i64 a, .int .i64 b, .int .i32 i] : Array Value)[j]? = some v → t.1.cell? ⟨w.heap.size, j, none⟩ = some v := fun n t => fun j v hv => boxed2 (((below_drewN _ n).trans t.2)) j v hv
  have fx0 := fun n t => fx n t 0 _ rfl
  have fx1 := fun n t => fx n t 1 _ rfl
  have fx2 := fun n t => fx n t 2 _ rfl
  have fx3 := fun n t => fx n t 3 _ rfl
  have fx4 := fun n t => fx n t 4 _ rfl
  have fd : ∀ (n : Nat) (t : After ((w.alloc (.cells #[.int .i64 38, .int .i64 d, .int .i64 a, .int .i64 b, .int .i32 i] 74)).drewN n)), t.1.cell? ⟨p, 7 + d, none⟩ = some (.int .u32 (s.reg d)) := fun n t => ((hB.out n).below t.2).reg d hd
  have f6 : ∀ (n : Nat) (t : After ((w.alloc (.cells #[.int .i64 38, .int .i64 d, .int .i64 a, .int .i64 b, .int .i32 i] 74)).drewN n)), t.1.cell? ⟨p, 6, none⟩ = some (.pointer (some ⟨q, 0, none⟩)) := fun n t => ((hB.out n).below t.2).c6
  clear h fx
  unfold RActs
  go_enter Try.func40, Try.ntmps40
  go_wp2
  go_quiet (fail)
  go_wp2
  refine region_after 12 mixed2 (by kernel_rfl) ?_
  simp only [List.take_succ_cons, List.take_zero, List.drop_succ_cons, List.drop_zero]
  repeat quiet_step (fail)
  refine wpQuiet_nil ?_
  intro w1 hb1
  have hM1 : Hid (IsR w1 m N p q r sl s) := (hB.out _).below hb1
  have hb2 : Hid (Below w.heap.size w w1) := (hb0.out _).trans (hb1.mono (by simp))
  have y1 : w1.cell? ⟨w.heap.size, 1, none⟩ = some (.int .i64 d) := fx1 _ ⟨w1, hb1⟩
  have hs1 : w.heap.size < w1.heap.size := by have hq := hb1.size; simp at hq; omega
  clear fd f6 fx0 fx1 fx2 fx3 fx4 hb1
  go_wp2_with (first
    | (go_at_call 59; (try rw [hA1]); refine (rstore1_no hM1.out.mem hlt hok).mono ?_; rintro e w' ⟨rfl, hw⟩; have hv := hw.symm; clear hw; subst hv)
    | (go_at_call 36; refine (trap36 hM1.out hx 5).mono ?_; rintro e w2 ⟨rfl, hM2, hK2⟩))
  go_ret
  exact ⟨rfl, sl, hM2, (Kept.of_below hb2.out).trans hK2, .inl rfl⟩

end
end Go.Proofs.Ytimbnlcegcmfiaa
