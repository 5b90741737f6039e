/- The document's machine: what loads and stores, and what does all else. -/
import Derived.Test.YtimbnlcegcmfiaaRMach
import Derived.Test.YtimbnlcegcmfiaaMRefStores
import Derived.Test.YtimbnlcegcmfiaaMLoads
import Derived.Test.YtimbnlcegcmfiaaQuietTail
import Derived.Test.YtimbnlcegcmfiaaPut
import Derived.Test.YtimbnlcegcmfiaaSto
import Derived.Deep.QuietTactic
import Derived.BigQuiet
namespace Go.Proofs.Ytimbnlcegcmfiaa
open Go.RowKit
set_option linter.unusedVariables false
section
variable {w : World} {m : Im} {N p q r : Nat} {sl : Value} {s : St}

/-- What moves or does leaves. -/
def RActs (f : FuncId) (v : Value) (w : World) (m : Im) (N p q r : Nat) (sl : Value) (op d a b i : Int) (s' : St) : Prop :=
  Calls Try.prog f #[.pointer (some ⟨p, 0, none⟩), .agg #[.int .i64 op, .int .i64 d, .int .i64 a, .int .i64 b, .int .i32 i]] w fun e w' => e = .returned v ∧ ∃ sl', IsR w' m N p q r sl' s' ∧ Kept (Mine p r sl) w w' ∧ (sl'.ownBlock = sl.ownBlock ∨ ∀ k, sl'.ownBlock = some k → w.heap.size ≤ k)

set_option maxHeartbeats 2000000 in
theorem moves_none (h : IsR w m N p q r sl s) (op d b i : Int) (a : Nat) (ha : a < 16) (ho : op < 35 ∨ 38 < op) : RActs 40 (.bool false) w m N p q r sl op d a b i s := by
  have hp := h.plt
  have hc := h.reg a ha
  have hc6 := h.c6
  have ha' : (a : Int) < 16 := by omega
  have n1 : ¬ op = 35 := by omega
  have n2 : ¬ op = 36 := by omega
  have n3 : ¬ op = 37 := by omega
  have n4 : ¬ op = 38 := by omega
  have hN1 : ∀ n, IsR ((w.alloc (.cells #[.int .i64 op, .int .i64 d, .int .i64 a, .int .i64 b, .int .i32 i] 74)).drewN n) m N p q r sl s := fun n => (h.alloc _).below (below_drewN _ n)
  have hk1 : ∀ n, Kept (Mine p r sl) w ((w.alloc (.cells #[.int .i64 op, .int .i64 d, .int .i64 a, .int .i64 b, .int .i32 i] 74)).drewN n) := fun n => Kept.of_below ((below_box w _).trans ((below_drewN _ n).mono (by simp)))
  clear h ho
  unfold RActs
  go_enter Try.func40, Try.ntmps40
  go_wp2
  go_quiet (fail)
  go_wp2
  go_ret
  exact ⟨rfl, sl, hN1 _, hk1 _, .inl rfl⟩

set_option maxHeartbeats 2000000 in
theorem moves_load4_yes (h : IsR w m N p q r sl s) (b i : Int) (d a : Nat) (hd : d < 16) (ha : a < 16) (A : Nat) (hA : adr s a i = (A : Int)) (hok : A % 4 = 0 ∧ A + 4 ≤ 262144) : RActs 40 (.bool true) w m N p q r sl 35 d a b i { s with reg := wr s.reg d (wordAt s.mem A) } := by
  have hp := h.plt
  have hc := h.reg a ha
  have hc6 := h.c6
  have ha' : (a : Int) < 16 := by omega
  have hA1 : (s.reg a + i % 4294967296) % 4294967296 = (A : Int) := by rw [← hA]; unfold adr; omega
  have hN1 : ∀ n, IsR ((w.alloc (.cells #[.int .i64 35, .int .i64 d, .int .i64 a, .int .i64 b, .int .i32 i] 74)).drewN n) m N p q r sl s := fun n => (h.alloc _).below (below_drewN _ n)
  have hk1 : ∀ n, Kept (Mine p r sl) w ((w.alloc (.cells #[.int .i64 35, .int .i64 d, .int .i64 a, .int .i64 b, .int .i32 i] 74)).drewN n) := fun n => Kept.of_below ((below_box w _).trans ((below_drewN _ n).mono (by simp)))
  have hset : ∀ n, Calls Try.prog 39 #[.pointer (some ⟨p, 0, none⟩), .int .i64 (d : Int), .int .u32 (wordAt s.mem A)] ((w.alloc (.cells #[.int .i64 35, .int .i64 d, .int .i64 a, .int .i64 b, .int .i32 i] 74)).drewN n) _ := fun n => set39 (hN1 n) d hd (wordAt s.mem A)
  clear h
  unfold RActs
  go_enter Try.func40, Try.ntmps40
  go_wp2
  go_quiet (fail)
  go_wp2_with (first
    | (go_at_call 56; rw [hA1]; refine (rload4_yes (hN1 _).mem hok.1 hok.2).mono ?_; rintro e w' ⟨rfl, hw⟩; have hv := hw.symm; clear hw; subst hv)
    | (go_at_call 39; refine (hset _).mono ?_; rintro e w2 ⟨rfl, hM2, hK2⟩))
  go_ret
  exact ⟨rfl, sl, hM2, (hk1 _).trans hK2, .inl rfl⟩

set_option maxHeartbeats 2000000 in
theorem moves_load4_no (h : IsR w m N p q r sl s) (hx : s.exit = 0) (b i : Int) (d a : Nat) (ha : a < 16) (A : Nat) (hA : adr s a i = (A : Int)) (hlt : A < 4294967296) (hok : ¬ (A % 4 = 0 ∧ A + 4 ≤ 262144)) : RActs 40 (.bool true) w m N p q r sl 35 d a b i (trapS s 5) := by
  have hp := h.plt
  have hc := h.reg a ha
  have hc6 := h.c6
  have ha' : (a : Int) < 16 := by omega
  have hA1 : (s.reg a + i % 4294967296) % 4294967296 = (A : Int) := by rw [← hA]; unfold adr; omega
  have hN1 : ∀ n, IsR ((w.alloc (.cells #[.int .i64 35, .int .i64 d, .int .i64 a, .int .i64 b, .int .i32 i] 74)).drewN n) m N p q r sl s := fun n => (h.alloc _).below (below_drewN _ n)
  have hk1 : ∀ n, Kept (Mine p r sl) w ((w.alloc (.cells #[.int .i64 35, .int .i64 d, .int .i64 a, .int .i64 b, .int .i32 i] 74)).drewN n) := fun n => Kept.of_below ((below_box w _).trans ((below_drewN _ n).mono (by simp)))
  clear h
  unfold RActs
  go_enter Try.func40, Try.ntmps40
  go_wp2
  go_quiet (fail)
  go_wp2_with (first
    | (go_at_call 56; rw [hA1]; refine (rload4_no (hN1 _).mem hlt hok).mono ?_; rintro e w' ⟨rfl, hw⟩; have hv := hw.symm; clear hw; subst hv)
    | (go_at_call 36; refine (trap36 (hN1 _) hx 5).mono ?_; rintro e w2 ⟨rfl, hM2, hK2⟩))
  go_ret
  exact ⟨rfl, sl, hM2, (hk1 _).trans hK2, .inl rfl⟩

set_option maxHeartbeats 2000000 in
theorem moves_load1_yes (h : IsR w m N p q r sl s) (b i : Int) (d a : Nat) (hd : d < 16) (ha : a < 16) (A : Nat) (hA : adr s a i = (A : Int)) (hok : A < 262144) : RActs 40 (.bool true) w m N p q r sl 36 d a b i { s with reg := wr s.reg d ((s.mem A).toNat : Int) } := by
  have hp := h.plt
  have hc := h.reg a ha
  have hc6 := h.c6
  have ha' : (a : Int) < 16 := by omega
  have hA1 : (s.reg a + i % 4294967296) % 4294967296 = (A : Int) := by rw [← hA]; unfold adr; omega
  have hN1 : ∀ n, IsR ((w.alloc (.cells #[.int .i64 36, .int .i64 d, .int .i64 a, .int .i64 b, .int .i32 i] 74)).drewN n) m N p q r sl s := fun n => (h.alloc _).below (below_drewN _ n)
  have hk1 : ∀ n, Kept (Mine p r sl) w ((w.alloc (.cells #[.int .i64 36, .int .i64 d, .int .i64 a, .int .i64 b, .int .i32 i] 74)).drewN n) := fun n => Kept.of_below ((below_box w _).trans ((below_drewN _ n).mono (by simp)))
  have hset : ∀ n, Calls Try.prog 39 #[.pointer (some ⟨p, 0, none⟩), .int .i64 (d : Int), .int .u32 ((s.mem A).toNat : Int)] ((w.alloc (.cells #[.int .i64 36, .int .i64 d, .int .i64 a, .int .i64 b, .int .i32 i] 74)).drewN n) _ := fun n => set39 (hN1 n) d hd ((s.mem A).toNat : Int)
  clear h
  unfold RActs
  go_enter Try.func40, Try.ntmps40
  go_wp2
  go_quiet (fail)
  go_wp2_with (first
    | (go_at_call 57; rw [hA1]; refine (rload1_yes (hN1 _).mem hok).mono ?_; rintro e w' ⟨rfl, hw⟩; have hv := hw.symm; clear hw; subst hv)
    | (go_at_call 39; refine (hset _).mono ?_; rintro e w2 ⟨rfl, hM2, hK2⟩))
  go_ret
  exact ⟨rfl, sl, hM2, (hk1 _).trans hK2, .inl rfl⟩

set_option maxHeartbeats 2000000 in
theorem moves_load1_no (h : IsR w m N p q r sl s) (hx : s.exit = 0) (b i : Int) (d a : Nat) (ha : a < 16) (A : Nat) (hA : adr s a i = (A : Int)) (hlt : A < 4294967296) (hok : ¬ (A < 262144)) : RActs 40 (.bool true) w m N p q r sl 36 d a b i (trapS s 5) := by
  have hp := h.plt
  have hc := h.reg a ha
  have hc6 := h.c6
  have ha' : (a : Int) < 16 := by omega
  have hA1 : (s.reg a + i % 4294967296) % 4294967296 = (A : Int) := by rw [← hA]; unfold adr; omega
  have hN1 : ∀ n, IsR ((w.alloc (.cells #[.int .i64 36, .int .i64 d, .int .i64 a, .int .i64 b, .int .i32 i] 74)).drewN n) m N p q r sl s := fun n => (h.alloc _).below (below_drewN _ n)
  have hk1 : ∀ n, Kept (Mine p r sl) w ((w.alloc (.cells #[.int .i64 36, .int .i64 d, .int .i64 a, .int .i64 b, .int .i32 i] 74)).drewN n) := fun n => Kept.of_below ((below_box w _).trans ((below_drewN _ n).mono (by simp)))
  clear h
  unfold RActs
  go_enter Try.func40, Try.ntmps40
  go_wp2
  go_quiet (fail)
  go_wp2_with (first
    | (go_at_call 57; rw [hA1]; refine (rload1_no (hN1 _).mem hlt hok).mono ?_; rintro e w' ⟨rfl, hw⟩; have hv := hw.symm; clear hw; subst hv)
    | (go_at_call 36; refine (trap36 (hN1 _) hx 5).mono ?_; rintro e w2 ⟨rfl, hM2, hK2⟩))
  go_ret
  exact ⟨rfl, sl, hM2, (hk1 _).trans hK2, .inl rfl⟩

end
end Go.Proofs.Ytimbnlcegcmfiaa
