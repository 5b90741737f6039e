/- An instruction is done: what gives, stores, branches, traps. -/
import Derived.Test.YtimbnlcegcmfiaaBranch
namespace Go.Proofs.Ytimbnlcegcmfiaa
open Go.RowKit
set_option linter.unusedVariables false
section
variable {w : World} {N p q r : Nat} {sl : Value} {s : St}

/-- What give (51) or store (49) leaves. -/
def Kinds (f : FuncId) (w : World) (N p q r : Nat) (sl : Value) (op d a b i k : Int) (s' : St) : Prop :=
  Calls Try.prog f #[.pointer (some ⟨p, 0, none⟩), .agg #[.int .i64 op, .int .i64 d, .int .i64 a, .int .i64 b, .int .i32 i]] w fun e w' => e = .returned (.int .i64 k) ∧ IsM w' N p q r sl s' ∧ Kept (Mine p r sl) w w'

/-- What do leaves. -/
def Does (w : World) (N p q r : Nat) (sl : Value) (op d a b i : Int) (s' : St) : Prop :=
  Calls Try.prog 34 #[.pointer (some ⟨p, 0, none⟩), .agg #[.int .i64 op, .int .i64 d, .int .i64 a, .int .i64 b, .int .i32 i]] w fun e w' => e = .returned (.tuple #[]) ∧ ∃ sl', IsM w' N p q r sl' s' ∧ Kept (Mine p r sl) w w' ∧ (sl'.ownBlock = sl.ownBlock ∨ ∀ k, sl'.ownBlock = some k → w.heap.size ≤ k)

set_option maxHeartbeats 2000000 in
theorem do_store_ok {s' : St} (h : IsM w N p q r sl s) (hO : Ok s) (op d a b i : Int) (ho : op = 37 ∨ op = 38) (hv : ∀ o, Kinds 49 (w.alloc o) N p q r sl op d a b i 0 s') :
    Does w N p q r sl op d a b i { s' with pc := s.pc + 4 } := by
  have hp := h.plt
  have hc := h.c2
  have p0 := hO.pc0
  have p1 := hO.pc1
  have hg := hv (.cells #[.int .i64 op, .int .i64 d, .int .i64 a, .int .i64 b, .int .i32 i] 74)
  clear hv
  unfold Kinds at hg
  unfold Does
  rcases ho with rfl | rfl
  all_goals
    go_enter Try.func34, Try.ntmps34
    go_wp2_with (first
      | (go_at_call 49; refine hg.mono ?_; rintro e w1 ⟨rfl, hM1, hK1⟩; have hc1 := hM1.c2; have hf1 := hM1.free 2))
    go_end0
    exact ⟨rfl, sl, hM1.setPc _, (kept_box hK1).set (.inl (mine_p p r sl)) _, .inl rfl⟩

set_option maxHeartbeats 2000000 in
theorem do_store_trap {k : Int} (h : IsM w N p q r sl s) (hO : Ok s) (hk : ¬ k = 0) (op d a b i : Int) (ho : op = 37 ∨ op = 38) (hv : ∀ o, Kinds 49 (w.alloc o) N p q r sl op d a b i k s) :
    Does w N p q r sl op d a b i (trapS s k) := by
  have hp := h.plt
  have hc := h.c2
  have p0 := hO.pc0
  have p1 := hO.pc1
  have hg := hv (.cells #[.int .i64 op, .int .i64 d, .int .i64 a, .int .i64 b, .int .i32 i] 74)
  clear hv
  unfold Kinds at hg
  unfold Does
  rcases ho with rfl | rfl
  all_goals
    go_enter Try.func34, Try.ntmps34
    go_wp2_with (first
      | (go_at_call 49; refine hg.mono ?_; rintro e w1 ⟨rfl, hM1, hK1⟩)
      | (go_at_call 33; refine (trap33 hM1 k).mono ?_; rintro e w2 ⟨rfl, hM2, hK2⟩))
    refine bodyPost_ret (results_none rfl _ _ _) rfl ?_
    exact ⟨rfl, sl, hM2, (kept_box hK1).trans hK2, .inl rfl⟩

set_option maxHeartbeats 2000000 in
theorem do_give_ok {s' : St} (h : IsM w N p q r sl s) (hO : Ok s) (op d a b i : Int) (ho : op ≤ 36 ∨ op = 44) (hv : ∀ o, Kinds 51 (w.alloc o) N p q r sl op d a b i 0 s') :
    Does w N p q r sl op d a b i { s' with pc := s.pc + 4 } := by
  have hp := h.plt
  have hc := h.c2
  have p0 := hO.pc0
  have p1 := hO.pc1
  have hg := hv (.cells #[.int .i64 op, .int .i64 d, .int .i64 a, .int .i64 b, .int .i32 i] 74)
  clear hv
  unfold Kinds at hg
  unfold Does
  have n1 : ¬ op = 37 := by omega
  have n2 : ¬ op = 38 := by omega
  have n3 : ¬ op = 39 := by omega
  have n4 : ¬ op = 40 := by omega
  have n5 : ¬ op = 41 := by omega
  have n6 : ¬ op = 42 := by omega
  have n7 : ¬ op = 43 := by omega
  have n8 : ¬ op = 45 := by omega
  have n9 : ¬ op = 46 := by omega
  have n10 : ¬ op = 47 := by omega
  clear ho
  go_enter Try.func34, Try.ntmps34
  go_wp2_with (first
    | (go_at_call 51; refine hg.mono ?_; rintro e w1 ⟨rfl, hM1, hK1⟩; have hc1 := hM1.c2; have hf1 := hM1.free 2))
  go_end0
  exact ⟨rfl, sl, hM1.setPc _, (kept_box hK1).set (.inl (mine_p p r sl)) _, .inl rfl⟩

set_option maxHeartbeats 2000000 in
theorem do_give_trap {k : Int} (h : IsM w N p q r sl s) (hO : Ok s) (hk : ¬ k = 0) (op d a b i : Int) (ho : op ≤ 36 ∨ op = 44) (hv : ∀ o, Kinds 51 (w.alloc o) N p q r sl op d a b i k s) :
    Does w N p q r sl op d a b i (trapS s k) := by
  have hp := h.plt
  have hc := h.c2
  have p0 := hO.pc0
  have p1 := hO.pc1
  have hg := hv (.cells #[.int .i64 op, .int .i64 d, .int .i64 a, .int .i64 b, .int .i32 i] 74)
  clear hv
  unfold Kinds at hg
  unfold Does
  have n1 : ¬ op = 37 := by omega
  have n2 : ¬ op = 38 := by omega
  have n3 : ¬ op = 39 := by omega
  have n4 : ¬ op = 40 := by omega
  have n5 : ¬ op = 41 := by omega
  have n6 : ¬ op = 42 := by omega
  have n7 : ¬ op = 43 := by omega
  have n8 : ¬ op = 45 := by omega
  have n9 : ¬ op = 46 := by omega
  have n10 : ¬ op = 47 := by omega
  clear ho
  go_enter Try.func34, Try.ntmps34
  go_wp2_with (first
    | (go_at_call 51; refine hg.mono ?_; rintro e w1 ⟨rfl, hM1, hK1⟩)
    | (go_at_call 33; refine (trap33 hM1 k).mono ?_; rintro e w2 ⟨rfl, hM2, hK2⟩))
  refine bodyPost_ret (results_none rfl _ _ _) rfl ?_
  exact ⟨rfl, sl, hM2, (kept_box hK1).trans hK2, .inl rfl⟩

set_option maxHeartbeats 2000000 in
theorem do_branch (h : IsM w N p q r sl s) (hO : Ok s) (op d b i : Int) (a : Nat) (ha : a < 16) (ho : op = 39 ∨ op = 40 ∨ op = 41 ∨ op = 43) (i0 : -8388608 ≤ i) (i1 : i ≤ 8388607) :
    Does w N p q r sl op d a b i { s with pc := brF s op a i } := by
  have hp := h.plt
  have hc := h.c2
  have p0 := hO.pc0
  have p1 := hO.pc1
  have hB := h.alloc (.cells #[.int .i64 op, .int .i64 d, .int .i64 a, .int .i64 b, .int .i32 i] 74)
  have hg := branch50_plain hB hO op d b i a ha ho i0 i1
  unfold Does
  rcases ho with rfl | rfl | rfl | rfl
  all_goals
    go_enter Try.func34, Try.ntmps34
    go_wp2_with (first
      | (go_at_call 50; refine hg.mono ?_; rintro e w1 ⟨rfl, hb1⟩; have hM1 := hB.below hb1; have hc1 := hM1.c2; have hf1 := hM1.free 2))
    go_end0
    exact ⟨rfl, sl, hM1.setPc _, (kept_box (Kept.of_below hb1)).set (.inl (mine_p p r sl)) _, .inl rfl⟩

set_option maxHeartbeats 2000000 in
theorem do_call (h : IsM w N p q r sl s) (hO : Ok s) (d b i : Int) (a : Nat) (ha : a < 16) (i0 : -8388608 ≤ i) (i1 : i ≤ 8388607) :
    Does w N p q r sl 42 d a b i { s with reg := upd s.reg 14 ((s.pc + 4) % 4294967296), pc := brF s 42 a i } := by
  have hp := h.plt
  have hc := h.c2
  have p0 := hO.pc0
  have p1 := hO.pc1
  have hB := h.alloc (.cells #[.int .i64 42, .int .i64 d, .int .i64 a, .int .i64 b, .int .i32 i] 74)
  have hg := branch50_call hB hO d b i a ha i0 i1
  unfold Does
  go_enter Try.func34, Try.ntmps34
  go_wp2_with (first
    | (go_at_call 50; refine hg.mono ?_; rintro e w1 ⟨rfl, hM1, hK1⟩; have hc1 := hM1.c2; have hf1 := hM1.free 2))
  go_end0
  exact ⟨rfl, sl, hM1.setPc _, (kept_box hK1).set (.inl (mine_p p r sl)) _, .inl rfl⟩

set_option maxHeartbeats 2000000 in
theorem do_trap (h : IsM w N p q r sl s) (hO : Ok s) (d a b i : Int) (i0 : 1 ≤ i) (i1 : i ≤ 5) :
    Does w N p q r sl 46 d a b i (trapS s i) := by
  have hp := h.plt
  have hc := h.c2
  have p0 := hO.pc0
  have p1 := hO.pc1
  have hz : ¬ i = 0 := by omega
  have hB := h.alloc (.cells #[.int .i64 46, .int .i64 d, .int .i64 a, .int .i64 b, .int .i32 i] 74)
  unfold Does
  go_enter Try.func34, Try.ntmps34
  go_wp2_with (first
    | (go_at_call 33; refine (trap33 hB i).mono ?_; rintro e w2 ⟨rfl, hM2, hK2⟩))
  refine bodyPost_ret (results_none rfl _ _ _) rfl ?_
  exact ⟨rfl, sl, hM2, kept_box hK2, .inl rfl⟩

set_option maxHeartbeats 2000000 in
theorem do_halt (h : IsM w N p q r sl s) (hO : Ok s) (d b i : Int) (a : Nat) (ha : a < 16) :
    Does w N p q r sl 47 d a b i { s with kind := 1, exit := wrap32 (s.reg a) } := by
  have hp := h.plt
  have hc := h.c2
  have p0 := hO.pc0
  have p1 := hO.pc1
  have hr := h.reg a ha
  have hc21 := h.c21
  have hc22 := h.c22
  have hf21 := h.free 21
  have hf22 := h.free 22
  unfold Does
  go_enter Try.func34, Try.ntmps34
  go_wp2
  go_region
  all_goals go_wp2
  all_goals (refine bodyPost_ret (results_none rfl _ _ _) rfl ?_)
  all_goals exact ⟨rfl, sl, (((h.setKind 1).setExit _).alloc _).drew, (((((Kept.rfl _ w).set (.inl (mine_p p r sl)) _).set (.inl (mine_p p r sl)) _).alloc _).drew), .inl rfl⟩
end
end Go.Proofs.Ytimbnlcegcmfiaa
