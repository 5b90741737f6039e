/- The document's machine: a step. -/
import Derived.Test.YtimbnlcegcmfiaaRFetch
import Derived.Test.YtimbnlcegcmfiaaRSto
import Derived.Test.YtimbnlcegcmfiaaRDoes
namespace Go.Proofs.Ytimbnlcegcmfiaa
open Go.RowKit
set_option linter.unusedVariables false
section
variable {w : World} {m : Im} {N p q r : Nat} {sl : Value} {s : St}

theorem hid' {x : Prop} (h : x) : Hid x := h
/-- What Step leaves. -/
def RSteps (w : World) (m : Im) (N p q r : Nat) (sl : Value) (b : Bool) (s' : St) : Prop :=
  Calls Try.prog 18 #[.pointer (some ⟨p, 0, none⟩)] w fun e w' => e = .returned (.bool b) ∧ ∃ sl', IsR w' m N p q r sl' s' ∧ Kept (Mine p r sl) w w' ∧ (sl'.ownBlock = sl.ownBlock ∨ ∀ k, sl'.ownBlock = some k → w.heap.size ≤ k)

theorem rstep_over (h : IsR w m N p q r sl s) (hk : ¬ s.kind = 3) : RSteps w m N p q r sl false s := by
  have hc := h.c24
  rw [decide_eq_false hk] at hc
  unfold RSteps
  go_enter Try.func18, Try.ntmps18
  go_wp2
  go_ret
  exact ⟨rfl, sl, h, Kept.rfl _ _, .inl rfl⟩

theorem rstep_trap (h : IsR w m N p q r sl s) (hx : s.exit = 0) (hk : s.kind = 3) (hv : Calls Try.prog 35 #[.pointer (some ⟨p, 0, none⟩)] w fun e w' => e = .returned (.tuple #[.agg #[.int .i64 0, .int .i64 0, .int .i64 0, .int .i64 0, .int .i32 0], .bool false]) ∧ Below w.heap.size w w') :
    RSteps w m N p q r sl true (trapS s 4) := by
  have hc := h.c24
  rw [decide_eq_true hk] at hc
  unfold RSteps
  go_enter Try.func18, Try.ntmps18
  go_wp2_with (first
    | (go_at_call 35; refine hv.mono ?_; rintro e w1 ⟨rfl, hb1⟩)
    | (go_at_call 36; refine (trap36 ((h.below hb1).alloc _) hx 4).mono ?_; rintro e w2 ⟨rfl, hM2, hK2⟩))
  go_ret
  exact ⟨rfl, sl, hM2, (Kept.of_below hb1).trans (kept_box hK2), .inl rfl⟩

/-- Fetched, and where it goes on. -/
structure Went (w : World) (m : Im) (N p q r : Nat) (sl : Value) (s : St) (op d a b i nx : Int) : Prop where
  fet : Calls Try.prog 35 #[.pointer (some ⟨p, 0, none⟩)] w fun e w' => e = .returned (.tuple #[.agg #[.int .i64 op, .int .i64 d, .int .i64 a, .int .i64 b, .int .i32 i], .bool true]) ∧ Below w.heap.size w w'
  goes : ∀ W, IsR W m N p q r sl s → Calls Try.prog 37 #[.pointer (some ⟨p, 0, none⟩), .agg #[.int .i64 op, .int .i64 d, .int .i64 a, .int .i64 b, .int .i32 i]] W fun e w' => e = .returned (.int .i64 nx) ∧ Below W.heap.size W w'

theorem kept_from {S : Nat → Prop} {a b c d : World} {o : Obj} (h1 : Below a.heap.size a b) (h2 : Below (b.alloc o).heap.size (b.alloc o) c) (h3 : Kept S c d) : Kept S a d :=
  ((Kept.of_below h1).trans (kept_box (Kept.of_below h2))).trans h3

theorem own_from {a c : World} {v v' : Value} (h : v'.ownBlock = v.ownBlock ∨ ∀ k, v'.ownBlock = some k → c.heap.size ≤ k) (h1 : a.heap.size ≤ c.heap.size) : v'.ownBlock = v.ownBlock ∨ ∀ k, v'.ownBlock = some k → a.heap.size ≤ k := own_later h h1

set_option maxHeartbeats 4000000 in
theorem rstep_moves {op d a b i nx : Int} {s' : St} (h : IsR w m N p q r sl s) (hk : s.kind = 3) (G : Went w m N p q r sl s op d a b i nx) (ho : 19 < op) (hm : ∀ W, IsR W m N p q r sl s → RActs 40 (.bool true) W m N p q r sl op d a b i s') (hk' : s'.kind = 3) :
    RSteps w m N p q r sl true { s' with pc := nx } := by
  have hc := h.c24
  rw [decide_eq_true hk] at hc
  have hv := G.fet
  have hg := hid' G.goes
  have hm' := hid' hm
  clear G hm
  have hle : decide (op ≤ 19) = false := decide_eq_false (by omega)
  unfold RSteps
  go_enter Try.func18, Try.ntmps18
  go_wp2_with (first
    | (go_at_call 35; refine hv.mono ?_; rintro e w1 ⟨rfl, hb1⟩; have hM1 := (h.below hb1).alloc (.cells #[.int .i64 op, .int .i64 d, .int .i64 a, .int .i64 b, .int .i32 i] 74))
    | (go_at_call 37; refine (hg.out _ hM1).mono ?_; rintro e w2 ⟨rfl, hb2⟩; have hM2 := hM1.below hb2; have y0 := boxed2 hb2 0 (.int .i64 op) rfl; have y1 := boxed2 hb2 1 (.int .i64 d) rfl; have y2 := boxed2 hb2 2 (.int .i64 a) rfl; have y3 := boxed2 hb2 3 (.int .i64 b) rfl; have y4 := boxed2 hb2 4 (.int .i32 i) rfl)
    | (go_at_call 40; have hm2 := hm'.out _ hM2; unfold RActs at hm2; refine hm2.mono ?_; rintro e w3 ⟨rfl, sl', hM3, hK3, hB3⟩; have c24 := hM3.c24; rw [decide_eq_true hk'] at c24; have c23 := hM3.c23; have f23 := hM3.free 23))
  go_ret
  exact ⟨rfl, sl', hM3.setPc nx, (kept_from hb1 hb2 hK3).set (.inl (mine_p p r sl)) _, own_from hB3 (Nat.le_trans hb1.size (Nat.le_trans (by simp) hb2.size))⟩

set_option maxHeartbeats 4000000 in
theorem rstep_moves_over {op d a b i nx : Int} {s' : St} (h : IsR w m N p q r sl s) (hk : s.kind = 3) (G : Went w m N p q r sl s op d a b i nx) (ho : 19 < op) (hm : ∀ W, IsR W m N p q r sl s → RActs 40 (.bool true) W m N p q r sl op d a b i s') (hk' : ¬ s'.kind = 3) :
    RSteps w m N p q r sl true s' := by
  have hc := h.c24
  rw [decide_eq_true hk] at hc
  have hv := G.fet
  have hg := hid' G.goes
  have hm' := hid' hm
  clear G hm
  have hle : decide (op ≤ 19) = false := decide_eq_false (by omega)
  unfold RSteps
  go_enter Try.func18, Try.ntmps18
  go_wp2_with (first
    | (go_at_call 35; refine hv.mono ?_; rintro e w1 ⟨rfl, hb1⟩; have hM1 := (h.below hb1).alloc (.cells #[.int .i64 op, .int .i64 d, .int .i64 a, .int .i64 b, .int .i32 i] 74))
    | (go_at_call 37; refine (hg.out _ hM1).mono ?_; rintro e w2 ⟨rfl, hb2⟩; have hM2 := hM1.below hb2; have y0 := boxed2 hb2 0 (.int .i64 op) rfl; have y1 := boxed2 hb2 1 (.int .i64 d) rfl; have y2 := boxed2 hb2 2 (.int .i64 a) rfl; have y3 := boxed2 hb2 3 (.int .i64 b) rfl; have y4 := boxed2 hb2 4 (.int .i32 i) rfl)
    | (go_at_call 40; have hm2 := hm'.out _ hM2; unfold RActs at hm2; refine hm2.mono ?_; rintro e w3 ⟨rfl, sl', hM3, hK3, hB3⟩; have c24 := hM3.c24; rw [decide_eq_false hk'] at c24))
  go_ret
  exact ⟨rfl, sl', hM3, kept_from hb1 hb2 hK3, own_from hB3 (Nat.le_trans hb1.size (Nat.le_trans (by simp) hb2.size))⟩

/-- The cells of the instruction behind what moves leaves. -/
theorem ins_kept {S : Nat → Prop} {w1 w2 w3 : World} {c : Array Value} {t : TypeId} (hb : Below (w1.alloc (.cells c t)).heap.size (w1.alloc (.cells c t)) w2) (hK : Kept S w2 w3) (hn : ¬ S w1.heap.size) (i : Nat) (v : Value) (hv : c[i]? = some v) : w3.cell? ⟨w1.heap.size, i, none⟩ = some v := by
  have h1 := boxed2 hb i v hv
  have h2 : w3.cell? ⟨w1.heap.size, i, none⟩ = w2.cell? ⟨w1.heap.size, i, none⟩ := World.cell?_of_block (w := w2) (a := ⟨w1.heap.size, i, none⟩) (hK.block w1.heap.size (by have := hb.size; simp at this; omega) hn)
  rw [h2, h1]
set_option maxHeartbeats 4000000 in
theorem rstep_does {op d a b i nx : Int} {s' : St} (h : IsR w m N p q r sl s) (hk : s.kind = 3) (G : Went w m N p q r sl s op d a b i nx) (ho : 19 < op) (hm : ∀ W, IsR W m N p q r sl s → Calls Try.prog 40 #[.pointer (some ⟨p, 0, none⟩), .agg #[.int .i64 op, .int .i64 d, .int .i64 a, .int .i64 b, .int .i32 i]] W fun e w' => e = .returned (.bool false) ∧ IsR w' m N p q r sl s ∧ Kept (Mine p r sl) W w')
    (hd : ∀ W, IsR W m N p q r sl s → RActs 41 (.tuple #[]) W m N p q r sl op d a b i s') (hk' : s'.kind = 3) : RSteps w m N p q r sl true { s' with pc := nx } := by
  have hc := h.c24
  rw [decide_eq_true hk] at hc
  have hv := G.fet
  have hg := hid' G.goes
  have hn : ∀ w1, Below w.heap.size w w1 → ¬ Mine p r sl w1.heap.size := fun w1 hb => rmine_new (h.below hb)
  have hn := hid' hn
  have hm' := hid' hm
  have hd' := hid' hd
  clear G hm hd
  have hle : decide (op ≤ 19) = false := decide_eq_false (by omega)
  unfold RSteps
  go_enter Try.func18, Try.ntmps18
  go_wp2_with (first
    | (go_at_call 35; refine hv.mono ?_; rintro e w1 ⟨rfl, hb1⟩; have hM1 := (h.below hb1).alloc (.cells #[.int .i64 op, .int .i64 d, .int .i64 a, .int .i64 b, .int .i32 i] 74))
    | (go_at_call 37; refine (hg.out _ hM1).mono ?_; rintro e w2 ⟨rfl, hb2⟩; have hM2 := hM1.below hb2; have hs2 : w1.heap.size < w2.heap.size := (by have hq := hb2.size; simp at hq; omega); have y0 := boxed2 hb2 0 (.int .i64 op) rfl; have y1 := boxed2 hb2 1 (.int .i64 d) rfl; have y2 := boxed2 hb2 2 (.int .i64 a) rfl; have y3 := boxed2 hb2 3 (.int .i64 b) rfl; have y4 := boxed2 hb2 4 (.int .i32 i) rfl)
    | (go_at_call 40; refine (hm'.out _ hM2).mono ?_; rintro e w3 ⟨rfl, hM3, hK3⟩; have x0 := ins_kept hb2 hK3 (hn.out _ hb1) 0 (.int .i64 op) rfl; have x1 := ins_kept hb2 hK3 (hn.out _ hb1) 1 (.int .i64 d) rfl; have x2 := ins_kept hb2 hK3 (hn.out _ hb1) 2 (.int .i64 a) rfl; have x3 := ins_kept hb2 hK3 (hn.out _ hb1) 3 (.int .i64 b) rfl; have x4 := ins_kept hb2 hK3 (hn.out _ hb1) 4 (.int .i32 i) rfl; have hs3 : w1.heap.size < w3.heap.size := Nat.lt_of_lt_of_le hs2 hK3.size)
    | (go_at_call 41; have hd2 := hd'.out _ hM3; unfold RActs at hd2; refine hd2.mono ?_; rintro e w4 ⟨rfl, sl', hM4, hK4, hB4⟩; have c24 := hM4.c24; rw [decide_eq_true hk'] at c24; have c23 := hM4.c23; have f23 := hM4.free 23))
  go_ret
  exact ⟨rfl, sl', hM4.setPc nx, ((kept_from hb1 hb2 hK3).trans hK4).set (.inl (mine_p p r sl)) _, own_from hB4 (Nat.le_trans hb1.size (Nat.le_trans (by simp) (Nat.le_trans hb2.size hK3.size)))⟩

set_option maxHeartbeats 4000000 in
theorem rstep_does_over {op d a b i nx : Int} {s' : St} (h : IsR w m N p q r sl s) (hk : s.kind = 3) (G : Went w m N p q r sl s op d a b i nx) (ho : 19 < op) (hm : ∀ W, IsR W m N p q r sl s → Calls Try.prog 40 #[.pointer (some ⟨p, 0, none⟩), .agg #[.int .i64 op, .int .i64 d, .int .i64 a, .int .i64 b, .int .i32 i]] W fun e w' => e = .returned (.bool false) ∧ IsR w' m N p q r sl s ∧ Kept (Mine p r sl) W w')
    (hd : ∀ W, IsR W m N p q r sl s → RActs 41 (.tuple #[]) W m N p q r sl op d a b i s') (hk' : ¬ s'.kind = 3) : RSteps w m N p q r sl true s' := by
  have hc := h.c24
  rw [decide_eq_true hk] at hc
  have hv := G.fet
  have hg := hid' G.goes
  have hn : ∀ w1, Below w.heap.size w w1 → ¬ Mine p r sl w1.heap.size := fun w1 hb => rmine_new (h.below hb)
  have hn := hid' hn
  have hm' := hid' hm
  have hd' := hid' hd
  clear G hm hd
  have hle : decide (op ≤ 19) = false := decide_eq_false (by omega)
  unfold RSteps
  go_enter Try.func18, Try.ntmps18
  go_wp2_with (first
    | (go_at_call 35; refine hv.mono ?_; rintro e w1 ⟨rfl, hb1⟩; have hM1 := (h.below hb1).alloc (.cells #[.int .i64 op, .int .i64 d, .int .i64 a, .int .i64 b, .int .i32 i] 74))
    | (go_at_call 37; refine (hg.out _ hM1).mono ?_; rintro e w2 ⟨rfl, hb2⟩; have hM2 := hM1.below hb2; have hs2 : w1.heap.size < w2.heap.size := (by have hq := hb2.size; simp at hq; omega); have y0 := boxed2 hb2 0 (.int .i64 op) rfl; have y1 := boxed2 hb2 1 (.int .i64 d) rfl; have y2 := boxed2 hb2 2 (.int .i64 a) rfl; have y3 := boxed2 hb2 3 (.int .i64 b) rfl; have y4 := boxed2 hb2 4 (.int .i32 i) rfl)
    | (go_at_call 40; refine (hm'.out _ hM2).mono ?_; rintro e w3 ⟨rfl, hM3, hK3⟩; have x0 := ins_kept hb2 hK3 (hn.out _ hb1) 0 (.int .i64 op) rfl; have x1 := ins_kept hb2 hK3 (hn.out _ hb1) 1 (.int .i64 d) rfl; have x2 := ins_kept hb2 hK3 (hn.out _ hb1) 2 (.int .i64 a) rfl; have x3 := ins_kept hb2 hK3 (hn.out _ hb1) 3 (.int .i64 b) rfl; have x4 := ins_kept hb2 hK3 (hn.out _ hb1) 4 (.int .i32 i) rfl; have hs3 : w1.heap.size < w3.heap.size := Nat.lt_of_lt_of_le hs2 hK3.size)
    | (go_at_call 41; have hd2 := hd'.out _ hM3; unfold RActs at hd2; refine hd2.mono ?_; rintro e w4 ⟨rfl, sl', hM4, hK4, hB4⟩; have c24 := hM4.c24; rw [decide_eq_false hk'] at c24))
  go_ret
  exact ⟨rfl, sl', hM4, (kept_from hb1 hb2 hK3).trans hK4, own_from hB4 (Nat.le_trans hb1.size (Nat.le_trans (by simp) (Nat.le_trans hb2.size hK3.size)))⟩

set_option maxHeartbeats 4000000 in
theorem rstep_alu {op i nx : Int} {d a b : Nat} (h : IsR w m N p q r sl s) (hO : Ok s) (hk : s.kind = 3) (G : Went w m N p q r sl s op d a b i nx) (ho : op ≤ 19) (hd : d < 16) (ha : a < 16) (hb : b < 16) (ht : aluT op (s.reg b) = 0) : RSteps w m N p q r sl true { s with reg := wr s.reg d (aluV op (s.reg a) (s.reg b)), pc := nx } := by
  have hc := h.c24
  rw [decide_eq_true hk] at hc
  have hv := G.fet
  have hg := hid' G.goes
  have hn : ∀ w1, Below w.heap.size w w1 → ¬ Mine p r sl w1.heap.size := fun w1 hb => rmine_new (h.below hb)
  clear hn G
  obtain ⟨a0, a1⟩ := hO.regs a ha
  obtain ⟨b0, b1⟩ := hO.regs b hb
  have ha' : (a : Int) < 16 := by omega
  have hb' : (b : Int) < 16 := by omega
  have hle : decide (op ≤ 19) = true := decide_eq_true ho
  have halu := fun W => alu8 op (s.reg a) (s.reg b) a0 a1 b0 b1 W
  rw [ht] at halu
  unfold RSteps
  go_enter Try.func18, Try.ntmps18
  go_wp2_with (first
    | (go_at_call 35; refine hv.mono ?_; rintro e w1 ⟨rfl, hb1⟩; have hM1 := (h.below hb1).alloc (.cells #[.int .i64 op, .int .i64 d, .int .i64 a, .int .i64 b, .int .i32 i] 74))
    | (go_at_call 37; refine (hg.out _ hM1).mono ?_; rintro e w2 ⟨rfl, hb2⟩; have hM2 := hM1.below hb2; have hs2 : w1.heap.size < w2.heap.size := (by have hq := hb2.size; simp at hq; omega); have y0 := boxed2 hb2 0 (.int .i64 op) rfl; have y1 := boxed2 hb2 1 (.int .i64 d) rfl; have y2 := boxed2 hb2 2 (.int .i64 a) rfl; have y3 := boxed2 hb2 3 (.int .i64 b) rfl; have y4 := boxed2 hb2 4 (.int .i32 i) rfl; have ra := hM2.reg a ha; have rb := hM2.reg b hb)
)
  go_quiet (exact Calls.quiet_of_same (halu _))
  go_wp2_with (first
    | (go_at_call 39; refine (set39 (hM2.below (below_drewN _ _)) d hd _).mono ?_; rintro e w3 ⟨rfl, hM3, hK3⟩; have c24 := hM3.c24; rw [decide_eq_true (show (s.kind : Int) = 3 from hk)] at c24; have c23 := hM3.c23; have f23 := hM3.free 23))
  go_ret
  exact ⟨rfl, sl, hM3.setPc nx, ((kept_from hb1 hb2 (Kept.of_below (below_drewN _ _))).trans hK3).set (.inl (mine_p p r sl)) _, .inl rfl⟩

set_option maxHeartbeats 4000000 in
theorem rstep_alu_trap {op i nx : Int} {d a b : Nat} (h : IsR w m N p q r sl s) (hO : Ok s) (hx : s.exit = 0) (hk : s.kind = 3) (G : Went w m N p q r sl s op d a b i nx) (ho : op ≤ 19) (ha : a < 16) (hb : b < 16) (ht : ¬ aluT op (s.reg b) = 0) : RSteps w m N p q r sl true (trapS s (aluT op (s.reg b))) := by
  have hc := h.c24
  rw [decide_eq_true hk] at hc
  have hv := G.fet
  have hg := hid' G.goes
  have hn : ∀ w1, Below w.heap.size w w1 → ¬ Mine p r sl w1.heap.size := fun w1 hb => rmine_new (h.below hb)
  clear hn G
  obtain ⟨a0, a1⟩ := hO.regs a ha
  obtain ⟨b0, b1⟩ := hO.regs b hb
  have ha' : (a : Int) < 16 := by omega
  have hb' : (b : Int) < 16 := by omega
  have hle : decide (op ≤ 19) = true := decide_eq_true ho
  unfold RSteps
  go_enter Try.func18, Try.ntmps18
  go_wp2_with (first
    | (go_at_call 35; refine hv.mono ?_; rintro e w1 ⟨rfl, hb1⟩; have hM1 := (h.below hb1).alloc (.cells #[.int .i64 op, .int .i64 d, .int .i64 a, .int .i64 b, .int .i32 i] 74))
    | (go_at_call 37; refine (hg.out _ hM1).mono ?_; rintro e w2 ⟨rfl, hb2⟩; have hM2 := hM1.below hb2; have hs2 : w1.heap.size < w2.heap.size := (by have hq := hb2.size; simp at hq; omega); have y0 := boxed2 hb2 0 (.int .i64 op) rfl; have y1 := boxed2 hb2 1 (.int .i64 d) rfl; have y2 := boxed2 hb2 2 (.int .i64 a) rfl; have y3 := boxed2 hb2 3 (.int .i64 b) rfl; have y4 := boxed2 hb2 4 (.int .i32 i) rfl; have ra := hM2.reg a ha; have rb := hM2.reg b hb)
)
  go_quiet (exact Calls.quiet_of_same (alu8 op _ _ a0 a1 b0 b1 _))
  go_wp2_with (first
    | (go_at_call 36; refine (trap36 (hM2.below (below_drewN _ _)) hx _).mono ?_; rintro e w3 ⟨rfl, hM3, hK3⟩; have c24 : w3.cell? ⟨p, 24, none⟩ = some (.bool true) := hM3.c24))
  go_ret
  exact ⟨rfl, sl, hM3, (kept_from hb1 hb2 (Kept.of_below (below_drewN _ _))).trans hK3, .inl rfl⟩

end
end Go.Proofs.Ytimbnlcegcmfiaa
