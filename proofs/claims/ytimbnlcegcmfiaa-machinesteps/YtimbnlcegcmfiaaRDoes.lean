/- The document's machine: all other instructions. -/
import Derived.Test.YtimbnlcegcmfiaaRMoves
namespace Go.Proofs.Ytimbnlcegcmfiaa
open Go.RowKit
set_option linter.unusedVariables false
section
variable {w : World} {m : Im} {N p q r : Nat} {sl : Value} {s : St}

set_option maxRecDepth 100000 in
set_option maxHeartbeats 4000000 in
theorem does_addi (h : IsR w m N p q r sl s) (hO : Ok s) (b i : Int) (d a : Nat) (hd : d < 16) (ha : a < 16) : RActs 41 (.tuple #[]) w m N p q r sl 32 d a b i { s with reg := wr s.reg d (adr s a i) } := by
  obtain ⟨x0, x1⟩ := hO.regs d hd
  have hd' : (d : Int) < 16 := by omega
  have hp := h.plt
  have hc := h.reg a ha
  have ha' : (a : Int) < 16 := by omega
  haveI := after_some
  have hB : Hid (IsR (w.alloc (.cells #[.int .i64 32, .int .i64 d, .int .i64 a, .int .i64 b, .int .i32 i] 74)) m N p q r sl s) := h.alloc (.cells #[.int .i64 32, .int .i64 d, .int .i64 a, .int .i64 b, .int .i32 i] 74)
  have hb0 : Hid (Below w.heap.size w (w.alloc (.cells #[.int .i64 32, .int .i64 d, .int .i64 a, .int .i64 b, .int .i32 i] 74))) := below_box w (.cells #[.int .i64 32, .int .i64 d, .int .i64 a, .int .i64 b, .int .i32 i] 74)
  have fx : ∀ (t : After (w.alloc (.cells #[.int .i64 32, .int .i64 d, .int .i64 a, .int .i64 b, .int .i32 i] 74))) (j : Nat) (v : Value), (#[.int .i64 32, .int .i64 d, .int .i64 a, .int .i64 b, .int .i32 i] : Array Value)[j]? = some v → t.1.cell? ⟨w.heap.size, j, none⟩ = some v := fun t => fun j v hv => boxed2 t.2 j v hv
  have fx0 := fun t => fx t 0 _ rfl
  have fx1 := fun t => fx t 1 _ rfl
  have fx2 := fun t => fx t 2 _ rfl
  have fx3 := fun t => fx t 3 _ rfl
  have fx4 := fun t => fx t 4 _ rfl
  have fa : ∀ (t : After (w.alloc (.cells #[.int .i64 32, .int .i64 d, .int .i64 a, .int .i64 b, .int .i32 i] 74))), t.1.cell? ⟨p, 7 + a, none⟩ = some (.int .u32 (s.reg a)) := fun t => (hB.out.below t.2).reg a ha
  have hset : ∀ w1 y, IsR w1 m N p q r sl s → y = (adr s a i) → Calls Try.prog 39 #[.pointer (some ⟨p, 0, none⟩), .int .i64 (d : Int), .int .u32 y] w1 fun e w' => e = .returned (.tuple #[]) ∧ IsR w' m N p q r sl { s with reg := wr s.reg d (adr s a i) } ∧ Kept (Mine p r sl) w1 w' := by
    rintro w1 y h1 rfl
    exact set39 h1 d hd _
  clear h fx
  unfold RActs
  go_enter Try.func41, Try.ntmps41
  go_wp2
  refine region_after 14 mixed2 (by kernel_rfl) ?_
  simp only [List.take_succ_cons, List.take_zero, List.drop_succ_cons, List.drop_zero]
  repeat quiet_step (fail)
  refine wpQuiet_nil ?_
  intro w1 hb1
  have hM1 : Hid (IsR w1 m N p q r sl s) := hB.out.below hb1
  clear fa fx0 fx1 fx2 fx3 fx4
  go_wp2_with (first
    | (go_at_call 39; refine (hset _ _ hM1.out (by unfold adr; (try simp only [wrap_u32_mod]); omega)).mono ?_; rintro e w2 ⟨rfl, hM2, hK2⟩))
  go_end0
  exact ⟨rfl, sl, hM2, ((Kept.of_below hb0.out).ahead (Kept.of_below hb1) (fun _ _ e => e)).trans hK2, .inl rfl⟩

set_option maxRecDepth 100000 in
set_option maxHeartbeats 4000000 in
theorem does_high (h : IsR w m N p q r sl s) (hO : Ok s) (b i : Int) (d a : Nat) (hd : d < 16) (ha : a < 16) : RActs 41 (.tuple #[]) w m N p q r sl 34 d a b i { s with reg := wr s.reg d (highF (s.reg d) i) } := by
  obtain ⟨x0, x1⟩ := hO.regs d hd
  have hd' : (d : Int) < 16 := by omega
  have hp := h.plt
  have hc := h.reg a ha
  have ha' : (a : Int) < 16 := by omega
  haveI := after_some
  have hB : Hid (IsR (w.alloc (.cells #[.int .i64 34, .int .i64 d, .int .i64 a, .int .i64 b, .int .i32 i] 74)) m N p q r sl s) := h.alloc (.cells #[.int .i64 34, .int .i64 d, .int .i64 a, .int .i64 b, .int .i32 i] 74)
  have hb0 : Hid (Below w.heap.size w (w.alloc (.cells #[.int .i64 34, .int .i64 d, .int .i64 a, .int .i64 b, .int .i32 i] 74))) := below_box w (.cells #[.int .i64 34, .int .i64 d, .int .i64 a, .int .i64 b, .int .i32 i] 74)
  have fx : ∀ (t : After (w.alloc (.cells #[.int .i64 34, .int .i64 d, .int .i64 a, .int .i64 b, .int .i32 i] 74))) (j : Nat) (v : Value), (#[.int .i64 34, .int .i64 d, .int .i64 a, .int .i64 b, .int .i32 i] : Array Value)[j]? = some v → t.1.cell? ⟨w.heap.size, j, none⟩ = some v := fun t => fun j v hv => boxed2 t.2 j v hv
  have fx0 := fun t => fx t 0 _ rfl
  have fx1 := fun t => fx t 1 _ rfl
  have fx2 := fun t => fx t 2 _ rfl
  have fx3 := fun t => fx t 3 _ rfl
  have fx4 := fun t => fx t 4 _ rfl
  have fd : ∀ (t : After (w.alloc (.cells #[.int .i64 34, .int .i64 d, .int .i64 a, .int .i64 b, .int .i32 i] 74))), t.1.cell? ⟨p, 7 + d, none⟩ = some (.int .u32 (s.reg d)) := fun t => (hB.out.below t.2).reg d hd
  have hset : ∀ w1 y, IsR w1 m N p q r sl s → y = (highF (s.reg d) i) → Calls Try.prog 39 #[.pointer (some ⟨p, 0, none⟩), .int .i64 (d : Int), .int .u32 y] w1 fun e w' => e = .returned (.tuple #[]) ∧ IsR w' m N p q r sl { s with reg := wr s.reg d (highF (s.reg d) i) } ∧ Kept (Mine p r sl) w1 w' := by
    rintro w1 y h1 rfl
    exact set39 h1 d hd _
  clear h fx
  unfold RActs
  go_enter Try.func41, Try.ntmps41
  go_wp2
  refine region_after 16 mixed2 (by kernel_rfl) ?_
  simp only [List.take_succ_cons, List.take_zero, List.drop_succ_cons, List.drop_zero]
  repeat quiet_step (fail)
  refine wpQuiet_nil ?_
  intro w1 hb1
  have hM1 : Hid (IsR w1 m N p q r sl s) := hB.out.below hb1
  clear fd fx0 fx1 fx2 fx3 fx4
  go_wp2_with (first
    | (go_at_call 39; refine (hset _ _ hM1.out (by unfold highF; (try simp only [wrap_u32_mod]); rw [mask16 _ x0 x1])).mono ?_; rintro e w2 ⟨rfl, hM2, hK2⟩))
  go_end0
  exact ⟨rfl, sl, hM2, ((Kept.of_below hb0.out).ahead (Kept.of_below hb1) (fun _ _ e => e)).trans hK2, .inl rfl⟩

set_option maxHeartbeats 2000000 in
theorem does_low (h : IsR w m N p q r sl s) (b i : Int) (d a : Nat) (hd : d < 16) : RActs 41 (.tuple #[]) w m N p q r sl 33 d a b i { s with reg := wr s.reg d (i % 4294967296) } := by
  have hB := h.alloc (.cells #[.int .i64 33, .int .i64 d, .int .i64 a, .int .i64 b, .int .i32 i] 74)
  unfold RActs
  go_enter Try.func41, Try.ntmps41
  go_wp2_with (first
    | (go_at_call 39; refine (set39 hB d hd _).mono ?_; rintro e w2 ⟨rfl, hM2, hK2⟩))
  go_end0
  exact ⟨rfl, sl, hM2, kept_box hK2, .inl rfl⟩

set_option maxHeartbeats 2000000 in
theorem does_trap (h : IsR w m N p q r sl s) (hx : s.exit = 0) (d a b i : Int) (i0 : 1 ≤ i) (i1 : i ≤ 5) : RActs 41 (.tuple #[]) w m N p q r sl 46 d a b i (trapS s i) := by
  have hB := h.alloc (.cells #[.int .i64 46, .int .i64 d, .int .i64 a, .int .i64 b, .int .i32 i] 74)
  unfold RActs
  go_enter Try.func41, Try.ntmps41
  go_wp2_with (first
    | (go_at_call 36; refine (trap36 hB hx i).mono ?_; rintro e w2 ⟨rfl, hM2, hK2⟩))
  go_end0
  exact ⟨rfl, sl, hM2, kept_box hK2, .inl rfl⟩

set_option maxHeartbeats 2000000 in
theorem does_none (h : IsR w m N p q r sl s) (op d a b i : Int) (ho : op = 39 ∨ op = 40 ∨ op = 41 ∨ op = 43) : RActs 41 (.tuple #[]) w m N p q r sl op d a b i s := by
  have hB := h.alloc (.cells #[.int .i64 op, .int .i64 d, .int .i64 a, .int .i64 b, .int .i32 i] 74)
  unfold RActs
  rcases ho with rfl | rfl | rfl | rfl
  all_goals
    go_enter Try.func41, Try.ntmps41
    go_wp2
    go_end0
    exact ⟨rfl, sl, hB, (Kept.rfl _ w).alloc _, .inl rfl⟩

set_option maxHeartbeats 2000000 in
theorem does_call (h : IsR w m N p q r sl s) (hO : Ok s) (d a b i : Int) : RActs 41 (.tuple #[]) w m N p q r sl 42 d a b i { s with reg := upd s.reg 14 ((s.pc + 4) % 4294967296) } := by
  have hp := h.plt
  have hc23 := h.c23
  have p0 := hO.pc0
  have p1 := hO.pc1
  have hc21 := h.reg 14 (by omega)
  have hf21 := h.free 21
  unfold RActs
  go_enter Try.func41, Try.ntmps41
  go_wp2
  go_region
  all_goals go_wp2
  all_goals go_end0
  all_goals exact ⟨rfl, sl, ((h.setReg 14 (by omega) _).alloc _).drew, (((Kept.rfl _ w).set (.inl (mine_p p r sl)) _).alloc _).drew, .inl rfl⟩

set_option maxHeartbeats 2000000 in
theorem does_halt (h : IsR w m N p q r sl s) (ht : s.trap = 0) (d b i : Int) (a : Nat) (ha : a < 16) : RActs 41 (.tuple #[]) w m N p q r sl 47 d a b i { s with kind := 1, exit := wrap32 (s.reg a) } := by
  have hp := h.plt
  have hr := h.reg a ha
  have ha' : (a : Int) < 16 := by omega
  have f24 := h.free 24
  have f25 := h.free 25
  have f26 := h.free 26
  have f27 := h.free 27
  have f28 := h.free 28
  have f29 := h.free 29
  have c24 := h.c24
  have c25 := h.c25
  have c26 := h.c26
  have c27 := h.c27
  have c28 := h.c28
  have c29 := h.c29
  have H := h.setFin 1 (wrap32 (s.reg a)) 0 (by decide)
  have e : ({ s with kind := 1, exit := wrap32 (s.reg a), trap := 0 } : St) = { s with kind := 1, exit := wrap32 (s.reg a) } := by rw [← ht]
  rw [e] at H
  have H' : Hid _ := H
  clear H h e
  unfold RActs
  go_enter Try.func41, Try.ntmps41
  go_wp2
  go_region
  all_goals go_wp2
  all_goals go_end0
  all_goals exact ⟨rfl, sl, (H'.out.alloc _).drew, ((((((((Kept.rfl _ w).set (.inl (mine_p p r sl)) _).set (.inl (mine_p p r sl)) _).set (.inl (mine_p p r sl)) _).set (.inl (mine_p p r sl)) _).set (.inl (mine_p p r sl)) _).set (.inl (mine_p p r sl)) _).alloc _).drew, .inl rfl⟩

set_option maxHeartbeats 2000000 in
theorem does_get_end (h : IsR w m N p q r sl s) (hu : s.used = s.input.size) (a b i : Int) (d : Nat) (hd : d < 16) : RActs 41 (.tuple #[]) w m N p q r sl 44 d a b i { s with reg := wr s.reg d 4294967295 } := by
  have hp := h.plt
  have hc5 := h.c5
  have hc31 := h.c31
  rw [hu] at hc31
  have hN1 : ∀ n, IsR ((w.alloc (.cells #[.int .i64 44, .int .i64 d, .int .i64 a, .int .i64 b, .int .i32 i] 74)).drewN n) m N p q r sl s := fun n => (h.alloc _).below (below_drewN _ n)
  have hk1 : ∀ n, Kept (Mine p r sl) w ((w.alloc (.cells #[.int .i64 44, .int .i64 d, .int .i64 a, .int .i64 b, .int .i32 i] 74)).drewN n) := fun n => Kept.of_below ((below_box w _).trans ((below_drewN _ n).mono (by simp)))
  clear h
  unfold RActs
  go_enter Try.func41, Try.ntmps41
  go_wp2
  go_quiet (fail)
  go_wp2_with (first
    | (go_at_call 39; refine (set39 (hN1 _) d hd _).mono ?_; rintro e w2 ⟨rfl, hM2, hK2⟩))
  go_end0
  exact ⟨rfl, sl, hM2, (hk1 _).trans hK2, .inl rfl⟩

set_option maxHeartbeats 4000000 in
theorem does_get_one (h : IsR w m N p q r sl s) (hO : Ok s) (hu : s.used < s.input.size) (a b i : Int) (d : Nat) (hd : d < 16) : RActs 41 (.tuple #[]) w m N p q r sl 44 d a b i { s with used := s.used + 1, reg := wr s.reg d (s.input[s.used].toNat : Int) } := by
  have hp := h.plt
  have hc5 := h.c5
  have hc31 := h.c31
  have hf31 := h.free 31
  have hs := hO.isize
  have hlt : (s.used : Int) < (s.input.size : Int) := by omega
  have hlt' : decide ((s.used : Int) < (s.input.size : Int)) = true := decide_eq_true hlt
  have hb : s.input[s.used].toNat < 256 := s.input[s.used].toNat_lt
  have hN1 : ∀ n, IsR (((w.alloc (.cells #[.int .i64 44, .int .i64 d, .int .i64 a, .int .i64 b, .int .i32 i] 74)).drewN n).setCell ⟨p, 31, none⟩ (.int .i64 ((s.used : Int) + 1))) m N p q r sl { s with used := s.used + 1 } := fun n => ((h.alloc (.cells #[.int .i64 44, .int .i64 d, .int .i64 a, .int .i64 b, .int .i32 i] 74)).below (below_drewN _ n)).setUsed (s.used + 1)
  have hk1 : ∀ n, Kept (Mine p r sl) w (((w.alloc (.cells #[.int .i64 44, .int .i64 d, .int .i64 a, .int .i64 b, .int .i32 i] 74)).drewN n).setCell ⟨p, 31, none⟩ (.int .i64 ((s.used : Int) + 1))) := fun n => (Kept.of_below ((below_box w _).trans ((below_drewN _ n).mono (by simp)))).set (.inl (mine_p p r sl)) _
  have hpn : ¬ p = w.heap.size := by omega
  have hnp : ¬ w.heap.size = p := by omega
  have hset : ∀ W, IsR W m N p q r sl { s with used := s.used + 1 } → Calls Try.prog 39 #[.pointer (some ⟨p, 0, none⟩), .int .i64 (d : Int), .int .u32 (s.input[s.used].toNat : Int)] W fun e w' => e = .returned (.tuple #[]) ∧ IsR w' m N p q r sl { s with used := s.used + 1, reg := wr s.reg d (s.input[s.used].toNat : Int) } ∧ Kept (Mine p r sl) W w' := fun W hW => set39 hW d hd _
  clear h
  unfold RActs
  go_enter Try.func41, Try.ntmps41
  go_wp2
  go_quiet (fail)
  go_wp2
  go_quiet (fail)
  go_wp2_with (first
    | (go_at_call 39; refine (hset _ (hN1 _)).mono ?_; rintro e w2 ⟨rfl, hM2, hK2⟩))
  go_end0
  exact ⟨rfl, sl, hM2, (hk1 _).trans hK2, .inl rfl⟩

set_option maxHeartbeats 4000000 in
theorem does_put (h : IsR w m N p q r sl s) (hO : Ok s) (hl : s.out.length ≤ 1000000) (d b i : Int) (a : Nat) (ha : a < 16) :
    RActs 41 (.tuple #[]) w m N p q r sl 45 d a b i { s with out := s.out ++ [by8 (s.reg a)] } := by
  have hp := h.plt
  have hr := h.reg a ha
  obtain ⟨x0, x1⟩ := hO.regs a ha
  have hc30 := h.c30
  have hf30 := h.free 30
  obtain ⟨i0, hi, hz0, hz1, hz2⟩ := info_parts info5'
  have hY : Hid (IsR (((w.alloc (.cells #[.int .i64 45, .int .i64 d, .int .i64 a, .int .i64 b, .int .i32 i] 74)).alloc (.cells #[.int .u8 (s.reg a % 256)] 5)).drew) m N p q r sl s) := ((h.alloc _).alloc _).drew
  have hw8 : Hid (IntKind.u8.wrap (s.reg a) = s.reg a % 256) := IntKind.wrap_u8 _
  have ha' : (a : Int) < 16 := by omega
  unfold RActs
  go_enter Try.func41, Try.ntmps41
  go_wp2
  go_region_law (refine step_append_own rfl (.tmp 104) (.tmp 113) 39 rfl N 5 i0 (.int .u8 0) 1 1 Try.underlying39 hi hz0 hz1 hz2 rfl (by decide) sl s.out.length (vals s.out) (by simp [Act.eval]) hY.out.own ⟨w.heap.size + 1, 0, none⟩ 1 1 [.int .u8 (s.reg a % 256)] (by simp [Act.eval]) rfl (one_cell (by simp [go_sem]; exact hw8.out)) (fun u hu => by simp at hu; subst hu; rfl) (by unfold maxLen; omega) (by omega) hY.out.hN ?_; intro v' w' hown hgrow hblk; obtain ⟨g, cap, rfl⟩ := own_form hown (by omega); obtain ⟨gc, gf⟩ := hY.out.grown hgrow; have gc30 := gc 30 (by omega); have gf30 := gf 30; clear gc gf)
  all_goals go_wp2
  all_goals go_end0
  all_goals
    rw [← by8_val x0] at hown
    refine ⟨rfl, _, hY.out.setOut hgrow hown, ((((((Kept.rfl _ w).alloc _).alloc _).drew).trans (Kept.of_grown hgrow (fun k e => .inr (.inr e)))).set (.inl (mine_p p r sl)) _), ?_⟩
    rcases hblk with e | e
    · exact .inl e
    · exact .inr (fun k hk => by have := e k hk; simp at this; omega)
end
end Go.Proofs.Ytimbnlcegcmfiaa
