/- The law IrrunInputs, walked. -/
import Derived.Test.YtiehlkhpblldaaaCvM
import Derived.Test.YtiehlkhpblldaaaLt
import Derived.Laws.DeepStrings4
import Derived.Laws.Concat
namespace Go.Proofs.Ytiehlkhpblldaaa
open Go.RowKit Go.Maps
set_option linter.unusedVariables false
set_option linter.unusedSimpArgs false

/-- A guarded call that comes up. -/
theorem step_callG {P : Program} {ops : Array Oper} {o : Oper} {a : Act} {w : World} {K : Act → World → Prop} {Q : Exit → Act → World → Prop} {E : Prop}
    (hw : Region.wanted o (yielded ops a.tmps) = true) (f : FuncId) (xs : Array Operand) (ts : Array TypeId) (hop : o.op = Op.call { callee := Callee.value (.func f), args := xs, argTypes := ts })
    (args : Array Value) (ha : xs.map a.eval = args) (hen : ∀ W : World, (callFunc f args).run P W = .ok (.enter f args) W)
    (h : Calls P f args w fun e w' => ∃ v, e = .returned v ∧ K (a.put o.dst v) w') :
    if Region.wanted o (yielded ops a.tmps) = true then Oper.wp P o a w K Q else E := by
  rw [if_pos hw]
  unfold Oper.wp
  have he : (execOp a.eval o).run P w = .ok (.enter f args) w := by
    simp [execOp, hop, resolve, invoke, Act.eval, ha, hen, Deferred.ofValue, go_sem]
  rw [he, Oper.upon_enter]
  refine h.mono ?_
  rintro e w' ⟨v, rfl, hk⟩
  exact hk
theorem blk4 {W w1 : World} {o p : Obj} (hb : Below ((W.alloc o).alloc p).heap.size ((W.alloc o).alloc p) w1) : w1.heap[W.heap.size]? = some o ∧ w1.heap[W.heap.size + 1]? = some p ∧ Below W.heap.size W w1 ∧ W.heap.size + 1 < w1.heap.size := blk2 hb
theorem cells4 {W w1 : World} {a b c d : Value} {T : TypeId} {p : Obj} {n : Nat} (hb : Below (((W.alloc (.cells #[a, b, c, d] T)).alloc p).drewN n).heap.size (((W.alloc (.cells #[a, b, c, d] T)).alloc p).drewN n) w1) : w1.cell? ⟨W.heap.size, 0, none⟩ = some a ∧ w1.cell? ⟨W.heap.size, 1, none⟩ = some b ∧ w1.cell? ⟨W.heap.size, 2, none⟩ = some c ∧ w1.cell? ⟨W.heap.size, 3, none⟩ = some d := by
  have hb' : Below ((W.alloc (.cells #[a, b, c, d] T)).alloc p).heap.size ((W.alloc (.cells #[a, b, c, d] T)).alloc p) w1 := ⟨hb.os, hb.tape, hb.output, hb.size, hb.block⟩
  have h := (blk2 hb').1
  have q := fun o => cell_of_row w1 W.heap.size o _ T (0, 0) h
  exact ⟨q 0, q 1, q 2, q 3⟩
section
variable {p : Pg} {x y : ByteArray} {f : Int} {W : World}
set_option maxRecDepth 20000 in
set_option maxHeartbeats 8000000 in
/-- Too much, or all was got. -/
theorem inputs6_a (hp : Pg.ok W p) (hx : x.size ≤ big2) (f0 : 0 ≤ f) (f1 : f < 65536) (h : lightF p 0 = false ∨ (runE p x (f % 16384) 50).used = x.size) :
    Calls Try.prog 6 #[p.val, .agg #[.string x, .string y], .int .u16 f] W fun e w' => e = .returned (.bool true) ∧ Below W.heap.size W w' := by
  have H7 : Hid (∀ w1, Below W.heap.size W w1 → _) := fun w1 hb => light7 (hp.on hb) 0 0
  have H9 : Hid (∀ w1, Below W.heap.size W w1 → _) := fun w1 hb => run9 (hp.on hb) hx (fuel := f % 16384) (deep := 50) (by omega)
  generalize runE p x (f % 16384) 50 = E at *
  obtain ⟨k, c, t, o, u⟩ := E
  generalize lightF p 0 = L at *
  obtain ⟨fv, funcs, gl, dv, data, main⟩ := p
  unfold Pg.val En.val at *
  dsimp only at *
  have hfw : ∀ z : Int, IntKind.i64.wrap (f % 16384) = f % 16384 := fun z => by simp [IntKind.wrap, IntKind.bits, IntKind.signed]; omega
  have hfw := hfw 0
  clear hp hx
  cases L with
  | false =>
    clear H9 h
    go_enter Try.func6, Try.ntmps6
    go_wp2
    go_quiet (fail)
    go_wp2_with (first
      | (go_at_call 7; refine (H7.out _ (bdrew (below2 _ _ _) _)).mono ?_; rintro e1 w1 ⟨rfl, hb1⟩)
      | (go_at_call 8; refine (awake8 _).mono ?_; rintro e3 w3 ⟨rfl, hb3⟩))
    go_ret
    exact ⟨rfl, below_up (below_up (bdrew (below2 _ _ _) _) hb1) hb3⟩
  | true =>
    have hu : u = (x.size : Int) := by simpa using h
    subst hu
    clear h
    go_enter Try.func6, Try.ntmps6
    go_wp2
    go_quiet (fail)
    go_wp2_with (first
      | (go_at_call 7; refine (H7.out _ (bdrew (below2 _ _ _) _)).mono ?_; rintro e1 w1 ⟨rfl, hb1⟩; have HB1 : Hid (Below W.heap.size W w1) := below_up (bdrew (below2 _ _ _) _) hb1; have hq := cells4 hb1; obtain ⟨q0, q1, q2, q3⟩ := hq; clear hb1)
      | (go_at_call 9; refine (H9.out _ HB1.out).mono ?_; rintro e2 w2 ⟨rfl, hb2⟩)
      | (go_at_call 8; refine (awake8 _).mono ?_; rintro e3 w3 ⟨rfl, hb3⟩))
    go_ret
    exact ⟨rfl, below_up (below_up (below_up HB1.out hb2) (below1 _ _)) hb3⟩
set_option maxRecDepth 20000 in
set_option maxHeartbeats 20000000 in
theorem inputs6_b (hp : Pg.ok W p) (hx : x.size ≤ big) (hy : y.size ≤ big) (f0 : 0 ≤ f) (f1 : f < 65536) (hl : lightF p 0 = true) {u : Nat} (hu : (runE p x (f % 16384) 50).used = u) (hlt : u < x.size) :
    Calls Try.prog 6 #[p.val, .agg #[.string x, .string y], .int .u16 f] W fun e w' => e = .returned (.bool true) ∧ Below W.heap.size W w' := by
  have hzs : (x.extract 0 (u + 1)).size = u + 1 := by rw [ByteArray.size_extract]; omega
  have H7 : Hid (∀ w1, Below W.heap.size W w1 → _) := fun w1 hb => light7 (hp.on hb) 0 0
  have H9 : Hid (∀ w1, Below W.heap.size W w1 → _) := fun w1 hb => run9 (hp.on hb) (input := x) (by unfold big at hx; unfold big2; omega) (fuel := f % 16384) (deep := 50) (by omega)
  have H9' : Hid (∀ w1, Below W.heap.size W w1 → _) := fun w1 hb => run9 (hp.on hb) (input := x.extract 0 (u + 1) ++ y) (by rw [ByteArray.size_append, hzs]; unfold big at hx hy; unfold big2; omega) (fuel := f % 16384) (deep := 50) (by omega)
  rw [runE_inputs p x y 50 hu hlt] at H9'
  rw [hl] at H7
  generalize runE p x (f % 16384) 50 = E at *
  obtain ⟨k, c, t, o, u'⟩ := E
  obtain ⟨fv, funcs, gl, dv, data, main⟩ := p
  unfold Pg.val En.val at *
  dsimp only at *
  subst hu
  have hfw : IntKind.i64.wrap (f % 16384) = f % 16384 := by simp [IntKind.wrap, IntKind.bits, IntKind.signed]; omega
  have hft : IntKind.i64.wrap (f.tmod 16384) = f % 16384 := by rw [Int.tmod_eq_emod_of_nonneg f0]; exact hfw
  unfold big at hx hy
  have hne : ((u : Int) == (x.size : Int)) = false := by simp; omega
  have hu2 : (u : Int) ≤ (x.size : Int) := by omega
  have hw1 : IntKind.i64.wrap ((u : Int) + 1) = (u : Int) + 1 := by simp [IntKind.wrap, IntKind.bits, IntKind.signed]; omega
  have hu3 : (u : Int) + 1 ≤ (x.size : Int) := by omega
  have hu4 : 0 ≤ (u : Int) + 1 := by omega
  have htn : ((u : Int) + 1).toNat = u + 1 := by omega
  generalize hz : x.extract 0 (u + 1) = z at *
  have hadd : ∀ W, (Op.stringOp .add z y).run Try.prog W = .ok (.string (z ++ y)) W := fun W => run_string_add_sum W z y (by omega)
  have hno : ¬ (z.size + y.size > 9223372036854775807) := by omega
  have hno2 : z.size + y.size ≤ 9223372036854775807 := by omega
  clear hp hx hzs hl hlt hy
  go_enter Try.func6, Try.ntmps6
  go_wp2
  go_quiet (fail)
  go_wp2_with (first
    | (go_at_call 7; refine (H7.out _ (bdrew (below2 _ _ _) _)).mono ?_; rintro e1 w1 ⟨rfl, hb1⟩; have HB1 : Hid (Below W.heap.size W w1) := below_up (bdrew (below2 _ _ _) _) hb1; have hq := cells4 hb1; obtain ⟨q0, q1, q2, q3⟩ := hq; clear hb1)
    | (go_at_call 9; refine (H9.out _ HB1.out).mono ?_; rintro e2 w2 ⟨rfl, hb2⟩; have HB2 := hid' hb2; have r0 := keep_cell q0 hb2; have r1 := keep_cell q1 hb2; have r2 := keep_cell q2 hb2; have r3 := keep_cell q3 hb2; clear hb2)
    | (go_at_call 8; refine (awake8 _).mono ?_; rintro e3 w3 ⟨rfl, hb3⟩))
  have HB5 : Hid (Below W.heap.size W (w2.alloc (.cells #[.int .i64 k, .int .i32 c, .int .i64 t, .string o, .int .i64 u] 31))) := below_up (below_up HB1.out HB2.out) (below1 _ _)
  have hE := heap_alloc_new w2 (.cells #[.int .i64 k, .int .i32 c, .int .i64 t, .string o, .int .i64 u] 31)
  have s0 := keep_cell r0 (below1 w2 (.cells #[.int .i64 k, .int .i32 c, .int .i64 t, .string o, .int .i64 u] 31))
  have s1 := keep_cell r1 (below1 w2 (.cells #[.int .i64 k, .int .i32 c, .int .i64 t, .string o, .int .i64 u] 31))
  have s2 := keep_cell r2 (below1 w2 (.cells #[.int .i64 k, .int .i32 c, .int .i64 t, .string o, .int .i64 u] 31))
  have s3 := keep_cell r3 (below1 w2 (.cells #[.int .i64 k, .int .i32 c, .int .i64 t, .string o, .int .i64 u] 31))
  clear r0 r1 r2 r3 q0 q1 q2 q3
  generalize w2.alloc (.cells #[.int .i64 k, .int .i32 c, .int .i64 t, .string o, .int .i64 u] 31) = w5 at *
  generalize w2.heap.size = eb at *
  obtain ⟨c0, c1, c2, c3, c4, cf⟩ := res5 hE
  have HE := hid' hE
  have HD5 : Hid (Below W.heap.size W w5.drew) := below_up HB5.out (drew1 w5)
  have HE6 : Hid (∀ w6, Below w5.drew.heap.size w5.drew w6 → w6.heap[eb]? = some (.cells #[.int .i64 k, .int .i32 c, .int .i64 t, .string o, .int .i64 u] 31 (0, 0))) := fun w6 h6 => by rw [h6.block _ (Array.getElem?_eq_some_iff.1 HE.out).1]; exact HE.out
  have h9 := H9'.out _ HD5.out
  clear hE HB2 HB1 cf
  go_region_law (first
    | (refine step_call rfl 9 #[.tmp 30, .tmp 37, .tmp 40, .const (.int .i64 50)] #[25, 9, 3, 3] rfl #[.agg #[fv, .int .i64 gl, dv, .int .i64 main], .string (z ++ y), .int .i64 (f % 16384), .int .i64 50] (by simp [Act.eval, Act.put, hft]) (fun W => by simp [go_sem, Try.func9]) ?_; refine h9.mono ?_; rintro e6 w6 ⟨rfl, hb6⟩; refine ⟨_, rfl, ?_⟩; obtain ⟨d0, d1, d2, d3, d4, df⟩ := res5 (HE6.out w6 hb6); clear df)
    | (refine step_callG (by rfl) 8 #[] #[] rfl #[] (by simp [Act.eval, Act.put]) (fun W => by simp [go_sem, Try.func8]) ?_; refine (awake8 _).mono ?_; rintro e7 w7 ⟨rfl, hb7⟩; refine ⟨_, rfl, ?_⟩))
  all_goals
    go_wp2
    go_ret
    exact ⟨rfl, below_up (below_up HD5.out hb6) hb7⟩
/-- The law. -/
theorem inputs6 (hp : Pg.ok W p) (hx : x.size ≤ big) (hy : y.size ≤ big) (f0 : 0 ≤ f) (f1 : f < 65536) :
    Calls Try.prog 6 #[p.val, .agg #[.string x, .string y], .int .u16 f] W fun e w' => e = .returned (.bool true) ∧ Below W.heap.size W w' := by
  have hx2 : x.size ≤ big2 := by unfold big at hx; unfold big2; omega
  cases hl : lightF p 0 with
  | false => exact inputs6_a hp hx2 f0 f1 (.inl hl)
  | true =>
    obtain ⟨u, hu, hle⟩ := runE_used p x (fuel := f % 16384) 50 (by omega)
    by_cases he : u = x.size
    · exact inputs6_a hp hx2 f0 f1 (.inr (by rw [hu, he]))
    · exact inputs6_b hp hx hy f0 f1 hl hu (by omega)
end
end Go.Proofs.Ytiehlkhpblldaaa
