/- Light; Run, over what Count tells. -/
import Derived.Test.YtiehlkhpblldaaaLsts
import Derived.Test.YtiehlkhpblldaaaCvM
import Derived.Laws.DeepStrings4
import Derived.Laws.Concat
import Derived.Test.YtiehlkhpblldaaaMoM
import Derived.Test.YtiehlkhpblldaaaFpM
import Derived.Test.YtiehlkhpblldaaaFreeB
import Derived.Deep.Cut
namespace Go.Proofs.Ytiehlkhpblldaaa
set_option linter.unusedSimpArgs false
open Go.RowKit Go.Maps
set_option linter.unusedVariables false
set_option linter.unusedSimpArgs false
/-- Is a run not too long, and not too wide? -/
def lightF (p : Pg) (fuel : Int) : Bool := decide (fuel ≤ 32768) && (decide (p.funcs.length ≤ 256) && p.funcs.all (fun f => decide (f.regs ≤ 1024)))
set_option maxRecDepth 20000 in
set_option maxHeartbeats 8000000 in
theorem light7 {W : World} {p : Pg} (hp : Pg.ok W p) (fuel deep : Int) : Calls Try.prog 7 #[p.val, .int .i64 fuel, .int .i64 deep] W fun e w' => e = .returned (.bool (lightF p fuel)) ∧ Below W.heap.size W w' := by
  obtain ⟨fv, funcs, gl, dv, data, main⟩ := p
  obtain ⟨fo, fc, ef, hf⟩ := hp.f.form fn5
  obtain ⟨dd, dc, ed⟩ := hp.d.len
  have hfl := hp.fl
  dsimp only at *
  subst ef ed
  have HF := hid' hf
  unfold big at hfl
  clear hf hp
  unfold Pg.val
  dsimp only
  generalize hR : lightF ⟨.slice fo funcs.length fc, funcs, gl, .slice dd data.length dc, data, main⟩ fuel = R
  have HR : Hid (R = (decide (fuel ≤ 32768) && (decide (funcs.length ≤ 256) && funcs.all (fun f => decide (f.regs ≤ 1024))))) := hR.symm
  clear hR
  by_cases g1 : fuel ≤ 32768
  · by_cases g2 : funcs.length ≤ 256
    · have HR1 : Hid (R = funcs.all (fun f => decide (f.regs ≤ 1024))) := by unfold Hid; rw [HR.out, decide_eq_true g1, decide_eq_true g2]; rfl
      have g1' : ¬ fuel > 32768 := by omega
      have g2' : ¬ (funcs.length : Int) > 256 := by omega
      clear HR
      go_enter Try.func7, Try.ntmps7
      go_wp2
      go_loopw [7] (fun i wr => ∃ k : Nat, k ≤ funcs.length ∧ i = .int .i64 k ∧ (∀ j (h : j < funcs.length), j < k → funcs[j].regs ≤ 1024) ∧ Below (W.alloc (.cells #[.slice fo funcs.length fc, .int .i64 gl, .slice dd data.length dc, .int .i64 main] 25)).heap.size (W.alloc (.cells #[.slice fo funcs.length fc, .int .i64 gl, .slice dd data.length dc, .int .i64 main] 25)) wr) (fun i _ => funcs.length - (intOf i).toNat)
      case atStart => exact ⟨0, Nat.zero_le _, rfl, fun j _ hj => by omega, Below.refl _ _⟩
      case round =>
        obtain ⟨k, hk, rfl, hok, hbw⟩ := hrel
        have HK := hid' hok
        have HB := hid' hbw
        obtain ⟨hsz, hB0, f0, _⟩ := pbox hbw
        have HB0 := hid' hB0
        clear hok hbw hB0
        by_cases hlt : k < funcs.length
        · obtain ⟨b, o, rfl, hb, hc, hx⟩ := HF.out k hlt
          have c2 := (fn_cells (hx wr HB0.out)).2.2.1
          clear hx
          by_cases g : funcs[k].regs ≤ 1024
          · have HN : Hid (∀ j (h : j < funcs.length), j < k + 1 → funcs[j].regs ≤ 1024) := fun j h hj => by
              by_cases e : j = k
              · subst e; exact g
              · exact HK.out j h (by omega)
            have g' : ¬ funcs[k].regs > 1024 := by omega
            go_wp2
            go_roundw
            case rel => exact ⟨k + 1, by omega, by go_num, HN.out, HB.out⟩
            case measure => simp [intOf]; omega
          · have HF0 : Hid (R = false) := by
              unfold Hid
              rw [HR1.out, List.all_eq_false]
              exact ⟨funcs[k], List.getElem_mem hlt, by simpa using g⟩
            have g' : funcs[k].regs > 1024 := by omega
            go_wp2
            go_ret
            exact ⟨by rw [HF0.out]; rfl, HB0.out⟩
        · have e : k = funcs.length := by omega
          subst e
          have HT0 : Hid (R = true) := by
            unfold Hid
            rw [HR1.out, List.all_eq_true]
            intro f hf
            obtain ⟨j, hj, rfl⟩ := List.getElem_of_mem hf
            exact decide_eq_true (HK.out j hj hj)
          go_wp2
          go_ret
          exact ⟨by rw [HT0.out]; rfl, HB0.out⟩
    · have HF0 : Hid (R = false) := by unfold Hid; rw [HR.out, decide_eq_false g2]; simp
      have g1' : ¬ fuel > 32768 := by omega
      have g2' : (funcs.length : Int) > 256 := by omega
      clear HR
      go_enter Try.func7, Try.ntmps7
      go_wp2
      go_ret
      exact ⟨by rw [HF0.out]; rfl, below1 _ _⟩
  · have HF0 : Hid (R = false) := by unfold Hid; rw [HR.out, decide_eq_false g1]; simp
    have g1' : fuel > 32768 := by omega
    clear HR
    go_enter Try.func7, Try.ntmps7
    go_wp2
    go_ret
    exact ⟨by rw [HF0.out]; rfl, below1 _ _⟩
end Go.Proofs.Ytiehlkhpblldaaa

namespace Go.Proofs.Ytiehlkhpblldaaa
set_option linter.unusedSimpArgs false
open Go.RowKit Go.Maps
set_option linter.unusedVariables false
set_option linter.unusedSimpArgs false

/-- A guarded call that comes up. -/
theorem step_callG {P : Program} {ops : Array Oper} {o : Oper} {a : Act} {w : World} {K : Act → World → Prop} {Q : Exit → Act → World → Prop} {E : Prop}
    (hw : Region.wanted o (yielded ops a.tmps) = true) (f : FuncId) (xs : Array Operand) (ts : Array TypeId) (hop : o.op = Op.call { callee := Callee.value (.func f), args := xs, argTypes := ts })
    (args : Array Value) (ha : xs.map a.eval = args) (hen : ∀ W : World, (callFunc f args).run P W = .ok (.enter f args) W)
    (h : Calls P f args w fun e w' => ∃ v, e = .returned v ∧ K (a.put o.dst v) w') :
    if Region.wanted o (yielded ops a.tmps) = true then Oper.wp P o a w K Q else E := by
  rw [if_pos hw]
  unfold Oper.wp
  have he : (execOp a.eval o).run P w = .ok (.enter f args) w := by
    simp [execOp, hop, resolve, invoke, Act.eval, ha, hen, Deferred.ofValue, go_sem]
  rw [he, Oper.upon_enter]
  refine h.mono ?_
  rintro e w' ⟨v, rfl, hk⟩
  exact hk
theorem blk4 {W w1 : World} {o p : Obj} (hb : Below ((W.alloc o).alloc p).heap.size ((W.alloc o).alloc p) w1) : w1.heap[W.heap.size]? = some o ∧ w1.heap[W.heap.size + 1]? = some p ∧ Below W.heap.size W w1 ∧ W.heap.size + 1 < w1.heap.size := blk2 hb
theorem cells4 {W w1 : World} {a b c d : Value} {T : TypeId} {p : Obj} {n : Nat} (hb : Below (((W.alloc (.cells #[a, b, c, d] T)).alloc p).drewN n).heap.size (((W.alloc (.cells #[a, b, c, d] T)).alloc p).drewN n) w1) : w1.cell? ⟨W.heap.size, 0, none⟩ = some a ∧ w1.cell? ⟨W.heap.size, 1, none⟩ = some b ∧ w1.cell? ⟨W.heap.size, 2, none⟩ = some c ∧ w1.cell? ⟨W.heap.size, 3, none⟩ = some d := by
  have hb' : Below ((W.alloc (.cells #[a, b, c, d] T)).alloc p).heap.size ((W.alloc (.cells #[a, b, c, d] T)).alloc p) w1 := ⟨hb.os, hb.tape, hb.output, hb.size, hb.block⟩
  have h := (blk2 hb').1
  have q := fun o => cell_of_row w1 W.heap.size o _ T (0, 0) h
  exact ⟨q 0, q 1, q 2, q 3⟩
section
variable {p : Pg} {x y : ByteArray} {f : Int} {W : World}
set_option maxRecDepth 20000 in
set_option maxHeartbeats 8000000 in
/-- Too much, or all was got. -/
theorem inputs6_a (hp : Pg.ok W p) (hx : x.size ≤ big2) (f0 : 0 ≤ f) (f1 : f < 65536) (h : lightF p 0 = false ∨ (runE p x (f % 16384) 50).used = x.size) :
    Calls Try.prog 6 #[p.val, .agg #[.string x, .string y], .int .u16 f] W fun e w' => e = .returned (.bool true) ∧ Below W.heap.size W w' := by
  have H7 : Hid (∀ w1, Below W.heap.size W w1 → _) := fun w1 hb => light7 (hp.on hb) 0 0
  have H9 : Hid (∀ w1, Below W.heap.size W w1 → _) := fun w1 hb => run9 (hp.on hb) hx (fuel := f % 16384) (deep := 50) (by omega)
  generalize runE p x (f % 16384) 50 = E at *
  obtain ⟨k, c, t, o, u⟩ := E
  generalize lightF p 0 = L at *
  obtain ⟨fv, funcs, gl, dv, data, main⟩ := p
  unfold Pg.val En.val at *
  dsimp only at *
  have hfw : ∀ z : Int, IntKind.i64.wrap (f % 16384) = f % 16384 := fun z => by simp [IntKind.wrap, IntKind.bits, IntKind.signed]; omega
  have hfw := hfw 0
  clear hp hx
  cases L with
  | false =>
    clear H9 h
    go_enter Try.func6, Try.ntmps6
    go_wp2
    go_quiet (fail)
    go_wp2_with (first
      | (go_at_call 7; refine (H7.out _ (bdrew (below2 _ _ _) _)).mono ?_; rintro e1 w1 ⟨rfl, hb1⟩)
      | (go_at_call 8; refine (awake8 _).mono ?_; rintro e3 w3 ⟨rfl, hb3⟩))
    go_ret
    exact ⟨rfl, below_up (below_up (bdrew (below2 _ _ _) _) hb1) hb3⟩
  | true =>
    have hu : u = (x.size : Int) := by simpa using h
    subst hu
    clear h
    go_enter Try.func6, Try.ntmps6
    go_wp2
    go_quiet (fail)
    go_wp2_with (first
      | (go_at_call 7; refine (H7.out _ (bdrew (below2 _ _ _) _)).mono ?_; rintro e1 w1 ⟨rfl, hb1⟩; have HB1 : Hid (Below W.heap.size W w1) := below_up (bdrew (below2 _ _ _) _) hb1; have hq := cells4 hb1; obtain ⟨q0, q1, q2, q3⟩ := hq; clear hb1)
      | (go_at_call 9; refine (H9.out _ HB1.out).mono ?_; rintro e2 w2 ⟨rfl, hb2⟩)
      | (go_at_call 8; refine (awake8 _).mono ?_; rintro e3 w3 ⟨rfl, hb3⟩))
    go_ret
    exact ⟨rfl, below_up (below_up (below_up HB1.out hb2) (below1 _ _)) hb3⟩
set_option maxRecDepth 20000 in
set_option maxHeartbeats 20000000 in
theorem inputs6_b (hp : Pg.ok W p) (hx : x.size ≤ big) (hy : y.size ≤ big) (f0 : 0 ≤ f) (f1 : f < 65536) (hl : lightF p 0 = true) {u : Nat} (hu : (runE p x (f % 16384) 50).used = u) (hlt : u < x.size) :
    Calls Try.prog 6 #[p.val, .agg #[.string x, .string y], .int .u16 f] W fun e w' => e = .returned (.bool true) ∧ Below W.heap.size W w' := by
  have hzs : (x.extract 0 (u + 1)).size = u + 1 := by rw [ByteArray.size_extract]; omega
  have H7 : Hid (∀ w1, Below W.heap.size W w1 → _) := fun w1 hb => light7 (hp.on hb) 0 0
  have H9 : Hid (∀ w1, Below W.heap.size W w1 → _) := fun w1 hb => run9 (hp.on hb) (input := x) (by unfold big at hx; unfold big2; omega) (fuel := f % 16384) (deep := 50) (by omega)
  have H9' : Hid (∀ w1, Below W.heap.size W w1 → _) := fun w1 hb => run9 (hp.on hb) (input := x.extract 0 (u + 1) ++ y) (by rw [ByteArray.size_append, hzs]; unfold big at hx hy; unfold big2; omega) (fuel := f % 16384) (deep := 50) (by omega)
  rw [runE_inputs p x y 50 hu hlt] at H9'
  rw [hl] at H7
  generalize runE p x (f % 16384) 50 = E at *
  obtain ⟨k, c, t, o, u'⟩ := E
  obtain ⟨fv, funcs, gl, dv, data, main⟩ := p
  unfold Pg.val En.val at *
  dsimp only at *
  subst hu
  have hfw : IntKind.i64.wrap (f % 16384) = f % 16384 := by simp [IntKind.wrap, IntKind.bits, IntKind.signed]; omega
  have hft : IntKind.i64.wrap (f.tmod 16384) = f % 16384 := by rw [Int.tmod_eq_emod_of_nonneg f0]; exact hfw
  unfold big at hx hy
  have hne : ((u : Int) == (x.size : Int)) = false := by simp; omega
  have hu2 : (u : Int) ≤ (x.size : Int) := by omega
  have hw1 : IntKind.i64.wrap ((u : Int) + 1) = (u : Int) + 1 := by simp [IntKind.wrap, IntKind.bits, IntKind.signed]; omega
  have hu3 : (u : Int) + 1 ≤ (x.size : Int) := by omega
  have hu4 : 0 ≤ (u : Int) + 1 := by omega
  have htn : ((u : Int) + 1).toNat = u + 1 := by omega
  generalize hz : x.extract 0 (u + 1) = z at *
  have hadd : ∀ W, (Op.stringOp .add z y).run Try.prog W = .ok (.string (z ++ y)) W := fun W => run_string_add_sum W z y (by omega)
  have hno : ¬ (z.size + y.size > 9223372036854775807) := by omega
  have hno2 : z.size + y.size ≤ 9223372036854775807 := by omega
  clear hp hx hzs hl hlt hy
  go_enter Try.func6, Try.ntmps6
  go_wp2
  go_quiet (fail)
  go_wp2_with (first
    | (go_at_call 7; refine (H7.out _ (bdrew (below2 _ _ _) _)).mono ?_; rintro e1 w1 ⟨rfl, hb1⟩; have HB1 : Hid (Below W.heap.size W w1) := below_up (bdrew (below2 _ _ _) _) hb1; have hq := cells4 hb1; obtain ⟨q0, q1, q2, q3⟩ := hq; clear hb1)
    | (go_at_call 9; refine (H9.out _ HB1.out).mono ?_; rintro e2 w2 ⟨rfl, hb2⟩; have HB2 := hid' hb2; have r0 := keep_cell q0 hb2; have r1 := keep_cell q1 hb2; have r2 := keep_cell q2 hb2; have r3 := keep_cell q3 hb2; clear hb2)
    | (go_at_call 8; refine (awake8 _).mono ?_; rintro e3 w3 ⟨rfl, hb3⟩))
  have HB5 : Hid (Below W.heap.size W (w2.alloc (.cells #[.int .i64 k, .int .i32 c, .int .i64 t, .string o, .int .i64 u] 31))) := below_up (below_up HB1.out HB2.out) (below1 _ _)
  have hE := heap_alloc_new w2 (.cells #[.int .i64 k, .int .i32 c, .int .i64 t, .string o, .int .i64 u] 31)
  have s0 := keep_cell r0 (below1 w2 (.cells #[.int .i64 k, .int .i32 c, .int .i64 t, .string o, .int .i64 u] 31))
  have s1 := keep_cell r1 (below1 w2 (.cells #[.int .i64 k, .int .i32 c, .int .i64 t, .string o, .int .i64 u] 31))
  have s2 := keep_cell r2 (below1 w2 (.cells #[.int .i64 k, .int .i32 c, .int .i64 t, .string o, .int .i64 u] 31))
  have s3 := keep_cell r3 (below1 w2 (.cells #[.int .i64 k, .int .i32 c, .int .i64 t, .string o, .int .i64 u] 31))
  clear r0 r1 r2 r3 q0 q1 q2 q3
  generalize w2.alloc (.cells #[.int .i64 k, .int .i32 c, .int .i64 t, .string o, .int .i64 u] 31) = w5 at *
  generalize w2.heap.size = eb at *
  obtain ⟨c0, c1, c2, c3, c4, cf⟩ := res5 hE
  have HE := hid' hE
  have HD5 : Hid (Below W.heap.size W w5.drew) := below_up HB5.out (drew1 w5)
  have HE6 : Hid (∀ w6, Below w5.drew.heap.size w5.drew w6 → w6.heap[eb]? = some (.cells #[.int .i64 k, .int .i32 c, .int .i64 t, .string o, .int .i64 u] 31 (0, 0))) := fun w6 h6 => by rw [h6.block _ (Array.getElem?_eq_some_iff.1 HE.out).1]; exact HE.out
  have h9 := H9'.out _ HD5.out
  clear hE HB2 HB1 cf
  go_region_law (first
    | (refine step_call rfl 9 #[.tmp 30, .tmp 37, .tmp 40, .const (.int .i64 50)] #[25, 9, 3, 3] rfl #[.agg #[fv, .int .i64 gl, dv, .int .i64 main], .string (z ++ y), .int .i64 (f % 16384), .int .i64 50] (by simp [Act.eval, Act.put, hft]) (fun W => by simp [go_sem, Try.func9]) ?_; refine h9.mono ?_; rintro e6 w6 ⟨rfl, hb6⟩; refine ⟨_, rfl, ?_⟩; obtain ⟨d0, d1, d2, d3, d4, df⟩ := res5 (HE6.out w6 hb6); clear df)
    | (refine step_callG (by rfl) 8 #[] #[] rfl #[] (by simp [Act.eval, Act.put]) (fun W => by simp [go_sem, Try.func8]) ?_; refine (awake8 _).mono ?_; rintro e7 w7 ⟨rfl, hb7⟩; refine ⟨_, rfl, ?_⟩))
  all_goals
    go_wp2
    go_ret
    exact ⟨rfl, below_up (below_up HD5.out hb6) hb7⟩
/-- The law. -/
theorem inputs6 (hp : Pg.ok W p) (hx : x.size ≤ big) (hy : y.size ≤ big) (f0 : 0 ≤ f) (f1 : f < 65536) :
    Calls Try.prog 6 #[p.val, .agg #[.string x, .string y], .int .u16 f] W fun e w' => e = .returned (.bool true) ∧ Below W.heap.size W w' := by
  have hx2 : x.size ≤ big2 := by unfold big at hx; unfold big2; omega
  cases hl : lightF p 0 with
  | false => exact inputs6_a hp hx2 f0 f1 (.inl hl)
  | true =>
    obtain ⟨u, hu, hle⟩ := runE_used p x (fuel := f % 16384) 50 (by omega)
    by_cases he : u = x.size
    · exact inputs6_a hp hx2 f0 f1 (.inr (by rw [hu, he]))
    · exact inputs6_b hp hx hy f0 f1 hl hu (by omega)
end
end Go.Proofs.Ytiehlkhpblldaaa

namespace Go.Proofs.Ytiehlkhpblldaaa
set_option linter.unusedSimpArgs false
open Go.RowKit Go.Maps
set_option linter.unusedVariables false
set_option linter.unusedSimpArgs false

theorem prog13 {w : World} {p : Pg} (hp : Pg.ok w p) : Calls Try.prog 13 #[p.val] w fun e w' => e = .returned (.bool (pgF p)) ∧ Below w.heap.size w w' :=
  prog10_of hp (fun _ hW _ hk => func13 (hp.on hW) ((hp.fns _ (List.getElem_mem hk)).on hW))
set_option maxHeartbeats 4000000 in
theorem begins14 {a b : ByteArray} (hle : a.size ≤ b.size) (hb : b.extract 0 a.size = a) (hs : b.size ≤ 40000) (W : World) : Calls Try.prog 14 #[.string a, .string b] W fun e w' => e = .returned (.bool true) ∧ Below W.heap.size W w' := by
  have h1 : ¬ (b.size : Int) < (a.size : Int) := by omega
  have h2 : (a.size : Int) ≤ (b.size : Int) := by omega
  have h3 : a.extract 0 a.size = a := by simp
  have h4 : (0 : Int) ≤ (a.size : Int) := by omega
  go_enter Try.func14, Try.ntmps14
  go_wp2
  go_quiet (fail)
  go_wp2
  go_ret
  exact ⟨rfl, drewB W _⟩
section
variable {p : Pg} {x : ByteArray} {f g : Int} {W : World}
set_option maxRecDepth 20000 in
set_option maxHeartbeats 8000000 in
/-- Nothing is asked. -/
theorem more5_a (hp : Pg.ok W p) (f0 : 0 ≤ f) (f1 : f < 65536) (g0 : 0 ≤ g) (g1 : g < 65536) (h : lightF p 0 = false ∨ pgF p = false) :
    Calls Try.prog 5 #[p.val, .string x, .agg #[.int .u16 f, .int .u16 g]] W fun e w' => e = .returned (.bool true) ∧ Below W.heap.size W w' := by
  have H7 : Hid (∀ w1, Below W.heap.size W w1 → _) := fun w1 hb => light7 (hp.on hb) 0 0
  have H13 : Hid (∀ w1, Below W.heap.size W w1 → _) := fun w1 hb => prog13 (hp.on hb)
  generalize lightF p 0 = L at *
  generalize pgF p = Q at *
  obtain ⟨fv, funcs, gl, dv, data, main⟩ := p
  unfold Pg.val at *
  dsimp only at *
  clear hp
  cases L with
  | false =>
    clear H13 h
    go_enter Try.func5, Try.ntmps5
    go_wp2
    go_quiet (fail)
    go_wp2_with (first
      | (go_at_call 7; refine (H7.out _ (bdrew (below2 _ _ _) _)).mono ?_; rintro e1 w1 ⟨rfl, hb1⟩)
      | (go_at_call 8; refine (awake8 _).mono ?_; rintro e3 w3 ⟨rfl, hb3⟩))
    go_ret
    exact ⟨rfl, below_up (below_up (bdrew (below2 _ _ _) _) hb1) hb3⟩
  | true =>
    have hQ : Q = false := by simpa using h
    subst hQ
    clear h
    go_enter Try.func5, Try.ntmps5
    go_wp2
    go_quiet (fail)
    go_wp2_with (first
      | (go_at_call 7; refine (H7.out _ (bdrew (below2 _ _ _) _)).mono ?_; rintro e1 w1 ⟨rfl, hb1⟩; have HB1 : Hid (Below W.heap.size W w1) := below_up (bdrew (below2 _ _ _) _) hb1; have hq := cells4 hb1; obtain ⟨q0, q1, q2, q3⟩ := hq; clear hb1)
      | (go_at_call 13; refine (H13.out _ HB1.out).mono ?_; rintro e2 w2 ⟨rfl, hb2⟩)
      | (go_at_call 8; refine (awake8 _).mono ?_; rintro e3 w3 ⟨rfl, hb3⟩))
    go_ret
    exact ⟨rfl, below_up (below_up HB1.out hb2) hb3⟩
set_option maxRecDepth 20000 in
set_option maxHeartbeats 20000000 in
theorem more5_b (hp : Pg.ok W p) (hx : x.size ≤ big) (f0 : 0 ≤ f) (f1 : f < 65536) (g0 : 0 ≤ g) (g1 : g < 65536) (hl : lightF p 0 = true) (hq : pgF p = true) :
    Calls Try.prog 5 #[p.val, .string x, .agg #[.int .u16 f, .int .u16 g]] W fun e w' => e = .returned (.bool true) ∧ Below W.heap.size W w' := by
  have hx2 : x.size ≤ big2 := by unfold big at hx; unfold big2; omega
  have H7 : Hid (∀ w1, Below W.heap.size W w1 → _) := fun w1 hb => light7 (hp.on hb) 0 0
  have H13 : Hid (∀ w1, Below W.heap.size W w1 → _) := fun w1 hb => prog13 (hp.on hb)
  have H9a : Hid (∀ w1, Below W.heap.size W w1 → _) := fun w1 hb => run9 (hp.on hb) hx2 (fuel := f % 16384) (deep := 50) (by omega)
  have H9b : Hid (∀ w1, Below W.heap.size W w1 → _) := fun w1 hb => run9 (hp.on hb) hx2 (fuel := f % 16384 + g % 16384) (deep := 50) (by omega)
  obtain ⟨hm1, hm2⟩ := runE_more p x (f := f % 16384) (m := g % 16384) 50 (by omega) (by omega)
  rw [hl] at H7
  rw [hq] at H13
  generalize runE p x (f % 16384) 50 = A at *
  generalize runE p x (f % 16384 + g % 16384) 50 = B at *
  obtain ⟨ka, ca, ta, oa, ua⟩ := A
  obtain ⟨kb, cb, tb, ob, ub⟩ := B
  obtain ⟨fv, funcs, gl, dv, data, main⟩ := p
  unfold Pg.val En.val at *
  dsimp only at *
  have hfw : IntKind.i64.wrap (f % 16384) = f % 16384 := by simp [IntKind.wrap, IntKind.bits, IntKind.signed]; omega
  have hft : IntKind.i64.wrap (f.tmod 16384) = f % 16384 := by rw [Int.tmod_eq_emod_of_nonneg f0]; exact hfw
  have hgw : IntKind.i64.wrap (g % 16384) = g % 16384 := by simp [IntKind.wrap, IntKind.bits, IntKind.signed]; omega
  have hgt : IntKind.i64.wrap (g.tmod 16384) = g % 16384 := by rw [Int.tmod_eq_emod_of_nonneg g0]; exact hgw
  have hsw : IntKind.i64.wrap (f % 16384 + g % 16384) = f % 16384 + g % 16384 := by simp [IntKind.wrap, IntKind.bits, IntKind.signed]; omega
  have hff : f % 16384 % 16384 = f % 16384 := by omega
  have hfft : IntKind.i64.wrap ((f % 16384).tmod 16384) = f % 16384 := by rw [Int.tmod_eq_emod_of_nonneg (by omega), hff]; exact hfw
  have HM1 := hid' hm1
  have HM2 := hid' hm2
  clear hp hx hx2 hl hq hm1 hm2
  go_enter Try.func5, Try.ntmps5
  go_wp2
  go_quiet (fail)
  go_wp2_with (first
    | (go_at_call 7; refine (H7.out _ (bdrew (below2 _ _ _) _)).mono ?_; rintro e1 w1 ⟨rfl, hb1⟩; have HB1 : Hid (Below W.heap.size W w1) := below_up (bdrew (below2 _ _ _) _) hb1; have hq := cells4 hb1; obtain ⟨q0, q1, q2, q3⟩ := hq; clear hb1)
    | (go_at_call 13; refine (H13.out _ HB1.out).mono ?_; rintro e2 w2 ⟨rfl, hb2⟩; have HB2 : Hid (Below W.heap.size W w2) := below_up HB1.out hb2; have r0 := keep_cell q0 hb2; have r1 := keep_cell q1 hb2; have r2 := keep_cell q2 hb2; have r3 := keep_cell q3 hb2; clear hb2)
    | (go_at_call 8; refine (awake8 _).mono ?_; rintro e3 w3 ⟨rfl, hb3⟩))
  clear q0 q1 q2 q3
  have hne := after_some w2
  have y0 : ∀ t : After w2, t.1.cell? ⟨W.heap.size, 0, none⟩ = some fv := fun t => keep_cell r0 t.2
  have y1 : ∀ t : After w2, t.1.cell? ⟨W.heap.size, 1, none⟩ = some (.int .i64 gl) := fun t => keep_cell r1 t.2
  have y2 : ∀ t : After w2, t.1.cell? ⟨W.heap.size, 2, none⟩ = some dv := fun t => keep_cell r2 t.2
  have y3 : ∀ t : After w2, t.1.cell? ⟨W.heap.size, 3, none⟩ = some (.int .i64 main) := fun t => keep_cell r3 t.2
  have K9a : ∀ t : After w2, _ := fun t => H9a.out t.1 (below_up HB2.out t.2)
  have K9b : ∀ t : After w2, _ := fun t => H9b.out t.1 (below_up HB2.out t.2)
  clear r0 r1 r2 r3
  refine region_mixB (NewB w2 (.cells #[.int .i64 0, .int .i32 0, .int .i64 0, .string ⟨#[]⟩, .int .i64 0] 31)) (none, none) 14 2 mixed (by kernel_rfl) ⟨drew1 w2, (fun b e => by cases e), (fun b e => by cases e), (fun b e => by cases e)⟩ (fun s w' h => h.below) (fun s w1 w' h hb => h.on hb) ?_
  simp only [List.take_succ_cons, List.take_zero, List.drop_succ_cons, List.drop_zero]
  refine wpFreeB_step (fun K hK => ?_)
  go_simp
  first
    | (refine hK _ ?_; clear hK K)
    | (apply Exists.intro
       refine ⟨fun _ => ?_, hK _ ?_⟩
       (with_reducible rfl)
       clear hK K)
  refine wpFreeB_step (fun K hK => ?_)
  go_simp
  first
    | (refine hK _ ?_; clear hK K)
    | (apply Exists.intro
       refine ⟨fun _ => ?_, hK _ ?_⟩
       (with_reducible rfl)
       clear hK K)
  refine wpFreeB_step (fun K hK => ?_)
  go_simp
  first
    | (refine hK _ ?_; clear hK K)
    | (apply Exists.intro
       refine ⟨fun _ => ?_, hK _ ?_⟩
       (with_reducible rfl)
       clear hK K)
  refine wpFreeB_step (fun K hK => ?_)
  go_simp
  first
    | (refine hK _ ?_; clear hK K)
    | (apply Exists.intro
       refine ⟨fun _ => ?_, hK _ ?_⟩
       (with_reducible rfl)
       clear hK K)
  refine wpFreeB_step (fun K hK => ?_)
  go_simp
  first
    | (refine hK _ ?_; clear hK K)
    | (apply Exists.intro
       refine ⟨fun _ => ?_, hK _ ?_⟩
       (with_reducible rfl)
       clear hK K)
  refine wpFreeB_step (fun K hK => ?_)
  refine free_call rfl 9 #[.tmp 26, .tmp 27, .tmp 30, .const (.int .i64 50)] #[25, 9, 3, 3] rfl #[.agg #[fv, .int .i64 gl, dv, .int .i64 main], .string x, .int .i64 (f % 16384), .int .i64 50] (by simp [Act.eval, Act.put, hfw, hff, hfft]) (fun W => by simp [go_sem, Try.func9]) _ K9a (hK _ ?_)
  clear hK K
  refine wpFreeB_step (fun K hK => ?_)
  go_simp
  first
    | (refine hK _ ?_; clear hK K)
    | (apply Exists.intro
       refine ⟨fun _ => ?_, hK _ ?_⟩
       (with_reducible rfl)
       clear hK K)
  refine wpFreeB_step (fun K hK => ?_)
  go_simp
  first
    | (refine hK _ ?_; clear hK K)
    | (apply Exists.intro
       refine ⟨fun _ => ?_, hK _ ?_⟩
       (with_reducible rfl)
       clear hK K)
  refine wpFreeB_step (fun K hK => ?_)
  go_simp
  first
    | (refine hK _ ?_; clear hK K)
    | (apply Exists.intro
       refine ⟨fun _ => ?_, hK _ ?_⟩
       (with_reducible rfl)
       clear hK K)
  refine wpFreeB_step (fun K hK => ?_)
  go_simp
  first
    | (refine hK _ ?_; clear hK K)
    | (apply Exists.intro
       refine ⟨fun _ => ?_, hK _ ?_⟩
       (with_reducible rfl)
       clear hK K)
  refine wpFreeB_step (fun K hK => ?_)
  go_simp
  first
    | (refine hK _ ?_; clear hK K)
    | (apply Exists.intro
       refine ⟨fun _ => ?_, hK _ ?_⟩
       (with_reducible rfl)
       clear hK K)
  refine wpFreeB_step (fun K hK => ?_)
  go_simp
  first
    | (refine hK _ ?_; clear hK K)
    | (apply Exists.intro
       refine ⟨fun _ => ?_, hK _ ?_⟩
       (with_reducible rfl)
       clear hK K)
  refine wpFreeB_step (fun K hK => ?_)
  go_simp
  first
    | (refine hK _ ?_; clear hK K)
    | (apply Exists.intro
       refine ⟨fun _ => ?_, hK _ ?_⟩
       (with_reducible rfl)
       clear hK K)
  refine wpFreeB_step (fun K hK => ?_)
  refine free_call rfl 9 #[.tmp 32, .tmp 33, .tmp 38, .const (.int .i64 50)] #[25, 9, 3, 3] rfl #[.agg #[fv, .int .i64 gl, dv, .int .i64 main], .string x, .int .i64 (f % 16384 + g % 16384), .int .i64 50] (by simp [Act.eval, Act.put, hfw, hff, hgw, hsw]) (fun W => by simp [go_sem, Try.func9]) _ K9b (hK _ ?_)
  clear hK K
  refine wpFreeB_nil ?_
  refine headB_two rfl rfl (by omega) (by kernel_rfl) (by kernel_rfl) (by kernel_rfl) (fun a => ⟨by simp [Region.wanted], fun w => by simp [go_sem]⟩) (fun a => ⟨by simp [Region.wanted], fun w => by simp [go_sem]⟩) ?_ ?_
  all_goals
    intro b c
    refine ⟨by kernel_rfl, fun w4 hN => ?_⟩
    obtain ⟨hb1, hb2⟩ := hN.p b rfl
    obtain ⟨hc1, hc2⟩ := hN.q c rfl
    have hbc : ¬ b = c := fun e => hN.ne b rfl (by rw [e])
    have hcb : ¬ c = b := fun e => hbc e.symm
    have HB4 : Hid (Below W.heap.size W w4) := below_up HB2.out hN.below
    have HBZ := hid' hb2
    have HCZ := hid' hc2
    obtain ⟨a0, a1, a2, a3, a4, af⟩ := res5 hb2
    obtain ⟨z0, z1, z2, z3, z4, zf⟩ := res5 hc2
    clear hN hb2 hc2 K9a K9b y0 y1 y2 y3
    go_upto_region 5 with fail
    obtain ⟨h5, k5⟩ := set5 (u0 := .int .i64 ka) (u1 := .int .i32 ca) (u2 := .int .i64 ta) (u3 := .string oa) (u4 := .int .i64 ua) HBZ.out
    have hc5 := (k5.block c (Array.getElem?_eq_some_iff.1 HCZ.out).1 hcb).trans HCZ.out
    have HB5 : Hid (Below W.heap.size W (((((w4.setCell ⟨b, 0, none⟩ (.int .i64 ka)).setCell ⟨b, 1, none⟩ (.int .i32 ca)).setCell ⟨b, 2, none⟩ (.int .i64 ta)).setCell ⟨b, 3, none⟩ (.string oa)).setCell ⟨b, 4, none⟩ (.int .i64 ua))) := HB4.out.trans (k5.below HB4.out.size (fun q e => by have := HB2.out.size; omega))
    clear a0 a1 a2 a3 a4 af z0 z1 z2 z3 z4 zf HBZ HCZ k5
    generalize ((((w4.setCell ⟨b, 0, none⟩ (.int .i64 ka)).setCell ⟨b, 1, none⟩ (.int .i32 ca)).setCell ⟨b, 2, none⟩ (.int .i64 ta)).setCell ⟨b, 3, none⟩ (.string oa)).setCell ⟨b, 4, none⟩ (.int .i64 ua) = w5 at *
    obtain ⟨h6, k6⟩ := set5 (u0 := .int .i64 kb) (u1 := .int .i32 cb) (u2 := .int .i64 tb) (u3 := .string ob) (u4 := .int .i64 ub) hc5
    have hb6 := (k6.block b (Array.getElem?_eq_some_iff.1 h5).1 hbc).trans h5
    have HB6 : Hid (Below W.heap.size W (((((w5.setCell ⟨c, 0, none⟩ (.int .i64 kb)).setCell ⟨c, 1, none⟩ (.int .i32 cb)).setCell ⟨c, 2, none⟩ (.int .i64 tb)).setCell ⟨c, 3, none⟩ (.string ob)).setCell ⟨c, 4, none⟩ (.int .i64 ub))) := HB5.out.trans (k6.below HB5.out.size (fun q e => by have := HB2.out.size; omega))
    clear h5 hc5 k6
    generalize ((((w5.setCell ⟨c, 0, none⟩ (.int .i64 kb)).setCell ⟨c, 1, none⟩ (.int .i32 cb)).setCell ⟨c, 2, none⟩ (.int .i64 tb)).setCell ⟨c, 3, none⟩ (.string ob)).setCell ⟨c, 4, none⟩ (.int .i64 ub) = w6 at *
    obtain ⟨a0, a1, a2, a3, a4, af⟩ := res5 hb6
    obtain ⟨z0, z1, z2, z3, z4, zf⟩ := res5 h6
    have HZ6 := hid' h6
    have HA6 := hid' hb6
    clear h6 hb6 af zf
    by_cases hk : ka = 3
    · obtain ⟨m1, m2, m3, m4⟩ := HM2.out hk
      have h14 := begins14 m1 m2 m4 w6
      have m1' : (oa.size : Int) ≤ (ob.size : Int) := by omega
      subst hk
      clear HM1 HM2 m2
      go_wp2_with (first
        | (go_at_call 14; refine h14.mono ?_; rintro e7 w7 ⟨rfl, hb7⟩; have b0 := keep_cell a4 hb7; have b1 := keep_cell z4 hb7)
        | (go_at_call 8; refine (awake8 _).mono ?_; rintro e8 w8 ⟨rfl, hb8⟩))
      go_ret
      exact ⟨rfl, below_up (below_up HB6.out hb7) hb8⟩
    · have he := HM1.out hk
      injection he with e1 e2 e3 e4 e5
      have hk' : (ka != 3) = true := by simp [hk]
      subst e1 e2 e3 e4 e5
      clear HM1 HM2
      go_wp2_with (go_at_call 8; refine (awake8 _).mono ?_; rintro e8 w8 ⟨rfl, hb8⟩)
      go_ret
      exact ⟨rfl, below_up HB6.out hb8⟩
/-- The law. -/
theorem more5 (hp : Pg.ok W p) (hx : x.size ≤ big) (f0 : 0 ≤ f) (f1 : f < 65536) (g0 : 0 ≤ g) (g1 : g < 65536) :
    Calls Try.prog 5 #[p.val, .string x, .agg #[.int .u16 f, .int .u16 g]] W fun e w' => e = .returned (.bool true) ∧ Below W.heap.size W w' := by
  cases hl : lightF p 0 with
  | false => exact more5_a hp f0 f1 g0 g1 (.inl hl)
  | true =>
    cases hq : pgF p with
    | false => exact more5_a hp f0 f1 g0 g1 (.inr hq)
    | true => exact more5_b hp hx f0 f1 g0 g1 hl hq
end
end Go.Proofs.Ytiehlkhpblldaaa
