/- Instructions, as the document asks: shape, imm. -/
import Derived.Test.YtiehlkhpblldaaaH27
import Derived.Test.YtiehlkhpblldaaaH28
set_option linter.unusedVariables false
set_option linter.unusedSimpArgs false
set_option maxRecDepth 20000
set_option maxHeartbeats 8000000
namespace Go.Proofs.Ytiehlkhpblldaaa
open Go.RowKit Go.Maps

/-- How many Args, whether a Dst, whether it is one. -/
def shpD (op : Int) : Int × Int × Bool :=
  if op = 1 ∨ op = 4 ∨ op = 5 ∨ op = 10 then (0, 1, true)
  else if op = 2 then (1, 1, true)
  else if op = 3 then (2, 1, true)
  else if op = 6 then (1, 1, true)
  else if op = 7 then (2, -1, true)
  else if op = 8 ∨ op = 11 then (1, -1, true)
  else if op = 9 then (-1, 0, true)
  else if op = 12 then (-1, 1, true)
  else (0, 0, false)
theorem shape49 (op : Int) (w : World) : Calls Try.prog 57 #[.int .i64 op] w fun e w' => e = .returned (.tuple #[.int .i64 (shpD op).1, .int .i64 (shpD op).2.1, .bool (shpD op).2.2]) ∧ w' = w := by
  by_cases h : op = 1 ∨ op = 2 ∨ op = 3 ∨ op = 4 ∨ op = 5 ∨ op = 6 ∨ op = 7 ∨ op = 8 ∨ op = 9 ∨ op = 10 ∨ op = 11 ∨ op = 12
  · rcases h with rfl | rfl | rfl | rfl | rfl | rfl | rfl | rfl | rfl | rfl | rfl | rfl
    · go_enter Try.func57, Try.ntmps57
      go_wp2
      exact bodyPost_ret (v := .tuple #[.int .i64 (0), .int .i64 (1), .bool true]) (by simp [results, Try.results57, go_sem]) rfl ⟨rfl, rfl⟩
    · go_enter Try.func57, Try.ntmps57
      go_wp2
      exact bodyPost_ret (v := .tuple #[.int .i64 (1), .int .i64 (1), .bool true]) (by simp [results, Try.results57, go_sem]) rfl ⟨rfl, rfl⟩
    · go_enter Try.func57, Try.ntmps57
      go_wp2
      exact bodyPost_ret (v := .tuple #[.int .i64 (2), .int .i64 (1), .bool true]) (by simp [results, Try.results57, go_sem]) rfl ⟨rfl, rfl⟩
    · go_enter Try.func57, Try.ntmps57
      go_wp2
      exact bodyPost_ret (v := .tuple #[.int .i64 (0), .int .i64 (1), .bool true]) (by simp [results, Try.results57, go_sem]) rfl ⟨rfl, rfl⟩
    · go_enter Try.func57, Try.ntmps57
      go_wp2
      exact bodyPost_ret (v := .tuple #[.int .i64 (0), .int .i64 (1), .bool true]) (by simp [results, Try.results57, go_sem]) rfl ⟨rfl, rfl⟩
    · go_enter Try.func57, Try.ntmps57
      go_wp2
      exact bodyPost_ret (v := .tuple #[.int .i64 (1), .int .i64 (1), .bool true]) (by simp [results, Try.results57, go_sem]) rfl ⟨rfl, rfl⟩
    · go_enter Try.func57, Try.ntmps57
      go_wp2
      exact bodyPost_ret (v := .tuple #[.int .i64 (2), .int .i64 (-1), .bool true]) (by simp [results, Try.results57, go_sem]) rfl ⟨rfl, rfl⟩
    · go_enter Try.func57, Try.ntmps57
      go_wp2
      exact bodyPost_ret (v := .tuple #[.int .i64 (1), .int .i64 (-1), .bool true]) (by simp [results, Try.results57, go_sem]) rfl ⟨rfl, rfl⟩
    · go_enter Try.func57, Try.ntmps57
      go_wp2
      exact bodyPost_ret (v := .tuple #[.int .i64 (-1), .int .i64 (0), .bool true]) (by simp [results, Try.results57, go_sem]) rfl ⟨rfl, rfl⟩
    · go_enter Try.func57, Try.ntmps57
      go_wp2
      exact bodyPost_ret (v := .tuple #[.int .i64 (0), .int .i64 (1), .bool true]) (by simp [results, Try.results57, go_sem]) rfl ⟨rfl, rfl⟩
    · go_enter Try.func57, Try.ntmps57
      go_wp2
      exact bodyPost_ret (v := .tuple #[.int .i64 (1), .int .i64 (-1), .bool true]) (by simp [results, Try.results57, go_sem]) rfl ⟨rfl, rfl⟩
    · go_enter Try.func57, Try.ntmps57
      go_wp2
      exact bodyPost_ret (v := .tuple #[.int .i64 (-1), .int .i64 (1), .bool true]) (by simp [results, Try.results57, go_sem]) rfl ⟨rfl, rfl⟩
  · have e : shpD op = (0, 0, false) := by
      unfold shpD
      rw [if_neg (by omega), if_neg (by omega), if_neg (by omega), if_neg (by omega), if_neg (by omega), if_neg (by omega), if_neg (by omega), if_neg (by omega)]
    rw [e]
    have h1 : ¬ op = 1 := by omega
    have h2 : ¬ op = 2 := by omega
    have h3 : ¬ op = 3 := by omega
    have h4 : ¬ op = 4 := by omega
    have h5 : ¬ op = 5 := by omega
    have h6 : ¬ op = 6 := by omega
    have h7 : ¬ op = 7 := by omega
    have h8 : ¬ op = 8 := by omega
    have h9 : ¬ op = 9 := by omega
    have h10 : ¬ op = 10 := by omega
    have h11 : ¬ op = 11 := by omega
    have h12 : ¬ op = 12 := by omega
    clear h e
    go_enter Try.func57, Try.ntmps57
    go_wp2
    exact bodyPost_ret (v := .tuple #[.int .i64 0, .int .i64 0, .bool false]) (by simp [results, Try.results57, go_sem]) rfl ⟨rfl, rfl⟩

/-- A program's, a function's and an instruction's box, one behind the other. -/
theorem box3 {w W : World} {p0 p1 p2 p3 f0 f1 f2 f3 f4 x0 x1 x2 x3 x4 x5 x6 : Value} {T U V : TypeId} (hb : Below (((w.alloc (.cells #[p0, p1, p2, p3] T)).alloc (.cells #[f0, f1, f2, f3, f4] U)).alloc (.cells #[x0, x1, x2, x3, x4, x5, x6] V)).heap.size (((w.alloc (.cells #[p0, p1, p2, p3] T)).alloc (.cells #[f0, f1, f2, f3, f4] U)).alloc (.cells #[x0, x1, x2, x3, x4, x5, x6] V)) W) :
    (w.heap.size + 2 < W.heap.size ∧ Below w.heap.size w W) ∧ (W.cell? ⟨w.heap.size, 0, none⟩ = some p0 ∧ W.cell? ⟨w.heap.size, 1, none⟩ = some p1 ∧ W.cell? ⟨w.heap.size, 2, none⟩ = some p2 ∧ W.cell? ⟨w.heap.size, 3, none⟩ = some p3) ∧
    (W.cell? ⟨w.heap.size + 1, 0, none⟩ = some f0 ∧ W.cell? ⟨w.heap.size + 1, 1, none⟩ = some f1 ∧ W.cell? ⟨w.heap.size + 1, 2, none⟩ = some f2 ∧ W.cell? ⟨w.heap.size + 1, 3, none⟩ = some f3 ∧ W.cell? ⟨w.heap.size + 1, 4, none⟩ = some f4) ∧
    (W.cell? ⟨w.heap.size + 1 + 1, 0, none⟩ = some x0 ∧ W.cell? ⟨w.heap.size + 1 + 1, 1, none⟩ = some x1 ∧ W.cell? ⟨w.heap.size + 1 + 1, 2, none⟩ = some x2 ∧ W.cell? ⟨w.heap.size + 1 + 1, 3, none⟩ = some x3 ∧ W.cell? ⟨w.heap.size + 1 + 1, 4, none⟩ = some x4 ∧ W.cell? ⟨w.heap.size + 1 + 1, 5, none⟩ = some x5 ∧ W.cell? ⟨w.heap.size + 1 + 1, 6, none⟩ = some x6) := by
  refine ⟨⟨by have := hb.size; simp at this; omega, (below3 _ _ _ _).trans (hb.mono (by simp; omega))⟩, ⟨?_, ?_, ?_, ?_⟩, ⟨?_, ?_, ?_, ?_, ?_⟩, ⟨?_, ?_, ?_, ?_, ?_, ?_, ?_⟩⟩ <;> (rw [hb.cell (by simp <;> omega)]; simp [go_sem])

def immD (p : Pg) (slots : Int) (x : In) : Bool :=
  if x.op = 1 ∨ x.op = 6 ∨ x.op = 7 then true
  else if x.op = 4 then winF x.imm 0 p.global
  else if x.op = 5 then winF x.imm 0 slots
  else if x.op = 8 then winF x.imm 1 2
  else if x.op = 9 then winF x.imm 0 ((p.funcs.length : Nat) - 1) && decide ((x.args.length : Int) = (p.funcs[x.imm.toNat]?.map Fn.params).getD 0)
  else decide (x.imm = 0)
theorem imm51 {w : World} {p : Pg} {f : Fn} {x : In} (hp : Pg.ok w p) (hf : Src Bl.cells w f.bv f.blocks) (hx : In.ok w x) :
    Calls Try.prog 59 #[p.val, f.val, x.val] w fun e w' => e = .returned (.bool (immD p f.slots x)) ∧ Below w.heap.size w w' := by
  obtain ⟨nm, ps, rs, sl, bv, bl⟩ := f
  obtain ⟨op, dst, av, args, imm, alu, wide, xv, pred⟩ := x
  obtain ⟨fv, funcs, gl, dv, data, main⟩ := p
  obtain ⟨ha, hal, hq, hql, hi1, hi2⟩ := hx
  have hfl := hp.fl
  obtain ⟨fo, fc, ef, hff⟩ := hp.f.form fn5
  obtain ⟨dd, dc, ed⟩ := hp.d.len
  dsimp only at *
  obtain ⟨ao, ac, rfl⟩ := ha.len
  obtain ⟨qo, qc, rfl⟩ := hq.len
  obtain ⟨bo, bc, rfl⟩ := hf.len
  subst ef ed
  have HF := hid' hff
  unfold big at hal hfl
  clear ha hq hf hp hff
  unfold immD In.val Fn.val Pg.val
  dsimp only
  have hwi : IntKind.i64.wrap imm = imm := by simp [IntKind.wrap, IntKind.bits, IntKind.signed]; omega
  by_cases h167 : op = 1 ∨ op = 6 ∨ op = 7
  · rw [if_pos h167]
    rcases h167 with rfl | rfl | rfl
    all_goals
      go_enter Try.func59, Try.ntmps59
      go_wp2
      go_ret
      exact ⟨rfl, below3 _ _ _ _⟩
  rw [if_neg h167]
  have n1 : ¬ op = 1 := by omega
  have n6 : ¬ op = 6 := by omega
  have n7 : ¬ op = 7 := by omega
  clear h167
  by_cases e4 : op = 4
  · subst e4
    rw [if_pos rfl]
    by_cases g1 : 0 ≤ imm
    · by_cases g2 : imm ≤ gl
      · have e : winF imm 0 gl = true := decide_eq_true ⟨g1, g2⟩
        rw [e]
        go_enter Try.func59, Try.ntmps59
        go_wp2
        go_ret
        exact ⟨by simp [g1, g2], below3 _ _ _ _⟩
      · have e : winF imm 0 gl = false := decide_eq_false (fun h => g2 h.2)
        rw [e]
        go_enter Try.func59, Try.ntmps59
        go_wp2
        go_ret
        exact ⟨by simp [g1, g2] <;> omega, below3 _ _ _ _⟩
    · have e : winF imm 0 gl = false := decide_eq_false (fun h => g1 h.1)
      rw [e]
      go_enter Try.func59, Try.ntmps59
      go_wp2
      go_ret
      exact ⟨by simp [g1] <;> omega, below3 _ _ _ _⟩
  rw [if_neg e4]
  by_cases e5 : op = 5
  · subst e5
    rw [if_pos rfl]
    by_cases g1 : 0 ≤ imm
    · by_cases g2 : imm ≤ sl
      · have e : winF imm 0 sl = true := decide_eq_true ⟨g1, g2⟩
        rw [e]
        go_enter Try.func59, Try.ntmps59
        go_wp2
        go_ret
        exact ⟨by simp [g1, g2], below3 _ _ _ _⟩
      · have e : winF imm 0 sl = false := decide_eq_false (fun h => g2 h.2)
        rw [e]
        go_enter Try.func59, Try.ntmps59
        go_wp2
        go_ret
        exact ⟨by simp [g1, g2] <;> omega, below3 _ _ _ _⟩
    · have e : winF imm 0 sl = false := decide_eq_false (fun h => g1 h.1)
      rw [e]
      go_enter Try.func59, Try.ntmps59
      go_wp2
      go_ret
      exact ⟨by simp [g1] <;> omega, below3 _ _ _ _⟩
  rw [if_neg e5]
  by_cases e8 : op = 8
  · subst e8
    rw [if_pos rfl]
    have e : winF imm 1 2 = (imm == 1 || imm == 2) := by
      unfold winF
      by_cases g1 : imm = 1
      · subst g1; rfl
      · by_cases g2 : imm = 2
        · subst g2; rfl
        · rw [decide_eq_false (by omega)]; simp [g1, g2]
    rw [e]
    by_cases g1 : imm = 1
    · subst g1
      go_enter Try.func59, Try.ntmps59
      go_wp2
      go_ret
      exact ⟨by simp, below3 _ _ _ _⟩
    · have d1 : (imm == 1) = false := by simp [g1]
      go_enter Try.func59, Try.ntmps59
      go_wp2
      go_ret
      exact ⟨by simp [g1], below3 _ _ _ _⟩
  rw [if_neg e8]
  by_cases e9 : op = 9
  · subst e9
    rw [if_pos rfl]
    have hB := fun t : After (((w.alloc (.cells #[.slice fo funcs.length fc, .int .i64 gl, .slice dd data.length dc, .int .i64 main] 25)).alloc (.cells #[.string nm, .int .i64 ps, .int .i64 rs, .int .i64 sl, .slice bo bl.length bc] 49)).alloc (.cells #[.int .i64 9, .int .i64 dst, .slice ao args.length ac, .int .i32 imm, .int .i64 alu, .int .i64 wide, .slice qo pred.length qc] 51)) => box3 t.2
    have y0 := fun t => (hB t).2.1.1
    have y2 := fun t => (hB t).2.2.2.2.2.1
    have y3 := fun t => (hB t).2.2.2.2.2.2.1
    have hne := after_some (((w.alloc (.cells #[.slice fo funcs.length fc, .int .i64 gl, .slice dd data.length dc, .int .i64 main] 25)).alloc (.cells #[.string nm, .int .i64 ps, .int .i64 rs, .int .i64 sl, .slice bo bl.length bc] 49)).alloc (.cells #[.int .i64 9, .int .i64 dst, .slice ao args.length ac, .int .i32 imm, .int .i64 alu, .int .i64 wide, .slice qo pred.length qc] 51))
    by_cases g1 : 0 ≤ imm
    · have d1 : decide (0 ≤ imm) = true := decide_eq_true g1
      obtain ⟨k, rfl⟩ : ∃ k : Nat, imm = k := ⟨imm.toNat, by omega⟩
      by_cases g2 : k < funcs.length
      · have e : winF (k : Int) 0 ((funcs.length : Nat) - 1) = true := decide_eq_true (by omega)
        obtain ⟨b, o, rfl, hb1, hc1, hxx⟩ := HF.out k g2
        have yp : ∀ t, _ := fun t => (fn_cells (hxx _ (hB t).1.2)).2.1
        rw [e, Int.toNat_natCast, List.getElem?_eq_getElem g2]
        simp only [Option.map_some, Option.getD_some, Bool.true_and]
        clear hxx hB e
        have d2 : decide ((k : Int) < (funcs.length : Nat)) = true := decide_eq_true (by omega)
        generalize funcs[k] = fk at *
        go_enter Try.func59, Try.ntmps59
        go_wp2
        refine region_after 25 mixed (by kernel_rfl) ?_
        simp only [List.take_succ_cons, List.take_zero, List.drop_succ_cons, List.drop_zero]
        repeat (first | go_big_quiet_step (fail) | quiet_step (fail))
        refine wpQuiet_nil ?_
        intro w6 hb6
        clear y0 y2 y3 yp
        go_wp2
        go_ret
        refine ⟨?_, below_on (below3 _ _ _ _) hb6 (by simp; omega)⟩
        by_cases hh : (args.length : Int) = fk.params <;> simp [hh]
      · have e : winF (k : Int) 0 ((funcs.length : Nat) - 1) = false := decide_eq_false (by omega)
        rw [e]
        have d2 : decide ((k : Int) < (funcs.length : Nat)) = false := decide_eq_false (by omega)
        clear hB e
        go_enter Try.func59, Try.ntmps59
        go_wp2
        refine region_after 25 mixed (by kernel_rfl) ?_
        simp only [List.take_succ_cons, List.take_zero, List.drop_succ_cons, List.drop_zero]
        repeat (first | go_big_quiet_step (fail) | quiet_step (fail))
        refine wpQuiet_nil ?_
        intro w6 hb6
        clear y0 y2 y3
        go_wp2
        go_ret
        exact ⟨by simp, below_on (below3 _ _ _ _) hb6 (by simp; omega)⟩
    · have e : winF imm 0 ((funcs.length : Nat) - 1) = false := decide_eq_false (fun h => g1 h.1)
      rw [e]
      have d1 : decide (0 ≤ imm) = false := decide_eq_false g1
      clear hB e
      go_enter Try.func59, Try.ntmps59
      go_wp2
      refine region_after 25 mixed (by kernel_rfl) ?_
      simp only [List.take_succ_cons, List.take_zero, List.drop_succ_cons, List.drop_zero]
      repeat (first | go_big_quiet_step (fail) | quiet_step (fail))
      refine wpQuiet_nil ?_
      intro w6 hb6
      clear y0 y2 y3
      go_wp2
      go_ret
      exact ⟨by simp, below_on (below3 _ _ _ _) hb6 (by simp; omega)⟩
  rw [if_neg e9]
  go_enter Try.func59, Try.ntmps59
  go_wp2
  go_ret
  refine ⟨?_, below3 _ _ _ _⟩
  by_cases hh : imm = 0 <;> simp [hh]
end Go.Proofs.Ytiehlkhpblldaaa

namespace Go.Proofs.Ytiehlkhpblldaaa
open Go.RowKit Go.Maps

/-- What is asked behind Args' number and Dst; three: an OpAlu; wid: an OpLoad, OpStore; phi: an OpPhi. -/
def resD (p : Pg) (f : Fn) (x : In) (three wid phi : Bool) : Bool := allF x.args f.regs && (aluF x.alu three && (wideF x.wide wid && ((phi || decide (x.pred.length = 0)) && immD p f.slots x)))
theorem all_step {args : List Int} {regs : Int} {k : Nat} (h : ∀ j (hj : j < args.length), j < k → 0 ≤ args[j] ∧ args[j] < regs) (hk : k < args.length) (hr : 0 ≤ args[k] ∧ args[k] < regs) : ∀ j (hj : j < args.length), j < k + 1 → 0 ≤ args[j] ∧ args[j] < regs := fun j hj hjk => by
  by_cases e : j = k
  · subst e; exact hr
  · exact h j hj (by omega)

set_option maxHeartbeats 16000000 in
theorem insA {w : World} {p : Pg} {nm : ByteArray} {ps rs sl : Int} {bv : Value} {bl : List Bl} {op dst imm alu wide : Int} {av xv : Value} {args pred : List Int} (hp : Pg.ok w p) (hf : Src Bl.cells w bv bl) (hx : In.ok w ⟨7, (-1), av, args, imm, alu, wide, xv, pred⟩)
    (h49 : ∀ W, Calls Try.prog 57 #[.int .i64 7] W fun e w' => e = .returned (.tuple #[.int .i64 ((args.length : Nat) : Int), .int .i64 (-1), .bool true]) ∧ w' = W) :
    Calls Try.prog 33 #[p.val, (Fn.mk nm ps rs sl bv bl).val, (In.mk 7 (-1) av args imm alu wide xv pred).val] w fun e w' => e = .returned (.bool (resD p ⟨nm, ps, rs, sl, bv, bl⟩ ⟨7, (-1), av, args, imm, alu, wide, xv, pred⟩ false true false)) ∧ Below w.heap.size w w' := by
  have H51 : Hid (∀ W, Below w.heap.size w W → Calls Try.prog 59 #[p.val, (Fn.mk nm ps rs sl bv bl).val, (In.mk 7 (-1) av args imm alu wide xv pred).val] W fun e w' => e = .returned (.bool (immD p sl ⟨7, (-1), av, args, imm, alu, wide, xv, pred⟩)) ∧ Below W.heap.size W w') := fun W hW => imm51 (f := ⟨nm, ps, rs, sl, bv, bl⟩) (hp.on hW) (hf.on hW) (hx.on hW)
  have h50 := fun n W => register50 ⟨nm, ps, rs, sl, bv, bl⟩ n W
  generalize hR : resD p ⟨nm, ps, rs, sl, bv, bl⟩ ⟨7, (-1), av, args, imm, alu, wide, xv, pred⟩ false true false = R
  unfold resD at hR
  dsimp only at hR
  generalize immD p sl ⟨7, (-1), av, args, imm, alu, wide, xv, pred⟩ = qi at *
  have HR := hid' hR.symm
  clear hR
  obtain ⟨fv, funcs, gl, dv, data, main⟩ := p
  obtain ⟨ha, hal, hq, hql, hi1, hi2⟩ := hx
  obtain ⟨fo, fc, ef⟩ := hp.f.len
  obtain ⟨dd, dc, ed⟩ := hp.d.len
  dsimp only at *
  obtain ⟨ao, ac, rfl, hai⟩ := ha.ints
  obtain ⟨qo, qc, rfl⟩ := hq.len
  obtain ⟨bo, bc, rfl⟩ := hf.len
  subst ef ed
  have HA := hid' hai
  unfold big at hal hql
  clear ha hq hf hp hai
  unfold In.val Fn.val Pg.val at *
  dsimp only at *
  go_enter Try.func33, Try.ntmps33
  go_wp2_with (first
    | (go_at_call 57; refine (h49 _).mono ?_; rintro e1 w1 ⟨rfl, rfl⟩))
  go_loopw [10] (fun i wr => ∃ k : Nat, k ≤ args.length ∧ i = .int .i64 k ∧ (∀ j (hj : j < args.length), j < k → 0 ≤ args[j] ∧ args[j] < rs) ∧ Below (((w.alloc (.cells #[.slice fo funcs.length fc, .int .i64 gl, .slice dd data.length dc, .int .i64 main] 25)).alloc (.cells #[.string nm, .int .i64 ps, .int .i64 rs, .int .i64 sl, .slice bo bl.length bc] 49)).alloc (.cells #[.int .i64 7, .int .i64 (-1), .slice ao args.length ac, .int .i32 imm, .int .i64 alu, .int .i64 wide, .slice qo pred.length qc] 51)).heap.size (((w.alloc (.cells #[.slice fo funcs.length fc, .int .i64 gl, .slice dd data.length dc, .int .i64 main] 25)).alloc (.cells #[.string nm, .int .i64 ps, .int .i64 rs, .int .i64 sl, .slice bo bl.length bc] 49)).alloc (.cells #[.int .i64 7, .int .i64 (-1), .slice ao args.length ac, .int .i32 imm, .int .i64 alu, .int .i64 wide, .slice qo pred.length qc] 51)) wr) (fun i _ => args.length - (intOf i).toNat)
  case atStart => exact ⟨0, Nat.zero_le _, rfl, fun j _ hj => by omega, Below.refl _ _⟩
  case round =>
    obtain ⟨k, hk, rfl, hok, hbw⟩ := hrel
    have HK := hid' hok
    have HB := hid' hbw
    obtain ⟨⟨hsz, hB0⟩, ⟨p0, p1, p2, p3⟩, ⟨f0, f1, f2, f3, f4⟩, ⟨x0, x1, x2, x3, x4, x5, x6⟩⟩ := box3 hbw
    have HB0 := hid' hB0
    clear hok hbw hB0
    by_cases hlt : k < args.length
    · obtain ⟨b, o, rfl, hb1, hc1, hcx⟩ := HA.out k hlt
      have yc : ∀ t : After wr, t.1.cell? ⟨b, o + k, none⟩ = some (.int .i64 args[k]) := fun t => hcx t.1 (below_up HB0.out t.2)
      have g0 : ∀ t : After wr, t.1.cell? ⟨w.heap.size + 1, 0, none⟩ = some (.string nm) := fun t => keep_cell f0 t.2
      have g1 : ∀ t : After wr, t.1.cell? ⟨w.heap.size + 1, 1, none⟩ = some (.int .i64 ps) := fun t => keep_cell f1 t.2
      have g2 : ∀ t : After wr, t.1.cell? ⟨w.heap.size + 1, 2, none⟩ = some (.int .i64 rs) := fun t => keep_cell f2 t.2
      have g3 : ∀ t : After wr, t.1.cell? ⟨w.heap.size + 1, 3, none⟩ = some (.int .i64 sl) := fun t => keep_cell f3 t.2
      have g4 : ∀ t : After wr, t.1.cell? ⟨w.heap.size + 1, 4, none⟩ = some (.slice bo bl.length bc) := fun t => keep_cell f4 t.2
      have g5 : ∀ t : After wr, t.1.cell? ⟨w.heap.size + 1 + 1, 2, none⟩ = some (.slice (some ⟨b, o, none⟩) args.length ac) := fun t => keep_cell x2 t.2
      have K50 : ∀ t : After wr, _ := fun t => Calls.after t (h50 args[k] t.1)
      have HNO : Hid (regB ⟨nm, ps, rs, sl, .slice bo bl.length bc, bl⟩ args[k] = false → R = false) := fun hq => by
        rw [HR.out, allF_no hlt (of_decide_eq_false hq)]
        rfl
      have HN : Hid (regB ⟨nm, ps, rs, sl, .slice bo bl.length bc, bl⟩ args[k] = true → ∀ j (hj : j < args.length), j < k + 1 → 0 ≤ args[j] ∧ args[j] < rs) := fun hq => all_step HK.out hlt (of_decide_eq_true hq)
      have hne := after_some wr
      clear hcx
      generalize regB ⟨nm, ps, rs, sl, .slice bo bl.length bc, bl⟩ args[k] = q at *
      generalize args[k] = ak at *
      go_wp2_with fail
      refine region_after 7 mixed (by kernel_rfl) ?_
      simp only [List.take_succ_cons, List.take_zero, List.drop_succ_cons, List.drop_zero]
      repeat (first | go_big_quiet_step (with_reducible exact K50 _) | quiet_step (with_reducible exact K50 _))
      refine wpQuiet_nil ?_
      intro w6 hb6
      have HB6 := hid' hb6
      clear K50 yc g0 g1 g2 g3 g4 g5 hb6 h50 h49
      cases q
      · go_wp2_with fail
        go_ret
        exact ⟨by rw [HNO.out (by trivial)]; rfl, below_up HB0.out HB6.out⟩
      · go_wp2_with fail
        go_roundw
        case rel => exact ⟨k + 1, by omega, by go_num, HN.out (by trivial), below_on HB.out HB6.out HB.out.size⟩
        case measure => simp [intOf]; omega
    · have e : k = args.length := by omega
      subst e
      rw [allF_yes (fun j hj => HK.out j hj hj), Bool.true_and] at HR
      clear HK h50 h49
      by_cases a1 : ¬ alu = 0
      · have HF : Hid (R = false) := by unfold Hid; rw [HR.out]; simp [aluF, a1]
        go_wp2_with fail
        go_ret
        exact ⟨by rw [HF.out]; rfl, HB0.out⟩
      replace a1 := Classical.not_not.1 a1
      have h3 : aluF alu false = true := decide_eq_true a1
      rw [h3, Bool.true_and] at HR
      subst a1
      clear h3
      by_cases a3 : wide = 1
      · subst a3
        have hw3 : wideF 1 true = true := rfl
        rw [hw3, Bool.true_and] at HR
        clear hw3
        by_cases a4 : ¬ pred.length = 0
        · have a5 : ¬ (pred.length : Int) = 0 := by omega
          have a6 : (0 : Int) < pred.length := by omega
          have HF : Hid (R = false) := by unfold Hid; rw [HR.out]; simp [a4]
          go_wp2_with fail
          go_ret
          exact ⟨by rw [HF.out]; rfl, HB0.out⟩
        replace a4 := Classical.not_not.1 a4
        rw [decide_eq_true a4] at HR
        have a5 : ¬ (0 : Int) < pred.length := by omega
        clear a4
        simp only [Bool.false_or, Bool.true_and] at HR
        have hc := H51.out wr HB0.out
        rw [← HR.out] at hc
        clear H51
        go_wp2_with (go_at_call 59; refine hc.mono ?_; rintro e3 w3 ⟨rfl, hb3⟩)
        go_ret
        exact ⟨rfl, below_up HB0.out hb3⟩
      by_cases a7 : wide = 4
      · subst a7
        have hw3 : wideF 4 true = true := rfl
        rw [hw3, Bool.true_and] at HR
        clear hw3
        by_cases a4 : ¬ pred.length = 0
        · have a5 : ¬ (pred.length : Int) = 0 := by omega
          have a6 : (0 : Int) < pred.length := by omega
          have HF : Hid (R = false) := by unfold Hid; rw [HR.out]; simp [a4]
          go_wp2_with fail
          go_ret
          exact ⟨by rw [HF.out]; rfl, HB0.out⟩
        replace a4 := Classical.not_not.1 a4
        rw [decide_eq_true a4] at HR
        have a5 : ¬ (0 : Int) < pred.length := by omega
        clear a4
        simp only [Bool.false_or, Bool.true_and] at HR
        have hc := H51.out wr HB0.out
        rw [← HR.out] at hc
        clear H51
        go_wp2_with (go_at_call 59; refine hc.mono ?_; rintro e3 w3 ⟨rfl, hb3⟩)
        go_ret
        exact ⟨rfl, below_up HB0.out hb3⟩
      have HF : Hid (R = false) := by unfold Hid; rw [HR.out]; simp [wideF, a3, a7]
      go_wp2_with fail
      go_ret
      exact ⟨by rw [HF.out]; rfl, HB0.out⟩

set_option maxHeartbeats 16000000 in
theorem insB {w : World} {p : Pg} {nm : ByteArray} {ps rs sl : Int} {bv : Value} {bl : List Bl} {op dst imm alu wide : Int} {av xv : Value} {args pred : List Int} (hp : Pg.ok w p) (hf : Src Bl.cells w bv bl) (hx : In.ok w ⟨op, (-1), av, args, imm, alu, wide, xv, pred⟩) (n3 : ¬ op = 3) (n6 : ¬ op = 6) (n7 : ¬ op = 7) (n12 : ¬ op = 12)
    (h49 : ∀ W, Calls Try.prog 57 #[.int .i64 op] W fun e w' => e = .returned (.tuple #[.int .i64 ((args.length : Nat) : Int), .int .i64 (-1), .bool true]) ∧ w' = W) :
    Calls Try.prog 33 #[p.val, (Fn.mk nm ps rs sl bv bl).val, (In.mk op (-1) av args imm alu wide xv pred).val] w fun e w' => e = .returned (.bool (resD p ⟨nm, ps, rs, sl, bv, bl⟩ ⟨op, (-1), av, args, imm, alu, wide, xv, pred⟩ false false false)) ∧ Below w.heap.size w w' := by
  have H51 : Hid (∀ W, Below w.heap.size w W → Calls Try.prog 59 #[p.val, (Fn.mk nm ps rs sl bv bl).val, (In.mk op (-1) av args imm alu wide xv pred).val] W fun e w' => e = .returned (.bool (immD p sl ⟨op, (-1), av, args, imm, alu, wide, xv, pred⟩)) ∧ Below W.heap.size W w') := fun W hW => imm51 (f := ⟨nm, ps, rs, sl, bv, bl⟩) (hp.on hW) (hf.on hW) (hx.on hW)
  have h50 := fun n W => register50 ⟨nm, ps, rs, sl, bv, bl⟩ n W
  generalize hR : resD p ⟨nm, ps, rs, sl, bv, bl⟩ ⟨op, (-1), av, args, imm, alu, wide, xv, pred⟩ false false false = R
  unfold resD at hR
  dsimp only at hR
  generalize immD p sl ⟨op, (-1), av, args, imm, alu, wide, xv, pred⟩ = qi at *
  have HR := hid' hR.symm
  clear hR
  obtain ⟨fv, funcs, gl, dv, data, main⟩ := p
  obtain ⟨ha, hal, hq, hql, hi1, hi2⟩ := hx
  obtain ⟨fo, fc, ef⟩ := hp.f.len
  obtain ⟨dd, dc, ed⟩ := hp.d.len
  dsimp only at *
  obtain ⟨ao, ac, rfl, hai⟩ := ha.ints
  obtain ⟨qo, qc, rfl⟩ := hq.len
  obtain ⟨bo, bc, rfl⟩ := hf.len
  subst ef ed
  have HA := hid' hai
  unfold big at hal hql
  clear ha hq hf hp hai
  unfold In.val Fn.val Pg.val at *
  dsimp only at *
  have m3 : (op == 3) = false := by simp [n3]
  have m6 : (op == 6) = false := by simp [n6]
  have m7 : (op == 7) = false := by simp [n7]
  have m12 : (op == 12) = false := by simp [n12]
  have o3 : (op != 3) = true := by simp [n3]
  have o12 : (op != 12) = true := by simp [n12]
  go_enter Try.func33, Try.ntmps33
  go_wp2_with (first
    | (go_at_call 57; refine (h49 _).mono ?_; rintro e1 w1 ⟨rfl, rfl⟩))
  go_loopw [10] (fun i wr => ∃ k : Nat, k ≤ args.length ∧ i = .int .i64 k ∧ (∀ j (hj : j < args.length), j < k → 0 ≤ args[j] ∧ args[j] < rs) ∧ Below (((w.alloc (.cells #[.slice fo funcs.length fc, .int .i64 gl, .slice dd data.length dc, .int .i64 main] 25)).alloc (.cells #[.string nm, .int .i64 ps, .int .i64 rs, .int .i64 sl, .slice bo bl.length bc] 49)).alloc (.cells #[.int .i64 op, .int .i64 (-1), .slice ao args.length ac, .int .i32 imm, .int .i64 alu, .int .i64 wide, .slice qo pred.length qc] 51)).heap.size (((w.alloc (.cells #[.slice fo funcs.length fc, .int .i64 gl, .slice dd data.length dc, .int .i64 main] 25)).alloc (.cells #[.string nm, .int .i64 ps, .int .i64 rs, .int .i64 sl, .slice bo bl.length bc] 49)).alloc (.cells #[.int .i64 op, .int .i64 (-1), .slice ao args.length ac, .int .i32 imm, .int .i64 alu, .int .i64 wide, .slice qo pred.length qc] 51)) wr) (fun i _ => args.length - (intOf i).toNat)
  case atStart => exact ⟨0, Nat.zero_le _, rfl, fun j _ hj => by omega, Below.refl _ _⟩
  case round =>
    obtain ⟨k, hk, rfl, hok, hbw⟩ := hrel
    have HK := hid' hok
    have HB := hid' hbw
    obtain ⟨⟨hsz, hB0⟩, ⟨p0, p1, p2, p3⟩, ⟨f0, f1, f2, f3, f4⟩, ⟨x0, x1, x2, x3, x4, x5, x6⟩⟩ := box3 hbw
    have HB0 := hid' hB0
    clear hok hbw hB0
    by_cases hlt : k < args.length
    · obtain ⟨b, o, rfl, hb1, hc1, hcx⟩ := HA.out k hlt
      have yc : ∀ t : After wr, t.1.cell? ⟨b, o + k, none⟩ = some (.int .i64 args[k]) := fun t => hcx t.1 (below_up HB0.out t.2)
      have g0 : ∀ t : After wr, t.1.cell? ⟨w.heap.size + 1, 0, none⟩ = some (.string nm) := fun t => keep_cell f0 t.2
      have g1 : ∀ t : After wr, t.1.cell? ⟨w.heap.size + 1, 1, none⟩ = some (.int .i64 ps) := fun t => keep_cell f1 t.2
      have g2 : ∀ t : After wr, t.1.cell? ⟨w.heap.size + 1, 2, none⟩ = some (.int .i64 rs) := fun t => keep_cell f2 t.2
      have g3 : ∀ t : After wr, t.1.cell? ⟨w.heap.size + 1, 3, none⟩ = some (.int .i64 sl) := fun t => keep_cell f3 t.2
      have g4 : ∀ t : After wr, t.1.cell? ⟨w.heap.size + 1, 4, none⟩ = some (.slice bo bl.length bc) := fun t => keep_cell f4 t.2
      have g5 : ∀ t : After wr, t.1.cell? ⟨w.heap.size + 1 + 1, 2, none⟩ = some (.slice (some ⟨b, o, none⟩) args.length ac) := fun t => keep_cell x2 t.2
      have K50 : ∀ t : After wr, _ := fun t => Calls.after t (h50 args[k] t.1)
      have HNO : Hid (regB ⟨nm, ps, rs, sl, .slice bo bl.length bc, bl⟩ args[k] = false → R = false) := fun hq => by
        rw [HR.out, allF_no hlt (of_decide_eq_false hq)]
        rfl
      have HN : Hid (regB ⟨nm, ps, rs, sl, .slice bo bl.length bc, bl⟩ args[k] = true → ∀ j (hj : j < args.length), j < k + 1 → 0 ≤ args[j] ∧ args[j] < rs) := fun hq => all_step HK.out hlt (of_decide_eq_true hq)
      have hne := after_some wr
      clear hcx
      generalize regB ⟨nm, ps, rs, sl, .slice bo bl.length bc, bl⟩ args[k] = q at *
      generalize args[k] = ak at *
      go_wp2_with fail
      refine region_after 7 mixed (by kernel_rfl) ?_
      simp only [List.take_succ_cons, List.take_zero, List.drop_succ_cons, List.drop_zero]
      repeat (first | go_big_quiet_step (with_reducible exact K50 _) | quiet_step (with_reducible exact K50 _))
      refine wpQuiet_nil ?_
      intro w6 hb6
      have HB6 := hid' hb6
      clear K50 yc g0 g1 g2 g3 g4 g5 hb6 h50 h49
      cases q
      · go_wp2_with fail
        go_ret
        exact ⟨by rw [HNO.out (by trivial)]; rfl, below_up HB0.out HB6.out⟩
      · go_wp2_with fail
        go_roundw
        case rel => exact ⟨k + 1, by omega, by go_num, HN.out (by trivial), below_on HB.out HB6.out HB.out.size⟩
        case measure => simp [intOf]; omega
    · have e : k = args.length := by omega
      subst e
      rw [allF_yes (fun j hj => HK.out j hj hj), Bool.true_and] at HR
      clear HK h50 h49
      by_cases a1 : ¬ alu = 0
      · have HF : Hid (R = false) := by unfold Hid; rw [HR.out]; simp [aluF, a1]
        go_wp2_with fail
        go_ret
        exact ⟨by rw [HF.out]; rfl, HB0.out⟩
      replace a1 := Classical.not_not.1 a1
      have h3 : aluF alu false = true := decide_eq_true a1
      rw [h3, Bool.true_and] at HR
      subst a1
      clear h3
      by_cases a3 : wide = 0
      · subst a3
        have hw3 : wideF 0 false = true := rfl
        rw [hw3, Bool.true_and] at HR
        clear hw3
        by_cases a4 : ¬ pred.length = 0
        · have a5 : ¬ (pred.length : Int) = 0 := by omega
          have a6 : (0 : Int) < pred.length := by omega
          have HF : Hid (R = false) := by unfold Hid; rw [HR.out]; simp [a4]
          go_wp2_with fail
          go_ret
          exact ⟨by rw [HF.out]; rfl, HB0.out⟩
        replace a4 := Classical.not_not.1 a4
        rw [decide_eq_true a4] at HR
        have a5 : ¬ (0 : Int) < pred.length := by omega
        clear a4
        simp only [Bool.false_or, Bool.true_and] at HR
        have hc := H51.out wr HB0.out
        rw [← HR.out] at hc
        clear H51
        go_wp2_with (go_at_call 59; refine hc.mono ?_; rintro e3 w3 ⟨rfl, hb3⟩)
        go_ret
        exact ⟨rfl, below_up HB0.out hb3⟩
      have HF : Hid (R = false) := by unfold Hid; rw [HR.out]; simp [wideF, a3]
      go_wp2_with fail
      go_ret
      exact ⟨by rw [HF.out]; rfl, HB0.out⟩
end Go.Proofs.Ytiehlkhpblldaaa

namespace Go.Proofs.Ytiehlkhpblldaaa
open Go.RowKit Go.Maps

set_option maxHeartbeats 16000000 in
theorem insC {w : World} {p : Pg} {nm : ByteArray} {ps rs sl : Int} {bv : Value} {bl : List Bl} {op dst imm alu wide : Int} {av xv : Value} {args pred : List Int} (hp : Pg.ok w p) (hf : Src Bl.cells w bv bl) (hx : In.ok w ⟨3, dst, av, args, imm, alu, wide, xv, pred⟩) (hreg : regB ⟨nm, ps, rs, sl, bv, bl⟩ dst = true)
    (h49 : ∀ W, Calls Try.prog 57 #[.int .i64 3] W fun e w' => e = .returned (.tuple #[.int .i64 ((args.length : Nat) : Int), .int .i64 (1), .bool true]) ∧ w' = W) :
    Calls Try.prog 33 #[p.val, (Fn.mk nm ps rs sl bv bl).val, (In.mk 3 dst av args imm alu wide xv pred).val] w fun e w' => e = .returned (.bool (resD p ⟨nm, ps, rs, sl, bv, bl⟩ ⟨3, dst, av, args, imm, alu, wide, xv, pred⟩ true false false)) ∧ Below w.heap.size w w' := by
  have H51 : Hid (∀ W, Below w.heap.size w W → Calls Try.prog 59 #[p.val, (Fn.mk nm ps rs sl bv bl).val, (In.mk 3 dst av args imm alu wide xv pred).val] W fun e w' => e = .returned (.bool (immD p sl ⟨3, dst, av, args, imm, alu, wide, xv, pred⟩)) ∧ Below W.heap.size W w') := fun W hW => imm51 (f := ⟨nm, ps, rs, sl, bv, bl⟩) (hp.on hW) (hf.on hW) (hx.on hW)
  have h50 := fun n W => register50 ⟨nm, ps, rs, sl, bv, bl⟩ n W
  generalize hR : resD p ⟨nm, ps, rs, sl, bv, bl⟩ ⟨3, dst, av, args, imm, alu, wide, xv, pred⟩ true false false = R
  unfold resD at hR
  dsimp only at hR
  generalize immD p sl ⟨3, dst, av, args, imm, alu, wide, xv, pred⟩ = qi at *
  have HR := hid' hR.symm
  clear hR
  obtain ⟨fv, funcs, gl, dv, data, main⟩ := p
  obtain ⟨ha, hal, hq, hql, hi1, hi2⟩ := hx
  obtain ⟨fo, fc, ef⟩ := hp.f.len
  obtain ⟨dd, dc, ed⟩ := hp.d.len
  dsimp only at *
  obtain ⟨ao, ac, rfl, hai⟩ := ha.ints
  obtain ⟨qo, qc, rfl⟩ := hq.len
  obtain ⟨bo, bc, rfl⟩ := hf.len
  subst ef ed
  have HA := hid' hai
  unfold big at hal hql
  clear ha hq hf hp hai
  unfold In.val Fn.val Pg.val at *
  dsimp only at *
  have hrd := h50 dst
  have hrd1 : regB ⟨nm, ps, rs, sl, .slice bo bl.length bc, bl⟩ dst = true := hreg
  rw [hrd1] at hrd
  clear hrd1
  go_enter Try.func33, Try.ntmps33
  go_wp2_with (first
    | (go_at_call 57; refine (h49 _).mono ?_; rintro e1 w1 ⟨rfl, rfl⟩)
    | (go_at_call 58; refine (hrd _).mono ?_; rintro e2 w2 ⟨rfl, hb2⟩; have HB2 := hid' hb2; obtain ⟨_, _, _, _, _, x2, _⟩ := (box3 hb2).2.2.2; clear hb2))
  go_loopw [10] (fun i wr => ∃ k : Nat, k ≤ args.length ∧ i = .int .i64 k ∧ (∀ j (hj : j < args.length), j < k → 0 ≤ args[j] ∧ args[j] < rs) ∧ Below (((w.alloc (.cells #[.slice fo funcs.length fc, .int .i64 gl, .slice dd data.length dc, .int .i64 main] 25)).alloc (.cells #[.string nm, .int .i64 ps, .int .i64 rs, .int .i64 sl, .slice bo bl.length bc] 49)).alloc (.cells #[.int .i64 3, .int .i64 dst, .slice ao args.length ac, .int .i32 imm, .int .i64 alu, .int .i64 wide, .slice qo pred.length qc] 51)).heap.size (((w.alloc (.cells #[.slice fo funcs.length fc, .int .i64 gl, .slice dd data.length dc, .int .i64 main] 25)).alloc (.cells #[.string nm, .int .i64 ps, .int .i64 rs, .int .i64 sl, .slice bo bl.length bc] 49)).alloc (.cells #[.int .i64 3, .int .i64 dst, .slice ao args.length ac, .int .i32 imm, .int .i64 alu, .int .i64 wide, .slice qo pred.length qc] 51)) wr) (fun i _ => args.length - (intOf i).toNat)
  case atStart => exact ⟨0, Nat.zero_le _, rfl, fun j _ hj => by omega, HB2.out⟩
  case round =>
    obtain ⟨k, hk, rfl, hok, hbw⟩ := hrel
    have HK := hid' hok
    have HB := hid' hbw
    obtain ⟨⟨hsz, hB0⟩, ⟨p0, p1, p2, p3⟩, ⟨f0, f1, f2, f3, f4⟩, ⟨x0, x1, x2, x3, x4, x5, x6⟩⟩ := box3 hbw
    have HB0 := hid' hB0
    clear hok hbw hB0
    by_cases hlt : k < args.length
    · obtain ⟨b, o, rfl, hb1, hc1, hcx⟩ := HA.out k hlt
      have yc : ∀ t : After wr, t.1.cell? ⟨b, o + k, none⟩ = some (.int .i64 args[k]) := fun t => hcx t.1 (below_up HB0.out t.2)
      have g0 : ∀ t : After wr, t.1.cell? ⟨w.heap.size + 1, 0, none⟩ = some (.string nm) := fun t => keep_cell f0 t.2
      have g1 : ∀ t : After wr, t.1.cell? ⟨w.heap.size + 1, 1, none⟩ = some (.int .i64 ps) := fun t => keep_cell f1 t.2
      have g2 : ∀ t : After wr, t.1.cell? ⟨w.heap.size + 1, 2, none⟩ = some (.int .i64 rs) := fun t => keep_cell f2 t.2
      have g3 : ∀ t : After wr, t.1.cell? ⟨w.heap.size + 1, 3, none⟩ = some (.int .i64 sl) := fun t => keep_cell f3 t.2
      have g4 : ∀ t : After wr, t.1.cell? ⟨w.heap.size + 1, 4, none⟩ = some (.slice bo bl.length bc) := fun t => keep_cell f4 t.2
      have g5 : ∀ t : After wr, t.1.cell? ⟨w.heap.size + 1 + 1, 2, none⟩ = some (.slice (some ⟨b, o, none⟩) args.length ac) := fun t => keep_cell x2 t.2
      have K50 : ∀ t : After wr, _ := fun t => Calls.after t (h50 args[k] t.1)
      have HNO : Hid (regB ⟨nm, ps, rs, sl, .slice bo bl.length bc, bl⟩ args[k] = false → R = false) := fun hq => by
        rw [HR.out, allF_no hlt (of_decide_eq_false hq)]
        rfl
      have HN : Hid (regB ⟨nm, ps, rs, sl, .slice bo bl.length bc, bl⟩ args[k] = true → ∀ j (hj : j < args.length), j < k + 1 → 0 ≤ args[j] ∧ args[j] < rs) := fun hq => all_step HK.out hlt (of_decide_eq_true hq)
      have hne := after_some wr
      clear hcx
      generalize regB ⟨nm, ps, rs, sl, .slice bo bl.length bc, bl⟩ args[k] = q at *
      generalize args[k] = ak at *
      go_wp2_with fail
      refine region_after 7 mixed (by kernel_rfl) ?_
      simp only [List.take_succ_cons, List.take_zero, List.drop_succ_cons, List.drop_zero]
      repeat (first | go_big_quiet_step (with_reducible exact K50 _) | quiet_step (with_reducible exact K50 _))
      refine wpQuiet_nil ?_
      intro w6 hb6
      have HB6 := hid' hb6
      clear K50 yc g0 g1 g2 g3 g4 g5 hb6 h50 h49
      cases q
      · go_wp2_with fail
        go_ret
        exact ⟨by rw [HNO.out (by trivial)]; rfl, below_up HB0.out HB6.out⟩
      · go_wp2_with fail
        go_roundw
        case rel => exact ⟨k + 1, by omega, by go_num, HN.out (by trivial), below_on HB.out HB6.out HB.out.size⟩
        case measure => simp [intOf]; omega
    · have e : k = args.length := by omega
      subst e
      rw [allF_yes (fun j hj => HK.out j hj hj), Bool.true_and] at HR
      clear HK h50 h49
      by_cases a1 : ¬ 1 ≤ alu
      · have HF : Hid (R = false) := by unfold Hid; rw [HR.out]; simp [aluF, aluB, a1]
        go_wp2_with fail
        go_ret
        exact ⟨by rw [HF.out]; rfl, HB0.out⟩
      by_cases a2 : ¬ alu ≤ 19
      · have HF : Hid (R = false) := by unfold Hid; rw [HR.out]; simp [aluF, aluB, a2]
        go_wp2_with fail
        go_ret
        exact ⟨by rw [HF.out]; rfl, HB0.out⟩
      replace a1 := Classical.not_not.1 a1
      replace a2 := Classical.not_not.1 a2
      have h3 : aluF alu true = true := decide_eq_true ⟨a1, a2⟩
      rw [h3, Bool.true_and] at HR
      clear h3
      by_cases a3 : wide = 0
      · subst a3
        have hw3 : wideF 0 false = true := rfl
        rw [hw3, Bool.true_and] at HR
        clear hw3
        by_cases a4 : ¬ pred.length = 0
        · have a5 : ¬ (pred.length : Int) = 0 := by omega
          have a6 : (0 : Int) < pred.length := by omega
          have HF : Hid (R = false) := by unfold Hid; rw [HR.out]; simp [a4]
          go_wp2_with fail
          go_ret
          exact ⟨by rw [HF.out]; rfl, HB0.out⟩
        replace a4 := Classical.not_not.1 a4
        rw [decide_eq_true a4] at HR
        have a5 : ¬ (0 : Int) < pred.length := by omega
        clear a4
        simp only [Bool.false_or, Bool.true_and] at HR
        have hc := H51.out wr HB0.out
        rw [← HR.out] at hc
        clear H51
        go_wp2_with (go_at_call 59; refine hc.mono ?_; rintro e3 w3 ⟨rfl, hb3⟩)
        go_ret
        exact ⟨rfl, below_up HB0.out hb3⟩
      have HF : Hid (R = false) := by unfold Hid; rw [HR.out]; simp [wideF, a3]
      go_wp2_with fail
      go_ret
      exact ⟨by rw [HF.out]; rfl, HB0.out⟩

set_option maxHeartbeats 16000000 in
theorem insD {w : World} {p : Pg} {nm : ByteArray} {ps rs sl : Int} {bv : Value} {bl : List Bl} {op dst imm alu wide : Int} {av xv : Value} {args pred : List Int} (hp : Pg.ok w p) (hf : Src Bl.cells w bv bl) (hx : In.ok w ⟨6, dst, av, args, imm, alu, wide, xv, pred⟩) (hreg : regB ⟨nm, ps, rs, sl, bv, bl⟩ dst = true)
    (h49 : ∀ W, Calls Try.prog 57 #[.int .i64 6] W fun e w' => e = .returned (.tuple #[.int .i64 ((args.length : Nat) : Int), .int .i64 (1), .bool true]) ∧ w' = W) :
    Calls Try.prog 33 #[p.val, (Fn.mk nm ps rs sl bv bl).val, (In.mk 6 dst av args imm alu wide xv pred).val] w fun e w' => e = .returned (.bool (resD p ⟨nm, ps, rs, sl, bv, bl⟩ ⟨6, dst, av, args, imm, alu, wide, xv, pred⟩ false true false)) ∧ Below w.heap.size w w' := by
  have H51 : Hid (∀ W, Below w.heap.size w W → Calls Try.prog 59 #[p.val, (Fn.mk nm ps rs sl bv bl).val, (In.mk 6 dst av args imm alu wide xv pred).val] W fun e w' => e = .returned (.bool (immD p sl ⟨6, dst, av, args, imm, alu, wide, xv, pred⟩)) ∧ Below W.heap.size W w') := fun W hW => imm51 (f := ⟨nm, ps, rs, sl, bv, bl⟩) (hp.on hW) (hf.on hW) (hx.on hW)
  have h50 := fun n W => register50 ⟨nm, ps, rs, sl, bv, bl⟩ n W
  generalize hR : resD p ⟨nm, ps, rs, sl, bv, bl⟩ ⟨6, dst, av, args, imm, alu, wide, xv, pred⟩ false true false = R
  unfold resD at hR
  dsimp only at hR
  generalize immD p sl ⟨6, dst, av, args, imm, alu, wide, xv, pred⟩ = qi at *
  have HR := hid' hR.symm
  clear hR
  obtain ⟨fv, funcs, gl, dv, data, main⟩ := p
  obtain ⟨ha, hal, hq, hql, hi1, hi2⟩ := hx
  obtain ⟨fo, fc, ef⟩ := hp.f.len
  obtain ⟨dd, dc, ed⟩ := hp.d.len
  dsimp only at *
  obtain ⟨ao, ac, rfl, hai⟩ := ha.ints
  obtain ⟨qo, qc, rfl⟩ := hq.len
  obtain ⟨bo, bc, rfl⟩ := hf.len
  subst ef ed
  have HA := hid' hai
  unfold big at hal hql
  clear ha hq hf hp hai
  unfold In.val Fn.val Pg.val at *
  dsimp only at *
  have hrd := h50 dst
  have hrd1 : regB ⟨nm, ps, rs, sl, .slice bo bl.length bc, bl⟩ dst = true := hreg
  rw [hrd1] at hrd
  clear hrd1
  go_enter Try.func33, Try.ntmps33
  go_wp2_with (first
    | (go_at_call 57; refine (h49 _).mono ?_; rintro e1 w1 ⟨rfl, rfl⟩)
    | (go_at_call 58; refine (hrd _).mono ?_; rintro e2 w2 ⟨rfl, hb2⟩; have HB2 := hid' hb2; obtain ⟨_, _, _, _, _, x2, _⟩ := (box3 hb2).2.2.2; clear hb2))
  go_loopw [10] (fun i wr => ∃ k : Nat, k ≤ args.length ∧ i = .int .i64 k ∧ (∀ j (hj : j < args.length), j < k → 0 ≤ args[j] ∧ args[j] < rs) ∧ Below (((w.alloc (.cells #[.slice fo funcs.length fc, .int .i64 gl, .slice dd data.length dc, .int .i64 main] 25)).alloc (.cells #[.string nm, .int .i64 ps, .int .i64 rs, .int .i64 sl, .slice bo bl.length bc] 49)).alloc (.cells #[.int .i64 6, .int .i64 dst, .slice ao args.length ac, .int .i32 imm, .int .i64 alu, .int .i64 wide, .slice qo pred.length qc] 51)).heap.size (((w.alloc (.cells #[.slice fo funcs.length fc, .int .i64 gl, .slice dd data.length dc, .int .i64 main] 25)).alloc (.cells #[.string nm, .int .i64 ps, .int .i64 rs, .int .i64 sl, .slice bo bl.length bc] 49)).alloc (.cells #[.int .i64 6, .int .i64 dst, .slice ao args.length ac, .int .i32 imm, .int .i64 alu, .int .i64 wide, .slice qo pred.length qc] 51)) wr) (fun i _ => args.length - (intOf i).toNat)
  case atStart => exact ⟨0, Nat.zero_le _, rfl, fun j _ hj => by omega, HB2.out⟩
  case round =>
    obtain ⟨k, hk, rfl, hok, hbw⟩ := hrel
    have HK := hid' hok
    have HB := hid' hbw
    obtain ⟨⟨hsz, hB0⟩, ⟨p0, p1, p2, p3⟩, ⟨f0, f1, f2, f3, f4⟩, ⟨x0, x1, x2, x3, x4, x5, x6⟩⟩ := box3 hbw
    have HB0 := hid' hB0
    clear hok hbw hB0
    by_cases hlt : k < args.length
    · obtain ⟨b, o, rfl, hb1, hc1, hcx⟩ := HA.out k hlt
      have yc : ∀ t : After wr, t.1.cell? ⟨b, o + k, none⟩ = some (.int .i64 args[k]) := fun t => hcx t.1 (below_up HB0.out t.2)
      have g0 : ∀ t : After wr, t.1.cell? ⟨w.heap.size + 1, 0, none⟩ = some (.string nm) := fun t => keep_cell f0 t.2
      have g1 : ∀ t : After wr, t.1.cell? ⟨w.heap.size + 1, 1, none⟩ = some (.int .i64 ps) := fun t => keep_cell f1 t.2
      have g2 : ∀ t : After wr, t.1.cell? ⟨w.heap.size + 1, 2, none⟩ = some (.int .i64 rs) := fun t => keep_cell f2 t.2
      have g3 : ∀ t : After wr, t.1.cell? ⟨w.heap.size + 1, 3, none⟩ = some (.int .i64 sl) := fun t => keep_cell f3 t.2
      have g4 : ∀ t : After wr, t.1.cell? ⟨w.heap.size + 1, 4, none⟩ = some (.slice bo bl.length bc) := fun t => keep_cell f4 t.2
      have g5 : ∀ t : After wr, t.1.cell? ⟨w.heap.size + 1 + 1, 2, none⟩ = some (.slice (some ⟨b, o, none⟩) args.length ac) := fun t => keep_cell x2 t.2
      have K50 : ∀ t : After wr, _ := fun t => Calls.after t (h50 args[k] t.1)
      have HNO : Hid (regB ⟨nm, ps, rs, sl, .slice bo bl.length bc, bl⟩ args[k] = false → R = false) := fun hq => by
        rw [HR.out, allF_no hlt (of_decide_eq_false hq)]
        rfl
      have HN : Hid (regB ⟨nm, ps, rs, sl, .slice bo bl.length bc, bl⟩ args[k] = true → ∀ j (hj : j < args.length), j < k + 1 → 0 ≤ args[j] ∧ args[j] < rs) := fun hq => all_step HK.out hlt (of_decide_eq_true hq)
      have hne := after_some wr
      clear hcx
      generalize regB ⟨nm, ps, rs, sl, .slice bo bl.length bc, bl⟩ args[k] = q at *
      generalize args[k] = ak at *
      go_wp2_with fail
      refine region_after 7 mixed (by kernel_rfl) ?_
      simp only [List.take_succ_cons, List.take_zero, List.drop_succ_cons, List.drop_zero]
      repeat (first | go_big_quiet_step (with_reducible exact K50 _) | quiet_step (with_reducible exact K50 _))
      refine wpQuiet_nil ?_
      intro w6 hb6
      have HB6 := hid' hb6
      clear K50 yc g0 g1 g2 g3 g4 g5 hb6 h50 h49
      cases q
      · go_wp2_with fail
        go_ret
        exact ⟨by rw [HNO.out (by trivial)]; rfl, below_up HB0.out HB6.out⟩
      · go_wp2_with fail
        go_roundw
        case rel => exact ⟨k + 1, by omega, by go_num, HN.out (by trivial), below_on HB.out HB6.out HB.out.size⟩
        case measure => simp [intOf]; omega
    · have e : k = args.length := by omega
      subst e
      rw [allF_yes (fun j hj => HK.out j hj hj), Bool.true_and] at HR
      clear HK h50 h49
      by_cases a1 : ¬ alu = 0
      · have HF : Hid (R = false) := by unfold Hid; rw [HR.out]; simp [aluF, a1]
        go_wp2_with fail
        go_ret
        exact ⟨by rw [HF.out]; rfl, HB0.out⟩
      replace a1 := Classical.not_not.1 a1
      have h3 : aluF alu false = true := decide_eq_true a1
      rw [h3, Bool.true_and] at HR
      subst a1
      clear h3
      by_cases a3 : wide = 1
      · subst a3
        have hw3 : wideF 1 true = true := rfl
        rw [hw3, Bool.true_and] at HR
        clear hw3
        by_cases a4 : ¬ pred.length = 0
        · have a5 : ¬ (pred.length : Int) = 0 := by omega
          have a6 : (0 : Int) < pred.length := by omega
          have HF : Hid (R = false) := by unfold Hid; rw [HR.out]; simp [a4]
          go_wp2_with fail
          go_ret
          exact ⟨by rw [HF.out]; rfl, HB0.out⟩
        replace a4 := Classical.not_not.1 a4
        rw [decide_eq_true a4] at HR
        have a5 : ¬ (0 : Int) < pred.length := by omega
        clear a4
        simp only [Bool.false_or, Bool.true_and] at HR
        have hc := H51.out wr HB0.out
        rw [← HR.out] at hc
        clear H51
        go_wp2_with (go_at_call 59; refine hc.mono ?_; rintro e3 w3 ⟨rfl, hb3⟩)
        go_ret
        exact ⟨rfl, below_up HB0.out hb3⟩
      by_cases a7 : wide = 4
      · subst a7
        have hw3 : wideF 4 true = true := rfl
        rw [hw3, Bool.true_and] at HR
        clear hw3
        by_cases a4 : ¬ pred.length = 0
        · have a5 : ¬ (pred.length : Int) = 0 := by omega
          have a6 : (0 : Int) < pred.length := by omega
          have HF : Hid (R = false) := by unfold Hid; rw [HR.out]; simp [a4]
          go_wp2_with fail
          go_ret
          exact ⟨by rw [HF.out]; rfl, HB0.out⟩
        replace a4 := Classical.not_not.1 a4
        rw [decide_eq_true a4] at HR
        have a5 : ¬ (0 : Int) < pred.length := by omega
        clear a4
        simp only [Bool.false_or, Bool.true_and] at HR
        have hc := H51.out wr HB0.out
        rw [← HR.out] at hc
        clear H51
        go_wp2_with (go_at_call 59; refine hc.mono ?_; rintro e3 w3 ⟨rfl, hb3⟩)
        go_ret
        exact ⟨rfl, below_up HB0.out hb3⟩
      have HF : Hid (R = false) := by unfold Hid; rw [HR.out]; simp [wideF, a3, a7]
      go_wp2_with fail
      go_ret
      exact ⟨by rw [HF.out]; rfl, HB0.out⟩
end Go.Proofs.Ytiehlkhpblldaaa

namespace Go.Proofs.Ytiehlkhpblldaaa
open Go.RowKit Go.Maps

set_option maxHeartbeats 16000000 in
theorem insE {w : World} {p : Pg} {nm : ByteArray} {ps rs sl : Int} {bv : Value} {bl : List Bl} {op dst imm alu wide : Int} {av xv : Value} {args pred : List Int} (hp : Pg.ok w p) (hf : Src Bl.cells w bv bl) (hx : In.ok w ⟨12, dst, av, args, imm, alu, wide, xv, pred⟩) (hreg : regB ⟨nm, ps, rs, sl, bv, bl⟩ dst = true)
    (h49 : ∀ W, Calls Try.prog 57 #[.int .i64 12] W fun e w' => e = .returned (.tuple #[.int .i64 (-1), .int .i64 (1), .bool true]) ∧ w' = W) :
    Calls Try.prog 33 #[p.val, (Fn.mk nm ps rs sl bv bl).val, (In.mk 12 dst av args imm alu wide xv pred).val] w fun e w' => e = .returned (.bool (resD p ⟨nm, ps, rs, sl, bv, bl⟩ ⟨12, dst, av, args, imm, alu, wide, xv, pred⟩ false false true)) ∧ Below w.heap.size w w' := by
  have H51 : Hid (∀ W, Below w.heap.size w W → Calls Try.prog 59 #[p.val, (Fn.mk nm ps rs sl bv bl).val, (In.mk 12 dst av args imm alu wide xv pred).val] W fun e w' => e = .returned (.bool (immD p sl ⟨12, dst, av, args, imm, alu, wide, xv, pred⟩)) ∧ Below W.heap.size W w') := fun W hW => imm51 (f := ⟨nm, ps, rs, sl, bv, bl⟩) (hp.on hW) (hf.on hW) (hx.on hW)
  have h50 := fun n W => register50 ⟨nm, ps, rs, sl, bv, bl⟩ n W
  generalize hR : resD p ⟨nm, ps, rs, sl, bv, bl⟩ ⟨12, dst, av, args, imm, alu, wide, xv, pred⟩ false false true = R
  unfold resD at hR
  dsimp only at hR
  generalize immD p sl ⟨12, dst, av, args, imm, alu, wide, xv, pred⟩ = qi at *
  have HR := hid' hR.symm
  clear hR
  obtain ⟨fv, funcs, gl, dv, data, main⟩ := p
  obtain ⟨ha, hal, hq, hql, hi1, hi2⟩ := hx
  obtain ⟨fo, fc, ef⟩ := hp.f.len
  obtain ⟨dd, dc, ed⟩ := hp.d.len
  dsimp only at *
  obtain ⟨ao, ac, rfl, hai⟩ := ha.ints
  obtain ⟨qo, qc, rfl⟩ := hq.len
  obtain ⟨bo, bc, rfl⟩ := hf.len
  subst ef ed
  have HA := hid' hai
  unfold big at hal hql
  clear ha hq hf hp hai
  unfold In.val Fn.val Pg.val at *
  dsimp only at *
  have hrd := h50 dst
  have hrd1 : regB ⟨nm, ps, rs, sl, .slice bo bl.length bc, bl⟩ dst = true := hreg
  rw [hrd1] at hrd
  clear hrd1
  go_enter Try.func33, Try.ntmps33
  go_wp2_with (first
    | (go_at_call 57; refine (h49 _).mono ?_; rintro e1 w1 ⟨rfl, rfl⟩)
    | (go_at_call 58; refine (hrd _).mono ?_; rintro e2 w2 ⟨rfl, hb2⟩; have HB2 := hid' hb2; obtain ⟨_, _, _, _, _, x2, _⟩ := (box3 hb2).2.2.2; clear hb2))
  go_loopw [10] (fun i wr => ∃ k : Nat, k ≤ args.length ∧ i = .int .i64 k ∧ (∀ j (hj : j < args.length), j < k → 0 ≤ args[j] ∧ args[j] < rs) ∧ Below (((w.alloc (.cells #[.slice fo funcs.length fc, .int .i64 gl, .slice dd data.length dc, .int .i64 main] 25)).alloc (.cells #[.string nm, .int .i64 ps, .int .i64 rs, .int .i64 sl, .slice bo bl.length bc] 49)).alloc (.cells #[.int .i64 12, .int .i64 dst, .slice ao args.length ac, .int .i32 imm, .int .i64 alu, .int .i64 wide, .slice qo pred.length qc] 51)).heap.size (((w.alloc (.cells #[.slice fo funcs.length fc, .int .i64 gl, .slice dd data.length dc, .int .i64 main] 25)).alloc (.cells #[.string nm, .int .i64 ps, .int .i64 rs, .int .i64 sl, .slice bo bl.length bc] 49)).alloc (.cells #[.int .i64 12, .int .i64 dst, .slice ao args.length ac, .int .i32 imm, .int .i64 alu, .int .i64 wide, .slice qo pred.length qc] 51)) wr) (fun i _ => args.length - (intOf i).toNat)
  case atStart => exact ⟨0, Nat.zero_le _, rfl, fun j _ hj => by omega, HB2.out⟩
  case round =>
    obtain ⟨k, hk, rfl, hok, hbw⟩ := hrel
    have HK := hid' hok
    have HB := hid' hbw
    obtain ⟨⟨hsz, hB0⟩, ⟨p0, p1, p2, p3⟩, ⟨f0, f1, f2, f3, f4⟩, ⟨x0, x1, x2, x3, x4, x5, x6⟩⟩ := box3 hbw
    have HB0 := hid' hB0
    clear hok hbw hB0
    by_cases hlt : k < args.length
    · obtain ⟨b, o, rfl, hb1, hc1, hcx⟩ := HA.out k hlt
      have yc : ∀ t : After wr, t.1.cell? ⟨b, o + k, none⟩ = some (.int .i64 args[k]) := fun t => hcx t.1 (below_up HB0.out t.2)
      have g0 : ∀ t : After wr, t.1.cell? ⟨w.heap.size + 1, 0, none⟩ = some (.string nm) := fun t => keep_cell f0 t.2
      have g1 : ∀ t : After wr, t.1.cell? ⟨w.heap.size + 1, 1, none⟩ = some (.int .i64 ps) := fun t => keep_cell f1 t.2
      have g2 : ∀ t : After wr, t.1.cell? ⟨w.heap.size + 1, 2, none⟩ = some (.int .i64 rs) := fun t => keep_cell f2 t.2
      have g3 : ∀ t : After wr, t.1.cell? ⟨w.heap.size + 1, 3, none⟩ = some (.int .i64 sl) := fun t => keep_cell f3 t.2
      have g4 : ∀ t : After wr, t.1.cell? ⟨w.heap.size + 1, 4, none⟩ = some (.slice bo bl.length bc) := fun t => keep_cell f4 t.2
      have g5 : ∀ t : After wr, t.1.cell? ⟨w.heap.size + 1 + 1, 2, none⟩ = some (.slice (some ⟨b, o, none⟩) args.length ac) := fun t => keep_cell x2 t.2
      have K50 : ∀ t : After wr, _ := fun t => Calls.after t (h50 args[k] t.1)
      have HNO : Hid (regB ⟨nm, ps, rs, sl, .slice bo bl.length bc, bl⟩ args[k] = false → R = false) := fun hq => by
        rw [HR.out, allF_no hlt (of_decide_eq_false hq)]
        rfl
      have HN : Hid (regB ⟨nm, ps, rs, sl, .slice bo bl.length bc, bl⟩ args[k] = true → ∀ j (hj : j < args.length), j < k + 1 → 0 ≤ args[j] ∧ args[j] < rs) := fun hq => all_step HK.out hlt (of_decide_eq_true hq)
      have hne := after_some wr
      clear hcx
      generalize regB ⟨nm, ps, rs, sl, .slice bo bl.length bc, bl⟩ args[k] = q at *
      generalize args[k] = ak at *
      go_wp2_with fail
      refine region_after 7 mixed (by kernel_rfl) ?_
      simp only [List.take_succ_cons, List.take_zero, List.drop_succ_cons, List.drop_zero]
      repeat (first | go_big_quiet_step (with_reducible exact K50 _) | quiet_step (with_reducible exact K50 _))
      refine wpQuiet_nil ?_
      intro w6 hb6
      have HB6 := hid' hb6
      clear K50 yc g0 g1 g2 g3 g4 g5 hb6 h50 h49
      cases q
      · go_wp2_with fail
        go_ret
        exact ⟨by rw [HNO.out (by trivial)]; rfl, below_up HB0.out HB6.out⟩
      · go_wp2_with fail
        go_roundw
        case rel => exact ⟨k + 1, by omega, by go_num, HN.out (by trivial), below_on HB.out HB6.out HB.out.size⟩
        case measure => simp [intOf]; omega
    · have e : k = args.length := by omega
      subst e
      rw [allF_yes (fun j hj => HK.out j hj hj), Bool.true_and] at HR
      clear HK h50 h49
      by_cases a1 : ¬ alu = 0
      · have HF : Hid (R = false) := by unfold Hid; rw [HR.out]; simp [aluF, a1]
        go_wp2_with fail
        go_ret
        exact ⟨by rw [HF.out]; rfl, HB0.out⟩
      replace a1 := Classical.not_not.1 a1
      have h3 : aluF alu false = true := decide_eq_true a1
      rw [h3, Bool.true_and] at HR
      subst a1
      clear h3
      by_cases a3 : wide = 0
      · subst a3
        have hw3 : wideF 0 false = true := rfl
        rw [hw3, Bool.true_and] at HR
        clear hw3
        simp only [Bool.true_or, Bool.true_and] at HR
        have hc := H51.out wr HB0.out
        rw [← HR.out] at hc
        clear H51
        go_wp2_with (go_at_call 59; refine hc.mono ?_; rintro e3 w3 ⟨rfl, hb3⟩)
        go_ret
        exact ⟨rfl, below_up HB0.out hb3⟩
      have HF : Hid (R = false) := by unfold Hid; rw [HR.out]; simp [wideF, a3]
      go_wp2_with fail
      go_ret
      exact ⟨by rw [HF.out]; rfl, HB0.out⟩

set_option maxHeartbeats 16000000 in
theorem insF {w : World} {p : Pg} {nm : ByteArray} {ps rs sl : Int} {bv : Value} {bl : List Bl} {op dst imm alu wide : Int} {av xv : Value} {args pred : List Int} (hp : Pg.ok w p) (hf : Src Bl.cells w bv bl) (hx : In.ok w ⟨op, dst, av, args, imm, alu, wide, xv, pred⟩) (n3 : ¬ op = 3) (n6 : ¬ op = 6) (n7 : ¬ op = 7) (n12 : ¬ op = 12) (hreg : regB ⟨nm, ps, rs, sl, bv, bl⟩ dst = true)
    (h49 : ∀ W, Calls Try.prog 57 #[.int .i64 op] W fun e w' => e = .returned (.tuple #[.int .i64 ((args.length : Nat) : Int), .int .i64 (1), .bool true]) ∧ w' = W) :
    Calls Try.prog 33 #[p.val, (Fn.mk nm ps rs sl bv bl).val, (In.mk op dst av args imm alu wide xv pred).val] w fun e w' => e = .returned (.bool (resD p ⟨nm, ps, rs, sl, bv, bl⟩ ⟨op, dst, av, args, imm, alu, wide, xv, pred⟩ false false false)) ∧ Below w.heap.size w w' := by
  have H51 : Hid (∀ W, Below w.heap.size w W → Calls Try.prog 59 #[p.val, (Fn.mk nm ps rs sl bv bl).val, (In.mk op dst av args imm alu wide xv pred).val] W fun e w' => e = .returned (.bool (immD p sl ⟨op, dst, av, args, imm, alu, wide, xv, pred⟩)) ∧ Below W.heap.size W w') := fun W hW => imm51 (f := ⟨nm, ps, rs, sl, bv, bl⟩) (hp.on hW) (hf.on hW) (hx.on hW)
  have h50 := fun n W => register50 ⟨nm, ps, rs, sl, bv, bl⟩ n W
  generalize hR : resD p ⟨nm, ps, rs, sl, bv, bl⟩ ⟨op, dst, av, args, imm, alu, wide, xv, pred⟩ false false false = R
  unfold resD at hR
  dsimp only at hR
  generalize immD p sl ⟨op, dst, av, args, imm, alu, wide, xv, pred⟩ = qi at *
  have HR := hid' hR.symm
  clear hR
  obtain ⟨fv, funcs, gl, dv, data, main⟩ := p
  obtain ⟨ha, hal, hq, hql, hi1, hi2⟩ := hx
  obtain ⟨fo, fc, ef⟩ := hp.f.len
  obtain ⟨dd, dc, ed⟩ := hp.d.len
  dsimp only at *
  obtain ⟨ao, ac, rfl, hai⟩ := ha.ints
  obtain ⟨qo, qc, rfl⟩ := hq.len
  obtain ⟨bo, bc, rfl⟩ := hf.len
  subst ef ed
  have HA := hid' hai
  unfold big at hal hql
  clear ha hq hf hp hai
  unfold In.val Fn.val Pg.val at *
  dsimp only at *
  have m3 : (op == 3) = false := by simp [n3]
  have m6 : (op == 6) = false := by simp [n6]
  have m7 : (op == 7) = false := by simp [n7]
  have m12 : (op == 12) = false := by simp [n12]
  have o3 : (op != 3) = true := by simp [n3]
  have o12 : (op != 12) = true := by simp [n12]
  have hrd := h50 dst
  have hrd1 : regB ⟨nm, ps, rs, sl, .slice bo bl.length bc, bl⟩ dst = true := hreg
  rw [hrd1] at hrd
  clear hrd1
  go_enter Try.func33, Try.ntmps33
  go_wp2_with (first
    | (go_at_call 57; refine (h49 _).mono ?_; rintro e1 w1 ⟨rfl, rfl⟩)
    | (go_at_call 58; refine (hrd _).mono ?_; rintro e2 w2 ⟨rfl, hb2⟩; have HB2 := hid' hb2; obtain ⟨_, _, _, _, _, x2, _⟩ := (box3 hb2).2.2.2; clear hb2))
  go_loopw [10] (fun i wr => ∃ k : Nat, k ≤ args.length ∧ i = .int .i64 k ∧ (∀ j (hj : j < args.length), j < k → 0 ≤ args[j] ∧ args[j] < rs) ∧ Below (((w.alloc (.cells #[.slice fo funcs.length fc, .int .i64 gl, .slice dd data.length dc, .int .i64 main] 25)).alloc (.cells #[.string nm, .int .i64 ps, .int .i64 rs, .int .i64 sl, .slice bo bl.length bc] 49)).alloc (.cells #[.int .i64 op, .int .i64 dst, .slice ao args.length ac, .int .i32 imm, .int .i64 alu, .int .i64 wide, .slice qo pred.length qc] 51)).heap.size (((w.alloc (.cells #[.slice fo funcs.length fc, .int .i64 gl, .slice dd data.length dc, .int .i64 main] 25)).alloc (.cells #[.string nm, .int .i64 ps, .int .i64 rs, .int .i64 sl, .slice bo bl.length bc] 49)).alloc (.cells #[.int .i64 op, .int .i64 dst, .slice ao args.length ac, .int .i32 imm, .int .i64 alu, .int .i64 wide, .slice qo pred.length qc] 51)) wr) (fun i _ => args.length - (intOf i).toNat)
  case atStart => exact ⟨0, Nat.zero_le _, rfl, fun j _ hj => by omega, HB2.out⟩
  case round =>
    obtain ⟨k, hk, rfl, hok, hbw⟩ := hrel
    have HK := hid' hok
    have HB := hid' hbw
    obtain ⟨⟨hsz, hB0⟩, ⟨p0, p1, p2, p3⟩, ⟨f0, f1, f2, f3, f4⟩, ⟨x0, x1, x2, x3, x4, x5, x6⟩⟩ := box3 hbw
    have HB0 := hid' hB0
    clear hok hbw hB0
    by_cases hlt : k < args.length
    · obtain ⟨b, o, rfl, hb1, hc1, hcx⟩ := HA.out k hlt
      have yc : ∀ t : After wr, t.1.cell? ⟨b, o + k, none⟩ = some (.int .i64 args[k]) := fun t => hcx t.1 (below_up HB0.out t.2)
      have g0 : ∀ t : After wr, t.1.cell? ⟨w.heap.size + 1, 0, none⟩ = some (.string nm) := fun t => keep_cell f0 t.2
      have g1 : ∀ t : After wr, t.1.cell? ⟨w.heap.size + 1, 1, none⟩ = some (.int .i64 ps) := fun t => keep_cell f1 t.2
      have g2 : ∀ t : After wr, t.1.cell? ⟨w.heap.size + 1, 2, none⟩ = some (.int .i64 rs) := fun t => keep_cell f2 t.2
      have g3 : ∀ t : After wr, t.1.cell? ⟨w.heap.size + 1, 3, none⟩ = some (.int .i64 sl) := fun t => keep_cell f3 t.2
      have g4 : ∀ t : After wr, t.1.cell? ⟨w.heap.size + 1, 4, none⟩ = some (.slice bo bl.length bc) := fun t => keep_cell f4 t.2
      have g5 : ∀ t : After wr, t.1.cell? ⟨w.heap.size + 1 + 1, 2, none⟩ = some (.slice (some ⟨b, o, none⟩) args.length ac) := fun t => keep_cell x2 t.2
      have K50 : ∀ t : After wr, _ := fun t => Calls.after t (h50 args[k] t.1)
      have HNO : Hid (regB ⟨nm, ps, rs, sl, .slice bo bl.length bc, bl⟩ args[k] = false → R = false) := fun hq => by
        rw [HR.out, allF_no hlt (of_decide_eq_false hq)]
        rfl
      have HN : Hid (regB ⟨nm, ps, rs, sl, .slice bo bl.length bc, bl⟩ args[k] = true → ∀ j (hj : j < args.length), j < k + 1 → 0 ≤ args[j] ∧ args[j] < rs) := fun hq => all_step HK.out hlt (of_decide_eq_true hq)
      have hne := after_some wr
      clear hcx
      generalize regB ⟨nm, ps, rs, sl, .slice bo bl.length bc, bl⟩ args[k] = q at *
      generalize args[k] = ak at *
      go_wp2_with fail
      refine region_after 7 mixed (by kernel_rfl) ?_
      simp only [List.take_succ_cons, List.take_zero, List.drop_succ_cons, List.drop_zero]
      repeat (first | go_big_quiet_step (with_reducible exact K50 _) | quiet_step (with_reducible exact K50 _))
      refine wpQuiet_nil ?_
      intro w6 hb6
      have HB6 := hid' hb6
      clear K50 yc g0 g1 g2 g3 g4 g5 hb6 h50 h49
      cases q
      · go_wp2_with fail
        go_ret
        exact ⟨by rw [HNO.out (by trivial)]; rfl, below_up HB0.out HB6.out⟩
      · go_wp2_with fail
        go_roundw
        case rel => exact ⟨k + 1, by omega, by go_num, HN.out (by trivial), below_on HB.out HB6.out HB.out.size⟩
        case measure => simp [intOf]; omega
    · have e : k = args.length := by omega
      subst e
      rw [allF_yes (fun j hj => HK.out j hj hj), Bool.true_and] at HR
      clear HK h50 h49
      by_cases a1 : ¬ alu = 0
      · have HF : Hid (R = false) := by unfold Hid; rw [HR.out]; simp [aluF, a1]
        go_wp2_with fail
        go_ret
        exact ⟨by rw [HF.out]; rfl, HB0.out⟩
      replace a1 := Classical.not_not.1 a1
      have h3 : aluF alu false = true := decide_eq_true a1
      rw [h3, Bool.true_and] at HR
      subst a1
      clear h3
      by_cases a3 : wide = 0
      · subst a3
        have hw3 : wideF 0 false = true := rfl
        rw [hw3, Bool.true_and] at HR
        clear hw3
        by_cases a4 : ¬ pred.length = 0
        · have a5 : ¬ (pred.length : Int) = 0 := by omega
          have a6 : (0 : Int) < pred.length := by omega
          have HF : Hid (R = false) := by unfold Hid; rw [HR.out]; simp [a4]
          go_wp2_with fail
          go_ret
          exact ⟨by rw [HF.out]; rfl, HB0.out⟩
        replace a4 := Classical.not_not.1 a4
        rw [decide_eq_true a4] at HR
        have a5 : ¬ (0 : Int) < pred.length := by omega
        clear a4
        simp only [Bool.false_or, Bool.true_and] at HR
        have hc := H51.out wr HB0.out
        rw [← HR.out] at hc
        clear H51
        go_wp2_with (go_at_call 59; refine hc.mono ?_; rintro e3 w3 ⟨rfl, hb3⟩)
        go_ret
        exact ⟨rfl, below_up HB0.out hb3⟩
      have HF : Hid (R = false) := by unfold Hid; rw [HR.out]; simp [wideF, a3]
      go_wp2_with fail
      go_ret
      exact ⟨by rw [HF.out]; rfl, HB0.out⟩
end Go.Proofs.Ytiehlkhpblldaaa

namespace Go.Proofs.Ytiehlkhpblldaaa
open Go.RowKit Go.Maps

set_option maxHeartbeats 16000000 in
theorem insG {w : World} {p : Pg} {nm : ByteArray} {ps rs sl : Int} {bv : Value} {bl : List Bl} {op dst imm alu wide : Int} {av xv : Value} {args pred : List Int} (hp : Pg.ok w p) (hf : Src Bl.cells w bv bl) (hx : In.ok w ⟨9, (-1), av, args, imm, alu, wide, xv, pred⟩)
    (h49 : ∀ W, Calls Try.prog 57 #[.int .i64 9] W fun e w' => e = .returned (.tuple #[.int .i64 (-1), .int .i64 (0), .bool true]) ∧ w' = W) :
    Calls Try.prog 33 #[p.val, (Fn.mk nm ps rs sl bv bl).val, (In.mk 9 (-1) av args imm alu wide xv pred).val] w fun e w' => e = .returned (.bool (resD p ⟨nm, ps, rs, sl, bv, bl⟩ ⟨9, (-1), av, args, imm, alu, wide, xv, pred⟩ false false false)) ∧ Below w.heap.size w w' := by
  have H51 : Hid (∀ W, Below w.heap.size w W → Calls Try.prog 59 #[p.val, (Fn.mk nm ps rs sl bv bl).val, (In.mk 9 (-1) av args imm alu wide xv pred).val] W fun e w' => e = .returned (.bool (immD p sl ⟨9, (-1), av, args, imm, alu, wide, xv, pred⟩)) ∧ Below W.heap.size W w') := fun W hW => imm51 (f := ⟨nm, ps, rs, sl, bv, bl⟩) (hp.on hW) (hf.on hW) (hx.on hW)
  have h50 := fun n W => register50 ⟨nm, ps, rs, sl, bv, bl⟩ n W
  generalize hR : resD p ⟨nm, ps, rs, sl, bv, bl⟩ ⟨9, (-1), av, args, imm, alu, wide, xv, pred⟩ false false false = R
  unfold resD at hR
  dsimp only at hR
  generalize immD p sl ⟨9, (-1), av, args, imm, alu, wide, xv, pred⟩ = qi at *
  have HR := hid' hR.symm
  clear hR
  obtain ⟨fv, funcs, gl, dv, data, main⟩ := p
  obtain ⟨ha, hal, hq, hql, hi1, hi2⟩ := hx
  obtain ⟨fo, fc, ef⟩ := hp.f.len
  obtain ⟨dd, dc, ed⟩ := hp.d.len
  dsimp only at *
  obtain ⟨ao, ac, rfl, hai⟩ := ha.ints
  obtain ⟨qo, qc, rfl⟩ := hq.len
  obtain ⟨bo, bc, rfl⟩ := hf.len
  subst ef ed
  have HA := hid' hai
  unfold big at hal hql
  clear ha hq hf hp hai
  unfold In.val Fn.val Pg.val at *
  dsimp only at *
  go_enter Try.func33, Try.ntmps33
  go_wp2_with (first
    | (go_at_call 57; refine (h49 _).mono ?_; rintro e1 w1 ⟨rfl, rfl⟩))
  go_loopw [10] (fun i wr => ∃ k : Nat, k ≤ args.length ∧ i = .int .i64 k ∧ (∀ j (hj : j < args.length), j < k → 0 ≤ args[j] ∧ args[j] < rs) ∧ Below (((w.alloc (.cells #[.slice fo funcs.length fc, .int .i64 gl, .slice dd data.length dc, .int .i64 main] 25)).alloc (.cells #[.string nm, .int .i64 ps, .int .i64 rs, .int .i64 sl, .slice bo bl.length bc] 49)).alloc (.cells #[.int .i64 9, .int .i64 (-1), .slice ao args.length ac, .int .i32 imm, .int .i64 alu, .int .i64 wide, .slice qo pred.length qc] 51)).heap.size (((w.alloc (.cells #[.slice fo funcs.length fc, .int .i64 gl, .slice dd data.length dc, .int .i64 main] 25)).alloc (.cells #[.string nm, .int .i64 ps, .int .i64 rs, .int .i64 sl, .slice bo bl.length bc] 49)).alloc (.cells #[.int .i64 9, .int .i64 (-1), .slice ao args.length ac, .int .i32 imm, .int .i64 alu, .int .i64 wide, .slice qo pred.length qc] 51)) wr) (fun i _ => args.length - (intOf i).toNat)
  case atStart => exact ⟨0, Nat.zero_le _, rfl, fun j _ hj => by omega, Below.refl _ _⟩
  case round =>
    obtain ⟨k, hk, rfl, hok, hbw⟩ := hrel
    have HK := hid' hok
    have HB := hid' hbw
    obtain ⟨⟨hsz, hB0⟩, ⟨p0, p1, p2, p3⟩, ⟨f0, f1, f2, f3, f4⟩, ⟨x0, x1, x2, x3, x4, x5, x6⟩⟩ := box3 hbw
    have HB0 := hid' hB0
    clear hok hbw hB0
    by_cases hlt : k < args.length
    · obtain ⟨b, o, rfl, hb1, hc1, hcx⟩ := HA.out k hlt
      have yc : ∀ t : After wr, t.1.cell? ⟨b, o + k, none⟩ = some (.int .i64 args[k]) := fun t => hcx t.1 (below_up HB0.out t.2)
      have g0 : ∀ t : After wr, t.1.cell? ⟨w.heap.size + 1, 0, none⟩ = some (.string nm) := fun t => keep_cell f0 t.2
      have g1 : ∀ t : After wr, t.1.cell? ⟨w.heap.size + 1, 1, none⟩ = some (.int .i64 ps) := fun t => keep_cell f1 t.2
      have g2 : ∀ t : After wr, t.1.cell? ⟨w.heap.size + 1, 2, none⟩ = some (.int .i64 rs) := fun t => keep_cell f2 t.2
      have g3 : ∀ t : After wr, t.1.cell? ⟨w.heap.size + 1, 3, none⟩ = some (.int .i64 sl) := fun t => keep_cell f3 t.2
      have g4 : ∀ t : After wr, t.1.cell? ⟨w.heap.size + 1, 4, none⟩ = some (.slice bo bl.length bc) := fun t => keep_cell f4 t.2
      have g5 : ∀ t : After wr, t.1.cell? ⟨w.heap.size + 1 + 1, 2, none⟩ = some (.slice (some ⟨b, o, none⟩) args.length ac) := fun t => keep_cell x2 t.2
      have K50 : ∀ t : After wr, _ := fun t => Calls.after t (h50 args[k] t.1)
      have HNO : Hid (regB ⟨nm, ps, rs, sl, .slice bo bl.length bc, bl⟩ args[k] = false → R = false) := fun hq => by
        rw [HR.out, allF_no hlt (of_decide_eq_false hq)]
        rfl
      have HN : Hid (regB ⟨nm, ps, rs, sl, .slice bo bl.length bc, bl⟩ args[k] = true → ∀ j (hj : j < args.length), j < k + 1 → 0 ≤ args[j] ∧ args[j] < rs) := fun hq => all_step HK.out hlt (of_decide_eq_true hq)
      have hne := after_some wr
      clear hcx
      generalize regB ⟨nm, ps, rs, sl, .slice bo bl.length bc, bl⟩ args[k] = q at *
      generalize args[k] = ak at *
      go_wp2_with fail
      refine region_after 7 mixed (by kernel_rfl) ?_
      simp only [List.take_succ_cons, List.take_zero, List.drop_succ_cons, List.drop_zero]
      repeat (first | go_big_quiet_step (with_reducible exact K50 _) | quiet_step (with_reducible exact K50 _))
      refine wpQuiet_nil ?_
      intro w6 hb6
      have HB6 := hid' hb6
      clear K50 yc g0 g1 g2 g3 g4 g5 hb6 h50 h49
      cases q
      · go_wp2_with fail
        go_ret
        exact ⟨by rw [HNO.out (by trivial)]; rfl, below_up HB0.out HB6.out⟩
      · go_wp2_with fail
        go_roundw
        case rel => exact ⟨k + 1, by omega, by go_num, HN.out (by trivial), below_on HB.out HB6.out HB.out.size⟩
        case measure => simp [intOf]; omega
    · have e : k = args.length := by omega
      subst e
      rw [allF_yes (fun j hj => HK.out j hj hj), Bool.true_and] at HR
      clear HK h50 h49
      by_cases a1 : ¬ alu = 0
      · have HF : Hid (R = false) := by unfold Hid; rw [HR.out]; simp [aluF, a1]
        go_wp2_with fail
        go_ret
        exact ⟨by rw [HF.out]; rfl, HB0.out⟩
      replace a1 := Classical.not_not.1 a1
      have h3 : aluF alu false = true := decide_eq_true a1
      rw [h3, Bool.true_and] at HR
      subst a1
      clear h3
      by_cases a3 : wide = 0
      · subst a3
        have hw3 : wideF 0 false = true := rfl
        rw [hw3, Bool.true_and] at HR
        clear hw3
        by_cases a4 : ¬ pred.length = 0
        · have a5 : ¬ (pred.length : Int) = 0 := by omega
          have a6 : (0 : Int) < pred.length := by omega
          have HF : Hid (R = false) := by unfold Hid; rw [HR.out]; simp [a4]
          go_wp2_with fail
          go_ret
          exact ⟨by rw [HF.out]; rfl, HB0.out⟩
        replace a4 := Classical.not_not.1 a4
        rw [decide_eq_true a4] at HR
        have a5 : ¬ (0 : Int) < pred.length := by omega
        clear a4
        simp only [Bool.false_or, Bool.true_and] at HR
        have hc := H51.out wr HB0.out
        rw [← HR.out] at hc
        clear H51
        go_wp2_with (go_at_call 59; refine hc.mono ?_; rintro e3 w3 ⟨rfl, hb3⟩)
        go_ret
        exact ⟨rfl, below_up HB0.out hb3⟩
      have HF : Hid (R = false) := by unfold Hid; rw [HR.out]; simp [wideF, a3]
      go_wp2_with fail
      go_ret
      exact ⟨by rw [HF.out]; rfl, HB0.out⟩

set_option maxHeartbeats 16000000 in
theorem insH {w : World} {p : Pg} {nm : ByteArray} {ps rs sl : Int} {bv : Value} {bl : List Bl} {op dst imm alu wide : Int} {av xv : Value} {args pred : List Int} (hp : Pg.ok w p) (hf : Src Bl.cells w bv bl) (hx : In.ok w ⟨9, dst, av, args, imm, alu, wide, xv, pred⟩) (nd : ¬ dst = -1) (hreg : regB ⟨nm, ps, rs, sl, bv, bl⟩ dst = true)
    (h49 : ∀ W, Calls Try.prog 57 #[.int .i64 9] W fun e w' => e = .returned (.tuple #[.int .i64 (-1), .int .i64 (0), .bool true]) ∧ w' = W) :
    Calls Try.prog 33 #[p.val, (Fn.mk nm ps rs sl bv bl).val, (In.mk 9 dst av args imm alu wide xv pred).val] w fun e w' => e = .returned (.bool (resD p ⟨nm, ps, rs, sl, bv, bl⟩ ⟨9, dst, av, args, imm, alu, wide, xv, pred⟩ false false false)) ∧ Below w.heap.size w w' := by
  have H51 : Hid (∀ W, Below w.heap.size w W → Calls Try.prog 59 #[p.val, (Fn.mk nm ps rs sl bv bl).val, (In.mk 9 dst av args imm alu wide xv pred).val] W fun e w' => e = .returned (.bool (immD p sl ⟨9, dst, av, args, imm, alu, wide, xv, pred⟩)) ∧ Below W.heap.size W w') := fun W hW => imm51 (f := ⟨nm, ps, rs, sl, bv, bl⟩) (hp.on hW) (hf.on hW) (hx.on hW)
  have h50 := fun n W => register50 ⟨nm, ps, rs, sl, bv, bl⟩ n W
  generalize hR : resD p ⟨nm, ps, rs, sl, bv, bl⟩ ⟨9, dst, av, args, imm, alu, wide, xv, pred⟩ false false false = R
  unfold resD at hR
  dsimp only at hR
  generalize immD p sl ⟨9, dst, av, args, imm, alu, wide, xv, pred⟩ = qi at *
  have HR := hid' hR.symm
  clear hR
  obtain ⟨fv, funcs, gl, dv, data, main⟩ := p
  obtain ⟨ha, hal, hq, hql, hi1, hi2⟩ := hx
  obtain ⟨fo, fc, ef⟩ := hp.f.len
  obtain ⟨dd, dc, ed⟩ := hp.d.len
  dsimp only at *
  obtain ⟨ao, ac, rfl, hai⟩ := ha.ints
  obtain ⟨qo, qc, rfl⟩ := hq.len
  obtain ⟨bo, bc, rfl⟩ := hf.len
  subst ef ed
  have HA := hid' hai
  unfold big at hal hql
  clear ha hq hf hp hai
  unfold In.val Fn.val Pg.val at *
  dsimp only at *
  have hrd := h50 dst
  have hrd1 : regB ⟨nm, ps, rs, sl, .slice bo bl.length bc, bl⟩ dst = true := hreg
  rw [hrd1] at hrd
  clear hrd1
  go_enter Try.func33, Try.ntmps33
  go_wp2_with (first
    | (go_at_call 57; refine (h49 _).mono ?_; rintro e1 w1 ⟨rfl, rfl⟩)
    | (go_at_call 58; refine (hrd _).mono ?_; rintro e2 w2 ⟨rfl, hb2⟩; have HB2 := hid' hb2; obtain ⟨_, _, _, _, _, x2, _⟩ := (box3 hb2).2.2.2; clear hb2))
  go_loopw [10] (fun i wr => ∃ k : Nat, k ≤ args.length ∧ i = .int .i64 k ∧ (∀ j (hj : j < args.length), j < k → 0 ≤ args[j] ∧ args[j] < rs) ∧ Below (((w.alloc (.cells #[.slice fo funcs.length fc, .int .i64 gl, .slice dd data.length dc, .int .i64 main] 25)).alloc (.cells #[.string nm, .int .i64 ps, .int .i64 rs, .int .i64 sl, .slice bo bl.length bc] 49)).alloc (.cells #[.int .i64 9, .int .i64 dst, .slice ao args.length ac, .int .i32 imm, .int .i64 alu, .int .i64 wide, .slice qo pred.length qc] 51)).heap.size (((w.alloc (.cells #[.slice fo funcs.length fc, .int .i64 gl, .slice dd data.length dc, .int .i64 main] 25)).alloc (.cells #[.string nm, .int .i64 ps, .int .i64 rs, .int .i64 sl, .slice bo bl.length bc] 49)).alloc (.cells #[.int .i64 9, .int .i64 dst, .slice ao args.length ac, .int .i32 imm, .int .i64 alu, .int .i64 wide, .slice qo pred.length qc] 51)) wr) (fun i _ => args.length - (intOf i).toNat)
  case atStart => exact ⟨0, Nat.zero_le _, rfl, fun j _ hj => by omega, HB2.out⟩
  case round =>
    obtain ⟨k, hk, rfl, hok, hbw⟩ := hrel
    have HK := hid' hok
    have HB := hid' hbw
    obtain ⟨⟨hsz, hB0⟩, ⟨p0, p1, p2, p3⟩, ⟨f0, f1, f2, f3, f4⟩, ⟨x0, x1, x2, x3, x4, x5, x6⟩⟩ := box3 hbw
    have HB0 := hid' hB0
    clear hok hbw hB0
    by_cases hlt : k < args.length
    · obtain ⟨b, o, rfl, hb1, hc1, hcx⟩ := HA.out k hlt
      have yc : ∀ t : After wr, t.1.cell? ⟨b, o + k, none⟩ = some (.int .i64 args[k]) := fun t => hcx t.1 (below_up HB0.out t.2)
      have g0 : ∀ t : After wr, t.1.cell? ⟨w.heap.size + 1, 0, none⟩ = some (.string nm) := fun t => keep_cell f0 t.2
      have g1 : ∀ t : After wr, t.1.cell? ⟨w.heap.size + 1, 1, none⟩ = some (.int .i64 ps) := fun t => keep_cell f1 t.2
      have g2 : ∀ t : After wr, t.1.cell? ⟨w.heap.size + 1, 2, none⟩ = some (.int .i64 rs) := fun t => keep_cell f2 t.2
      have g3 : ∀ t : After wr, t.1.cell? ⟨w.heap.size + 1, 3, none⟩ = some (.int .i64 sl) := fun t => keep_cell f3 t.2
      have g4 : ∀ t : After wr, t.1.cell? ⟨w.heap.size + 1, 4, none⟩ = some (.slice bo bl.length bc) := fun t => keep_cell f4 t.2
      have g5 : ∀ t : After wr, t.1.cell? ⟨w.heap.size + 1 + 1, 2, none⟩ = some (.slice (some ⟨b, o, none⟩) args.length ac) := fun t => keep_cell x2 t.2
      have K50 : ∀ t : After wr, _ := fun t => Calls.after t (h50 args[k] t.1)
      have HNO : Hid (regB ⟨nm, ps, rs, sl, .slice bo bl.length bc, bl⟩ args[k] = false → R = false) := fun hq => by
        rw [HR.out, allF_no hlt (of_decide_eq_false hq)]
        rfl
      have HN : Hid (regB ⟨nm, ps, rs, sl, .slice bo bl.length bc, bl⟩ args[k] = true → ∀ j (hj : j < args.length), j < k + 1 → 0 ≤ args[j] ∧ args[j] < rs) := fun hq => all_step HK.out hlt (of_decide_eq_true hq)
      have hne := after_some wr
      clear hcx
      generalize regB ⟨nm, ps, rs, sl, .slice bo bl.length bc, bl⟩ args[k] = q at *
      generalize args[k] = ak at *
      go_wp2_with fail
      refine region_after 7 mixed (by kernel_rfl) ?_
      simp only [List.take_succ_cons, List.take_zero, List.drop_succ_cons, List.drop_zero]
      repeat (first | go_big_quiet_step (with_reducible exact K50 _) | quiet_step (with_reducible exact K50 _))
      refine wpQuiet_nil ?_
      intro w6 hb6
      have HB6 := hid' hb6
      clear K50 yc g0 g1 g2 g3 g4 g5 hb6 h50 h49
      cases q
      · go_wp2_with fail
        go_ret
        exact ⟨by rw [HNO.out (by trivial)]; rfl, below_up HB0.out HB6.out⟩
      · go_wp2_with fail
        go_roundw
        case rel => exact ⟨k + 1, by omega, by go_num, HN.out (by trivial), below_on HB.out HB6.out HB.out.size⟩
        case measure => simp [intOf]; omega
    · have e : k = args.length := by omega
      subst e
      rw [allF_yes (fun j hj => HK.out j hj hj), Bool.true_and] at HR
      clear HK h50 h49
      by_cases a1 : ¬ alu = 0
      · have HF : Hid (R = false) := by unfold Hid; rw [HR.out]; simp [aluF, a1]
        go_wp2_with fail
        go_ret
        exact ⟨by rw [HF.out]; rfl, HB0.out⟩
      replace a1 := Classical.not_not.1 a1
      have h3 : aluF alu false = true := decide_eq_true a1
      rw [h3, Bool.true_and] at HR
      subst a1
      clear h3
      by_cases a3 : wide = 0
      · subst a3
        have hw3 : wideF 0 false = true := rfl
        rw [hw3, Bool.true_and] at HR
        clear hw3
        by_cases a4 : ¬ pred.length = 0
        · have a5 : ¬ (pred.length : Int) = 0 := by omega
          have a6 : (0 : Int) < pred.length := by omega
          have HF : Hid (R = false) := by unfold Hid; rw [HR.out]; simp [a4]
          go_wp2_with fail
          go_ret
          exact ⟨by rw [HF.out]; rfl, HB0.out⟩
        replace a4 := Classical.not_not.1 a4
        rw [decide_eq_true a4] at HR
        have a5 : ¬ (0 : Int) < pred.length := by omega
        clear a4
        simp only [Bool.false_or, Bool.true_and] at HR
        have hc := H51.out wr HB0.out
        rw [← HR.out] at hc
        clear H51
        go_wp2_with (go_at_call 59; refine hc.mono ?_; rintro e3 w3 ⟨rfl, hb3⟩)
        go_ret
        exact ⟨rfl, below_up HB0.out hb3⟩
      have HF : Hid (R = false) := by unfold Hid; rw [HR.out]; simp [wideF, a3]
      go_wp2_with fail
      go_ret
      exact ⟨by rw [HF.out]; rfl, HB0.out⟩
end Go.Proofs.Ytiehlkhpblldaaa

namespace Go.Proofs.Ytiehlkhpblldaaa
open Go.RowKit Go.Maps

theorem insN {w : World} {p : Pg} {f : Fn} {x : In} (hp : Pg.ok w p) (hf : Src Bl.cells w f.bv f.blocks) (hx : In.ok w x) {a d : Int} {ok : Bool}
    (h49 : ∀ W, Calls Try.prog 57 #[.int .i64 x.op] W fun e w' => e = .returned (.tuple #[.int .i64 a, .int .i64 d, .bool ok]) ∧ w' = W)
    (hno : ok = false ∨ (ok = true ∧ 0 ≤ a ∧ ¬ (x.args.length : Int) = a) ∨ (ok = true ∧ ¬ (0 ≤ a ∧ ¬ (x.args.length : Int) = a) ∧ ((d = -1 ∧ ¬ x.dst = -1) ∨ (d = 1 ∧ regB f x.dst = false) ∨ (d = 0 ∧ ¬ x.dst = -1 ∧ regB f x.dst = false)))) :
    Calls Try.prog 33 #[p.val, f.val, x.val] w fun e w' => e = .returned (.bool false) ∧ Below w.heap.size w w' := by
  have h50 := fun W => register50 f x.dst W
  obtain ⟨nm, ps, rs, sl, bv, bl⟩ := f
  obtain ⟨op, dst, av, args, imm, alu, wide, xv, pred⟩ := x
  obtain ⟨fv, funcs, gl, dv, data, main⟩ := p
  obtain ⟨ha, hal, hq, hql, hi1, hi2⟩ := hx
  obtain ⟨fo, fc, ef⟩ := hp.f.len
  obtain ⟨dd, dc, ed⟩ := hp.d.len
  dsimp only at *
  obtain ⟨ao, ac, rfl⟩ := ha.len
  obtain ⟨qo, qc, rfl⟩ := hq.len
  obtain ⟨bo, bc, rfl⟩ := hf.len
  subst ef ed
  unfold big at hal hql
  clear ha hq hf hp
  unfold In.val Fn.val Pg.val at *
  dsimp only at *
  rcases hno with rfl | ⟨rfl, h1, h2⟩ | ⟨rfl, h3, h4⟩
  · clear h50
    go_enter Try.func33, Try.ntmps33
    go_wp2_with (go_at_call 57; refine (h49 _).mono ?_; rintro e1 w1 ⟨rfl, rfl⟩)
    go_ret
    exact ⟨rfl, below3 _ _ _ _⟩
  · clear h50
    have h2' : ((args.length : Int) == a) = false := by simp [h2]
    go_enter Try.func33, Try.ntmps33
    go_wp2_with (go_at_call 57; refine (h49 _).mono ?_; rintro e1 w1 ⟨rfl, rfl⟩)
    go_ret
    exact ⟨rfl, below3 _ _ _ _⟩
  · by_cases ha : 0 ≤ a
    · have he : (args.length : Int) = a := Classical.byContradiction fun h => h3 ⟨ha, h⟩
      subst he
      clear h3 ha
      rcases h4 with ⟨rfl, hd⟩ | ⟨rfl, hd⟩ | ⟨rfl, hd, hr⟩
      · clear h50
        have hd' : (dst == -1) = false := by simp [hd]
        go_enter Try.func33, Try.ntmps33
        go_wp2_with (go_at_call 57; refine (h49 _).mono ?_; rintro e1 w1 ⟨rfl, rfl⟩)
        go_ret
        exact ⟨rfl, below3 _ _ _ _⟩
      · rw [hd] at h50
        go_enter Try.func33, Try.ntmps33
        go_wp2_with (first
          | (go_at_call 57; refine (h49 _).mono ?_; rintro e1 w1 ⟨rfl, rfl⟩)
          | (go_at_call 58; refine (h50 _).mono ?_; rintro e2 w2 ⟨rfl, hb2⟩))
        go_ret
        exact ⟨rfl, below_on (below3 _ _ _ _) hb2 (by simp; omega)⟩
      · rw [hr] at h50
        have hd' : (dst == -1) = false := by simp [hd]
        go_enter Try.func33, Try.ntmps33
        go_wp2_with (first
          | (go_at_call 57; refine (h49 _).mono ?_; rintro e1 w1 ⟨rfl, rfl⟩)
          | (go_at_call 58; refine (h50 _).mono ?_; rintro e2 w2 ⟨rfl, hb2⟩))
        go_ret
        exact ⟨rfl, below_on (below3 _ _ _ _) hb2 (by simp; omega)⟩
    · clear h3
      rcases h4 with ⟨rfl, hd⟩ | ⟨rfl, hd⟩ | ⟨rfl, hd, hr⟩
      · clear h50
        have hd' : (dst == -1) = false := by simp [hd]
        go_enter Try.func33, Try.ntmps33
        go_wp2_with (go_at_call 57; refine (h49 _).mono ?_; rintro e1 w1 ⟨rfl, rfl⟩)
        go_ret
        exact ⟨rfl, below3 _ _ _ _⟩
      · rw [hd] at h50
        go_enter Try.func33, Try.ntmps33
        go_wp2_with (first
          | (go_at_call 57; refine (h49 _).mono ?_; rintro e1 w1 ⟨rfl, rfl⟩)
          | (go_at_call 58; refine (h50 _).mono ?_; rintro e2 w2 ⟨rfl, hb2⟩))
        go_ret
        exact ⟨rfl, below_on (below3 _ _ _ _) hb2 (by simp; omega)⟩
      · rw [hr] at h50
        have hd' : (dst == -1) = false := by simp [hd]
        go_enter Try.func33, Try.ntmps33
        go_wp2_with (first
          | (go_at_call 57; refine (h49 _).mono ?_; rintro e1 w1 ⟨rfl, rfl⟩)
          | (go_at_call 58; refine (h50 _).mono ?_; rintro e2 w2 ⟨rfl, hb2⟩))
        go_ret
        exact ⟨rfl, below_on (below3 _ _ _ _) hb2 (by simp; omega)⟩
end Go.Proofs.Ytiehlkhpblldaaa

namespace Go.Proofs.Ytiehlkhpblldaaa
open Go.RowKit Go.Maps

def lenD (a : Int) (n : Nat) : Bool := decide (a < 0) || decide ((n : Int) = a)
def dstD (f : Fn) (d dst : Int) : Bool := if d = -1 then decide (dst = -1) else if d = 1 then regB f dst else decide (dst = -1) || regB f dst
def docI (p : Pg) (f : Fn) (x : In) : Bool :=
  (shpD x.op).2.2 && (lenD (shpD x.op).1 x.args.length && (dstD f (shpD x.op).2.1 x.dst && resD p f x (decide (x.op = 3)) (decide (x.op = 6 ∨ x.op = 7)) (decide (x.op = 12))))
def docD (p : Pg) (f : Fn) (preds : List Int) (x : In) : Bool := docI p f x && (!decide (x.op = 12) || (eqL x.pred preds && decide (x.args.length = x.pred.length)))

theorem dst1 (f : Fn) (dst : Int) : dstF f.regs dst 1 = decide (dst = -1) := by
  unfold dstF
  by_cases h : dst = -1
  · rw [if_pos h]; simp [h]
  · rw [if_neg h]; simp [h]
theorem dst2 (f : Fn) (dst : Int) : dstF f.regs dst 2 = regB f dst := by
  unfold dstF
  by_cases h : dst = -1
  · rw [if_pos h]; subst h; simp [regB]
  · rw [if_neg h, win_reg]; simp
theorem dst3 (f : Fn) (dst : Int) : dstF f.regs dst 3 = (decide (dst = -1) || regB f dst) := by
  unfold dstF
  by_cases h : dst = -1
  · rw [if_pos h]; simp [h]
  · rw [if_neg h, win_reg]; simp [h]
theorem eq_nil (l : List Int) : eqL l [] = decide (l.length = 0) := by
  unfold eqL
  cases l <;> simp
theorem win_all {imm : Int} (h : -2147483648 ≤ imm ∧ imm ≤ 2147483647) : winF imm (-2147483648) 2147483647 = true := decide_eq_true h
theorem win_zero (imm : Int) : winF imm 0 0 = decide (imm = 0) := by
  unfold winF
  by_cases h : imm = 0
  · subst h; rfl
  · rw [decide_eq_false h, decide_eq_false (by omega)]
theorem bl7 (L R A I U V Q Z : Bool) : (true && (R && (L && (A && (I && (U && (V && Q))))))) = ((true && (L && (R && (A && (U && (V && ((false || Q) && I))))))) && (!false || Z)) := by
  cases L <;> cases R <;> cases A <;> cases I <;> cases U <;> cases V <;> cases Q <;> cases Z <;> rfl
theorem bl9 (L R A U V Q Z M : Bool) : (true && (R && (L && (A && (true && (U && (V && Q))))))) = ((true && ((true || M) && (R && (A && (U && (V && ((false || Q) && (true && L)))))))) && (!false || Z)) := by
  cases L <;> cases R <;> cases A <;> cases U <;> cases V <;> cases Q <;> cases Z <;> cases M <;> rfl
theorem bl9n (R A U V Q Z M X Y : Bool) : (false && X) = ((true && ((true || M) && (R && (A && (U && (V && ((false || Q) && (false && Y)))))))) && (!false || Z)) := by
  cases R <;> cases A <;> cases U <;> cases V <;> cases Q <;> cases Z <;> cases M <;> cases X <;> cases Y <;> rfl
theorem bl12 (R A I U V E L M Q : Bool) : (true && (R && (L && (A && (I && (U && (V && E))))))) = ((true && ((true || M) && (R && (A && (U && (V && ((true || Q) && I))))))) && (!true || (E && L))) := by
  cases R <;> cases A <;> cases I <;> cases U <;> cases V <;> cases E <;> cases L <;> cases M <;> cases Q <;> rfl
theorem lenD_nn {a : Int} (h : 0 ≤ a) (n : Nat) : lenD a n = decide ((n : Int) = a) := by
  unfold lenD
  rw [decide_eq_false (by omega : ¬ a < 0)]
  rfl
theorem fitI_is (p : Pg) (f : Fn) (preds : List Int) (x : In) (hi : -2147483648 ≤ x.imm ∧ x.imm ≤ 2147483647) : fitF p f.regs f.slots preds x = docD p f preds x := by
  obtain ⟨op, dst, av, args, imm, alu, wide, xv, pred⟩ := x
  unfold fitF fitS docD docI resD
  dsimp only at *
  by_cases h : op = 1 ∨ op = 2 ∨ op = 3 ∨ op = 4 ∨ op = 5 ∨ op = 6 ∨ op = 7 ∨ op = 8 ∨ op = 9 ∨ op = 10 ∨ op = 11 ∨ op = 12
  · rcases h with rfl | rfl | rfl | rfl | rfl | rfl | rfl | rfl | rfl | rfl | rfl | rfl
    · have e1 : shF p f.slots preds 1 imm = ⟨2, 0, -2147483648, 2147483647, false, false, []⟩ := rfl
      have e2 : shpD 1 = (0, 1, true) := rfl
      rw [e1, e2]
      dsimp only
      rw [dst2, eq_nil, win_all hi, lenD_nn (by omega)]
      exact bl7 _ _ _ _ _ _ _ _
    · have e1 : shF p f.slots preds 2 imm = ⟨2, 1, 0, 0, false, false, []⟩ := rfl
      have e2 : shpD 2 = (1, 1, true) := rfl
      rw [e1, e2]
      dsimp only
      rw [dst2, eq_nil, win_zero, lenD_nn (by omega)]
      exact bl7 _ _ _ _ _ _ _ _
    · have e1 : shF p f.slots preds 3 imm = ⟨2, 2, 0, 0, true, false, []⟩ := rfl
      have e2 : shpD 3 = (2, 1, true) := rfl
      rw [e1, e2]
      dsimp only
      rw [dst2, eq_nil, win_zero, lenD_nn (by omega)]
      exact bl7 _ _ _ _ _ _ _ _
    · have e1 : shF p f.slots preds 4 imm = ⟨2, 0, 0, p.global, false, false, []⟩ := rfl
      have e2 : shpD 4 = (0, 1, true) := rfl
      rw [e1, e2]
      dsimp only
      rw [dst2, eq_nil, lenD_nn (by omega)]
      exact bl7 _ _ _ _ _ _ _ _
    · have e1 : shF p f.slots preds 5 imm = ⟨2, 0, 0, f.slots, false, false, []⟩ := rfl
      have e2 : shpD 5 = (0, 1, true) := rfl
      rw [e1, e2]
      dsimp only
      rw [dst2, eq_nil, lenD_nn (by omega)]
      exact bl7 _ _ _ _ _ _ _ _
    · have e1 : shF p f.slots preds 6 imm = ⟨2, 1, -2147483648, 2147483647, false, true, []⟩ := rfl
      have e2 : shpD 6 = (1, 1, true) := rfl
      rw [e1, e2]
      dsimp only
      rw [dst2, eq_nil, win_all hi, lenD_nn (by omega)]
      exact bl7 _ _ _ _ _ _ _ _
    · have e1 : shF p f.slots preds 7 imm = ⟨1, 2, -2147483648, 2147483647, false, true, []⟩ := rfl
      have e2 : shpD 7 = (2, -1, true) := rfl
      rw [e1, e2]
      dsimp only
      rw [dst1, eq_nil, win_all hi, lenD_nn (by omega)]
      exact bl7 _ _ _ _ _ _ _ _
    · have e1 : shF p f.slots preds 8 imm = ⟨1, 1, 1, 2, false, false, []⟩ := rfl
      have e2 : shpD 8 = (1, -1, true) := rfl
      rw [e1, e2]
      dsimp only
      rw [dst1, eq_nil, lenD_nn (by omega)]
      exact bl7 _ _ _ _ _ _ _ _
    · have e1 : shF p f.slots preds 9 imm = shC p imm := rfl
      have e2 : shpD 9 = (-1, 0, true) := rfl
      have e3 : immD p f.slots ⟨9, dst, av, args, imm, alu, wide, xv, pred⟩ = (winF imm 0 ((p.funcs.length : Nat) - 1) && decide ((args.length : Int) = (p.funcs[imm.toNat]?.map Fn.params).getD 0)) := rfl
      rw [e1, e2, e3]
      unfold shC
      dsimp only
      cases hw : winF imm 0 ((p.funcs.length : Nat) - 1)
      · rw [if_neg (by decide)]
        exact bl9n _ _ _ _ _ _ _ _ _
      · rw [if_pos rfl]
        dsimp only
        rw [dst3, eq_nil, hw]
        exact bl9 _ _ _ _ _ _ _ _
    · have e1 : shF p f.slots preds 10 imm = ⟨2, 0, 0, 0, false, false, []⟩ := rfl
      have e2 : shpD 10 = (0, 1, true) := rfl
      rw [e1, e2]
      dsimp only
      rw [dst2, eq_nil, win_zero, lenD_nn (by omega)]
      exact bl7 _ _ _ _ _ _ _ _
    · have e1 : shF p f.slots preds 11 imm = ⟨1, 1, 0, 0, false, false, []⟩ := rfl
      have e2 : shpD 11 = (1, -1, true) := rfl
      rw [e1, e2]
      dsimp only
      rw [dst1, eq_nil, win_zero, lenD_nn (by omega)]
      exact bl7 _ _ _ _ _ _ _ _
    · have e1 : shF p f.slots preds 12 imm = ⟨2, (preds.length : Nat), 0, 0, false, false, preds⟩ := rfl
      have e2 : shpD 12 = (-1, 1, true) := rfl
      rw [e1, e2]
      dsimp only
      rw [dst2, win_zero]
      by_cases he : pred = preds
      · subst he
        have hd : decide ((args.length : Int) = (pred.length : Nat)) = decide (args.length = pred.length) := by
          by_cases h9 : args.length = pred.length
          · rw [decide_eq_true h9, decide_eq_true (by omega)]
          · rw [decide_eq_false h9, decide_eq_false (by omega)]
        rw [hd]
        exact bl12 _ _ _ _ _ _ _ _ _
      · have hE : eqL pred preds = false := decide_eq_false he
        rw [hE]
        simp
  · have e1 : shF p f.slots preds op imm = ⟨0, 0, 0, 0, false, false, []⟩ := by
      unfold shF
      rw [if_neg (by omega), if_neg (by omega), if_neg (by omega), if_neg (by omega), if_neg (by omega), if_neg (by omega), if_neg (by omega), if_neg (by omega), if_neg (by omega), if_neg (by omega), if_neg (by omega), if_neg (by omega)]
    have e2 : shpD op = (0, 0, false) := by
      unfold shpD
      rw [if_neg (by omega), if_neg (by omega), if_neg (by omega), if_neg (by omega), if_neg (by omega), if_neg (by omega), if_neg (by omega), if_neg (by omega)]
    rw [e1, e2]
    rfl

theorem instr30 {w : World} {p : Pg} {f : Fn} {x : In} (hp : Pg.ok w p) (hf : Src Bl.cells w f.bv f.blocks) (hx : In.ok w x) :
    Calls Try.prog 33 #[p.val, f.val, x.val] w fun e w' => e = .returned (.bool (docI p f x)) ∧ Below w.heap.size w w' := by
  have h49 := fun W => shape49 x.op W
  have no : ∀ (h : (shpD x.op).2.2 = false ∨ ((shpD x.op).2.2 = true ∧ 0 ≤ (shpD x.op).1 ∧ ¬ (x.args.length : Int) = (shpD x.op).1) ∨ ((shpD x.op).2.2 = true ∧ ¬ (0 ≤ (shpD x.op).1 ∧ ¬ (x.args.length : Int) = (shpD x.op).1) ∧ (((shpD x.op).2.1 = -1 ∧ ¬ x.dst = -1) ∨ ((shpD x.op).2.1 = 1 ∧ regB f x.dst = false) ∨ ((shpD x.op).2.1 = 0 ∧ ¬ x.dst = -1 ∧ regB f x.dst = false)))), docI p f x = false → Calls Try.prog 33 #[p.val, f.val, x.val] w fun e w' => e = .returned (.bool (docI p f x)) ∧ Below w.heap.size w w' := fun h e => by
    rw [e]
    exact insN hp hf hx h49 h
  cases hok : (shpD x.op).2.2
  · exact no (.inl hok) (by unfold docI; rw [hok]; rfl)
  by_cases hlen : 0 ≤ (shpD x.op).1 ∧ ¬ (x.args.length : Int) = (shpD x.op).1
  · refine no (.inr (.inl ⟨hok, hlen.1, hlen.2⟩)) ?_
    unfold docI
    rw [lenD_nn hlen.1, decide_eq_false hlen.2]
    simp
  have hL : lenD (shpD x.op).1 x.args.length = true := by
    unfold lenD
    by_cases h0 : 0 ≤ (shpD x.op).1
    · rw [decide_eq_true (Classical.byContradiction fun h => hlen ⟨h0, h⟩), Bool.or_true]
    · rw [decide_eq_true (by omega), Bool.true_or]
  have hI : docI p f x = (dstD f (shpD x.op).2.1 x.dst && resD p f x (decide (x.op = 3)) (decide (x.op = 6 ∨ x.op = 7)) (decide (x.op = 12))) := by
    unfold docI
    rw [hok, hL, Bool.true_and, Bool.true_and]
  have hdst : ((shpD x.op).2.1 = -1 ∧ ¬ x.dst = -1) ∨ ((shpD x.op).2.1 = 1 ∧ regB f x.dst = false) ∨ ((shpD x.op).2.1 = 0 ∧ ¬ x.dst = -1 ∧ regB f x.dst = false) → Calls Try.prog 33 #[p.val, f.val, x.val] w fun e w' => e = .returned (.bool (docI p f x)) ∧ Below w.heap.size w w' := fun h => by
    refine no (.inr (.inr ⟨hok, hlen, h⟩)) ?_
    rw [hI]
    unfold dstD
    rcases h with ⟨e, hd⟩ | ⟨e, hd⟩ | ⟨e, hd, hr⟩
    · rw [if_pos e, decide_eq_false hd]; rfl
    · rw [if_neg (by omega), if_pos e, hd]; rfl
    · rw [if_neg (by omega), if_neg (by omega), decide_eq_false hd, hr]; rfl
  rw [hI] at hdst ⊢
  clear no
  obtain ⟨nm, ps, rs, sl, bv, bl⟩ := f
  obtain ⟨op, dst, av, args, imm, alu, wide, xv, pred⟩ := x
  dsimp only at *
  have hop : op = 1 ∨ op = 2 ∨ op = 3 ∨ op = 4 ∨ op = 5 ∨ op = 6 ∨ op = 7 ∨ op = 8 ∨ op = 9 ∨ op = 10 ∨ op = 11 ∨ op = 12 := by
    refine Classical.byContradiction fun h => ?_
    have e2 : shpD op = (0, 0, false) := by
      unfold shpD
      rw [if_neg (by omega), if_neg (by omega), if_neg (by omega), if_neg (by omega), if_neg (by omega), if_neg (by omega), if_neg (by omega), if_neg (by omega)]
    rw [e2] at hok
    cases hok
  have hn : 0 ≤ (shpD op).1 → (shpD op).1 = (args.length : Nat) := fun h0 => (Classical.byContradiction fun h => hlen ⟨h0, fun e => h e.symm⟩)
  clear hL hI hok hlen
  by_cases hA : op = 7 ∨ op = 8 ∨ op = 11
  · by_cases hd : dst = -1
    · subst hd
      rcases hA with rfl | rfl | rfl
      · rw [hn (by decide)] at h49
        exact insA (op := 0) (dst := 0) hp hf hx h49
      · rw [hn (by decide)] at h49
        exact insB (dst := 0) hp hf hx (by decide) (by decide) (by decide) (by decide) h49
      · rw [hn (by decide)] at h49
        exact insB (dst := 0) hp hf hx (by decide) (by decide) (by decide) (by decide) h49
    · exact hdst (.inl ⟨by rcases hA with rfl | rfl | rfl <;> rfl, hd⟩)
  by_cases h9 : op = 9
  · subst h9
    by_cases hd : dst = -1
    · subst hd
      exact insG (op := 0) (dst := 0) hp hf hx h49
    · cases hr : regB ⟨nm, ps, rs, sl, bv, bl⟩ dst
      · exact hdst (.inr (.inr ⟨rfl, hd, hr⟩))
      · have e : dstD ⟨nm, ps, rs, sl, bv, bl⟩ (shpD 9).2.1 dst = true := by
          have : (shpD 9).2.1 = 0 := rfl
          unfold dstD
          rw [this, if_neg (by decide), if_neg (by decide), hr, Bool.or_true]
        rw [e, Bool.true_and]
        exact insH (op := 0) hp hf hx hd hr h49
  · cases hr : regB ⟨nm, ps, rs, sl, bv, bl⟩ dst
    · refine hdst (.inr (.inl ⟨?_, hr⟩))
      have : op = 1 ∨ op = 2 ∨ op = 3 ∨ op = 4 ∨ op = 5 ∨ op = 6 ∨ op = 10 ∨ op = 12 := by omega
      rcases this with rfl | rfl | rfl | rfl | rfl | rfl | rfl | rfl <;> rfl
    · have e : dstD ⟨nm, ps, rs, sl, bv, bl⟩ (shpD op).2.1 dst = true := by
        have h1 : (shpD op).2.1 = 1 := by
          have : op = 1 ∨ op = 2 ∨ op = 3 ∨ op = 4 ∨ op = 5 ∨ op = 6 ∨ op = 10 ∨ op = 12 := by omega
          rcases this with rfl | rfl | rfl | rfl | rfl | rfl | rfl | rfl <;> rfl
        unfold dstD
        rw [h1, if_neg (by decide), if_pos rfl, hr]
      rw [e, Bool.true_and]
      clear hdst e
      have : op = 1 ∨ op = 2 ∨ op = 3 ∨ op = 4 ∨ op = 5 ∨ op = 6 ∨ op = 10 ∨ op = 12 := by omega
      clear hA h9 hop
      rcases this with rfl | rfl | rfl | rfl | rfl | rfl | rfl | rfl
      · rw [hn (by decide)] at h49
        exact insF hp hf hx (by decide) (by decide) (by decide) (by decide) hr h49
      · rw [hn (by decide)] at h49
        exact insF hp hf hx (by decide) (by decide) (by decide) (by decide) hr h49
      · rw [hn (by decide)] at h49
        exact insC (op := 0) hp hf hx hr h49
      · rw [hn (by decide)] at h49
        exact insF hp hf hx (by decide) (by decide) (by decide) (by decide) hr h49
      · rw [hn (by decide)] at h49
        exact insF hp hf hx (by decide) (by decide) (by decide) (by decide) hr h49
      · rw [hn (by decide)] at h49
        exact Go.Proofs.Ytiehlkhpblldaaa.insD (op := 0) hp hf hx hr h49
      · rw [hn (by decide)] at h49
        exact insF hp hf hx (by decide) (by decide) (by decide) (by decide) hr h49
      · exact insE (op := 0) hp hf hx hr h49
end Go.Proofs.Ytiehlkhpblldaaa
