/- Instructions, as the document asks: shape, imm. -/
import Derived.Test.YthnbnilammjceaaShp
namespace Go.Proofs.Ythnbnilammjceaa
open Go.RowKit Go.Maps
set_option linter.unusedVariables false
set_option linter.unusedSimpArgs false

/-- How many Args, whether a Dst, whether it is one. -/
def shpD (op : Int) : Int × Int × Bool :=
  if op = 1 ∨ op = 4 ∨ op = 5 ∨ op = 10 then (0, 1, true)
  else if op = 2 then (1, 1, true)
  else if op = 3 then (2, 1, true)
  else if op = 6 then (1, 1, true)
  else if op = 7 then (2, -1, true)
  else if op = 8 ∨ op = 11 then (1, -1, true)
  else if op = 9 then (-1, 0, true)
  else if op = 12 then (-1, 1, true)
  else (0, 0, false)
set_option maxHeartbeats 4000000 in
theorem shape49 (op : Int) (w : World) : Calls Try.prog 49 #[.int .i64 op] w fun e w' => e = .returned (.tuple #[.int .i64 (shpD op).1, .int .i64 (shpD op).2.1, .bool (shpD op).2.2]) ∧ w' = w := by
  by_cases h : op = 1 ∨ op = 2 ∨ op = 3 ∨ op = 4 ∨ op = 5 ∨ op = 6 ∨ op = 7 ∨ op = 8 ∨ op = 9 ∨ op = 10 ∨ op = 11 ∨ op = 12
  · rcases h with rfl | rfl | rfl | rfl | rfl | rfl | rfl | rfl | rfl | rfl | rfl | rfl
    · go_enter Try.func49, Try.ntmps49
      go_wp2
      exact bodyPost_ret (v := .tuple #[.int .i64 (0), .int .i64 (1), .bool true]) (by simp [results, Try.results49, go_sem]) rfl ⟨rfl, rfl⟩
    · go_enter Try.func49, Try.ntmps49
      go_wp2
      exact bodyPost_ret (v := .tuple #[.int .i64 (1), .int .i64 (1), .bool true]) (by simp [results, Try.results49, go_sem]) rfl ⟨rfl, rfl⟩
    · go_enter Try.func49, Try.ntmps49
      go_wp2
      exact bodyPost_ret (v := .tuple #[.int .i64 (2), .int .i64 (1), .bool true]) (by simp [results, Try.results49, go_sem]) rfl ⟨rfl, rfl⟩
    · go_enter Try.func49, Try.ntmps49
      go_wp2
      exact bodyPost_ret (v := .tuple #[.int .i64 (0), .int .i64 (1), .bool true]) (by simp [results, Try.results49, go_sem]) rfl ⟨rfl, rfl⟩
    · go_enter Try.func49, Try.ntmps49
      go_wp2
      exact bodyPost_ret (v := .tuple #[.int .i64 (0), .int .i64 (1), .bool true]) (by simp [results, Try.results49, go_sem]) rfl ⟨rfl, rfl⟩
    · go_enter Try.func49, Try.ntmps49
      go_wp2
      exact bodyPost_ret (v := .tuple #[.int .i64 (1), .int .i64 (1), .bool true]) (by simp [results, Try.results49, go_sem]) rfl ⟨rfl, rfl⟩
    · go_enter Try.func49, Try.ntmps49
      go_wp2
      exact bodyPost_ret (v := .tuple #[.int .i64 (2), .int .i64 (-1), .bool true]) (by simp [results, Try.results49, go_sem]) rfl ⟨rfl, rfl⟩
    · go_enter Try.func49, Try.ntmps49
      go_wp2
      exact bodyPost_ret (v := .tuple #[.int .i64 (1), .int .i64 (-1), .bool true]) (by simp [results, Try.results49, go_sem]) rfl ⟨rfl, rfl⟩
    · go_enter Try.func49, Try.ntmps49
      go_wp2
      exact bodyPost_ret (v := .tuple #[.int .i64 (-1), .int .i64 (0), .bool true]) (by simp [results, Try.results49, go_sem]) rfl ⟨rfl, rfl⟩
    · go_enter Try.func49, Try.ntmps49
      go_wp2
      exact bodyPost_ret (v := .tuple #[.int .i64 (0), .int .i64 (1), .bool true]) (by simp [results, Try.results49, go_sem]) rfl ⟨rfl, rfl⟩
    · go_enter Try.func49, Try.ntmps49
      go_wp2
      exact bodyPost_ret (v := .tuple #[.int .i64 (1), .int .i64 (-1), .bool true]) (by simp [results, Try.results49, go_sem]) rfl ⟨rfl, rfl⟩
    · go_enter Try.func49, Try.ntmps49
      go_wp2
      exact bodyPost_ret (v := .tuple #[.int .i64 (-1), .int .i64 (1), .bool true]) (by simp [results, Try.results49, go_sem]) rfl ⟨rfl, rfl⟩
  · have e : shpD op = (0, 0, false) := by
      unfold shpD
      rw [if_neg (by omega), if_neg (by omega), if_neg (by omega), if_neg (by omega), if_neg (by omega), if_neg (by omega), if_neg (by omega), if_neg (by omega)]
    rw [e]
    have h1 : ¬ op = 1 := by omega
    have h2 : ¬ op = 2 := by omega
    have h3 : ¬ op = 3 := by omega
    have h4 : ¬ op = 4 := by omega
    have h5 : ¬ op = 5 := by omega
    have h6 : ¬ op = 6 := by omega
    have h7 : ¬ op = 7 := by omega
    have h8 : ¬ op = 8 := by omega
    have h9 : ¬ op = 9 := by omega
    have h10 : ¬ op = 10 := by omega
    have h11 : ¬ op = 11 := by omega
    have h12 : ¬ op = 12 := by omega
    clear h e
    go_enter Try.func49, Try.ntmps49
    go_wp2
    exact bodyPost_ret (v := .tuple #[.int .i64 0, .int .i64 0, .bool false]) (by simp [results, Try.results49, go_sem]) rfl ⟨rfl, rfl⟩

/-- A program's, a function's and an instruction's box, one behind the other. -/
theorem box3 {w W : World} {p0 p1 p2 p3 f0 f1 f2 f3 f4 x0 x1 x2 x3 x4 x5 x6 : Value} {T U V : TypeId} (hb : Below (((w.alloc (.cells #[p0, p1, p2, p3] T)).alloc (.cells #[f0, f1, f2, f3, f4] U)).alloc (.cells #[x0, x1, x2, x3, x4, x5, x6] V)).heap.size (((w.alloc (.cells #[p0, p1, p2, p3] T)).alloc (.cells #[f0, f1, f2, f3, f4] U)).alloc (.cells #[x0, x1, x2, x3, x4, x5, x6] V)) W) :
    (w.heap.size + 2 < W.heap.size ∧ Below w.heap.size w W) ∧ (W.cell? ⟨w.heap.size, 0, none⟩ = some p0 ∧ W.cell? ⟨w.heap.size, 1, none⟩ = some p1 ∧ W.cell? ⟨w.heap.size, 2, none⟩ = some p2 ∧ W.cell? ⟨w.heap.size, 3, none⟩ = some p3) ∧
    (W.cell? ⟨w.heap.size + 1, 0, none⟩ = some f0 ∧ W.cell? ⟨w.heap.size + 1, 1, none⟩ = some f1 ∧ W.cell? ⟨w.heap.size + 1, 2, none⟩ = some f2 ∧ W.cell? ⟨w.heap.size + 1, 3, none⟩ = some f3 ∧ W.cell? ⟨w.heap.size + 1, 4, none⟩ = some f4) ∧
    (W.cell? ⟨w.heap.size + 1 + 1, 0, none⟩ = some x0 ∧ W.cell? ⟨w.heap.size + 1 + 1, 1, none⟩ = some x1 ∧ W.cell? ⟨w.heap.size + 1 + 1, 2, none⟩ = some x2 ∧ W.cell? ⟨w.heap.size + 1 + 1, 3, none⟩ = some x3 ∧ W.cell? ⟨w.heap.size + 1 + 1, 4, none⟩ = some x4 ∧ W.cell? ⟨w.heap.size + 1 + 1, 5, none⟩ = some x5 ∧ W.cell? ⟨w.heap.size + 1 + 1, 6, none⟩ = some x6) := by
  refine ⟨⟨by have := hb.size; simp at this; omega, (below3 _ _ _ _).trans (hb.mono (by simp; omega))⟩, ⟨?_, ?_, ?_, ?_⟩, ⟨?_, ?_, ?_, ?_, ?_⟩, ⟨?_, ?_, ?_, ?_, ?_, ?_, ?_⟩⟩ <;> (rw [hb.cell (by simp <;> omega)]; simp [go_sem])

def immD (p : Pg) (slots : Int) (x : In) : Bool :=
  if x.op = 1 ∨ x.op = 6 ∨ x.op = 7 then true
  else if x.op = 4 then winF x.imm 0 p.global
  else if x.op = 5 then winF x.imm 0 slots
  else if x.op = 8 then winF x.imm 1 2
  else if x.op = 9 then winF x.imm 0 ((p.funcs.length : Nat) - 1) && decide ((x.args.length : Int) = (p.funcs[x.imm.toNat]?.map Fn.params).getD 0)
  else decide (x.imm = 0)
set_option maxRecDepth 20000 in
set_option maxHeartbeats 8000000 in
theorem imm51 {w : World} {p : Pg} {f : Fn} {x : In} (hp : Pg.ok w p) (hf : Src Bl.cells w f.bv f.blocks) (hx : In.ok w x) :
    Calls Try.prog 51 #[p.val, f.val, x.val] w fun e w' => e = .returned (.bool (immD p f.slots x)) ∧ Below w.heap.size w w' := by
  obtain ⟨nm, ps, rs, sl, bv, bl⟩ := f
  obtain ⟨op, dst, av, args, imm, alu, wide, xv, pred⟩ := x
  obtain ⟨fv, funcs, gl, dv, data, main⟩ := p
  obtain ⟨ha, hal, hq, hql, hi1, hi2⟩ := hx
  have hfl := hp.fl
  obtain ⟨fo, fc, ef, hff⟩ := hp.f.form fn5
  obtain ⟨dd, dc, ed⟩ := hp.d.len
  dsimp only at *
  obtain ⟨ao, ac, rfl⟩ := ha.len
  obtain ⟨qo, qc, rfl⟩ := hq.len
  obtain ⟨bo, bc, rfl⟩ := hf.len
  subst ef ed
  have HF := hid' hff
  unfold big at hal hfl
  clear ha hq hf hp hff
  unfold immD In.val Fn.val Pg.val
  dsimp only
  have hwi : IntKind.i64.wrap imm = imm := by simp [IntKind.wrap, IntKind.bits, IntKind.signed]; omega
  by_cases h167 : op = 1 ∨ op = 6 ∨ op = 7
  · rw [if_pos h167]
    rcases h167 with rfl | rfl | rfl
    all_goals
      go_enter Try.func51, Try.ntmps51
      go_wp2
      go_ret
      exact ⟨rfl, below3 _ _ _ _⟩
  rw [if_neg h167]
  have n1 : ¬ op = 1 := by omega
  have n6 : ¬ op = 6 := by omega
  have n7 : ¬ op = 7 := by omega
  clear h167
  by_cases e4 : op = 4
  · subst e4
    rw [if_pos rfl]
    by_cases g1 : 0 ≤ imm
    · by_cases g2 : imm ≤ gl
      · have e : winF imm 0 gl = true := decide_eq_true ⟨g1, g2⟩
        rw [e]
        go_enter Try.func51, Try.ntmps51
        go_wp2
        go_ret
        exact ⟨by simp [g1, g2], below3 _ _ _ _⟩
      · have e : winF imm 0 gl = false := decide_eq_false (fun h => g2 h.2)
        rw [e]
        go_enter Try.func51, Try.ntmps51
        go_wp2
        go_ret
        exact ⟨by simp [g1, g2] <;> omega, below3 _ _ _ _⟩
    · have e : winF imm 0 gl = false := decide_eq_false (fun h => g1 h.1)
      rw [e]
      go_enter Try.func51, Try.ntmps51
      go_wp2
      go_ret
      exact ⟨by simp [g1] <;> omega, below3 _ _ _ _⟩
  rw [if_neg e4]
  by_cases e5 : op = 5
  · subst e5
    rw [if_pos rfl]
    by_cases g1 : 0 ≤ imm
    · by_cases g2 : imm ≤ sl
      · have e : winF imm 0 sl = true := decide_eq_true ⟨g1, g2⟩
        rw [e]
        go_enter Try.func51, Try.ntmps51
        go_wp2
        go_ret
        exact ⟨by simp [g1, g2], below3 _ _ _ _⟩
      · have e : winF imm 0 sl = false := decide_eq_false (fun h => g2 h.2)
        rw [e]
        go_enter Try.func51, Try.ntmps51
        go_wp2
        go_ret
        exact ⟨by simp [g1, g2] <;> omega, below3 _ _ _ _⟩
    · have e : winF imm 0 sl = false := decide_eq_false (fun h => g1 h.1)
      rw [e]
      go_enter Try.func51, Try.ntmps51
      go_wp2
      go_ret
      exact ⟨by simp [g1] <;> omega, below3 _ _ _ _⟩
  rw [if_neg e5]
  by_cases e8 : op = 8
  · subst e8
    rw [if_pos rfl]
    have e : winF imm 1 2 = (imm == 1 || imm == 2) := by
      unfold winF
      by_cases g1 : imm = 1
      · subst g1; rfl
      · by_cases g2 : imm = 2
        · subst g2; rfl
        · rw [decide_eq_false (by omega)]; simp [g1, g2]
    rw [e]
    by_cases g1 : imm = 1
    · subst g1
      go_enter Try.func51, Try.ntmps51
      go_wp2
      go_ret
      exact ⟨by simp, below3 _ _ _ _⟩
    · have d1 : (imm == 1) = false := by simp [g1]
      go_enter Try.func51, Try.ntmps51
      go_wp2
      go_ret
      exact ⟨by simp [g1], below3 _ _ _ _⟩
  rw [if_neg e8]
  by_cases e9 : op = 9
  · subst e9
    rw [if_pos rfl]
    have hB := fun t : After (((w.alloc (.cells #[.slice fo funcs.length fc, .int .i64 gl, .slice dd data.length dc, .int .i64 main] 25)).alloc (.cells #[.string nm, .int .i64 ps, .int .i64 rs, .int .i64 sl, .slice bo bl.length bc] 33)).alloc (.cells #[.int .i64 9, .int .i64 dst, .slice ao args.length ac, .int .i32 imm, .int .i64 alu, .int .i64 wide, .slice qo pred.length qc] 47)) => box3 t.2
    have y0 := fun t => (hB t).2.1.1
    have y2 := fun t => (hB t).2.2.2.2.2.1
    have y3 := fun t => (hB t).2.2.2.2.2.2.1
    have hne := after_some (((w.alloc (.cells #[.slice fo funcs.length fc, .int .i64 gl, .slice dd data.length dc, .int .i64 main] 25)).alloc (.cells #[.string nm, .int .i64 ps, .int .i64 rs, .int .i64 sl, .slice bo bl.length bc] 33)).alloc (.cells #[.int .i64 9, .int .i64 dst, .slice ao args.length ac, .int .i32 imm, .int .i64 alu, .int .i64 wide, .slice qo pred.length qc] 47))
    by_cases g1 : 0 ≤ imm
    · have d1 : decide (0 ≤ imm) = true := decide_eq_true g1
      obtain ⟨k, rfl⟩ : ∃ k : Nat, imm = k := ⟨imm.toNat, by omega⟩
      by_cases g2 : k < funcs.length
      · have e : winF (k : Int) 0 ((funcs.length : Nat) - 1) = true := decide_eq_true (by omega)
        obtain ⟨b, o, rfl, hb1, hc1, hxx⟩ := HF.out k g2
        have yp : ∀ t, _ := fun t => (fn_cells (hxx _ (hB t).1.2)).2.1
        rw [e, Int.toNat_natCast, List.getElem?_eq_getElem g2]
        simp only [Option.map_some, Option.getD_some, Bool.true_and]
        clear hxx hB e
        have d2 : decide ((k : Int) < (funcs.length : Nat)) = true := decide_eq_true (by omega)
        generalize funcs[k] = fk at *
        go_enter Try.func51, Try.ntmps51
        go_wp2
        refine region_after 25 mixed (by kernel_rfl) ?_
        simp only [List.take_succ_cons, List.take_zero, List.drop_succ_cons, List.drop_zero]
        repeat (first | go_big_quiet_step (fail) | quiet_step (fail))
        refine wpQuiet_nil ?_
        intro w6 hb6
        clear y0 y2 y3 yp
        go_wp2
        go_ret
        refine ⟨?_, below_on (below3 _ _ _ _) hb6 (by simp; omega)⟩
        by_cases hh : (args.length : Int) = fk.params <;> simp [hh]
      · have e : winF (k : Int) 0 ((funcs.length : Nat) - 1) = false := decide_eq_false (by omega)
        rw [e]
        have d2 : decide ((k : Int) < (funcs.length : Nat)) = false := decide_eq_false (by omega)
        clear hB e
        go_enter Try.func51, Try.ntmps51
        go_wp2
        refine region_after 25 mixed (by kernel_rfl) ?_
        simp only [List.take_succ_cons, List.take_zero, List.drop_succ_cons, List.drop_zero]
        repeat (first | go_big_quiet_step (fail) | quiet_step (fail))
        refine wpQuiet_nil ?_
        intro w6 hb6
        clear y0 y2 y3
        go_wp2
        go_ret
        exact ⟨by simp, below_on (below3 _ _ _ _) hb6 (by simp; omega)⟩
    · have e : winF imm 0 ((funcs.length : Nat) - 1) = false := decide_eq_false (fun h => g1 h.1)
      rw [e]
      have d1 : decide (0 ≤ imm) = false := decide_eq_false g1
      clear hB e
      go_enter Try.func51, Try.ntmps51
      go_wp2
      refine region_after 25 mixed (by kernel_rfl) ?_
      simp only [List.take_succ_cons, List.take_zero, List.drop_succ_cons, List.drop_zero]
      repeat (first | go_big_quiet_step (fail) | quiet_step (fail))
      refine wpQuiet_nil ?_
      intro w6 hb6
      clear y0 y2 y3
      go_wp2
      go_ret
      exact ⟨by simp, below_on (below3 _ _ _ _) hb6 (by simp; omega)⟩
  rw [if_neg e9]
  go_enter Try.func51, Try.ntmps51
  go_wp2
  go_ret
  refine ⟨?_, below3 _ _ _ _⟩
  by_cases hh : imm = 0 <;> simp [hh]
end Go.Proofs.Ythnbnilammjceaa
