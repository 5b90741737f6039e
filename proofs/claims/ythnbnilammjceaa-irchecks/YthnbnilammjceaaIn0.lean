/- The document's Instr. -/
import Derived.Test.YthnbnilammjceaaIns
namespace Go.Proofs.Ythnbnilammjceaa
open Go.RowKit Go.Maps
set_option linter.unusedVariables false
set_option linter.unusedSimpArgs false

/-- What is asked behind Args' number and Dst; three: an OpAlu; wid: an OpLoad, OpStore; phi: an OpPhi. -/
def resD (p : Pg) (f : Fn) (x : In) (three wid phi : Bool) : Bool := allF x.args f.regs && (aluF x.alu three && (wideF x.wide wid && ((phi || decide (x.pred.length = 0)) && immD p f.slots x)))
theorem all_step {args : List Int} {regs : Int} {k : Nat} (h : ∀ j (hj : j < args.length), j < k → 0 ≤ args[j] ∧ args[j] < regs) (hk : k < args.length) (hr : 0 ≤ args[k] ∧ args[k] < regs) : ∀ j (hj : j < args.length), j < k + 1 → 0 ≤ args[j] ∧ args[j] < regs := fun j hj hjk => by
  by_cases e : j = k
  · subst e; exact hr
  · exact h j hj (by omega)

set_option maxRecDepth 20000 in
set_option maxHeartbeats 16000000 in
theorem insA {w : World} {p : Pg} {nm : ByteArray} {ps rs sl : Int} {bv : Value} {bl : List Bl} {op dst imm alu wide : Int} {av xv : Value} {args pred : List Int} (hp : Pg.ok w p) (hf : Src Bl.cells w bv bl) (hx : In.ok w ⟨7, (-1), av, args, imm, alu, wide, xv, pred⟩)
    (h49 : ∀ W, Calls Try.prog 49 #[.int .i64 7] W fun e w' => e = .returned (.tuple #[.int .i64 ((args.length : Nat) : Int), .int .i64 (-1), .bool true]) ∧ w' = W) :
    Calls Try.prog 30 #[p.val, (Fn.mk nm ps rs sl bv bl).val, (In.mk 7 (-1) av args imm alu wide xv pred).val] w fun e w' => e = .returned (.bool (resD p ⟨nm, ps, rs, sl, bv, bl⟩ ⟨7, (-1), av, args, imm, alu, wide, xv, pred⟩ false true false)) ∧ Below w.heap.size w w' := by
  have H51 : Hid (∀ W, Below w.heap.size w W → Calls Try.prog 51 #[p.val, (Fn.mk nm ps rs sl bv bl).val, (In.mk 7 (-1) av args imm alu wide xv pred).val] W fun e w' => e = .returned (.bool (immD p sl ⟨7, (-1), av, args, imm, alu, wide, xv, pred⟩)) ∧ Below W.heap.size W w') := fun W hW => imm51 (f := ⟨nm, ps, rs, sl, bv, bl⟩) (hp.on hW) (hf.on hW) (hx.on hW)
  have h50 := fun n W => register50 ⟨nm, ps, rs, sl, bv, bl⟩ n W
  generalize hR : resD p ⟨nm, ps, rs, sl, bv, bl⟩ ⟨7, (-1), av, args, imm, alu, wide, xv, pred⟩ false true false = R
  unfold resD at hR
  dsimp only at hR
  generalize immD p sl ⟨7, (-1), av, args, imm, alu, wide, xv, pred⟩ = qi at *
  have HR := hid' hR.symm
  clear hR
  obtain ⟨fv, funcs, gl, dv, data, main⟩ := p
  obtain ⟨ha, hal, hq, hql, hi1, hi2⟩ := hx
  obtain ⟨fo, fc, ef⟩ := hp.f.len
  obtain ⟨dd, dc, ed⟩ := hp.d.len
  dsimp only at *
  obtain ⟨ao, ac, rfl, hai⟩ := ha.ints
  obtain ⟨qo, qc, rfl⟩ := hq.len
  obtain ⟨bo, bc, rfl⟩ := hf.len
  subst ef ed
  have HA := hid' hai
  unfold big at hal hql
  clear ha hq hf hp hai
  unfold In.val Fn.val Pg.val at *
  dsimp only at *
  go_enter Try.func30, Try.ntmps30
  go_wp2_with (first
    | (go_at_call 49; refine (h49 _).mono ?_; rintro e1 w1 ⟨rfl, rfl⟩))
  go_loopw [10] (fun i wr => ∃ k : Nat, k ≤ args.length ∧ i = .int .i64 k ∧ (∀ j (hj : j < args.length), j < k → 0 ≤ args[j] ∧ args[j] < rs) ∧ Below (((w.alloc (.cells #[.slice fo funcs.length fc, .int .i64 gl, .slice dd data.length dc, .int .i64 main] 25)).alloc (.cells #[.string nm, .int .i64 ps, .int .i64 rs, .int .i64 sl, .slice bo bl.length bc] 33)).alloc (.cells #[.int .i64 7, .int .i64 (-1), .slice ao args.length ac, .int .i32 imm, .int .i64 alu, .int .i64 wide, .slice qo pred.length qc] 47)).heap.size (((w.alloc (.cells #[.slice fo funcs.length fc, .int .i64 gl, .slice dd data.length dc, .int .i64 main] 25)).alloc (.cells #[.string nm, .int .i64 ps, .int .i64 rs, .int .i64 sl, .slice bo bl.length bc] 33)).alloc (.cells #[.int .i64 7, .int .i64 (-1), .slice ao args.length ac, .int .i32 imm, .int .i64 alu, .int .i64 wide, .slice qo pred.length qc] 47)) wr) (fun i _ => args.length - (intOf i).toNat)
  case atStart => exact ⟨0, Nat.zero_le _, rfl, fun j _ hj => by omega, Below.refl _ _⟩
  case round =>
    obtain ⟨k, hk, rfl, hok, hbw⟩ := hrel
    have HK := hid' hok
    have HB := hid' hbw
    obtain ⟨⟨hsz, hB0⟩, ⟨p0, p1, p2, p3⟩, ⟨f0, f1, f2, f3, f4⟩, ⟨x0, x1, x2, x3, x4, x5, x6⟩⟩ := box3 hbw
    have HB0 := hid' hB0
    clear hok hbw hB0
    by_cases hlt : k < args.length
    · obtain ⟨b, o, rfl, hb1, hc1, hcx⟩ := HA.out k hlt
      have yc : ∀ t : After wr, t.1.cell? ⟨b, o + k, none⟩ = some (.int .i64 args[k]) := fun t => hcx t.1 (below_up HB0.out t.2)
      have g0 : ∀ t : After wr, t.1.cell? ⟨w.heap.size + 1, 0, none⟩ = some (.string nm) := fun t => keep_cell f0 t.2
      have g1 : ∀ t : After wr, t.1.cell? ⟨w.heap.size + 1, 1, none⟩ = some (.int .i64 ps) := fun t => keep_cell f1 t.2
      have g2 : ∀ t : After wr, t.1.cell? ⟨w.heap.size + 1, 2, none⟩ = some (.int .i64 rs) := fun t => keep_cell f2 t.2
      have g3 : ∀ t : After wr, t.1.cell? ⟨w.heap.size + 1, 3, none⟩ = some (.int .i64 sl) := fun t => keep_cell f3 t.2
      have g4 : ∀ t : After wr, t.1.cell? ⟨w.heap.size + 1, 4, none⟩ = some (.slice bo bl.length bc) := fun t => keep_cell f4 t.2
      have g5 : ∀ t : After wr, t.1.cell? ⟨w.heap.size + 1 + 1, 2, none⟩ = some (.slice (some ⟨b, o, none⟩) args.length ac) := fun t => keep_cell x2 t.2
      have K50 : ∀ t : After wr, _ := fun t => Calls.after t (h50 args[k] t.1)
      have HNO : Hid (regB ⟨nm, ps, rs, sl, .slice bo bl.length bc, bl⟩ args[k] = false → R = false) := fun hq => by
        rw [HR.out, allF_no hlt (of_decide_eq_false hq)]
        rfl
      have HN : Hid (regB ⟨nm, ps, rs, sl, .slice bo bl.length bc, bl⟩ args[k] = true → ∀ j (hj : j < args.length), j < k + 1 → 0 ≤ args[j] ∧ args[j] < rs) := fun hq => all_step HK.out hlt (of_decide_eq_true hq)
      have hne := after_some wr
      clear hcx
      generalize regB ⟨nm, ps, rs, sl, .slice bo bl.length bc, bl⟩ args[k] = q at *
      generalize args[k] = ak at *
      go_wp2_with fail
      refine region_after 7 mixed (by kernel_rfl) ?_
      simp only [List.take_succ_cons, List.take_zero, List.drop_succ_cons, List.drop_zero]
      repeat (first | go_big_quiet_step (with_reducible exact K50 _) | quiet_step (with_reducible exact K50 _))
      refine wpQuiet_nil ?_
      intro w6 hb6
      have HB6 := hid' hb6
      clear K50 yc g0 g1 g2 g3 g4 g5 hb6 h50 h49
      cases q
      · go_wp2_with fail
        go_ret
        exact ⟨by rw [HNO.out (by trivial)]; rfl, below_up HB0.out HB6.out⟩
      · go_wp2_with fail
        go_roundw
        case rel => exact ⟨k + 1, by omega, by go_num, HN.out (by trivial), below_on HB.out HB6.out HB.out.size⟩
        case measure => simp [intOf]; omega
    · have e : k = args.length := by omega
      subst e
      rw [allF_yes (fun j hj => HK.out j hj hj), Bool.true_and] at HR
      clear HK h50 h49
      by_cases a1 : ¬ alu = 0
      · have HF : Hid (R = false) := by unfold Hid; rw [HR.out]; simp [aluF, a1]
        go_wp2_with fail
        go_ret
        exact ⟨by rw [HF.out]; rfl, HB0.out⟩
      replace a1 := Classical.not_not.1 a1
      have h3 : aluF alu false = true := decide_eq_true a1
      rw [h3, Bool.true_and] at HR
      subst a1
      clear h3
      by_cases a3 : wide = 1
      · subst a3
        have hw3 : wideF 1 true = true := rfl
        rw [hw3, Bool.true_and] at HR
        clear hw3
        by_cases a4 : ¬ pred.length = 0
        · have a5 : ¬ (pred.length : Int) = 0 := by omega
          have a6 : (0 : Int) < pred.length := by omega
          have HF : Hid (R = false) := by unfold Hid; rw [HR.out]; simp [a4]
          go_wp2_with fail
          go_ret
          exact ⟨by rw [HF.out]; rfl, HB0.out⟩
        replace a4 := Classical.not_not.1 a4
        rw [decide_eq_true a4] at HR
        have a5 : ¬ (0 : Int) < pred.length := by omega
        clear a4
        simp only [Bool.false_or, Bool.true_and] at HR
        have hc := H51.out wr HB0.out
        rw [← HR.out] at hc
        clear H51
        go_wp2_with (go_at_call 51; refine hc.mono ?_; rintro e3 w3 ⟨rfl, hb3⟩)
        go_ret
        exact ⟨rfl, below_up HB0.out hb3⟩
      by_cases a7 : wide = 4
      · subst a7
        have hw3 : wideF 4 true = true := rfl
        rw [hw3, Bool.true_and] at HR
        clear hw3
        by_cases a4 : ¬ pred.length = 0
        · have a5 : ¬ (pred.length : Int) = 0 := by omega
          have a6 : (0 : Int) < pred.length := by omega
          have HF : Hid (R = false) := by unfold Hid; rw [HR.out]; simp [a4]
          go_wp2_with fail
          go_ret
          exact ⟨by rw [HF.out]; rfl, HB0.out⟩
        replace a4 := Classical.not_not.1 a4
        rw [decide_eq_true a4] at HR
        have a5 : ¬ (0 : Int) < pred.length := by omega
        clear a4
        simp only [Bool.false_or, Bool.true_and] at HR
        have hc := H51.out wr HB0.out
        rw [← HR.out] at hc
        clear H51
        go_wp2_with (go_at_call 51; refine hc.mono ?_; rintro e3 w3 ⟨rfl, hb3⟩)
        go_ret
        exact ⟨rfl, below_up HB0.out hb3⟩
      have HF : Hid (R = false) := by unfold Hid; rw [HR.out]; simp [wideF, a3, a7]
      go_wp2_with fail
      go_ret
      exact ⟨by rw [HF.out]; rfl, HB0.out⟩

set_option maxRecDepth 20000 in
set_option maxHeartbeats 16000000 in
theorem insB {w : World} {p : Pg} {nm : ByteArray} {ps rs sl : Int} {bv : Value} {bl : List Bl} {op dst imm alu wide : Int} {av xv : Value} {args pred : List Int} (hp : Pg.ok w p) (hf : Src Bl.cells w bv bl) (hx : In.ok w ⟨op, (-1), av, args, imm, alu, wide, xv, pred⟩) (n3 : ¬ op = 3) (n6 : ¬ op = 6) (n7 : ¬ op = 7) (n12 : ¬ op = 12)
    (h49 : ∀ W, Calls Try.prog 49 #[.int .i64 op] W fun e w' => e = .returned (.tuple #[.int .i64 ((args.length : Nat) : Int), .int .i64 (-1), .bool true]) ∧ w' = W) :
    Calls Try.prog 30 #[p.val, (Fn.mk nm ps rs sl bv bl).val, (In.mk op (-1) av args imm alu wide xv pred).val] w fun e w' => e = .returned (.bool (resD p ⟨nm, ps, rs, sl, bv, bl⟩ ⟨op, (-1), av, args, imm, alu, wide, xv, pred⟩ false false false)) ∧ Below w.heap.size w w' := by
  have H51 : Hid (∀ W, Below w.heap.size w W → Calls Try.prog 51 #[p.val, (Fn.mk nm ps rs sl bv bl).val, (In.mk op (-1) av args imm alu wide xv pred).val] W fun e w' => e = .returned (.bool (immD p sl ⟨op, (-1), av, args, imm, alu, wide, xv, pred⟩)) ∧ Below W.heap.size W w') := fun W hW => imm51 (f := ⟨nm, ps, rs, sl, bv, bl⟩) (hp.on hW) (hf.on hW) (hx.on hW)
  have h50 := fun n W => register50 ⟨nm, ps, rs, sl, bv, bl⟩ n W
  generalize hR : resD p ⟨nm, ps, rs, sl, bv, bl⟩ ⟨op, (-1), av, args, imm, alu, wide, xv, pred⟩ false false false = R
  unfold resD at hR
  dsimp only at hR
  generalize immD p sl ⟨op, (-1), av, args, imm, alu, wide, xv, pred⟩ = qi at *
  have HR := hid' hR.symm
  clear hR
  obtain ⟨fv, funcs, gl, dv, data, main⟩ := p
  obtain ⟨ha, hal, hq, hql, hi1, hi2⟩ := hx
  obtain ⟨fo, fc, ef⟩ := hp.f.len
  obtain ⟨dd, dc, ed⟩ := hp.d.len
  dsimp only at *
  obtain ⟨ao, ac, rfl, hai⟩ := ha.ints
  obtain ⟨qo, qc, rfl⟩ := hq.len
  obtain ⟨bo, bc, rfl⟩ := hf.len
  subst ef ed
  have HA := hid' hai
  unfold big at hal hql
  clear ha hq hf hp hai
  unfold In.val Fn.val Pg.val at *
  dsimp only at *
  have m3 : (op == 3) = false := by simp [n3]
  have m6 : (op == 6) = false := by simp [n6]
  have m7 : (op == 7) = false := by simp [n7]
  have m12 : (op == 12) = false := by simp [n12]
  have o3 : (op != 3) = true := by simp [n3]
  have o12 : (op != 12) = true := by simp [n12]
  go_enter Try.func30, Try.ntmps30
  go_wp2_with (first
    | (go_at_call 49; refine (h49 _).mono ?_; rintro e1 w1 ⟨rfl, rfl⟩))
  go_loopw [10] (fun i wr => ∃ k : Nat, k ≤ args.length ∧ i = .int .i64 k ∧ (∀ j (hj : j < args.length), j < k → 0 ≤ args[j] ∧ args[j] < rs) ∧ Below (((w.alloc (.cells #[.slice fo funcs.length fc, .int .i64 gl, .slice dd data.length dc, .int .i64 main] 25)).alloc (.cells #[.string nm, .int .i64 ps, .int .i64 rs, .int .i64 sl, .slice bo bl.length bc] 33)).alloc (.cells #[.int .i64 op, .int .i64 (-1), .slice ao args.length ac, .int .i32 imm, .int .i64 alu, .int .i64 wide, .slice qo pred.length qc] 47)).heap.size (((w.alloc (.cells #[.slice fo funcs.length fc, .int .i64 gl, .slice dd data.length dc, .int .i64 main] 25)).alloc (.cells #[.string nm, .int .i64 ps, .int .i64 rs, .int .i64 sl, .slice bo bl.length bc] 33)).alloc (.cells #[.int .i64 op, .int .i64 (-1), .slice ao args.length ac, .int .i32 imm, .int .i64 alu, .int .i64 wide, .slice qo pred.length qc] 47)) wr) (fun i _ => args.length - (intOf i).toNat)
  case atStart => exact ⟨0, Nat.zero_le _, rfl, fun j _ hj => by omega, Below.refl _ _⟩
  case round =>
    obtain ⟨k, hk, rfl, hok, hbw⟩ := hrel
    have HK := hid' hok
    have HB := hid' hbw
    obtain ⟨⟨hsz, hB0⟩, ⟨p0, p1, p2, p3⟩, ⟨f0, f1, f2, f3, f4⟩, ⟨x0, x1, x2, x3, x4, x5, x6⟩⟩ := box3 hbw
    have HB0 := hid' hB0
    clear hok hbw hB0
    by_cases hlt : k < args.length
    · obtain ⟨b, o, rfl, hb1, hc1, hcx⟩ := HA.out k hlt
      have yc : ∀ t : After wr, t.1.cell? ⟨b, o + k, none⟩ = some (.int .i64 args[k]) := fun t => hcx t.1 (below_up HB0.out t.2)
      have g0 : ∀ t : After wr, t.1.cell? ⟨w.heap.size + 1, 0, none⟩ = some (.string nm) := fun t => keep_cell f0 t.2
      have g1 : ∀ t : After wr, t.1.cell? ⟨w.heap.size + 1, 1, none⟩ = some (.int .i64 ps) := fun t => keep_cell f1 t.2
      have g2 : ∀ t : After wr, t.1.cell? ⟨w.heap.size + 1, 2, none⟩ = some (.int .i64 rs) := fun t => keep_cell f2 t.2
      have g3 : ∀ t : After wr, t.1.cell? ⟨w.heap.size + 1, 3, none⟩ = some (.int .i64 sl) := fun t => keep_cell f3 t.2
      have g4 : ∀ t : After wr, t.1.cell? ⟨w.heap.size + 1, 4, none⟩ = some (.slice bo bl.length bc) := fun t => keep_cell f4 t.2
      have g5 : ∀ t : After wr, t.1.cell? ⟨w.heap.size + 1 + 1, 2, none⟩ = some (.slice (some ⟨b, o, none⟩) args.length ac) := fun t => keep_cell x2 t.2
      have K50 : ∀ t : After wr, _ := fun t => Calls.after t (h50 args[k] t.1)
      have HNO : Hid (regB ⟨nm, ps, rs, sl, .slice bo bl.length bc, bl⟩ args[k] = false → R = false) := fun hq => by
        rw [HR.out, allF_no hlt (of_decide_eq_false hq)]
        rfl
      have HN : Hid (regB ⟨nm, ps, rs, sl, .slice bo bl.length bc, bl⟩ args[k] = true → ∀ j (hj : j < args.length), j < k + 1 → 0 ≤ args[j] ∧ args[j] < rs) := fun hq => all_step HK.out hlt (of_decide_eq_true hq)
      have hne := after_some wr
      clear hcx
      generalize regB ⟨nm, ps, rs, sl, .slice bo bl.length bc, bl⟩ args[k] = q at *
      generalize args[k] = ak at *
      go_wp2_with fail
      refine region_after 7 mixed (by kernel_rfl) ?_
      simp only [List.take_succ_cons, List.take_zero, List.drop_succ_cons, List.drop_zero]
      repeat (first | go_big_quiet_step (with_reducible exact K50 _) | quiet_step (with_reducible exact K50 _))
      refine wpQuiet_nil ?_
      intro w6 hb6
      have HB6 := hid' hb6
      clear K50 yc g0 g1 g2 g3 g4 g5 hb6 h50 h49
      cases q
      · go_wp2_with fail
        go_ret
        exact ⟨by rw [HNO.out (by trivial)]; rfl, below_up HB0.out HB6.out⟩
      · go_wp2_with fail
        go_roundw
        case rel => exact ⟨k + 1, by omega, by go_num, HN.out (by trivial), below_on HB.out HB6.out HB.out.size⟩
        case measure => simp [intOf]; omega
    · have e : k = args.length := by omega
      subst e
      rw [allF_yes (fun j hj => HK.out j hj hj), Bool.true_and] at HR
      clear HK h50 h49
      by_cases a1 : ¬ alu = 0
      · have HF : Hid (R = false) := by unfold Hid; rw [HR.out]; simp [aluF, a1]
        go_wp2_with fail
        go_ret
        exact ⟨by rw [HF.out]; rfl, HB0.out⟩
      replace a1 := Classical.not_not.1 a1
      have h3 : aluF alu false = true := decide_eq_true a1
      rw [h3, Bool.true_and] at HR
      subst a1
      clear h3
      by_cases a3 : wide = 0
      · subst a3
        have hw3 : wideF 0 false = true := rfl
        rw [hw3, Bool.true_and] at HR
        clear hw3
        by_cases a4 : ¬ pred.length = 0
        · have a5 : ¬ (pred.length : Int) = 0 := by omega
          have a6 : (0 : Int) < pred.length := by omega
          have HF : Hid (R = false) := by unfold Hid; rw [HR.out]; simp [a4]
          go_wp2_with fail
          go_ret
          exact ⟨by rw [HF.out]; rfl, HB0.out⟩
        replace a4 := Classical.not_not.1 a4
        rw [decide_eq_true a4] at HR
        have a5 : ¬ (0 : Int) < pred.length := by omega
        clear a4
        simp only [Bool.false_or, Bool.true_and] at HR
        have hc := H51.out wr HB0.out
        rw [← HR.out] at hc
        clear H51
        go_wp2_with (go_at_call 51; refine hc.mono ?_; rintro e3 w3 ⟨rfl, hb3⟩)
        go_ret
        exact ⟨rfl, below_up HB0.out hb3⟩
      have HF : Hid (R = false) := by unfold Hid; rw [HR.out]; simp [wideF, a3]
      go_wp2_with fail
      go_ret
      exact ⟨by rw [HF.out]; rfl, HB0.out⟩
end Go.Proofs.Ythnbnilammjceaa
