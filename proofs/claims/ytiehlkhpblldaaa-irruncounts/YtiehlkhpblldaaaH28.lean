/- Whether an instruction fits. -/
import Derived.Test.YtiehlkhpblldaaaH27
set_option linter.unusedVariables false
set_option linter.unusedSimpArgs false
set_option maxRecDepth 20000
set_option maxHeartbeats 8000000
namespace Go.Proofs.Ytiehlkhpblldaaa
open Go.RowKit Go.Maps

def fitS (regs : Int) (s : Sh) (x : In) : Bool :=
  decide (s.dst ≠ 0) && (dstF regs x.dst s.dst && (decide ((x.args.length : Int) = s.args) && (allF x.args regs && (winF x.imm s.low s.high && (aluF x.alu s.alu && (wideF x.wide s.wide && eqL x.pred s.pred))))))
def fitF (p : Pg) (regs slots : Int) (preds : List Int) (x : In) : Bool := fitS regs (shF p slots preds x.op x.imm) x
theorem sh_low (p : Pg) (slots : Int) (preds : List Int) (op imm : Int) : (shF p slots preds op imm).pred.length = 0 ∨ (shF p slots preds op imm).pred = preds := by
  unfold shF
  by_cases e1 : op = 1
  · rw [if_pos e1]; exact .inl rfl
  rw [if_neg e1]
  by_cases e2 : op = 2
  · rw [if_pos e2]; exact .inl rfl
  rw [if_neg e2]
  by_cases e3 : op = 3
  · rw [if_pos e3]; exact .inl rfl
  rw [if_neg e3]
  by_cases e4 : op = 4
  · rw [if_pos e4]; exact .inl rfl
  rw [if_neg e4]
  by_cases e5 : op = 5
  · rw [if_pos e5]; exact .inl rfl
  rw [if_neg e5]
  by_cases e6 : op = 6
  · rw [if_pos e6]; exact .inl rfl
  rw [if_neg e6]
  by_cases e7 : op = 7
  · rw [if_pos e7]; exact .inl rfl
  rw [if_neg e7]
  by_cases e8 : op = 8
  · rw [if_pos e8]; exact .inl rfl
  rw [if_neg e8]
  by_cases e9 : op = 9
  · rw [if_pos e9]; unfold shC; split <;> exact .inl rfl
  rw [if_neg e9]
  by_cases e10 : op = 10
  · rw [if_pos e10]; exact .inl rfl
  rw [if_neg e10]
  by_cases e11 : op = 11
  · rw [if_pos e11]; exact .inl rfl
  rw [if_neg e11]
  by_cases e12 : op = 12
  · rw [if_pos e12]; exact .inr rfl
  rw [if_neg e12]
  exact .inl rfl

theorem xbox {w W : World} {v0 v1 v2 v3 v4 v5 v6 : Value} {T : TypeId} (hb : Below (w.alloc (.cells #[v0, v1, v2, v3, v4, v5, v6] T)).heap.size (w.alloc (.cells #[v0, v1, v2, v3, v4, v5, v6] T)) W) :
    Below w.heap.size w W ∧ W.cell? ⟨w.heap.size, 0, none⟩ = some v0 ∧ W.cell? ⟨w.heap.size, 1, none⟩ = some v1 ∧ W.cell? ⟨w.heap.size, 2, none⟩ = some v2 ∧ W.cell? ⟨w.heap.size, 3, none⟩ = some v3 ∧ W.cell? ⟨w.heap.size, 4, none⟩ = some v4 ∧ W.cell? ⟨w.heap.size, 5, none⟩ = some v5 ∧ W.cell? ⟨w.heap.size, 6, none⟩ = some v6 := by
  refine ⟨(below1 _ _).trans (hb.mono (by simp)), ?_, ?_, ?_, ?_, ?_, ?_, ?_⟩ <;> (rw [hb.cell (by simp)]; simp [go_sem])

set_option maxHeartbeats 16000000 in
theorem fits48 {w : World} {P : Nat} {p : Pg} {regs slots : Int} {pv : Value} {preds : List Int} {x : In} (h : IsPl w P p regs slots pv) (hp : Pg.ok w p) (hpr : Src icell w pv preds) (hpl : preds.length * 8 ≤ big) (hx : In.ok w x) (h0 : 0 ≤ regs) (h1 : regs ≤ 65536) :
    Calls Try.prog 64 #[.pointer (some ⟨P, 0, none⟩), x.val] w fun e w' => e = .returned (.bool (fitF p regs slots preds x)) ∧ Below w.heap.size w w' := by
  have H56 : Hid (∀ W, Below w.heap.size w W → Calls Try.prog 78 #[.pointer (some ⟨P, 0, none⟩), x.val] W (ShR (shF p slots preds x.op x.imm) W)) := fun W hW => shapeOf56 (h.on hW) (hp.on hW) (hpr.on hW) (hx.on hW)
  have HPL := hid' h
  have HX := hid' hx
  have hsp : (shF p slots preds x.op x.imm).pred.length * 8 ≤ big := by
    rcases sh_low p slots preds x.op x.imm with e | e
    · rw [e]; unfold big; omega
    · rw [e]; exact hpl
  have HSP := hid' hsp
  unfold fitF fitS
  generalize shF p slots preds x.op x.imm = S at *
  obtain ⟨s0, s1, s2, s3, s4, s5, sp⟩ := S
  obtain ⟨op, dst, av, args, imm, alu, wide, xv, pred⟩ := x
  have ha := hx.a
  have hq := hx.p
  have hal := hx.al
  obtain ⟨hi1, hi2⟩ := hx.hi
  dsimp only at *
  obtain ⟨ao, ac, rfl⟩ := ha.len
  obtain ⟨qo, qc, rfl⟩ := hq.len
  unfold big at hal
  clear h hx ha hq hp hpr hpl hsp
  unfold In.val at *
  dsimp only at *
  have hwi : IntKind.i64.wrap imm = imm := by simp [IntKind.wrap, IntKind.bits, IntKind.signed]; omega
  generalize hr2 : dstF regs dst s0 = r2
  have Hr2 := hid' hr2
  clear hr2
  generalize hr4 : allF args regs = r4
  have Hr4 := hid' hr4
  clear hr4
  generalize hr5 : winF imm s2 s3 = r5
  have Hr5 := hid' hr5
  clear hr5
  generalize hr6 : aluF alu s4 = r6
  have Hr6 := hid' hr6
  clear hr6
  generalize hr7 : wideF wide s5 = r7
  have Hr7 := hid' hr7
  clear hr7
  generalize hr8 : eqL pred sp = r8
  have Hr8 := hid' hr8
  clear hr8
  go_enter Try.func64, Try.ntmps64
  go_wp2_with (go_at_call 78; refine (H56.out _ (below1 _ _)).mono ?_; rintro e1 w1 ⟨v, rfl, hv, hb1⟩; obtain ⟨vo, vc, rfl⟩ := hv.len; unfold Sh.valOf)
  have HV := hid' hv
  obtain ⟨hB1, x0, x1, x2, x3, x4, x5, x6⟩ := xbox hb1
  have HB1 := hid' hB1
  clear hv hb1 hB1
  obtain ⟨w2, ew2⟩ : ∃ w2, w2 = w1.alloc (.cells #[.int .i64 s0, .int .i64 s1, .int .i64 s2, .int .i64 s3, .bool s4, .bool s5, .slice vo sp.length vc] 140) := ⟨_, rfl⟩
  rw [← ew2]
  have h12 : Below w1.heap.size w1 w2 := by rw [ew2]; exact below1 _ _
  have hx2 := fun t : After w2 => xbox (w := w1) (by rw [← ew2]; exact t.2)
  have hx1 := fun t : After w2 => (h12.trans (t.2.mono h12.size))
  have y0 : ∀ t : After w2, t.1.cell? ⟨w1.heap.size, 0, none⟩ = some (.int .i64 s0) := fun t => (hx2 t).2.1
  have y1 : ∀ t : After w2, t.1.cell? ⟨w1.heap.size, 1, none⟩ = some (.int .i64 s1) := fun t => (hx2 t).2.2.1
  have y2 : ∀ t : After w2, t.1.cell? ⟨w1.heap.size, 2, none⟩ = some (.int .i64 s2) := fun t => (hx2 t).2.2.2.1
  have y3 : ∀ t : After w2, t.1.cell? ⟨w1.heap.size, 3, none⟩ = some (.int .i64 s3) := fun t => (hx2 t).2.2.2.2.1
  have y4 : ∀ t : After w2, t.1.cell? ⟨w1.heap.size, 4, none⟩ = some (.bool s4) := fun t => (hx2 t).2.2.2.2.2.1
  have y5 : ∀ t : After w2, t.1.cell? ⟨w1.heap.size, 5, none⟩ = some (.bool s5) := fun t => (hx2 t).2.2.2.2.2.2.1
  have y6 : ∀ t : After w2, t.1.cell? ⟨w1.heap.size, 6, none⟩ = some (.slice vo sp.length vc) := fun t => (hx2 t).2.2.2.2.2.2.2
  have z1 : ∀ t : After w2, t.1.cell? ⟨w.heap.size, 1, none⟩ = some (.int .i64 dst) := fun t => keep_cell x1 (hx1 t)
  have z2 : ∀ t : After w2, t.1.cell? ⟨w.heap.size, 2, none⟩ = some (.slice ao args.length ac) := fun t => keep_cell x2 (hx1 t)
  have z3 : ∀ t : After w2, t.1.cell? ⟨w.heap.size, 3, none⟩ = some (.int .i32 imm) := fun t => keep_cell x3 (hx1 t)
  have z4 : ∀ t : After w2, t.1.cell? ⟨w.heap.size, 4, none⟩ = some (.int .i64 alu) := fun t => keep_cell x4 (hx1 t)
  have z5 : ∀ t : After w2, t.1.cell? ⟨w.heap.size, 5, none⟩ = some (.int .i64 wide) := fun t => keep_cell x5 (hx1 t)
  have z6 : ∀ t : After w2, t.1.cell? ⟨w.heap.size, 6, none⟩ = some (.slice qo pred.length qc) := fun t => keep_cell x6 (hx1 t)
  have hxw := fun t : After w2 => below_up HB1.out (hx1 t)
  have p6 : ∀ t : After w2, t.1.cell? ⟨P, 6, none⟩ = some (.int .i64 regs) := fun t => (HPL.out.on (hxw t)).c6
  have K57 : ∀ t : After w2, _ := fun t => Calls.after t ((dstFits57 (HPL.out.on (hxw t)) h0 h1 dst s0).mono fun _ w' h => ⟨h.1, by rw [h.2]; exact Below.refl _ _⟩)
  have K55 : ∀ t : After w2, _ := fun t => Calls.after t ((allWithin55 (HX.out.a.on (hxw t)) HX.out.al regs h0 (by omega)).mono fun _ w' h => ⟨h.1, by rw [h.2]; exact Below.refl _ _⟩)
  have K44 : ∀ t : After w2, _ := fun t => Calls.after t ((within44 imm s2 s3 t.1).mono fun _ w' h => ⟨h.1, by rw [h.2]; exact Below.refl _ _⟩)
  have K58 : ∀ t : After w2, _ := fun t => Calls.after t ((aluFits58 alu s4 t.1).mono fun _ w' h => ⟨h.1, by rw [h.2]; exact Below.refl _ _⟩)
  have K59 : ∀ t : After w2, _ := fun t => Calls.after t ((wideFits59 wide s5 t.1).mono fun _ w' h => ⟨h.1, by rw [h.2]; exact Below.refl _ _⟩)
  have K52 : ∀ t : After w2, _ := fun t => Calls.after t (equal52 (HX.out.p.on (hxw t)) (HV.out.on (hx1 t)) HX.out.pl HSP.out)
  dsimp only at K55 K52
  have HB2 : Hid (Below w.heap.size w w2) := below_up HB1.out h12
  have hne := after_some w2
  clear hx1 hx2 hxw ew2 h12 HX HPL HV x0 x1 x2 x3 x4 x5 x6 H56 HSP
  simp only [Hr2.out] at K57
  simp only [Hr4.out] at K55
  simp only [Hr5.out] at K44
  simp only [Hr6.out] at K58
  simp only [Hr7.out] at K59
  simp only [Hr8.out] at K52
  by_cases g1 : s0 = 0
  · have dg1 : (s0 == 0) = true := by simp [g1]
    refine region_after 60 mixed (by kernel_rfl) ?_
    simp only [List.take_succ_cons, List.take_zero, List.drop_succ_cons, List.drop_zero]
    repeat (first | go_big_quiet_step (first | with_reducible exact K57 _ | with_reducible exact K55 _ | with_reducible exact K44 _ | with_reducible exact K58 _ | with_reducible exact K59 _ | with_reducible exact K52 _) | quiet_step (first | with_reducible exact K57 _ | with_reducible exact K55 _ | with_reducible exact K44 _ | with_reducible exact K58 _ | with_reducible exact K59 _ | with_reducible exact K52 _))
    refine wpQuiet_nil ?_
    intro w6 hb6
    clear K57 K55 K44 K58 K59 K52 y0 y1 y2 y3 y4 y5 y6 z1 z2 z3 z4 z5 z6 p6
    go_wp2
    go_ret
    exact ⟨by simp_all, below_on HB2.out hb6 HB2.out.size⟩
  · have dg1 : (s0 == 0) = false := by simpa using g1
    cases r2
    · refine region_after 60 mixed (by kernel_rfl) ?_
      simp only [List.take_succ_cons, List.take_zero, List.drop_succ_cons, List.drop_zero]
      repeat (first | go_big_quiet_step (first | with_reducible exact K57 _ | with_reducible exact K55 _ | with_reducible exact K44 _ | with_reducible exact K58 _ | with_reducible exact K59 _ | with_reducible exact K52 _) | quiet_step (first | with_reducible exact K57 _ | with_reducible exact K55 _ | with_reducible exact K44 _ | with_reducible exact K58 _ | with_reducible exact K59 _ | with_reducible exact K52 _))
      refine wpQuiet_nil ?_
      intro w6 hb6
      clear K57 K55 K44 K58 K59 K52 y0 y1 y2 y3 y4 y5 y6 z1 z2 z3 z4 z5 z6 p6
      go_wp2
      go_ret
      exact ⟨by simp_all, below_on HB2.out hb6 HB2.out.size⟩
    · by_cases g3 : ¬ (args.length : Int) = s1
      · have dg3 : ((args.length : Int) == s1) = false := by simp [g3]
        refine region_after 60 mixed (by kernel_rfl) ?_
        simp only [List.take_succ_cons, List.take_zero, List.drop_succ_cons, List.drop_zero]
        repeat (first | go_big_quiet_step (first | with_reducible exact K57 _ | with_reducible exact K55 _ | with_reducible exact K44 _ | with_reducible exact K58 _ | with_reducible exact K59 _ | with_reducible exact K52 _) | quiet_step (first | with_reducible exact K57 _ | with_reducible exact K55 _ | with_reducible exact K44 _ | with_reducible exact K58 _ | with_reducible exact K59 _ | with_reducible exact K52 _))
        refine wpQuiet_nil ?_
        intro w6 hb6
        clear K57 K55 K44 K58 K59 K52 y0 y1 y2 y3 y4 y5 y6 z1 z2 z3 z4 z5 z6 p6
        go_wp2
        go_ret
        exact ⟨by simp_all, below_on HB2.out hb6 HB2.out.size⟩
      · have dg3 : ((args.length : Int) == s1) = true := by simpa using g3
        cases r4
        · refine region_after 60 mixed (by kernel_rfl) ?_
          simp only [List.take_succ_cons, List.take_zero, List.drop_succ_cons, List.drop_zero]
          repeat (first | go_big_quiet_step (first | with_reducible exact K57 _ | with_reducible exact K55 _ | with_reducible exact K44 _ | with_reducible exact K58 _ | with_reducible exact K59 _ | with_reducible exact K52 _) | quiet_step (first | with_reducible exact K57 _ | with_reducible exact K55 _ | with_reducible exact K44 _ | with_reducible exact K58 _ | with_reducible exact K59 _ | with_reducible exact K52 _))
          refine wpQuiet_nil ?_
          intro w6 hb6
          clear K57 K55 K44 K58 K59 K52 y0 y1 y2 y3 y4 y5 y6 z1 z2 z3 z4 z5 z6 p6
          go_wp2
          go_ret
          exact ⟨by simp_all, below_on HB2.out hb6 HB2.out.size⟩
        · cases r5
          · refine region_after 60 mixed (by kernel_rfl) ?_
            simp only [List.take_succ_cons, List.take_zero, List.drop_succ_cons, List.drop_zero]
            repeat (first | go_big_quiet_step (first | with_reducible exact K57 _ | with_reducible exact K55 _ | with_reducible exact K44 _ | with_reducible exact K58 _ | with_reducible exact K59 _ | with_reducible exact K52 _) | quiet_step (first | with_reducible exact K57 _ | with_reducible exact K55 _ | with_reducible exact K44 _ | with_reducible exact K58 _ | with_reducible exact K59 _ | with_reducible exact K52 _))
            refine wpQuiet_nil ?_
            intro w6 hb6
            clear K57 K55 K44 K58 K59 K52 y0 y1 y2 y3 y4 y5 y6 z1 z2 z3 z4 z5 z6 p6
            go_wp2
            go_ret
            exact ⟨by simp_all, below_on HB2.out hb6 HB2.out.size⟩
          · cases r6
            · refine region_after 60 mixed (by kernel_rfl) ?_
              simp only [List.take_succ_cons, List.take_zero, List.drop_succ_cons, List.drop_zero]
              repeat (first | go_big_quiet_step (first | with_reducible exact K57 _ | with_reducible exact K55 _ | with_reducible exact K44 _ | with_reducible exact K58 _ | with_reducible exact K59 _ | with_reducible exact K52 _) | quiet_step (first | with_reducible exact K57 _ | with_reducible exact K55 _ | with_reducible exact K44 _ | with_reducible exact K58 _ | with_reducible exact K59 _ | with_reducible exact K52 _))
              refine wpQuiet_nil ?_
              intro w6 hb6
              clear K57 K55 K44 K58 K59 K52 y0 y1 y2 y3 y4 y5 y6 z1 z2 z3 z4 z5 z6 p6
              go_wp2
              go_ret
              exact ⟨by simp_all, below_on HB2.out hb6 HB2.out.size⟩
            · cases r7
              · refine region_after 60 mixed (by kernel_rfl) ?_
                simp only [List.take_succ_cons, List.take_zero, List.drop_succ_cons, List.drop_zero]
                repeat (first | go_big_quiet_step (first | with_reducible exact K57 _ | with_reducible exact K55 _ | with_reducible exact K44 _ | with_reducible exact K58 _ | with_reducible exact K59 _ | with_reducible exact K52 _) | quiet_step (first | with_reducible exact K57 _ | with_reducible exact K55 _ | with_reducible exact K44 _ | with_reducible exact K58 _ | with_reducible exact K59 _ | with_reducible exact K52 _))
                refine wpQuiet_nil ?_
                intro w6 hb6
                clear K57 K55 K44 K58 K59 K52 y0 y1 y2 y3 y4 y5 y6 z1 z2 z3 z4 z5 z6 p6
                go_wp2
                go_ret
                exact ⟨by simp_all, below_on HB2.out hb6 HB2.out.size⟩
              · refine region_after 60 mixed (by kernel_rfl) ?_
                simp only [List.take_succ_cons, List.take_zero, List.drop_succ_cons, List.drop_zero]
                repeat (first | go_big_quiet_step (first | with_reducible exact K57 _ | with_reducible exact K55 _ | with_reducible exact K44 _ | with_reducible exact K58 _ | with_reducible exact K59 _ | with_reducible exact K52 _) | quiet_step (first | with_reducible exact K57 _ | with_reducible exact K55 _ | with_reducible exact K44 _ | with_reducible exact K58 _ | with_reducible exact K59 _ | with_reducible exact K52 _))
                refine wpQuiet_nil ?_
                intro w6 hb6
                clear K57 K55 K44 K58 K59 K52 y0 y1 y2 y3 y4 y5 y6 z1 z2 z3 z4 z5 z6 p6
                go_wp2
                go_ret
                exact ⟨by simp_all, below_on HB2.out hb6 HB2.out.size⟩
end Go.Proofs.Ytiehlkhpblldaaa
