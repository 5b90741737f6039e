/- The document's Program; the law IrChecks, over what the document's Func tells. -/
import Derived.Test.YthnbnilammjceaaLawE
namespace Go.Proofs.Ythnbnilammjceaa
open Go.RowKit Go.Maps
set_option linter.unusedVariables false
set_option linter.unusedSimpArgs false

def Told13 (p : Pg) (w : World) : Prop := ∀ W, Below w.heap.size w W → ∀ k (hk : k < p.funcs.length), Calls Try.prog 13 #[p.val, (p.funcs[k]).val] W fun e w' => e = .returned (.bool (fnF p p.funcs[k])) ∧ Below W.heap.size W w'
set_option maxRecDepth 40000 in
set_option maxHeartbeats 16000000 in
theorem prog10_of {w : World} {p : Pg} (hp : Pg.ok w p) (h13 : Told13 p w) :
    Calls Try.prog 10 #[p.val] w fun e w' => e = .returned (.bool (pgF p)) ∧ Below w.heap.size w w' := by
  have H13 : Hid (∀ W, Below w.heap.size w W → ∀ k (hk : k < p.funcs.length), Calls Try.prog 13 #[p.val, (p.funcs[k]).val] W fun e w' => e = .returned (.bool (fnF p p.funcs[k])) ∧ Below W.heap.size W w') := h13
  generalize hR : pgF p = R
  have MAY : Hid (R = (mayF p && p.funcs.all (fnF p))) := hR.symm
  have MAY2 : Hid (mayF p = (winF (p.funcs.length : Nat) 1 256 && (winF p.global 0 65536 && (datF p.global 0 p.data && (winF p.main 0 ((p.funcs.length : Nat) - 1) && decide (pms p = 0)))))) := rfl
  have NF : Hid (∀ k (hk : k < p.funcs.length), fnF p p.funcs[k] = false → R = false) := fun k hk h => by rw [MAY.out, all_no k hk h, Bool.and_false]
  have YF : Hid ((∀ k (hk : k < p.funcs.length), fnF p p.funcs[k] = true) → R = mayF p) := fun h => by rw [MAY.out, all_yes h, Bool.and_true]
  have HFN := hid' hp.fns
  have HDS := hid' hp.ds
  clear hR h13
  generalize fnF p = F at *
  have HPM : Hid (pms p = (p.funcs[p.main.toNat]?.map Fn.params).getD 0) := rfl
  generalize mayF p = my at *
  generalize pms p = pm at *
  obtain ⟨fv, funcs, gl, dv, data, main⟩ := p
  obtain ⟨fo, fc, ef, hff⟩ := hp.f.form fn5
  obtain ⟨dd, dc, ed, hdd⟩ := hp.d.form fi2
  have hfl := hp.fl
  have hdl := hp.dl
  dsimp only at *
  subst ef ed
  have HF := hid' hff
  have HD := hid' hdd
  unfold big at hfl hdl
  clear hp hff hdd
  unfold Pg.val at *
  dsimp only at *
  by_cases s1 : ¬ 1 ≤ funcs.length
  · have hwf : winF (funcs.length : Nat) 1 256 = false := decide_eq_false (by omega)
    have HF0 : Hid (R = false) := by unfold Hid; rw [MAY.out, MAY2.out, hwf]; simp
    have t1 : (funcs.length : Int) < 1 := by omega
    clear H13 NF YF MAY MAY2 hwf
    go_enter Try.func10, Try.ntmps10
    go_wp2
    go_ret
    exact ⟨by rw [HF0.out]; rfl, below1 _ _⟩
  replace s1 := Classical.not_not.1 s1
  have t1 : ¬ (funcs.length : Int) < 1 := by omega
  by_cases s2 : ¬ funcs.length ≤ 256
  · have hwf : winF (funcs.length : Nat) 1 256 = false := decide_eq_false (by omega)
    have HF0 : Hid (R = false) := by unfold Hid; rw [MAY.out, MAY2.out, hwf]; simp
    have t2 : (256 : Int) < funcs.length := by omega
    clear H13 NF YF MAY MAY2 hwf
    go_enter Try.func10, Try.ntmps10
    go_wp2
    go_ret
    exact ⟨by rw [HF0.out]; rfl, below1 _ _⟩
  replace s2 := Classical.not_not.1 s2
  have t2 : ¬ (256 : Int) < funcs.length := by omega
  by_cases s3 : ¬ 0 ≤ gl
  · have hwf : winF gl 0 65536 = false := decide_eq_false (by omega)
    have HF0 : Hid (R = false) := by unfold Hid; rw [MAY.out, MAY2.out, hwf]; simp
    clear H13 NF YF MAY MAY2 hwf
    go_enter Try.func10, Try.ntmps10
    go_wp2
    go_ret
    exact ⟨by rw [HF0.out]; rfl, below1 _ _⟩
  replace s3 := Classical.not_not.1 s3
  by_cases s4 : ¬ gl ≤ 65536
  · have hwf : winF gl 0 65536 = false := decide_eq_false (by omega)
    have HF0 : Hid (R = false) := by unfold Hid; rw [MAY.out, MAY2.out, hwf]; simp
    clear H13 NF YF MAY MAY2 hwf
    go_enter Try.func10, Try.ntmps10
    go_wp2
    go_ret
    exact ⟨by rw [HF0.out]; rfl, below1 _ _⟩
  replace s4 := Classical.not_not.1 s4
  by_cases s5 : ¬ 0 ≤ main
  · have hwf : winF main 0 ((funcs.length : Nat) - 1) = false := decide_eq_false (by omega)
    have HF0 : Hid (R = false) := by unfold Hid; rw [MAY.out, MAY2.out, hwf]; simp
    clear H13 NF YF MAY MAY2 hwf
    go_enter Try.func10, Try.ntmps10
    go_wp2
    go_ret
    exact ⟨by rw [HF0.out]; rfl, below1 _ _⟩
  replace s5 := Classical.not_not.1 s5
  by_cases s6 : ¬ main < funcs.length
  · have hwf : winF main 0 ((funcs.length : Nat) - 1) = false := decide_eq_false (by omega)
    have HF0 : Hid (R = false) := by unfold Hid; rw [MAY.out, MAY2.out, hwf]; simp
    clear H13 NF YF MAY MAY2 hwf
    go_enter Try.func10, Try.ntmps10
    go_wp2
    go_ret
    exact ⟨by rw [HF0.out]; rfl, below1 _ _⟩
  replace s6 := Classical.not_not.1 s6
  have HMY : Hid (my = (datF gl 0 data && decide (pm = 0))) := by
    have e1 : winF (funcs.length : Nat) 1 256 = true := decide_eq_true (by omega)
    have e2 : winF gl 0 65536 = true := decide_eq_true ⟨s3, s4⟩
    have e3 : winF main 0 ((funcs.length : Nat) - 1) = true := decide_eq_true (by omega)
    unfold Hid
    rw [MAY2.out, e1, e2, e3]
    rfl
  clear MAY MAY2
  go_enter Try.func10, Try.ntmps10
  go_wp2_with fail
  go_loopw [3] (fun i wr => ∃ k : Nat, k ≤ funcs.length ∧ i = .int .i64 k ∧ (∀ j (hj : j < funcs.length), j < k → F funcs[j] = true) ∧ Below (w.alloc (.cells #[.slice fo funcs.length fc, .int .i64 gl, .slice dd data.length dc, .int .i64 main] 25)).heap.size (w.alloc (.cells #[.slice fo funcs.length fc, .int .i64 gl, .slice dd data.length dc, .int .i64 main] 25)) wr) (fun i _ => funcs.length - (intOf i).toNat)
  case atStart => exact ⟨0, Nat.zero_le _, rfl, fun j _ hj => by omega, Below.refl _ _⟩
  case round =>
    obtain ⟨k, hk, rfl, hok, hbw⟩ := hrel
    have HK := hid' hok
    have HB := hid' hbw
    obtain ⟨hsz, hB0, p0, p1, p2, p3⟩ := pbox hbw
    have HB0 := hid' hB0
    clear hok hbw hB0
    by_cases hlt : k < funcs.length
    · obtain ⟨b, o, rfl, hb1, hc1, hx⟩ := HF.out k hlt
      have ho := HFN.out _ (List.getElem_mem hlt)
      obtain ⟨bo, bc, eb⟩ := ho.b.len
      have hfc := fun t : After wr => fn_cells (hx t.1 (below_up HB0.out t.2))
      have c0 := fun t => (hfc t).1
      have c1 := fun t => (hfc t).2.1
      have c2 := fun t => (hfc t).2.2.1
      have c3 := fun t => (hfc t).2.2.2.1
      have c4 : ∀ t : After wr, t.1.cell? ⟨b, o + k * 5 + 4, none⟩ = some (.slice bo funcs[k].blocks.length bc) := fun t => by rw [← eb]; exact (hfc t).2.2.2.2
      have y0 : ∀ t : After wr, t.1.cell? ⟨w.heap.size, 0, none⟩ = some (.slice (some ⟨b, o, none⟩) funcs.length fc) := fun t => keep_cell p0 t.2
      have y1 : ∀ t : After wr, t.1.cell? ⟨w.heap.size, 1, none⟩ = some (.int .i64 gl) := fun t => keep_cell p1 t.2
      have y2 : ∀ t : After wr, t.1.cell? ⟨w.heap.size, 2, none⟩ = some (.slice dd data.length dc) := fun t => keep_cell p2 t.2
      have y3 : ∀ t : After wr, t.1.cell? ⟨w.heap.size, 3, none⟩ = some (.int .i64 main) := fun t => keep_cell p3 t.2
      have h13 := fun W hW => H13.out W hW k hlt
      unfold Fn.val at h13
      rw [eb] at h13
      have HN : Hid (F funcs[k] = true → ∀ j (hj : j < funcs.length), j < k + 1 → F funcs[j] = true) := fun he j hj hjk => by
        by_cases e : j = k
        · subst e; exact he
        · exact HK.out j hj (by omega)
      have HNO := hid' (NF.out k hlt)
      clear hfc hx ho eb
      generalize F funcs[k] = q at *
      generalize funcs[k] = x at *
      have K13 : ∀ t : After wr, _ := fun t => Calls.after t (h13 t.1 (below_up HB0.out t.2))
      have hne := after_some wr
      clear h13
      go_wp2_with fail
      refine region_after 7 mixed (by kernel_rfl) ?_
      simp only [List.take_succ_cons, List.take_zero, List.drop_succ_cons, List.drop_zero]
      repeat (first | go_big_quiet_step (with_reducible exact K13 _) | quiet_step (with_reducible exact K13 _))
      refine wpQuiet_nil ?_
      intro w6 hb6
      have HB6 := hid' hb6
      clear K13 y0 y1 y2 y3 c0 c1 c2 c3 c4 hb6
      cases q
      · have HF0 : Hid (R = false) := HNO.out (by trivial)
        go_wp2_with fail
        go_ret
        exact ⟨by rw [HF0.out]; rfl, below_up HB0.out HB6.out⟩
      · go_wp2_with fail
        go_roundw
        case rel => exact ⟨k + 1, by omega, by go_num, HN.out (by trivial), below_on HB.out HB6.out HB.out.size⟩
        case measure => simp [intOf]; omega
    · have e : k = funcs.length := by omega
      subst e
      have HR1 : Hid (R = (datF gl 0 data && decide (pm = 0))) := by unfold Hid; rw [YF.out (fun k hk => HK.out k hk hk), HMY.out]
      clear H13 NF YF HMY HK hk hlt
      go_wp2_with fail
      clear HB0 p0 p1 p2 p3
      go_loopw [4, 5, 6] (fun a i n wr' => ∃ (k : Nat) (A : Int), k ≤ data.length ∧ i = .int .i64 k ∧ a = .int .i64 A ∧ 0 ≤ A ∧ A ≤ 65536 ∧ datF gl 0 data = datF gl A (data.drop k) ∧ Below (w.alloc (.cells #[.slice fo funcs.length fc, .int .i64 gl, .slice dd data.length dc, .int .i64 main] 25)).heap.size (w.alloc (.cells #[.slice fo funcs.length fc, .int .i64 gl, .slice dd data.length dc, .int .i64 main] 25)) wr') (fun _ i _ _ => data.length - (intOf i).toNat)
      case atStart => exact ⟨0, 0, Nat.zero_le _, rfl, rfl, by omega, by omega, rfl, HB.out⟩
      case round =>
        obtain ⟨k, A, hk, rfl, rfl, a0, a1, hdf, hbw⟩ := hrel
        have HDF := hid' hdf
        have HB := hid' hbw
        obtain ⟨hsz, hB0, p0, p1, p2, p3⟩ := pbox hbw
        have HB0 := hid' hB0
        clear hdf hbw hB0
        by_cases hlt : k < data.length
        · obtain ⟨b, o, rfl, hb1, hc1, hx⟩ := HD.out k hlt
          have HN := hid' (dat_next (g := gl) (at_ := A) hlt)
          have hs := HDS.out _ (List.getElem_mem hlt)
          have hfc := fun t : After wr => fi_cells (hx t.1 (below_up HB0.out t.2))
          have c0 := fun t => (hfc t).1
          have c1 := fun t => (hfc t).2
          obtain ⟨e0, e1⟩ := fi_cells (hx wr HB0.out)
          have y1 : ∀ t : After wr, t.1.cell? ⟨w.heap.size, 1, none⟩ = some (.int .i64 gl) := fun t => keep_cell p1 t.2
          have y2 : ∀ t : After wr, t.1.cell? ⟨w.heap.size, 2, none⟩ = some (.slice (some ⟨b, o, none⟩) data.length dc) := fun t => keep_cell p2 t.2
          have HWR : Hid (∀ W, Below wr.heap.size wr W → _) := fun W hW => fi_cells (hx W (below_up HB0.out hW))
          have hne := after_some wr
          unfold big at hs
          clear hfc hx
          generalize data[k] = x at *
          obtain ⟨xat, xby⟩ := x
          dsimp only at *
          have HN2 : Hid (datF gl 0 data = (decide (0 < xby.size) && (winF xat A (gl - xby.size) && datF gl (xat + xby.size) (data.drop (k + 1))))) := by unfold Hid; rw [HDF.out, HN.out]
          clear HN HDF
          by_cases g1 : xat < A
          · have d1 : decide (xat < A) = true := decide_eq_true g1
            have HF0 : Hid (R = false) := by unfold Hid; rw [HR1.out, HN2.out]; rw [show winF xat A (gl - xby.size) = false from decide_eq_false (by omega)]; simp
            go_wp2_with fail
            refine region_after 30 mixed (by kernel_rfl) ?_
            simp only [List.take_succ_cons, List.take_zero, List.drop_succ_cons, List.drop_zero]
            repeat (first | go_big_quiet_step (fail) | quiet_step (fail))
            refine wpQuiet_nil ?_
            intro w6 hb6
            have HB6 := hid' hb6
            clear c0 c1 y1 y2 hb6
            go_wp2_with fail
            go_ret
            exact ⟨by rw [HF0.out]; rfl, below_up HB0.out HB6.out⟩
          have d1 : decide (xat < A) = false := decide_eq_false g1
          by_cases g2 : xby.size = 0
          · have d2 : ((xby.size : Int) == 0) = true := by simp [g2]
            have HF0 : Hid (R = false) := by unfold Hid; rw [HR1.out, HN2.out]; rw [g2]; simp
            go_wp2_with fail
            refine region_after 30 mixed (by kernel_rfl) ?_
            simp only [List.take_succ_cons, List.take_zero, List.drop_succ_cons, List.drop_zero]
            repeat (first | go_big_quiet_step (fail) | quiet_step (fail))
            refine wpQuiet_nil ?_
            intro w6 hb6
            have HB6 := hid' hb6
            clear c0 c1 y1 y2 hb6
            go_wp2_with fail
            go_ret
            exact ⟨by rw [HF0.out]; rfl, below_up HB0.out HB6.out⟩
          have d2 : ((xby.size : Int) == 0) = false := beq_eq_false_iff_ne.2 (by omega)
          by_cases g3 : gl < xby.size
          · have d3 : decide (gl < (xby.size : Int)) = true := decide_eq_true g3
            have HF0 : Hid (R = false) := by unfold Hid; rw [HR1.out, HN2.out]; rw [show winF xat A (gl - xby.size) = false from decide_eq_false (by omega)]; simp
            go_wp2_with fail
            refine region_after 30 mixed (by kernel_rfl) ?_
            simp only [List.take_succ_cons, List.take_zero, List.drop_succ_cons, List.drop_zero]
            repeat (first | go_big_quiet_step (fail) | quiet_step (fail))
            refine wpQuiet_nil ?_
            intro w6 hb6
            have HB6 := hid' hb6
            clear c0 c1 y1 y2 hb6
            go_wp2_with fail
            go_ret
            exact ⟨by rw [HF0.out]; rfl, below_up HB0.out HB6.out⟩
          have d3 : decide (gl < (xby.size : Int)) = false := decide_eq_false g3
          by_cases g4 : gl - xby.size < xat
          · have d4 : decide (gl - (xby.size : Int) < xat) = true := decide_eq_true g4
            have HF0 : Hid (R = false) := by unfold Hid; rw [HR1.out, HN2.out]; rw [show winF xat A (gl - xby.size) = false from decide_eq_false (by omega)]; simp
            go_wp2_with fail
            refine region_after 30 mixed (by kernel_rfl) ?_
            simp only [List.take_succ_cons, List.take_zero, List.drop_succ_cons, List.drop_zero]
            repeat (first | go_big_quiet_step (fail) | quiet_step (fail))
            refine wpQuiet_nil ?_
            intro w6 hb6
            have HB6 := hid' hb6
            clear c0 c1 y1 y2 hb6
            go_wp2_with fail
            go_ret
            exact ⟨by rw [HF0.out]; rfl, below_up HB0.out HB6.out⟩
          have d4 : decide (gl - (xby.size : Int) < xat) = false := decide_eq_false g4
          have HND : Hid (datF gl 0 data = datF gl (xat + xby.size) (data.drop (k + 1))) := by
            unfold Hid
            rw [HN2.out, decide_eq_true (by omega : 0 < xby.size), show winF xat A (gl - xby.size) = true from decide_eq_true (by omega)]
            rfl
          have HA : Hid (0 ≤ xat + xby.size ∧ xat + xby.size ≤ 65536) := by unfold Hid; omega
          clear HN2
          go_wp2_with fail
          refine region_after 30 mixed (by kernel_rfl) ?_
          simp only [List.take_succ_cons, List.take_zero, List.drop_succ_cons, List.drop_zero]
          repeat (first | go_big_quiet_step (fail) | quiet_step (fail))
          refine wpQuiet_nil ?_
          intro w6 hb6
          have HB6 := hid' hb6
          obtain ⟨e0, e1⟩ := HWR.out w6 HB6.out
          have x1 := y1 ⟨w6, hb6⟩
          have x2 := y2 ⟨w6, hb6⟩
          dsimp only at x1 x2
          clear c0 c1 y1 y2
          go_wp2_with fail
          go_roundw
          case rel => exact ⟨k + 1, _, by omega, by go_num, rfl, HA.out.1, HA.out.2, HND.out, below_on HB.out HB6.out HB.out.size⟩
          case measure => simp [intOf]; omega
        · have e : k = data.length := by omega
          subst e
          have HDT : Hid (R = decide (pm = 0)) := by unfold Hid; rw [HR1.out, HDF.out, List.drop_length]; rfl
          obtain ⟨mk, rfl⟩ : ∃ mk : Nat, main = mk := ⟨main.toNat, by omega⟩
          have hmk : mk < funcs.length := by omega
          obtain ⟨b, o, rfl, hb1, hc1, hx⟩ := HF.out mk hmk
          have c1 := (fn_cells (hx wr HB0.out)).2.1
          have HPX : Hid (pm = funcs[mk].params) := by unfold Hid; rw [HPM.out, Int.toNat_natCast, List.getElem?_eq_getElem hmk]; rfl
          clear hx
          generalize funcs[mk] = fx at *
          go_wp2_with fail
          go_ret
          refine ⟨?_, HB0.out⟩
          rw [HDT.out, HPX.out]
          by_cases hh : fx.params = 0 <;> simp [hh]

set_option maxRecDepth 20000 in
set_option maxHeartbeats 8000000 in
theorem checks3_of {w : World} {p : Pg} (hp : Pg.ok w p) (h13 : ∀ W, Below w.heap.size w W → Told13 p W) : Calls Try.prog 3 #[p.val] w fun e w' => e = .returned (.bool true) ∧ Below w.heap.size w w' := by
  have HP := hid' hp
  have H13 := hid' h13
  have H8 := hid' (fun W (h1 : Pg.ok W p) => check8 h1)
  have H10 := hid' (fun W (h1 : Pg.ok W p) (h2 : Told13 p W) => prog10_of h1 h2)
  obtain ⟨fv, funcs, gl, dv, data, main⟩ := p
  obtain ⟨fo, fc, ef⟩ := hp.f.len
  obtain ⟨dd, dc, ed⟩ := hp.d.len
  dsimp only at *
  subst ef ed
  clear hp h13
  obtain ⟨w0, ew0⟩ : ∃ w0, w0 = w.alloc (.cells #[.slice fo funcs.length fc, .int .i64 gl, .slice dd data.length dc, .int .i64 main] 25) := ⟨_, rfl⟩
  have HW0 := hid' ew0
  have hx := fun t : After w0 => pbox (w := w) (by rw [← ew0]; exact t.2)
  have y0 := fun t => (hx t).2.2.1
  have y1 := fun t => (hx t).2.2.2.1
  have y2 := fun t => (hx t).2.2.2.2.1
  have y3 := fun t => (hx t).2.2.2.2.2
  have K8 : ∀ t : After w0, _ := fun t => Calls.after t (H8.out t.1 (HP.out.on (hx t).2.1))
  have K10 : ∀ t : After w0, _ := fun t => Calls.after t (H10.out t.1 (HP.out.on (hx t).2.1) (H13.out _ (hx t).2.1))
  have K11 : ∀ t : After w0, _ := fun t => Calls.after t (awake11 t.1)
  have HB0 : Hid (Below w.heap.size w w0) := by unfold Hid; rw [ew0]; exact below1 _ _
  have hne := after_some w0
  unfold Pg.val at *
  dsimp only at *
  generalize pgF ⟨.slice fo funcs.length fc, funcs, gl, .slice dd data.length dc, data, main⟩ = q at *
  have K9 : ∀ t : After w0, _ := fun t => Calls.after t ((errno9 q t.1).mono fun _ w' h => ⟨h.1, by rw [h.2]; exact Below.refl _ _⟩)
  generalize errF q = eq at *
  clear hx ew0 HP H8 H10 H13
  have hqq : (eq == eq) = true := by simp
  go_enter Try.func3, Try.ntmps3
  go_wp2_with fail
  rw [← HW0.out]
  refine region_after 9 mixed (by kernel_rfl) ?_
  simp only [List.take_succ_cons, List.take_zero, List.drop_succ_cons, List.drop_zero]
  repeat (first | go_big_quiet_step (first | with_reducible exact K8 _ | with_reducible exact K10 _ | with_reducible exact K9 _ | with_reducible exact K11 _) | quiet_step (first | with_reducible exact K8 _ | with_reducible exact K10 _ | with_reducible exact K9 _ | with_reducible exact K11 _))
  refine wpQuiet_nil ?_
  intro w6 hb6
  clear K8 K10 K9 K11 y0 y1 y2 y3
  go_wp2
  go_ret
  exact ⟨rfl, below_up HB0.out hb6⟩
end Go.Proofs.Ythnbnilammjceaa
