/- The document's Func. -/
import Derived.Test.YtiehlkhpblldaaaH30
import Derived.Test.YtiehlkhpblldaaaH31
import Derived.Test.YtiehlkhpblldaaaH47
set_option linter.unusedVariables false
set_option linter.unusedSimpArgs false
set_option maxRecDepth 20000
set_option maxHeartbeats 8000000
namespace Go.Proofs.Ytiehlkhpblldaaa
open Go.RowKit Go.Maps

/-- What a function must be, in four parts. -/
theorem fn_siz {p : Pg} {f : Fn} (h : sizF f = false) : fnF p f = false := by unfold fnF; rw [h]; rfl
theorem fn_end {p : Pg} {f : Fn} (h : endsF f = false) : fnF p f = false := by unfold fnF; rw [h]; simp
theorem fn_pre {p : Pg} {f : Fn} (h : ¬ (predsF f.blocks).getD 0 [] = []) : fnF p f = false := by unfold fnF; rw [decide_eq_false h]; simp
theorem fn_cod {p : Pg} {f : Fn} {k : Nat} (hk : k < f.blocks.length) (h : blkOK p f k = false) : fnF p f = false := by unfold fnF; rw [codes_no hk h]; simp
theorem fn_yes {p : Pg} {f : Fn} (h1 : sizF f = true) (h2 : (predsF f.blocks).getD 0 [] = []) (h3 : ∀ k (hk : k < f.blocks.length), blkOK p f k = true ∧ endF f.blocks.length f.regs f.blocks[k] = true) : fnF p f = true := by
  unfold fnF
  rw [h1, decide_eq_true h2, codes_yes (fun k hk => (h3 k hk).1)]
  have : endsF f = true := by unfold endsF; exact all_yes (fun k hk => (h3 k hk).2)
  rw [this]
  rfl
theorem cod_doc {p : Pg} {f : Fn} {preds : List Int} {o : Bool} {l : List In} {k : Nat} (hk : k < l.length) (hi : -2147483648 ≤ l[k].imm ∧ l[k].imm ≤ 2147483647) : codF p f.regs f.slots preds o (l.drop k) = (if l[k].op = 12 then !o && (docD p f preds l[k] && codF p f.regs f.slots preds o (l.drop (k + 1))) else docD p f preds l[k] && codF p f.regs f.slots preds true (l.drop (k + 1))) := by
  rw [cod_next hk, fitI_is p f preds l[k] hi]

set_option maxRecDepth 40000 in
set_option maxHeartbeats 40000000 in
theorem func13 {w : World} {p : Pg} {f : Fn} (hp : Pg.ok w p) (hf : Fn.ok w f) :
    Calls Try.prog 20 #[p.val, f.val] w fun e w' => e = .returned (.bool (fnF p f)) ∧ Below w.heap.size w w' := by
  have H15 : Hid (∀ W, Below w.heap.size w W → Calls Try.prog 32 #[f.val] W (PredR f.blocks W)) := fun W hW => preds15 (hf.on hW)
  have H30 : Hid (∀ W, Below w.heap.size w W → ∀ x, In.ok w x → Calls Try.prog 33 #[p.val, f.val, x.val] W fun e w' => e = .returned (.bool (docI p f x)) ∧ Below W.heap.size W w') := fun W hW x hx => instr30 (hp.on hW) (hf.b.on hW) (hx.on hW)
  have H31 : Hid (∀ W, Below w.heap.size w W → 0 ≤ f.regs → ∀ k (hk : k < f.blocks.length), Calls Try.prog 35 #[f.val, (f.blocks[k]).val] W fun e w' => e = .returned (.bool (endF f.blocks.length f.regs f.blocks[k])) ∧ Below W.heap.size W w') := fun W hW h0 k hk => ends31 (hf.b.on hW) hf.bl ((hf.bls _ (List.getElem_mem hk)).on hW) h0
  have HBLS := hid' hf.bls
  have HLE : Hid (∀ k, k < f.blocks.length → ((predsF f.blocks).getD k []).length * 8 ≤ big) := fun k hk => by
    have h1 : k < (predsF f.blocks).length := by unfold predsF; rw [predsN_len]; exact hk
    have h2 : (predsF f.blocks).getD k [] = (predsF f.blocks)[k] := by simp [h1]
    rw [h2]
    have h3 := inv_predsN f.blocks f.blocks.length _ (List.getElem_mem h1)
    have h4 := h3.2.2.2
    have h5 := hf.bl
    unfold predsF at *
    unfold big at *
    omega
  generalize hR : fnF p f = R
  have NS : Hid (sizF f = false → R = false) := fun h => by rw [← hR]; exact fn_siz h
  have NE : Hid (∀ k (hk : k < f.blocks.length), endF f.blocks.length f.regs f.blocks[k] = false → R = false) := fun k hk h => by rw [← hR]; exact fn_end (by unfold endsF; exact all_no k hk h)
  have NP : Hid (¬ (predsF f.blocks).getD 0 [] = [] → R = false) := fun h => by rw [← hR]; exact fn_pre h
  have NC : Hid (∀ k, k < f.blocks.length → blkOK p f k = false → R = false) := fun k hk h => by rw [← hR]; exact fn_cod hk h
  have YES : Hid (sizF f = true → (predsF f.blocks).getD 0 [] = [] → (∀ k (hk : k < f.blocks.length), blkOK p f k = true ∧ endF f.blocks.length f.regs f.blocks[k] = true) → R = true) := fun h1 h2 h3 => by rw [← hR]; exact fn_yes h1 h2 h3
  have BLK : Hid (∀ k (hk : k < f.blocks.length), blkOK p f k = codF p f.regs f.slots ((predsF f.blocks).getD k []) false f.blocks[k].code) := fun k hk => blk_is hk
  have COD : Hid (∀ (preds : List Int) (o : Bool) (l : List In) (k : Nat) (hk : k < l.length), (-2147483648 ≤ l[k].imm ∧ l[k].imm ≤ 2147483647) → codF p f.regs f.slots preds o (l.drop k) = (if l[k].op = 12 then !o && (docD p f preds l[k] && codF p f.regs f.slots preds o (l.drop (k + 1))) else docD p f preds l[k] && codF p f.regs f.slots preds true (l.drop (k + 1)))) := fun preds o l k hk hi => cod_doc hk hi
  have NIL : Hid (∀ (preds : List Int) (o : Bool), codF p f.regs f.slots preds o [] = true) := fun _ _ => rfl
  have DOC : Hid (∀ (preds : List Int) (x : In), docD p f preds x = (docI p f x && (!decide (x.op = 12) || (eqL x.pred preds && decide (x.args.length = x.pred.length))))) := fun _ _ => rfl
  have SIZ : Hid (sizF f = (decide (1 ≤ f.blocks.length ∧ f.blocks.length ≤ 4096) && decide (sumF f.blocks ≤ 65536) && winF f.params 0 12 && winF f.regs f.params 65536 && winF f.slots 0 65536 && decide (f.slots % 4 = 0))) := rfl
  clear hR
  generalize sizF f = siz at *
  generalize codF p f.regs f.slots = cod at *
  generalize docD p f = doc at *
  generalize docI p f = dcI at *
  generalize blkOK p f = blk at *
  obtain ⟨nm, ps, rs, sl, bv, bl⟩ := f
  obtain ⟨fv, funcs, gl, dv, data, main⟩ := p
  obtain ⟨bo, bc, eb, hfb⟩ := hf.b.form bl4
  obtain ⟨fo, fc, ef⟩ := hp.f.len
  obtain ⟨dd, dc, ed⟩ := hp.d.len
  have hbl := hf.bl
  dsimp only at *
  subst eb ef ed
  have HF := hid' hfb
  unfold big at hbl
  clear hf hp hfb
  unfold Fn.val Pg.val at *
  dsimp only at *
  by_cases s1 : ¬ 1 ≤ bl.length
  · have HF0 : Hid (R = false) := NS.out (by rw [SIZ.out]; simp [winF, s1] <;> omega)
    have t1 : (bl.length : Int) < 1 := by omega
    clear H15 H30 H31 NS NE NP NC YES BLK COD NIL DOC SIZ
    go_enter Try.func20, Try.ntmps20
    go_wp2
    go_ret
    exact ⟨by rw [HF0.out]; rfl, below2 _ _ _⟩
  replace s1 := Classical.not_not.1 s1
  have t1 : ¬ (bl.length : Int) < 1 := by omega
  by_cases s2 : ¬ bl.length ≤ 4096
  · have HF0 : Hid (R = false) := NS.out (by rw [SIZ.out]; simp [winF, s2] <;> omega)
    have t2 : (4096 : Int) < bl.length := by omega
    clear H15 H30 H31 NS NE NP NC YES BLK COD NIL DOC SIZ
    go_enter Try.func20, Try.ntmps20
    go_wp2
    go_ret
    exact ⟨by rw [HF0.out]; rfl, below2 _ _ _⟩
  replace s2 := Classical.not_not.1 s2
  have t2 : ¬ (4096 : Int) < bl.length := by omega
  by_cases s3 : ¬ 0 ≤ ps
  · have HF0 : Hid (R = false) := NS.out (by rw [SIZ.out]; simp [winF, s3] <;> omega)
    clear H15 H30 H31 NS NE NP NC YES BLK COD NIL DOC SIZ
    go_enter Try.func20, Try.ntmps20
    go_wp2
    go_ret
    exact ⟨by rw [HF0.out]; rfl, below2 _ _ _⟩
  replace s3 := Classical.not_not.1 s3
  by_cases s4 : ¬ ps ≤ 12
  · have HF0 : Hid (R = false) := NS.out (by rw [SIZ.out]; simp [winF, s4] <;> omega)
    clear H15 H30 H31 NS NE NP NC YES BLK COD NIL DOC SIZ
    go_enter Try.func20, Try.ntmps20
    go_wp2
    go_ret
    exact ⟨by rw [HF0.out]; rfl, below2 _ _ _⟩
  replace s4 := Classical.not_not.1 s4
  by_cases s5 : ¬ ps ≤ rs
  · have HF0 : Hid (R = false) := NS.out (by rw [SIZ.out]; simp [winF, s5] <;> omega)
    clear H15 H30 H31 NS NE NP NC YES BLK COD NIL DOC SIZ
    go_enter Try.func20, Try.ntmps20
    go_wp2
    go_ret
    exact ⟨by rw [HF0.out]; rfl, below2 _ _ _⟩
  replace s5 := Classical.not_not.1 s5
  by_cases s6 : ¬ rs ≤ 65536
  · have HF0 : Hid (R = false) := NS.out (by rw [SIZ.out]; simp [winF, s6] <;> omega)
    clear H15 H30 H31 NS NE NP NC YES BLK COD NIL DOC SIZ
    go_enter Try.func20, Try.ntmps20
    go_wp2
    go_ret
    exact ⟨by rw [HF0.out]; rfl, below2 _ _ _⟩
  replace s6 := Classical.not_not.1 s6
  by_cases s7 : ¬ 0 ≤ sl
  · have HF0 : Hid (R = false) := NS.out (by rw [SIZ.out]; simp [winF, s7] <;> omega)
    clear H15 H30 H31 NS NE NP NC YES BLK COD NIL DOC SIZ
    go_enter Try.func20, Try.ntmps20
    go_wp2
    go_ret
    exact ⟨by rw [HF0.out]; rfl, below2 _ _ _⟩
  replace s7 := Classical.not_not.1 s7
  by_cases s8 : ¬ sl ≤ 65536
  · have HF0 : Hid (R = false) := NS.out (by rw [SIZ.out]; simp [winF, s8] <;> omega)
    clear H15 H30 H31 NS NE NP NC YES BLK COD NIL DOC SIZ
    go_enter Try.func20, Try.ntmps20
    go_wp2
    go_ret
    exact ⟨by rw [HF0.out]; rfl, below2 _ _ _⟩
  replace s8 := Classical.not_not.1 s8
  by_cases s9 : ¬ sl % 4 = 0
  · have HF0 : Hid (R = false) := NS.out (by rw [SIZ.out]; simp [winF, s9] <;> omega)
    have m9 : (sl % 4 == 0) = false := by simp [s9]
    have m8 : (sl % 4 != 0) = true := by simp [s9]
    have m7 : Int.tmod sl 4 = sl % 4 := Int.tmod_eq_emod_of_nonneg s7
    clear H15 H30 H31 NS NE NP NC YES BLK COD NIL DOC SIZ
    go_enter Try.func20, Try.ntmps20
    go_wp2
    go_ret
    exact ⟨by rw [HF0.out]; rfl, below2 _ _ _⟩
  replace s9 := Classical.not_not.1 s9
  have m7 : Int.tmod sl 4 = sl % 4 := Int.tmod_eq_emod_of_nonneg s7
  have h0 : 0 ≤ rs := by omega
  have SIZ2 : Hid (siz = decide (sumF bl ≤ 65536)) := by
    unfold Hid
    rw [SIZ.out]
    simp [winF, s1, s2, s3, s4, s5, s6, s7, s8, s9]
  have H31' := fun W hW => H31.out W hW h0
  have H31h := hid' H31'
  clear SIZ H31 H31'
  obtain ⟨w0, ew0⟩ : ∃ w0, w0 = (w.alloc (.cells #[.slice fo funcs.length fc, .int .i64 gl, .slice dd data.length dc, .int .i64 main] 25)).alloc (.cells #[.string nm, .int .i64 ps, .int .i64 rs, .int .i64 sl, .slice bo bl.length bc] 49) := ⟨_, rfl⟩
  have HW0 := hid' ew0
  have HBW0 : Hid (Below w.heap.size w w0) := by unfold Hid; rw [ew0]; exact below2 _ _ _
  have HBX : Hid (∀ W, Below w0.heap.size w0 W → _) := fun W hW => boxpf (w := w) (W := W) (by rw [← ew0]; exact hW)
  have hz0 : w0.heap.size = w.heap.size + 1 + 1 := by rw [ew0]; simp
  clear ew0
  go_enter Try.func20, Try.ntmps20
  go_wp2
  rw [← HW0.out]
  obtain ⟨⟨hs0, _⟩, ⟨a0, a1, a2, a3⟩, ⟨b0, b1, b2, b3, b4⟩⟩ := HBX.out w0 (Below.refl _ _)
  go_loop [5, 6] (fun n i => ∃ k : Nat, k ≤ bl.length ∧ i = .int .i64 k ∧ n = .int .i64 (sumF (bl.take k) : Nat)) (fun _ i => bl.length - (intOf i).toNat)
  case atStart => exact ⟨0, Nat.zero_le _, rfl, rfl⟩
  case round =>
    obtain ⟨k, hk, rfl, rfl⟩ := hrel
    by_cases hlt : k < bl.length
    · obtain ⟨b, o, rfl, hb1, hc1, hx⟩ := HF.out k hlt
      obtain ⟨c0, c1, c2, c3⟩ := bl_cells (hx w0 HBW0.out)
      have hsn := sumF_snoc bl k hlt
      have HSN := hid' hsn
      have hle := sumF_tk HBLS.out (k + 1) s2
      rw [hsn] at hle
      have ho := HBLS.out _ (List.getElem_mem hlt)
      obtain ⟨co, cc, e⟩ := ho.c.len
      rw [e] at c0
      clear hx hsn ho e H15 H30 H31h NS NE NP NC YES BLK COD NIL DOC HLE
      generalize sumF (bl.take k) = s at *
      generalize bl[k] = x at *
      go_wp2
      go_round
      case rel => exact ⟨k + 1, by omega, by go_num, by rw [HSN.out]; go_num⟩
      case measure => simp [intOf]; omega
    · have e : k = bl.length := by omega
      subst e
      rw [List.take_length]
      clear hk hlt
      by_cases hsum : ¬ sumF bl ≤ 65536
      · have HF0 : Hid (R = false) := NS.out (by rw [SIZ2.out, decide_eq_false hsum])
        have hs' : (65536 : Int) < sumF bl := by omega
        generalize sumF bl = s at *
        clear H15 H30 H31h NS NE NP NC YES BLK COD NIL DOC
        go_wp2
        go_ret
        exact ⟨by rw [HF0.out]; rfl, HBW0.out⟩
      replace hsum := Classical.not_not.1 hsum
      have hs' : ¬ (65536 : Int) < sumF bl := by omega
      have HSIZ : Hid (siz = true) := by unfold Hid; rw [SIZ2.out, decide_eq_true hsum]
      generalize sumF bl = s at *
      clear NS SIZ2
      go_wp2_with (go_at_call 32; refine (H15.out _ HBW0.out).mono ?_; rintro e1 w3 ⟨g, vs, rfl, hpm, hb3⟩; have HPM := hid' hpm; have HB3 := hid' hb3; refine of_mark ?_)
      unfold Mark
      have hpm := HPM.out
      have hLl : (predsF bl).length = bl.length := by unfold predsF; rw [predsN_len]
      have hvl : vs.length = bl.length := by rw [hpm.len, hLl]
      have HAT : Hid (∀ W, Below w3.heap.size w3 W → ∀ k (hk : k < bl.length), ∃ ao cap, W.cell? ⟨g, k, none⟩ = some (.slice ao ((predsF bl).getD k []).length cap) ∧ Src icell W (.slice ao ((predsF bl).getD k []).length cap) ((predsF bl).getD k [])) := fun W hW k hk => by
        have h1 := HPM.out.on hW
        have e1 : (predsF bl).getD k [] = (predsF bl)[k]'(by rw [hLl]; exact hk) := by simp [hLl, hk]
        have h2 : Src icell W (vs[k]'(by rw [hvl]; exact hk)) ((predsF bl).getD k []) := by rw [e1]; exact Own.src ic1 (h1.el k (by rw [hvl]; exact hk) (by rw [hLl]; exact hk))
        obtain ⟨ao, cap, e⟩ := h2.len
        refine ⟨ao, cap, ?_, by rw [← e]; exact h2⟩
        have h3 := h1.row
        rw [hLl] at h3
        rw [World.ownsRow.cellAt h3 k (by omega), List.getElem?_eq_getElem (by rw [hvl]; exact hk), e]
      have hglt : g < w3.heap.size := hpm.g.2
      obtain ⟨ao0, cap0, r0, _⟩ := HAT.out w3 (Below.refl _ _) 0 (by omega)
      have hn1' : (0 : Int) < bl.length := by omega
      have HW3 : Hid (Below w.heap.size w w3) := below_up HBW0.out HB3.out
      clear hpm a0 a1 a2 a3 b0 b1 b2 b3 b4 H15
      by_cases hz : ¬ (predsF bl).getD 0 [] = []
      · have hzz : 0 < ((predsF bl).getD 0 []).length := List.length_pos_iff.2 hz
        have hz' : (0 : Int) < ((predsF bl).getD 0 []).length := by omega
        have HF0 : Hid (R = false) := NP.out hz
        clear H30 H31h NE NP NC YES BLK COD NIL DOC HLE HAT
        generalize ((predsF bl).getD 0 []).length = z0 at *
        go_wp2_with fail
        go_ret
        exact ⟨by rw [HF0.out]; rfl, HW3.out⟩
      replace hz := Classical.not_not.1 hz
      have HZ := hid' hz
      rw [hz] at r0
      simp only [List.length_nil] at r0
      clear hz NP
      go_wp2_with fail
      go_loopw [8] (fun i wr => ∃ k : Nat, k ≤ bl.length ∧ i = .int .i64 k ∧ (∀ j (hj : j < bl.length), j < k → blk j = true ∧ endF bl.length rs bl[j] = true) ∧ Below w3.heap.size w3 wr) (fun i _ => bl.length - (intOf i).toNat)
      case atStart => exact ⟨0, Nat.zero_le _, rfl, fun j _ hj => by omega, Below.refl _ _⟩
      case round =>
        obtain ⟨k, hk, rfl, hok, hbw⟩ := hrel
        have HK := hid' hok
        have HB := hid' hbw
        have hb0 : Below w0.heap.size w0 wr := below_on HB3.out hbw HB3.out.size
        obtain ⟨⟨hsz, hB0⟩, ⟨p0, p1, p2, p3⟩, ⟨f0, f1, f2, f3, f4⟩⟩ := HBX.out _ hb0
        have HB0 := hid' hB0
        have H00 := hid' hb0
        clear hok hbw hB0 hb0 r0
        by_cases hlt : k < bl.length
        · obtain ⟨b, o, rfl, hb1, hc1, hx⟩ := HF.out k hlt
          obtain ⟨c0, c1, c2, c3⟩ := bl_cells (hx wr HB0.out)
          have ho := HBLS.out _ (List.getElem_mem hlt)
          have HIN := hid' ho.ins
          have hcl := ho.cl
          obtain ⟨co, cc, ec, hfc⟩ := ho.c.form in7
          obtain ⟨tt, tc, et⟩ := ho.t.len
          have HFC := hid' hfc
          have HE31 := fun W hW => H31h.out W hW k hlt
          have HNE := hid' (NE.out k hlt)
          have HNC := hid' (NC.out k hlt)
          have HBK := hid' (BLK.out k hlt)
          have hle := HLE.out k hlt
          have HLEK := hid' hle
          have HNX : Hid (blk k = true → endF bl.length rs bl[k] = true → ∀ j (hj : j < bl.length), j < k + 1 → blk j = true ∧ endF bl.length rs bl[j] = true) := fun h1 h2 j hj hjk => by
            by_cases e : j = k
            · subst e; exact ⟨h1, h2⟩
            · exact HK.out j hj (by omega)
          unfold Bl.val at HE31
          rw [ec] at c0
          rw [et] at c3
          rw [ec, et] at HE31
          unfold big at hcl
          clear hx ho ec et hfc hle
          generalize endF bl.length rs bl[k] = qe at *
          generalize blk k = qb at *
          generalize bl[k] = xk at *
          obtain ⟨cv, code, en, arg, tv, to⟩ := xk
          dsimp only at *
          obtain ⟨w4, ew4⟩ : ∃ w4, w4 = wr.alloc (.cells #[.slice co code.length cc, .int .i64 en, .int .i64 arg, .slice tt to.length tc] 54) := ⟨_, rfl⟩
          have HW4 := hid' ew4
          have HB4 : Hid (Below wr.heap.size wr w4) := by unfold Hid; rw [ew4]; exact below1 _ _
          have HPB : Hid (∀ W, Below w4.heap.size w4 W → _) := fun W hW => pbox (w := wr) (W := W) (by rw [← ew4]; exact hW)
          have hz4 : w4.heap.size = wr.heap.size + 1 := by rw [ew4]; simp
          have hnw : ¬ b = wr.heap.size := by have := HB0.out.size; omega
          have hgw : g < wr.heap.size := Nat.lt_of_lt_of_le hglt HB.out.size
          clear ew4
          go_wp2_with fail
          rw [← HW4.out]
          go_loopw [10, 11] (fun ph i wr' => ∃ (m : Nat) (phi : Bool), m ≤ code.length ∧ i = .int .i64 m ∧ ph = .bool phi ∧ cod ((predsF bl).getD k []) false code = cod ((predsF bl).getD k []) (!phi) (code.drop m) ∧ Below w4.heap.size w4 wr') (fun _ i _ => code.length - (intOf i).toNat)
          case atStart => exact ⟨0, true, Nat.zero_le _, rfl, rfl, rfl, Below.refl _ _⟩
          case round =>
            obtain ⟨m, phi, hmk, rfl, rfl, hcd, hbi⟩ := hrel
            have HCD := hid' hcd
            have HBI := hid' hbi
            obtain ⟨hs4, hB4, d0, d1, d2, d3⟩ := HPB.out _ hbi
            have H3I : Hid (Below w3.heap.size w3 wr) := below_up HB.out hB4
            have H0I : Hid (Below w0.heap.size w0 wr) := below_on H00.out hB4 H00.out.size
            obtain ⟨⟨isz, iB0⟩, ⟨y0, y1, y2, y3⟩, ⟨z0, z1, z2, z3, z4⟩⟩ := HBX.out _ H0I.out
            have IB0 := hid' iB0
            clear hcd hbi hB4 iB0 c0 c1 c2 c3 p0 p1 p2 p3 f0 f1 f2 f3 f4
            by_cases hmt : m < code.length
            · obtain ⟨xb, xo, rfl, hxb, hxc, hxx⟩ := HFC.out m hmt
              obtain ⟨i0, i1, i2, i3, i4, i5, i6⟩ := in_cells (hxx wr IB0.out)
              have hio := HIN.out _ (List.getElem_mem hmt)
              have HIO := hid' hio
              have H30x := fun W hW => H30.out W hW _ hio
              have HCX := hid' (COD.out ((predsF bl).getD k []) (!phi) code m hmt hio.hi)
              have HDX := hid' (DOC.out ((predsF bl).getD k []) code[m])
              obtain ⟨ax, ac, ea⟩ := hio.a.len
              obtain ⟨qx, qc, eq⟩ := hio.p.len
              unfold In.val at H30x
              rw [ea] at i2 H30x
              rw [eq] at i6 H30x
              have HPP : Hid (∀ W, Below w.heap.size w W → Src icell W (.slice qx code[m].pred.length qc) code[m].pred) := fun W hW => by rw [← eq]; exact hio.p.on hW
              have hpl := hio.pl
              have hal := hio.al
              unfold big at hal
              clear hxx hio ea eq HIO
              generalize doc ((predsF bl).getD k []) code[m] = dq at *
              generalize dcI code[m] = iq at *
              generalize code[m] = xm at *
              obtain ⟨op, dst, av, args, imm, alu, wide, xv, pred⟩ := xm
              dsimp only at *
              obtain ⟨w5, ew5⟩ : ∃ w5, w5 = wr.alloc (.cells #[.int .i64 op, .int .i64 dst, .slice ax args.length ac, .int .i32 imm, .int .i64 alu, .int .i64 wide, .slice qx pred.length qc] 51) := ⟨_, rfl⟩
              have HW5 := hid' ew5
              have HB5 : Hid (Below wr.heap.size wr w5) := by unfold Hid; rw [ew5]; exact below1 _ _
              have HXB : Hid (∀ W, Below w5.heap.size w5 W → _) := fun W hW => xbox (w := wr) (W := W) (by rw [← ew5]; exact hW)
              have hnx : ¬ xb = wr.heap.size := by have := IB0.out.size; omega
              have hna : ¬ w.heap.size = wr.heap.size := by omega
              have hnb : ¬ w.heap.size + 1 = wr.heap.size := by omega
              have hnc := Nat.ne_of_lt hs4
              have hla : w.heap.size < wr.heap.size := by omega
              clear ew5
              cases iq
              · have HF0 : Hid (R = false) := HNC.out (by
                  rw [HBK.out, HCD.out, HCX.out]
                  have : dq = false := by rw [HDX.out]; rfl
                  rw [this]
                  split <;> simp)
                clear HCX HCD HNX HNE HNC HBK HDX COD DOC NIL
                go_wp2_with (go_at_call 33; refine (H30x _ (below_up IB0.out (below1 _ _))).mono ?_; rintro e1 w6 ⟨rfl, hb6⟩)
                go_ret
                exact ⟨by rw [HF0.out]; rfl, below_up (below_up IB0.out (below1 _ _)) hb6⟩
              · go_wp2_with (go_at_call 33; refine (H30x _ (below_up IB0.out (below1 _ _))).mono ?_; rintro e1 w6 ⟨rfl, hb6⟩; have HB6 : Hid (Below w5.heap.size w5 w6) := (by unfold Hid; rw [HW5.out]; exact hb6); refine of_mark ?_)
                unfold Mark
                have HI6 : Hid (Below wr.heap.size wr w6) := below_up HB5.out HB6.out
                have HX6 := fun t : After w6 => HXB.out t.1 (below_on HB6.out t.2 HB6.out.size)
                have q0 : ∀ t : After w6, t.1.cell? ⟨wr.heap.size, 0, none⟩ = some (.int .i64 op) := fun t => (HX6 t).2.1
                have q2 : ∀ t : After w6, t.1.cell? ⟨wr.heap.size, 2, none⟩ = some (.slice ax args.length ac) := fun t => (HX6 t).2.2.2.1
                have q6 : ∀ t : After w6, t.1.cell? ⟨wr.heap.size, 6, none⟩ = some (.slice qx pred.length qc) := fun t => (HX6 t).2.2.2.2.2.2.2
                obtain ⟨ak, ck, hk1, hk2⟩ := HAT.out w6 (below_up H3I.out HI6.out) k hlt
                have qp : ∀ t : After w6, t.1.cell? ⟨g, k, none⟩ = some (.slice ak ((predsF bl).getD k []).length ck) := fun t => keep_cell hk1 t.2
                have K18 : ∀ t : After w6, _ := fun t => Calls.after t (sameInts18 (HPP.out t.1 (below_up (below_up IB0.out HI6.out) t.2)) (hk2.on t.2) hpl HLEK.out)
                have HXW : Hid (∀ W, Below w6.heap.size w6 W → W.cell? ⟨wr.heap.size, 0, none⟩ = some (.int .i64 op)) := fun W hW => q0 ⟨W, hW⟩
                have hne := after_some w6
                have hgx : g < wr.heap.size := Nat.lt_of_lt_of_le hglt H3I.out.size
                clear hk1 hk2 HX6 i0 i1 i2 i3 i4 i5 i6 y0 y1 y2 y3 z0 z1 z2 z3 z4 H30x hb6 d0 d1 d2 d3
                have HNEXT : Hid (∀ W, Below w6.heap.size w6 W → Below w4.heap.size w4 W) := fun W hW => below_on (below_on HBI.out HI6.out HBI.out.size) hW (Nat.le_trans HBI.out.size HI6.out.size)
                have HWW : Hid (∀ W, Below w6.heap.size w6 W → Below w.heap.size w W) := fun W hW => below_up (below_up IB0.out HI6.out) hW
                have HCX2 : Hid (cod ((predsF bl).getD k []) false code = (if op = 12 then !(!phi) && (dq && cod ((predsF bl).getD k []) (!phi) (code.drop (m + 1))) else dq && cod ((predsF bl).getD k []) true (code.drop (m + 1)))) := by unfold Hid; rw [HCD.out, HCX.out]
                clear HCX HCD
                generalize hpk : (predsF bl).getD k [] = pk at *
                have HPK := hid' hpk
                clear hpk
                by_cases h12 : op = 12
                · subst h12
                  have d12 : (12 == (12 : Int)) = true := rfl
                  cases phi
                  · have HF0 : Hid (R = false) := HNC.out (by rw [HBK.out, HCX2.out]; simp)
                    clear HCX2 HNX HNE HNC HBK HDX COD DOC NIL
                    go_wp2_with fail
                    refine region_after 25 mixed (by kernel_rfl) ?_
                    simp only [List.take_succ_cons, List.take_zero, List.drop_succ_cons, List.drop_zero]
                    repeat (first | go_big_quiet_step (with_reducible exact K18 _) | quiet_step (with_reducible exact K18 _))
                    refine wpQuiet_nil ?_
                    intro w7 hb7
                    have HB7 := hid' hb7
                    have hop := HXW.out w7 hb7
                    clear K18 q0 q2 q6 qp hb7
                    go_wp2
                    go_ret
                    exact ⟨by rw [HF0.out]; rfl, HWW.out _ HB7.out⟩
                  · cases he : eqL pred pk
                    · have hdq : dq = false := by rw [HDX.out, he]; rfl
                      simp only [he] at K18
                      have HF0 : Hid (R = false) := HNC.out (by rw [HBK.out, HCX2.out]; rw [hdq]; simp)
                      clear HCX2 HNX HNE HNC HBK HDX COD DOC NIL
                      go_wp2_with fail
                      refine region_after 25 mixed (by kernel_rfl) ?_
                      simp only [List.take_succ_cons, List.take_zero, List.drop_succ_cons, List.drop_zero]
                      repeat (first | go_big_quiet_step (with_reducible exact K18 _) | quiet_step (with_reducible exact K18 _))
                      refine wpQuiet_nil ?_
                      intro w7 hb7
                      have HB7 := hid' hb7
                      have hop := HXW.out w7 hb7
                      clear K18 q0 q2 q6 qp hb7
                      go_wp2
                      go_ret
                      exact ⟨by rw [HF0.out]; rfl, HWW.out _ HB7.out⟩
                    · by_cases hl : args.length = pred.length
                      · have hdq : dq = true := by rw [HDX.out, he, decide_eq_true hl]; rfl
                        have HND : Hid (cod pk false code = cod pk (!true) (code.drop (m + 1))) := by unfold Hid; rw [HCX2.out, hdq]; simp
                        have dl : ((args.length : Int) == (pred.length : Nat)) = true := by simp; omega
                        simp only [he] at K18
                        clear hl HCX2 HDX
                        clear HNX HNE HNC HBK COD DOC NIL
                        go_wp2_with fail
                        refine region_after 25 mixed (by kernel_rfl) ?_
                        simp only [List.take_succ_cons, List.take_zero, List.drop_succ_cons, List.drop_zero]
                        repeat (first | go_big_quiet_step (with_reducible exact K18 _) | quiet_step (with_reducible exact K18 _))
                        refine wpQuiet_nil ?_
                        intro w7 hb7
                        have HB7 := hid' hb7
                        have hop := HXW.out w7 hb7
                        clear K18 q0 q2 q6 qp hb7
                        go_wp2
                        go_roundw
                        case rel => exact ⟨m + 1, true, by omega, by go_num, rfl, by rw [HPK.out]; exact HND.out, HNEXT.out _ HB7.out⟩
                        case measure => simp [intOf]; omega
                      · have hdq : dq = false := by rw [HDX.out, decide_eq_false hl]; simp
                        have dl : ((args.length : Int) == (pred.length : Nat)) = false := by simp; omega
                        simp only [he] at K18
                        have HF0 : Hid (R = false) := HNC.out (by rw [HBK.out, HCX2.out]; rw [hdq]; simp)
                        clear HCX2 HNX HNE HNC HBK HDX COD DOC NIL
                        go_wp2_with fail
                        refine region_after 25 mixed (by kernel_rfl) ?_
                        simp only [List.take_succ_cons, List.take_zero, List.drop_succ_cons, List.drop_zero]
                        repeat (first | go_big_quiet_step (with_reducible exact K18 _) | quiet_step (with_reducible exact K18 _))
                        refine wpQuiet_nil ?_
                        intro w7 hb7
                        have HB7 := hid' hb7
                        have hop := HXW.out w7 hb7
                        clear K18 q0 q2 q6 qp hb7
                        go_wp2
                        go_ret
                        exact ⟨by rw [HF0.out]; rfl, HWW.out _ HB7.out⟩
                · have d12 : (op == 12) = false := by simp [h12]
                  have hdq : dq = true := by rw [HDX.out, decide_eq_false h12]; rfl
                  have HND : Hid (cod pk false code = cod pk (!false) (code.drop (m + 1))) := by unfold Hid; rw [HCX2.out, if_neg h12, hdq]; simp
                  clear HCX2 HDX
                  cases phi
                  · clear HNX HNE HNC HBK COD DOC NIL
                    go_wp2_with fail
                    refine region_after 25 mixed (by kernel_rfl) ?_
                    simp only [List.take_succ_cons, List.take_zero, List.drop_succ_cons, List.drop_zero]
                    repeat (first | go_big_quiet_step (with_reducible exact K18 _) | quiet_step (with_reducible exact K18 _))
                    refine wpQuiet_nil ?_
                    intro w7 hb7
                    have HB7 := hid' hb7
                    have hop := HXW.out w7 hb7
                    clear K18 q0 q2 q6 qp hb7
                    go_wp2
                    go_roundw
                    case rel => exact ⟨m + 1, false, by omega, by go_num, rfl, by rw [HPK.out]; exact HND.out, HNEXT.out _ HB7.out⟩
                    case measure => simp [intOf]; omega
                  · clear HNX HNE HNC HBK COD DOC NIL
                    go_wp2_with fail
                    refine region_after 25 mixed (by kernel_rfl) ?_
                    simp only [List.take_succ_cons, List.take_zero, List.drop_succ_cons, List.drop_zero]
                    repeat (first | go_big_quiet_step (with_reducible exact K18 _) | quiet_step (with_reducible exact K18 _))
                    refine wpQuiet_nil ?_
                    intro w7 hb7
                    have HB7 := hid' hb7
                    have hop := HXW.out w7 hb7
                    clear K18 q0 q2 q6 qp hb7
                    go_wp2
                    go_roundw
                    case rel => exact ⟨m + 1, false, by omega, by go_num, rfl, by rw [HPK.out]; exact HND.out, HNEXT.out _ HB7.out⟩
                    case measure => simp [intOf]; omega
            · have e : m = code.length := by omega
              subst e
              have HBT : Hid (qb = true) := by unfold Hid; rw [HBK.out, HCD.out, List.drop_length]; exact NIL.out _ _
              clear H30 NC BLK COD DOC HLE HAT HCD HBK NIL HFC
              cases qe
              · have HF0 : Hid (R = false) := HNE.out (by trivial)
                go_wp2_with (go_at_call 35; refine (HE31 _ IB0.out).mono ?_; rintro e1 w6 ⟨rfl, hb6⟩)
                go_ret
                exact ⟨by rw [HF0.out]; rfl, below_up IB0.out hb6⟩
              · go_wp2_with (go_at_call 35; refine (HE31 _ IB0.out).mono ?_; rintro e1 w6 ⟨rfl, hb6⟩; have HB6 := hid' (below_up H3I.out hb6))
                go_roundw
                case rel => exact ⟨k + 1, by omega, by go_num, HNX.out HBT.out (by trivial), HB6.out⟩
                case measure => simp [intOf]; omega
        · have e : k = bl.length := by omega
          subst e
          have HR1 : Hid (R = true) := YES.out HSIZ.out HZ.out (fun j hj => HK.out j hj hj)
          clear H30 H31h NE NC YES BLK COD NIL DOC HLE HAT
          go_wp2_with fail
          go_ret
          exact ⟨by rw [HR1.out]; rfl, HB0.out⟩
end Go.Proofs.Ytiehlkhpblldaaa

namespace Go.Proofs.Ytiehlkhpblldaaa
open Go.RowKit Go.Maps

def Told13 (p : Pg) (w : World) : Prop := ∀ W, Below w.heap.size w W → ∀ k (hk : k < p.funcs.length), Calls Try.prog 20 #[p.val, (p.funcs[k]).val] W fun e w' => e = .returned (.bool (fnF p p.funcs[k])) ∧ Below W.heap.size W w'
set_option maxRecDepth 40000 in
set_option maxHeartbeats 16000000 in
theorem prog10_of {w : World} {p : Pg} (hp : Pg.ok w p) (h13 : Told13 p w) :
    Calls Try.prog 13 #[p.val] w fun e w' => e = .returned (.bool (pgF p)) ∧ Below w.heap.size w w' := by
  have H13 : Hid (∀ W, Below w.heap.size w W → ∀ k (hk : k < p.funcs.length), Calls Try.prog 20 #[p.val, (p.funcs[k]).val] W fun e w' => e = .returned (.bool (fnF p p.funcs[k])) ∧ Below W.heap.size W w') := h13
  generalize hR : pgF p = R
  have MAY : Hid (R = (mayF p && p.funcs.all (fnF p))) := hR.symm
  have MAY2 : Hid (mayF p = (winF (p.funcs.length : Nat) 1 256 && (winF p.global 0 65536 && (datF p.global 0 p.data && (winF p.main 0 ((p.funcs.length : Nat) - 1) && decide (pms p = 0)))))) := rfl
  have NF : Hid (∀ k (hk : k < p.funcs.length), fnF p p.funcs[k] = false → R = false) := fun k hk h => by rw [MAY.out, all_no k hk h, Bool.and_false]
  have YF : Hid ((∀ k (hk : k < p.funcs.length), fnF p p.funcs[k] = true) → R = mayF p) := fun h => by rw [MAY.out, all_yes h, Bool.and_true]
  have HFN := hid' hp.fns
  have HDS := hid' hp.ds
  clear hR h13
  generalize fnF p = F at *
  have HPM : Hid (pms p = (p.funcs[p.main.toNat]?.map Fn.params).getD 0) := rfl
  generalize mayF p = my at *
  generalize pms p = pm at *
  obtain ⟨fv, funcs, gl, dv, data, main⟩ := p
  obtain ⟨fo, fc, ef, hff⟩ := hp.f.form fn5
  obtain ⟨dd, dc, ed, hdd⟩ := hp.d.form fi2
  have hfl := hp.fl
  have hdl := hp.dl
  dsimp only at *
  subst ef ed
  have HF := hid' hff
  have HD := hid' hdd
  unfold big at hfl hdl
  clear hp hff hdd
  unfold Pg.val at *
  dsimp only at *
  by_cases s1 : ¬ 1 ≤ funcs.length
  · have hwf : winF (funcs.length : Nat) 1 256 = false := decide_eq_false (by omega)
    have HF0 : Hid (R = false) := by unfold Hid; rw [MAY.out, MAY2.out, hwf]; simp
    have t1 : (funcs.length : Int) < 1 := by omega
    clear H13 NF YF MAY MAY2 hwf
    go_enter Try.func13, Try.ntmps13
    go_wp2
    go_ret
    exact ⟨by rw [HF0.out]; rfl, below1 _ _⟩
  replace s1 := Classical.not_not.1 s1
  have t1 : ¬ (funcs.length : Int) < 1 := by omega
  by_cases s2 : ¬ funcs.length ≤ 256
  · have hwf : winF (funcs.length : Nat) 1 256 = false := decide_eq_false (by omega)
    have HF0 : Hid (R = false) := by unfold Hid; rw [MAY.out, MAY2.out, hwf]; simp
    have t2 : (256 : Int) < funcs.length := by omega
    clear H13 NF YF MAY MAY2 hwf
    go_enter Try.func13, Try.ntmps13
    go_wp2
    go_ret
    exact ⟨by rw [HF0.out]; rfl, below1 _ _⟩
  replace s2 := Classical.not_not.1 s2
  have t2 : ¬ (256 : Int) < funcs.length := by omega
  by_cases s3 : ¬ 0 ≤ gl
  · have hwf : winF gl 0 65536 = false := decide_eq_false (by omega)
    have HF0 : Hid (R = false) := by unfold Hid; rw [MAY.out, MAY2.out, hwf]; simp
    clear H13 NF YF MAY MAY2 hwf
    go_enter Try.func13, Try.ntmps13
    go_wp2
    go_ret
    exact ⟨by rw [HF0.out]; rfl, below1 _ _⟩
  replace s3 := Classical.not_not.1 s3
  by_cases s4 : ¬ gl ≤ 65536
  · have hwf : winF gl 0 65536 = false := decide_eq_false (by omega)
    have HF0 : Hid (R = false) := by unfold Hid; rw [MAY.out, MAY2.out, hwf]; simp
    clear H13 NF YF MAY MAY2 hwf
    go_enter Try.func13, Try.ntmps13
    go_wp2
    go_ret
    exact ⟨by rw [HF0.out]; rfl, below1 _ _⟩
  replace s4 := Classical.not_not.1 s4
  by_cases s5 : ¬ 0 ≤ main
  · have hwf : winF main 0 ((funcs.length : Nat) - 1) = false := decide_eq_false (by omega)
    have HF0 : Hid (R = false) := by unfold Hid; rw [MAY.out, MAY2.out, hwf]; simp
    clear H13 NF YF MAY MAY2 hwf
    go_enter Try.func13, Try.ntmps13
    go_wp2
    go_ret
    exact ⟨by rw [HF0.out]; rfl, below1 _ _⟩
  replace s5 := Classical.not_not.1 s5
  by_cases s6 : ¬ main < funcs.length
  · have hwf : winF main 0 ((funcs.length : Nat) - 1) = false := decide_eq_false (by omega)
    have HF0 : Hid (R = false) := by unfold Hid; rw [MAY.out, MAY2.out, hwf]; simp
    clear H13 NF YF MAY MAY2 hwf
    go_enter Try.func13, Try.ntmps13
    go_wp2
    go_ret
    exact ⟨by rw [HF0.out]; rfl, below1 _ _⟩
  replace s6 := Classical.not_not.1 s6
  have HMY : Hid (my = (datF gl 0 data && decide (pm = 0))) := by
    have e1 : winF (funcs.length : Nat) 1 256 = true := decide_eq_true (by omega)
    have e2 : winF gl 0 65536 = true := decide_eq_true ⟨s3, s4⟩
    have e3 : winF main 0 ((funcs.length : Nat) - 1) = true := decide_eq_true (by omega)
    unfold Hid
    rw [MAY2.out, e1, e2, e3]
    rfl
  clear MAY MAY2
  go_enter Try.func13, Try.ntmps13
  go_wp2_with fail
  go_loopw [3] (fun i wr => ∃ k : Nat, k ≤ funcs.length ∧ i = .int .i64 k ∧ (∀ j (hj : j < funcs.length), j < k → F funcs[j] = true) ∧ Below (w.alloc (.cells #[.slice fo funcs.length fc, .int .i64 gl, .slice dd data.length dc, .int .i64 main] 25)).heap.size (w.alloc (.cells #[.slice fo funcs.length fc, .int .i64 gl, .slice dd data.length dc, .int .i64 main] 25)) wr) (fun i _ => funcs.length - (intOf i).toNat)
  case atStart => exact ⟨0, Nat.zero_le _, rfl, fun j _ hj => by omega, Below.refl _ _⟩
  case round =>
    obtain ⟨k, hk, rfl, hok, hbw⟩ := hrel
    have HK := hid' hok
    have HB := hid' hbw
    obtain ⟨hsz, hB0, p0, p1, p2, p3⟩ := pbox hbw
    have HB0 := hid' hB0
    clear hok hbw hB0
    by_cases hlt : k < funcs.length
    · obtain ⟨b, o, rfl, hb1, hc1, hx⟩ := HF.out k hlt
      have ho := HFN.out _ (List.getElem_mem hlt)
      obtain ⟨bo, bc, eb⟩ := ho.b.len
      have hfc := fun t : After wr => fn_cells (hx t.1 (below_up HB0.out t.2))
      have c0 := fun t => (hfc t).1
      have c1 := fun t => (hfc t).2.1
      have c2 := fun t => (hfc t).2.2.1
      have c3 := fun t => (hfc t).2.2.2.1
      have c4 : ∀ t : After wr, t.1.cell? ⟨b, o + k * 5 + 4, none⟩ = some (.slice bo funcs[k].blocks.length bc) := fun t => by rw [← eb]; exact (hfc t).2.2.2.2
      have y0 : ∀ t : After wr, t.1.cell? ⟨w.heap.size, 0, none⟩ = some (.slice (some ⟨b, o, none⟩) funcs.length fc) := fun t => keep_cell p0 t.2
      have y1 : ∀ t : After wr, t.1.cell? ⟨w.heap.size, 1, none⟩ = some (.int .i64 gl) := fun t => keep_cell p1 t.2
      have y2 : ∀ t : After wr, t.1.cell? ⟨w.heap.size, 2, none⟩ = some (.slice dd data.length dc) := fun t => keep_cell p2 t.2
      have y3 : ∀ t : After wr, t.1.cell? ⟨w.heap.size, 3, none⟩ = some (.int .i64 main) := fun t => keep_cell p3 t.2
      have h13 := fun W hW => H13.out W hW k hlt
      unfold Fn.val at h13
      rw [eb] at h13
      have HN : Hid (F funcs[k] = true → ∀ j (hj : j < funcs.length), j < k + 1 → F funcs[j] = true) := fun he j hj hjk => by
        by_cases e : j = k
        · subst e; exact he
        · exact HK.out j hj (by omega)
      have HNO := hid' (NF.out k hlt)
      clear hfc hx ho eb
      generalize F funcs[k] = q at *
      generalize funcs[k] = x at *
      have K13 : ∀ t : After wr, _ := fun t => Calls.after t (h13 t.1 (below_up HB0.out t.2))
      have hne := after_some wr
      clear h13
      go_wp2_with fail
      refine region_after 7 mixed (by kernel_rfl) ?_
      simp only [List.take_succ_cons, List.take_zero, List.drop_succ_cons, List.drop_zero]
      repeat (first | go_big_quiet_step (with_reducible exact K13 _) | quiet_step (with_reducible exact K13 _))
      refine wpQuiet_nil ?_
      intro w6 hb6
      have HB6 := hid' hb6
      clear K13 y0 y1 y2 y3 c0 c1 c2 c3 c4 hb6
      cases q
      · have HF0 : Hid (R = false) := HNO.out (by trivial)
        go_wp2_with fail
        go_ret
        exact ⟨by rw [HF0.out]; rfl, below_up HB0.out HB6.out⟩
      · go_wp2_with fail
        go_roundw
        case rel => exact ⟨k + 1, by omega, by go_num, HN.out (by trivial), below_on HB.out HB6.out HB.out.size⟩
        case measure => simp [intOf]; omega
    · have e : k = funcs.length := by omega
      subst e
      have HR1 : Hid (R = (datF gl 0 data && decide (pm = 0))) := by unfold Hid; rw [YF.out (fun k hk => HK.out k hk hk), HMY.out]
      clear H13 NF YF HMY HK hk hlt
      go_wp2_with fail
      clear HB0 p0 p1 p2 p3
      go_loopw [4, 5, 6] (fun a i n wr' => ∃ (k : Nat) (A : Int), k ≤ data.length ∧ i = .int .i64 k ∧ a = .int .i64 A ∧ 0 ≤ A ∧ A ≤ 65536 ∧ datF gl 0 data = datF gl A (data.drop k) ∧ Below (w.alloc (.cells #[.slice fo funcs.length fc, .int .i64 gl, .slice dd data.length dc, .int .i64 main] 25)).heap.size (w.alloc (.cells #[.slice fo funcs.length fc, .int .i64 gl, .slice dd data.length dc, .int .i64 main] 25)) wr') (fun _ i _ _ => data.length - (intOf i).toNat)
      case atStart => exact ⟨0, 0, Nat.zero_le _, rfl, rfl, by omega, by omega, rfl, HB.out⟩
      case round =>
        obtain ⟨k, A, hk, rfl, rfl, a0, a1, hdf, hbw⟩ := hrel
        have HDF := hid' hdf
        have HB := hid' hbw
        obtain ⟨hsz, hB0, p0, p1, p2, p3⟩ := pbox hbw
        have HB0 := hid' hB0
        clear hdf hbw hB0
        by_cases hlt : k < data.length
        · obtain ⟨b, o, rfl, hb1, hc1, hx⟩ := HD.out k hlt
          have HN := hid' (dat_next (g := gl) (at_ := A) hlt)
          have hs := HDS.out _ (List.getElem_mem hlt)
          have hfc := fun t : After wr => fi_cells (hx t.1 (below_up HB0.out t.2))
          have c0 := fun t => (hfc t).1
          have c1 := fun t => (hfc t).2
          obtain ⟨e0, e1⟩ := fi_cells (hx wr HB0.out)
          have y1 : ∀ t : After wr, t.1.cell? ⟨w.heap.size, 1, none⟩ = some (.int .i64 gl) := fun t => keep_cell p1 t.2
          have y2 : ∀ t : After wr, t.1.cell? ⟨w.heap.size, 2, none⟩ = some (.slice (some ⟨b, o, none⟩) data.length dc) := fun t => keep_cell p2 t.2
          have HWR : Hid (∀ W, Below wr.heap.size wr W → _) := fun W hW => fi_cells (hx W (below_up HB0.out hW))
          have hne := after_some wr
          unfold big at hs
          clear hfc hx
          generalize data[k] = x at *
          obtain ⟨xat, xby⟩ := x
          dsimp only at *
          have HN2 : Hid (datF gl 0 data = (decide (0 < xby.size) && (winF xat A (gl - xby.size) && datF gl (xat + xby.size) (data.drop (k + 1))))) := by unfold Hid; rw [HDF.out, HN.out]
          clear HN HDF
          by_cases g1 : xat < A
          · have d1 : decide (xat < A) = true := decide_eq_true g1
            have HF0 : Hid (R = false) := by unfold Hid; rw [HR1.out, HN2.out]; rw [show winF xat A (gl - xby.size) = false from decide_eq_false (by omega)]; simp
            go_wp2_with fail
            refine region_after 30 mixed (by kernel_rfl) ?_
            simp only [List.take_succ_cons, List.take_zero, List.drop_succ_cons, List.drop_zero]
            repeat (first | go_big_quiet_step (fail) | quiet_step (fail))
            refine wpQuiet_nil ?_
            intro w6 hb6
            have HB6 := hid' hb6
            clear c0 c1 y1 y2 hb6
            go_wp2_with fail
            go_ret
            exact ⟨by rw [HF0.out]; rfl, below_up HB0.out HB6.out⟩
          have d1 : decide (xat < A) = false := decide_eq_false g1
          by_cases g2 : xby.size = 0
          · have d2 : ((xby.size : Int) == 0) = true := by simp [g2]
            have HF0 : Hid (R = false) := by unfold Hid; rw [HR1.out, HN2.out]; rw [g2]; simp
            go_wp2_with fail
            refine region_after 30 mixed (by kernel_rfl) ?_
            simp only [List.take_succ_cons, List.take_zero, List.drop_succ_cons, List.drop_zero]
            repeat (first | go_big_quiet_step (fail) | quiet_step (fail))
            refine wpQuiet_nil ?_
            intro w6 hb6
            have HB6 := hid' hb6
            clear c0 c1 y1 y2 hb6
            go_wp2_with fail
            go_ret
            exact ⟨by rw [HF0.out]; rfl, below_up HB0.out HB6.out⟩
          have d2 : ((xby.size : Int) == 0) = false := beq_eq_false_iff_ne.2 (by omega)
          by_cases g3 : gl < xby.size
          · have d3 : decide (gl < (xby.size : Int)) = true := decide_eq_true g3
            have HF0 : Hid (R = false) := by unfold Hid; rw [HR1.out, HN2.out]; rw [show winF xat A (gl - xby.size) = false from decide_eq_false (by omega)]; simp
            go_wp2_with fail
            refine region_after 30 mixed (by kernel_rfl) ?_
            simp only [List.take_succ_cons, List.take_zero, List.drop_succ_cons, List.drop_zero]
            repeat (first | go_big_quiet_step (fail) | quiet_step (fail))
            refine wpQuiet_nil ?_
            intro w6 hb6
            have HB6 := hid' hb6
            clear c0 c1 y1 y2 hb6
            go_wp2_with fail
            go_ret
            exact ⟨by rw [HF0.out]; rfl, below_up HB0.out HB6.out⟩
          have d3 : decide (gl < (xby.size : Int)) = false := decide_eq_false g3
          by_cases g4 : gl - xby.size < xat
          · have d4 : decide (gl - (xby.size : Int) < xat) = true := decide_eq_true g4
            have HF0 : Hid (R = false) := by unfold Hid; rw [HR1.out, HN2.out]; rw [show winF xat A (gl - xby.size) = false from decide_eq_false (by omega)]; simp
            go_wp2_with fail
            refine region_after 30 mixed (by kernel_rfl) ?_
            simp only [List.take_succ_cons, List.take_zero, List.drop_succ_cons, List.drop_zero]
            repeat (first | go_big_quiet_step (fail) | quiet_step (fail))
            refine wpQuiet_nil ?_
            intro w6 hb6
            have HB6 := hid' hb6
            clear c0 c1 y1 y2 hb6
            go_wp2_with fail
            go_ret
            exact ⟨by rw [HF0.out]; rfl, below_up HB0.out HB6.out⟩
          have d4 : decide (gl - (xby.size : Int) < xat) = false := decide_eq_false g4
          have HND : Hid (datF gl 0 data = datF gl (xat + xby.size) (data.drop (k + 1))) := by
            unfold Hid
            rw [HN2.out, decide_eq_true (by omega : 0 < xby.size), show winF xat A (gl - xby.size) = true from decide_eq_true (by omega)]
            rfl
          have HA : Hid (0 ≤ xat + xby.size ∧ xat + xby.size ≤ 65536) := by unfold Hid; omega
          clear HN2
          go_wp2_with fail
          refine region_after 30 mixed (by kernel_rfl) ?_
          simp only [List.take_succ_cons, List.take_zero, List.drop_succ_cons, List.drop_zero]
          repeat (first | go_big_quiet_step (fail) | quiet_step (fail))
          refine wpQuiet_nil ?_
          intro w6 hb6
          have HB6 := hid' hb6
          obtain ⟨e0, e1⟩ := HWR.out w6 HB6.out
          have x1 := y1 ⟨w6, hb6⟩
          have x2 := y2 ⟨w6, hb6⟩
          dsimp only at x1 x2
          clear c0 c1 y1 y2
          go_wp2_with fail
          go_roundw
          case rel => exact ⟨k + 1, _, by omega, by go_num, rfl, HA.out.1, HA.out.2, HND.out, below_on HB.out HB6.out HB.out.size⟩
          case measure => simp [intOf]; omega
        · have e : k = data.length := by omega
          subst e
          have HDT : Hid (R = decide (pm = 0)) := by unfold Hid; rw [HR1.out, HDF.out, List.drop_length]; rfl
          obtain ⟨mk, rfl⟩ : ∃ mk : Nat, main = mk := ⟨main.toNat, by omega⟩
          have hmk : mk < funcs.length := by omega
          obtain ⟨b, o, rfl, hb1, hc1, hx⟩ := HF.out mk hmk
          have c1 := (fn_cells (hx wr HB0.out)).2.1
          have HPX : Hid (pm = funcs[mk].params) := by unfold Hid; rw [HPM.out, Int.toNat_natCast, List.getElem?_eq_getElem hmk]; rfl
          clear hx
          generalize funcs[mk] = fx at *
          go_wp2_with fail
          go_ret
          refine ⟨?_, HB0.out⟩
          rw [HDT.out, HPX.out]
          by_cases hh : fx.params = 0 <;> simp [hh]

end Go.Proofs.Ytiehlkhpblldaaa
