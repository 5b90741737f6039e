/- The document's Count goes on. -/
import Derived.Test.YtiehlkhpblldaaaH51
set_option linter.unusedVariables false
set_option linter.unusedSimpArgs false
set_option maxRecDepth 20000
set_option maxHeartbeats 8000000
namespace Go.Proofs.Ytiehlkhpblldaaa
open Go.RowKit Go.Maps
theorem bytes_get2 {l : List Int} (h : BytesOk l) (k : Nat) : 0 ≤ l.getD k 0 ∧ l.getD k 0 < 256 := by
  by_cases hk : k < l.length
  · have := h k hk
    simpa [List.getD, hk] using this
  · simp [List.getD, hk]
theorem wpList_copy_run2 {w w' : World} {ops : Array Oper} {rest : List Oper} {o : Oper} {a : Act} {Q : Exit → Act → World → Prop} (hgd : o.guard = none) (s x : Operand) (t u : TypeId) (ho : o.op = .call { callee := .builtin .copy, args := #[s, x], argTypes := #[t, u] })
    (v xv v' : Value) (hs : a.eval s = v) (hx : a.eval x = xv) (hr : (Builtin.copy_ #[t, u] o.type #[v, xv]).run Try.prog w = .ok v' w') (h : wpList Try.prog ops Q rest (a.put o.dst v') w') : wpList Try.prog ops Q (o :: rest) a w := by
  refine wpList_plain hgd fun K hK => ?_
  unfold Oper.wp execOp
  simp only [ho, resolve, invoke, builtin, Sem.run_bind, Sem.run_pure, Result.andThen_ok, List.map_toArray, List.map_cons, List.map_nil, hs, hx, hr]
  exact hK _ _ h
theorem conv_outD {C : Cst} {W0 W : World} {r : Nat} {d : Ds} {v : Dv} (h : DocM C W0 r W d v) : (convert 59 9 v.ov).run Try.prog W = .ok (.string (strOfNums d.out)) W := by
  have ho := h.os
  generalize hv : v.ov = vv at *
  rcases ho.2 with ⟨e, e0⟩ | ⟨g, cap, cur, e, _⟩
  · have e1 : d.out = [] := List.eq_nil_of_length_eq_zero e0
    rw [e, e1]
    exact run_convert_bytes_nil W 59 5 Try.underlying59 Try.underlying5 0 0 9 Try.underlying9
  · subst e
    refine run_convert_bytes_arg W 59 5 Try.underlying59 Try.underlying5 g 0 d.out.length cap d.out rfl (fun i hi => ?_) 9 Try.underlying9
    rw [World.ownsRow.cellAt ho _ (by omega), flat_by]
    simp [List.getD, hi]
/-- Bytes are laid into the globals. -/
theorem DocM.bytesG {C : Cst} {W0 W : World} {r : Nat} {d : Ds} {v : Dv} (h : DocM C W0 r W d v) (vs : List Int) (o : Nat) : DocM C W0 r (W.setCells v.gb o (flat bcel vs)) { d with gl := putL d.gl o vs } v := by
  have hlt1 := (Array.getElem?_eq_some_iff.1 h.gs).1
  have hlt2 := (Array.getElem?_eq_some_iff.1 h.ks).1
  have K := keptCells v.gb (flat bcel vs) o W
  refine { h with
    below := h.below.trans (K.below h.below.size (fun k e => by have := h.gr; omega))
    rc := ?_
    gs := row_put vs o W d.gl h.gs
    ks := (kept_two K hlt2 (Ne.symm h.gk)).trans h.ks
    os := own_other h.os h.og K }
  have := kept_blk h.rc h.gs (by decide) K
  refine this.trans ?_
  simp [dcells, putL_length]
set_option maxHeartbeats 40000000 in
theorem count12_yes {W : World} {p : Pg} (hp : Pg.ok W p) {input : ByteArray} (hin : input.size ≤ big2) {fuel deep sf sa : Int} (hfu : fuel ≤ 32768) {sv : Value} {sl : List Int} (hsv : Src icell W sv sl) (hsl : sl.length * 8 ≤ big) (hpg : pgF p = true) :
    Calls Try.prog 12 #[p.val, .string input, .int .i64 fuel, .int .i64 deep, .int .i64 sa, sv, .int .i64 sf] W fun e w' => e = .returned (.tuple #[.int .i64 (runD (cstOf p input deep sf sa sv sl) fuel).2.count, (enD (runD (cstOf p input deep sf sa sv sl) fuel)).val]) ∧ Below W.heap.size W w' := by
  have P := pg_ok hpg
  have H13 : Hid (∀ w1, Below W.heap.size W w1 → Calls Try.prog 13 #[p.val] w1 fun e w' => e = .returned (.bool (pgF p)) ∧ Below w1.heap.size w1 w') := fun w1 h => prog13 (hp.on h)
  rw [hpg] at H13
  have HPG := hid' hp
  have HSV := hid' hsv
  obtain ⟨fo, fc, ef⟩ := hp.f.len
  obtain ⟨dd, dc, ed, hdd⟩ := hp.d.form fi2
  obtain ⟨so, sc, es⟩ := hsv.len
  subst es
  obtain ⟨G, hG⟩ : ∃ G : Nat, p.global = G := ⟨p.global.toNat, by have := P.gl; omega⟩
  have hG2 : G ≤ 65536 := by have := P.gl; omega
  obtain ⟨M, hM⟩ : ∃ M : Nat, p.main = M := ⟨p.main.toNat, by have := P.main; omega⟩
  have epv : p.val = .agg #[.slice fo p.funcs.length fc, .int .i64 G, .slice dd p.data.length dc, .int .i64 M] := by unfold Pg.val; rw [ef, hG, hM, ed]
  rw [epv] at H13 ⊢
  have HP := hid' P
  obtain ⟨C, hC⟩ : ∃ C, C = cstOf p input deep sf sa (.slice so sl.length sc) sl := ⟨_, rfl⟩
  obtain ⟨Q, hQd⟩ : ∃ Q, Q = runD C fuel := ⟨_, rfl⟩
  rw [← hC, ← hQd]
  obtain ⟨Z, hZ, hmk2⟩ := run_stack
  have hmk1 : ∀ w : World, (Instr.makeSlice 59 (.int .i64 G) (.int .i64 G)).run Try.prog w = .ok (.slice (some ⟨w.heap.size, 0, none⟩) G G) (w.alloc (.cells (Array.replicate G (.int .u8 0)) 5)) := fun w => run_bytes w (by omega)
  have hg0 : (flat bcel (laidN p 0)).toArray = Array.replicate G (.int .u8 0) := by
    have : laidN p 0 = List.replicate G 0 := by unfold laidN; rw [hG]; rfl
    rw [this, flat_repB, List.toArray_replicate]
  have hlen0 : ∀ k, (laidN p k).length = G := fun k => by rw [laidN_len, hG]; rfl
  clear hp hsv P hpg
  go_enter Try.func12, Try.ntmps12
  go_upto_region 3 with (go_at_call 13; refine (H13.out _ (below2 _ _ _)).mono ?_; rintro e1 w1 ⟨rfl, hb1⟩; obtain ⟨hp1, hr1, hB1, hs1⟩ := blk2 hb1; have HR1 := hid' hr1; have HP1 := hid' hp1; have HB1 := hid' hB1; clear hr1 hp1 hB1 hb1)
  have hp4 : ∀ w2 : World, w2.heap[W.heap.size]? = some (.cells #[.slice fo p.funcs.length fc, .int .i64 G, .slice dd p.data.length dc, .int .i64 M] 25 (0, 0)) → w2.cell? ⟨W.heap.size, 0, none⟩ = some (.slice fo p.funcs.length fc) ∧ w2.cell? ⟨W.heap.size, 1, none⟩ = some (.int .i64 G) ∧ w2.cell? ⟨W.heap.size, 2, none⟩ = some (.slice dd p.data.length dc) ∧ w2.cell? ⟨W.heap.size, 3, none⟩ = some (.int .i64 M) := fun w2 h2 => by
    have := fun o => cell_of_row w2 W.heap.size o _ 25 (0, 0) h2
    exact ⟨this 0, this 1, this 2, this 3⟩
  have HP4 := hid' hp4
  obtain ⟨p0, p1, p2, p3⟩ := hp4 w1 HP1.out
  clear hp4
  have hlt1 : W.heap.size < w1.heap.size := by omega
  have hne1 : ¬ W.heap.size = w1.heap.size := by omega
  have hne2 : ¬ W.heap.size = w1.heap.size + 1 := by omega
  have hGi : (0 : Int) ≤ G := by omega
  have hfin : ∀ w4 gb kb, Below w1.heap.size w1 w4 → w1.heap.size ≤ gb → w4.heap[gb]? = some (.cells (Array.replicate G (.int .u8 0)) 5 (0, 0)) → w1.heap.size ≤ kb → w4.heap[kb]? = some (.cells Z 5 (0, 0)) → gb ≠ kb → ∃ v, DocM C w1 w4.heap.size (w4.alloc (.cells #[.slice fo p.funcs.length fc, .int .i64 G, .slice dd p.data.length dc, .int .i64 M, .string input, .int .i64 fuel, .int .i64 deep, .int .i64 0, .slice none 0 0, .slice (some ⟨gb, 0, none⟩) G G, .slice (some ⟨kb, 0, none⟩) 262144 262144, .int .i64 8388608, .int .i64 0, .int .i64 0, .bool false, .int .i64 sa, .slice so sl.length sc, .int .i64 sf, .int .i64 0] 76)) (d0D p fuel 0) v := fun w4 gb kb a1 a2 a3 a4 a5 a6 => by
    have h := doc_begins (p := p) (input := input) (deep := deep) (sf := sf) (sa := sa) (fuel := fuel) (HPG.out.on HB1.out) (HSV.out.on HB1.out) hsl a1 a2 (by rw [hg0]; exact a3) a4 (by rw [← hZ]; exact a5) a6
    rw [← hC] at h
    unfold dcells at h
    rw [hC] at h ⊢
    unfold cstOf d0D at h
    dsimp only at h
    rw [ef, ed, hG, hM, hlen0, stk_len] at h
    exact ⟨_, h⟩
  have HFIN := hid' hfin
  clear hfin hg0 hZ
  have HFa : Hid (∃ v, DocM C w1 (w1.heap.size + 1 + 1) ((((w1.alloc (.cells (Array.replicate G (.int .u8 0)) 5)).alloc (.cells Z 5)).alloc (.cells #[.slice fo p.funcs.length fc, .int .i64 G, .slice dd p.data.length dc, .int .i64 M, .string input, .int .i64 fuel, .int .i64 deep, .int .i64 0, .slice none 0 0, .slice (some ⟨w1.heap.size, 0, none⟩) G G, .slice (some ⟨w1.heap.size + 1, 0, none⟩) 262144 262144, .int .i64 8388608, .int .i64 0, .int .i64 0, .bool false, .int .i64 sa, .slice so sl.length sc, .int .i64 sf, .int .i64 0] 76)).drew) (d0D p fuel 0) v) := by
    have hs : ((w1.alloc (.cells (Array.replicate G (.int .u8 0)) 5)).alloc (.cells Z 5)).heap.size = w1.heap.size + 1 + 1 := by simp
    obtain ⟨v, hv⟩ := HFIN.out ((w1.alloc (.cells (Array.replicate G (.int .u8 0)) 5)).alloc (.cells Z 5)) (w1.heap.size) (w1.heap.size + 1) (below2 _ _ _) (Nat.le_refl _) (by rw [Below.heap_alloc _ _ _ (by simp)]; exact heap_alloc_new _ _) (by omega) (by have := heap_alloc_new (w1.alloc (.cells (Array.replicate G (.int .u8 0)) 5)) (.cells Z 5); rwa [show (w1.alloc (.cells (Array.replicate G (.int .u8 0)) 5)).heap.size = w1.heap.size + 1 by simp] at this) (by omega)
    rw [hs] at hv
    exact ⟨v, hv.on (drew1 _)⟩
  have HFb : Hid (∃ v, DocM C w1 (w1.heap.size + 1 + 1) ((((w1.alloc (.cells Z 5)).alloc (.cells (Array.replicate G (.int .u8 0)) 5)).alloc (.cells #[.slice fo p.funcs.length fc, .int .i64 G, .slice dd p.data.length dc, .int .i64 M, .string input, .int .i64 fuel, .int .i64 deep, .int .i64 0, .slice none 0 0, .slice (some ⟨w1.heap.size + 1, 0, none⟩) G G, .slice (some ⟨w1.heap.size, 0, none⟩) 262144 262144, .int .i64 8388608, .int .i64 0, .int .i64 0, .bool false, .int .i64 sa, .slice so sl.length sc, .int .i64 sf, .int .i64 0] 76)).drew) (d0D p fuel 0) v) := by
    have hs : ((w1.alloc (.cells Z 5)).alloc (.cells (Array.replicate G (.int .u8 0)) 5)).heap.size = w1.heap.size + 1 + 1 := by simp
    obtain ⟨v, hv⟩ := HFIN.out ((w1.alloc (.cells Z 5)).alloc (.cells (Array.replicate G (.int .u8 0)) 5)) (w1.heap.size + 1) (w1.heap.size) (below2 _ _ _) (by omega) (by have := heap_alloc_new (w1.alloc (.cells Z 5)) (.cells (Array.replicate G (.int .u8 0)) 5); rwa [show (w1.alloc (.cells Z 5)).heap.size = w1.heap.size + 1 by simp] at this) (Nat.le_refl _) (by rw [Below.heap_alloc _ _ _ (by simp)]; exact heap_alloc_new _ _) (by omega)
    rw [hs] at hv
    exact ⟨v, hv.on (drew1 _)⟩
  go_cut [16] (fun rv wx => ∃ r v, rv = .pointer (some ⟨r, 0, none⟩) ∧ DocM C w1 r wx (d0D p fuel 0) v)
  case first =>
    go_region_law (fail)
    all_goals
      go_wp2_with fail
      go_meet
      first
        | (obtain ⟨v, hv⟩ := HFa.out; exact ⟨_, v, rfl, hv⟩)
        | (obtain ⟨v, hv⟩ := HFb.out; exact ⟨_, v, rfl, hv⟩)
  case rest =>
    obtain ⟨r, v, rfl, hR⟩ := hcut
    have hCp : C.p = p := by rw [hC]; rfl
    have hCi : C.input = input := by rw [hC]; rfl
    have HDD : Hid (∀ k (hk : k < p.data.length), 0 ≤ p.data[k].at_ ∧ p.data[k].at_ + p.data[k].by_.size ≤ G ∧ 0 < p.data[k].by_.size) := fun k hk => by rw [← hG]; exact dat_at _ _ HP.out.data k hk
    have HSS : Hid (∀ k (hk : k < p.data.length), laidN p (k + 1) = putL (laidN p k) p.data[k].at_.toNat (bytL p.data[k].by_)) := fun k hk => laidN_succ p hk
    have hdl := HPG.out.dl
    unfold big at hdl
    have HBR := hid' hR.below
    have HR0 := hid' hR
    have HDX := hid' hdd
    clear hR HFa HFb HFIN hmk1 hmk2 H13 p0 p1 p2 p3 hdd
    go_wp2
    go_loopw [17] (fun i wr => ∃ (k : Nat) (v : Dv), k ≤ p.data.length ∧ i = .int .i64 k ∧ DocM C w1 r wr (d0D p fuel k) v) (fun i _ => p.data.length - (intOf i).toNat)
    case atStart => exact ⟨0, v, Nat.zero_le _, rfl, HR0.out⟩
    case round =>
      obtain ⟨k, v, hk, rfl, hM⟩ := hrel
      have HM := hid' hM
      obtain ⟨q0, q1, q2, q3⟩ := HP4.out wr (by rw [hM.below.block _ hlt1]; exact HP1.out)
      clear hM HR0
      by_cases hlt : k < p.data.length
      · obtain ⟨db, doff, rfl, hdb, hdc, hx⟩ := HDX.out k hlt
        have HBW : Below W.heap.size W wr := below_up HB1.out HM.out.below
        have d0 := hx wr HBW 0 (by decide)
        have d1 := hx wr HBW 1 (by decide)
        simp only [Fi.cells, List.getElem?_cons_succ, List.getElem?_cons_zero, Nat.add_zero] at d0 d1
        obtain ⟨z1, z2, z3⟩ := HDD.out k hlt
        have HS1 := hid' (HSS.out k hlt)
        have hki : (k : Int) < p.data.length := by omega
        have hkc : (k : Int) < dc := by omega
        have hg9 : wr.cell? ⟨r, 9, none⟩ = some (.slice (some ⟨v.gb, 0, none⟩) G G) := by have := HM.out.cell 9; rw [this]; show some (Value.slice _ (d0D p fuel k).gl.length (d0D p fuel k).gl.length) = _; rw [show (d0D p fuel k).gl.length = G from hlen0 k]
        have hrlt := HM.out.lt
        clear hx
        generalize p.data[k] = f at *
        obtain ⟨A, hA⟩ : ∃ A : Nat, f.at_ = A := ⟨f.at_.toNat, by omega⟩
        rw [hA] at d0 z1 z2
        have hAG : ¬ G = A := by omega
        have hAG2 : (A : Int) ≤ G := by omega
        have hAG3 : A < G := by omega
        have hgs := HM.out.gs
        have hll : (flat bcel (d0D p fuel k).gl).length = G := by rw [flat_length by1, show (d0D p fuel k).gl.length = G from hlen0 k]; omega
        have HCP : Hid (∀ w6, Below wr.heap.size wr w6 → ∀ ty cap, (Builtin.copy_ #[59, 9] ty #[.slice (some ⟨v.gb, A, none⟩) (G - A) cap, .string f.by_]).run Try.prog w6 = .ok (goInt f.by_.size) (w6.setCells v.gb A (flat bcel (bytL f.by_))) ∧ DocM C w1 r (w6.setCells v.gb A (flat bcel (bytL f.by_))) (d0D p fuel (k + 1)) v) := fun w6 hb6 ty cap => by
          have hm6 := HM.out.on hb6
          refine ⟨?_, ?_⟩
          · rw [← flat_byt]
            refine run_copy_string (P := Try.prog) _ 59 9 ty 5 v.gb A (G - A) cap f.by_ Try.underlying59 szr5 (by omega) (fun j hj => ?_) (fun j hj => ?_)
            · rw [cell_of_row _ _ _ _ 5 (0, 0) hm6.gs, List.getElem?_toArray, List.getElem?_eq_getElem (by omega)]
              rfl
            · exact frozen_of_row w6 _ _ _ 5 hm6.gs
          · have hput := hm6.bytesG (bytL f.by_) A
            have hdd1 : ({ d0D p fuel k with gl := putL (d0D p fuel k).gl A (bytL f.by_) } : Ds) = d0D p fuel (k + 1) := by
              unfold d0D
              dsimp only
              rw [HS1.out, hA]
              rfl
            rw [hdd1] at hput
            exact hput
        have g9 : ∀ q : After wr, q.1.cell? ⟨r, 9, none⟩ = some (.slice (some ⟨v.gb, 0, none⟩) G G) := fun q => keep_cell hg9 q.2
        have g2 : ∀ q : After wr, q.1.cell? ⟨W.heap.size, 2, none⟩ = some (.slice (some ⟨db, doff, none⟩) p.data.length dc) := fun q => keep_cell q2 q.2
        have gd0 : ∀ q : After wr, q.1.cell? ⟨db, doff + k * 2, none⟩ = some (.int .i64 A) := fun q => keep_cell d0 q.2
        have gd1 : ∀ q : After wr, q.1.cell? ⟨db, doff + k * 2 + 1, none⟩ = some (.string f.by_) := fun q => keep_cell d1 q.2
        have hne := after_some wr
        clear hgs hll
        go_wp2
        refine region_after 17 mixed (by kernel_rfl) ?_
        simp only [List.take_succ_cons, List.take_zero, List.drop_succ_cons, List.drop_zero]
        repeat (first | go_big_quiet_step (fail) | quiet_step (fail))
        refine wpQuiet_nil ?_
        intro w6 hb6
        clear g9 g2 gd0 gd1
        refine wpList_copy_run2 rfl (.tmp 54) (.tmp 60) 59 9 rfl _ _ _ rfl rfl (HCP.out w6 hb6 _ _).1 ?_
        have HPV := hid' (HCP.out w6 hb6 0 0).2
        clear HCP
        generalize w6.setCells v.gb A (flat bcel (bytL f.by_)) = w7 at *
        go_wp2
        refine ⟨⟨k + 1, v, by omega, by go_num, HPV.out⟩, ?_⟩
        simp [intOf]
        omega
      · have e : k = p.data.length := by omega
        subst e
        have hPC : PgOk C.p := by rw [hCp]; exact HP.out
        have hmain := hPC.main
        rw [hCp, hM] at hmain
        have hd0 : DOk C 1 (d0D p fuel p.data.length) := by
          refine ⟨⟨by show (laidN p _).length ≤ 65536; rw [hlen0]; exact hG2, stk_len, by show (8126464 : Int) ≤ 8388608 ∧ (8388608 : Int) ≤ 8388608; decide⟩, ⟨fun o => ?_, fun o => ?_⟩, hfu, by show (0 : Int) ≤ 0 ∧ (0 : Int) + fuel.toNat + 1 ≤ 40000; omega, by show 0 + fuel.toNat + 1 ≤ 40000; omega, Nat.zero_le _, by show (0 : Int) ≤ 0 ∧ (0 : Int) + fuel.toNat + 1 ≤ 40000; omega, fun k hk => by cases hk⟩
          · have hc := (st0_core (C := cstOf p input deep sf sa (.slice so sl.length sc) sl) HP.out fuel).mem.gb
            exact bytes_get2 hc o
          · show 0 ≤ stk0.getD o 0 ∧ stk0.getD o 0 < 256
            exact bytes_get2 (bytes_rep 262144) o
        have hCin : C.input.size ≤ 281474976710656 := by rw [hCi]; exact hin
        have hfM : fnOf C M = p.funcs.getD M fn0 := by unfold fnOf; rw [hCp]
        have h19 := call19_all (W0 := w1) (r := r) hPC hCin (fuel.toNat + 1) M [] (d0D p fuel p.data.length) v wr (.slice none 0 0) (by rw [hCp]; omega) (by have := hPC.pm; rw [hCp, hM] at this; rw [hfM]; simpa using this.symm) (fun k => by simp [List.getD]) hd0 (by show fuel.toNat < _; omega) rfl rfl HM.out ⟨w1.heap.size, Nat.le_refl _, own_nil _ _ _ _⟩
        have hQ2 : callD C (bodyD C (fuel.toNat + 1)) M [] (d0D p fuel p.data.length) = Q := by rw [hQd]; unfold runD; rw [hCp, hM]; rfl
        have hbk := call_keeps hPC (fuel.toNat + 1) M [] (d0D p fuel p.data.length) (by rw [hCp]; omega) (by have := hPC.pm; rw [hCp, hM] at this; rw [hfM]; simpa using this.symm) (fun k => by simp [List.getD]) hd0 (by show fuel.toNat < _; omega) rfl rfl
        rw [hQ2] at h19 hbk
        have HBK := hid' hbk
        clear hbk hQ2 hd0 hQd HSS HDD HDX HM
        go_wp2_with (go_at_call 19; refine h19.mono ?_; rintro e1 w5 ⟨rfl, ⟨v5, hD5⟩, hK5⟩; have HD5 := hid' hD5; clear hD5 hK5)
        have g8 : ∀ q : After w5, q.1.cell? ⟨r, 8, none⟩ = some v5.ov := fun q => keep_cell (HD5.out.cell 8) q.2
        have g7 : ∀ q : After w5, q.1.cell? ⟨r, 7, none⟩ = some (.int .i64 Q.2.used) := fun q => keep_cell (HD5.out.cell 7) q.2
        have gcv : ∀ q : After w5, (convert 59 9 v5.ov).run Try.prog q.1 = .ok (.string (strOfNums Q.2.out)) q.1 := fun q => conv_outD (HD5.out.on q.2)
        have hne := after_some w5
        clear q0 q1 q2 q3
        generalize hov : v5.ov = ov5 at *
        generalize hso : strOfNums Q.2.out = so5 at *
        refine region_mix (fun q => match q with
          | 0 => w5.drew
          | _ => w5.drew.alloc (.cells #[.int .i64 0, .int .i32 0, .int .i64 0, .string ⟨#[]⟩, .int .i64 0] 31)) 10 1 mixed (by kernel_rfl) rfl (fun q => by
            have hd : Below w5.heap.size w5 w5.drew := ⟨rfl, rfl, rfl, Nat.le_refl _, fun _ _ => rfl⟩
            cases q with
            | zero => exact hd
            | succ q => exact hd.alloc hd.size _) ?_
        simp only [List.take_succ_cons, List.take_zero, List.drop_succ_cons, List.drop_zero]
        repeat (
          refine wpFree_step (fun K hK => ?_)
          go_simp
          first
            | (refine hK _ ?_; clear hK K)
            | (apply Exists.intro
               refine ⟨fun _ => ?_, hK _ ?_⟩
               (with_reducible rfl)
               clear hK K))
        refine wpFree_nil ?_
        refine headX_one (fun q => match q with
          | 0 => w5.drew
          | _ => w5.drew.alloc (.cells #[.int .i64 0, .int .i32 0, .int .i64 0, .string ⟨#[]⟩, .int .i64 0] 31)) (p0 := .pointer (some ⟨w5.heap.size, 0, none⟩)) rfl (by omega) (by kernel_rfl) ?_ ?_
        · exact ⟨by simp [go_sem], by simp [go_sem]⟩
        refine ⟨by kernel_rfl, ?_⟩
        clear g8 g7 gcv
        have H6 : Hid (DocM C w1 r ((w5.alloc (.cells #[.int .i64 0, .int .i32 0, .int .i64 0, .string so5, .int .i64 Q.2.used] 31)).drew) Q.2 v5 ∧ ((w5.alloc (.cells #[.int .i64 0, .int .i32 0, .int .i64 0, .string so5, .int .i64 Q.2.used] 31)).drew).heap[w5.heap.size]? = some (.cells #[.int .i64 0, .int .i32 0, .int .i64 0, .string so5, .int .i64 Q.2.used] 31 (0, 0))) := ⟨(HD5.out.on (below1 _ _)).on (drew1 _), heap_alloc_new _ _⟩
        have hle5 := HD5.out.below.size
        have hr5 := HD5.out.lt
        have hrb1 : ¬ r = w5.heap.size := by omega
        have hrb2 : ¬ w5.heap.size = r := by omega
        have HSO := hid' hso
        cases hov2 : Q.2.over with
        | true =>
          have hE : (enD Q).val = .agg #[.int .i64 3, .int .i32 0, .int .i64 0, .string so5, .int .i64 Q.2.used] := by
            unfold enD En.val
            rw [if_pos hov2, if_pos hov2, if_pos hov2, HSO.out]
          have H7 : Hid (DocM C w1 r ((w5.alloc (.cells #[.int .i64 3, .int .i32 0, .int .i64 0, .string so5, .int .i64 Q.2.used] 31)).drew) Q.2 v5 ∧ ((w5.alloc (.cells #[.int .i64 3, .int .i32 0, .int .i64 0, .string so5, .int .i64 Q.2.used] 31)).drew).heap[w5.heap.size]? = some (.cells #[.int .i64 3, .int .i32 0, .int .i64 0, .string so5, .int .i64 Q.2.used] 31 (0, 0))) := ⟨(HD5.out.on (below1 _ _)).on (drew1 _), heap_alloc_new _ _⟩
          have c14 : ((w5.alloc (.cells #[.int .i64 0, .int .i32 0, .int .i64 0, .string so5, .int .i64 Q.2.used] 31)).drew).cell? ⟨r, 14, none⟩ = some (.bool true) := by rw [← hov2]; exact H6.out.1.cell 14
          have b0 := cell_of_row ((w5.alloc (.cells #[.int .i64 0, .int .i32 0, .int .i64 0, .string so5, .int .i64 Q.2.used] 31)).drew) w5.heap.size 0 _ 31 (0, 0) H6.out.2
          have b1 := cell_of_row ((w5.alloc (.cells #[.int .i64 0, .int .i32 0, .int .i64 0, .string so5, .int .i64 Q.2.used] 31)).drew) w5.heap.size 1 _ 31 (0, 0) H6.out.2
          have b2 := cell_of_row ((w5.alloc (.cells #[.int .i64 0, .int .i32 0, .int .i64 0, .string so5, .int .i64 Q.2.used] 31)).drew) w5.heap.size 2 _ 31 (0, 0) H6.out.2
          simp only [List.getElem?_toArray, List.getElem?_cons_succ, List.getElem?_cons_zero] at b0 b1 b2
          go_wp2
          clear c14 b0 b1 b2
          clear H6
          generalize ((w5.alloc (.cells #[.int .i64 3, .int .i32 0, .int .i64 0, .string so5, .int .i64 Q.2.used] 31)).drew) = w7 at *
          have t18 : ∀ q : After w7, q.1.cell? ⟨r, 18, none⟩ = some (.int .i64 Q.2.count) := fun q => keep_cell (H7.out.1.cell 18) q.2
          have tb : ∀ (q : After w7) (o : Nat), q.1.cell? ⟨w5.heap.size, o, none⟩ = (#[.int .i64 3, .int .i32 0, .int .i64 0, .string so5, .int .i64 Q.2.used] : Array Value)[o]? := fun q o => by
            rw [cell_of_row q.1 w5.heap.size o _ 31 (0, 0) (by rw [q.2.block _ (Array.getElem?_eq_some_iff.1 H7.out.2).1]; exact H7.out.2)]
          have tb0 := fun q => tb q 0
          have tb1 := fun q => tb q 1
          have tb2 := fun q => tb q 2
          have tb3 := fun q => tb q 3
          have tb4 := fun q => tb q 4
          simp only [List.getElem?_toArray, List.getElem?_cons_succ, List.getElem?_cons_zero] at tb0 tb1 tb2 tb3 tb4
          have HRES : Hid (∀ w8, Below w7.heap.size w7 w8 → Below W.heap.size W w8 ∧ w8.heap[W.heap.size + 1]? = some (.cells #[.int .i64 0, .int .i32 0, .int .i64 0, .string ⟨#[]⟩, .int .i64 0] 31 (0, 0))) := fun w8 hb8 => by
            have hb := below_on H7.out.1.below hb8 H7.out.1.below.size
            exact ⟨below_up HB1.out hb, by rw [hb.block _ hs1]; exact HR1.out⟩
          have hne := after_some w7
          clear tb
          refine region_after 6 mixed (by kernel_rfl) ?_
          simp only [List.take_succ_cons, List.take_zero, List.drop_succ_cons, List.drop_zero]
          repeat (first | go_big_quiet_step (fail) | quiet_step (fail))
          refine wpQuiet_nil ?_
          intro w8 hb8
          obtain ⟨hB8, hX8⟩ := HRES.out w8 hb8
          have HB8 := hid' hB8
          obtain ⟨d0, d1, d2, d3, d4, df⟩ := res5 hX8
          obtain ⟨h9, hK9⟩ := set5 (w := w8) (u0 := .int .i64 3) (u1 := .int .i32 0) (u2 := .int .i64 0) (u3 := .string so5) (u4 := .int .i64 Q.2.used) hX8
          have H9 := hid' h9
          have HK9 := hid' hK9
          have HE := hid' hE
          clear t18 tb0 tb1 tb2 tb3 tb4 h9 hK9 hX8 hB8 hE
          go_wp2
          have h9 := H9.out
          have hK9 := HK9.out
          clear H9 HK9 d0 d1 d2 d3 d4 df
          generalize ((((w8.setCell ⟨W.heap.size + 1, 0, none⟩ (.int .i64 3)).setCell ⟨W.heap.size + 1, 1, none⟩ (.int .i32 0)).setCell ⟨W.heap.size + 1, 2, none⟩ (.int .i64 0)).setCell ⟨W.heap.size + 1, 3, none⟩ (.string so5)).setCell ⟨W.heap.size + 1, 4, none⟩ (.int .i64 Q.2.used) = w9 at *
          obtain ⟨d0, d1, d2, d3, d4, df⟩ := res5 h9
          exact bodyPost_ret (v := .tuple #[.int .i64 Q.2.count, .agg #[.int .i64 3, .int .i32 0, .int .i64 0, .string so5, .int .i64 Q.2.used]]) (by simp [results, Try.results12, go_sem, d0, d1, d2, d3, d4]) rfl ⟨by rw [HE.out], HB8.out.trans (hK9.below HB8.out.size (fun q e => by omega))⟩
        | false =>
          have hno : ¬ Q.2.over = true := by rw [hov2]; decide
          by_cases htr : Q.2.trap = 0
          · have hnt : ¬ Q.2.trap ≠ 0 := fun e => e htr
            have hE : (enD Q).val = .agg #[.int .i64 1, .int .i32 (wrap32 Q.1), .int .i64 0, .string so5, .int .i64 Q.2.used] := by
              unfold enD En.val
              rw [if_neg hno, if_neg hno, if_neg hno, if_neg hnt, if_neg hnt, htr, HSO.out]
            have H7 : Hid (DocM C w1 r ((w5.alloc (.cells #[.int .i64 1, .int .i32 (wrap32 Q.1), .int .i64 0, .string so5, .int .i64 Q.2.used] 31)).drew) Q.2 v5 ∧ ((w5.alloc (.cells #[.int .i64 1, .int .i32 (wrap32 Q.1), .int .i64 0, .string so5, .int .i64 Q.2.used] 31)).drew).heap[w5.heap.size]? = some (.cells #[.int .i64 1, .int .i32 (wrap32 Q.1), .int .i64 0, .string so5, .int .i64 Q.2.used] 31 (0, 0))) := ⟨(HD5.out.on (below1 _ _)).on (drew1 _), heap_alloc_new _ _⟩
            have c14 : ((w5.alloc (.cells #[.int .i64 0, .int .i32 0, .int .i64 0, .string so5, .int .i64 Q.2.used] 31)).drew).cell? ⟨r, 14, none⟩ = some (.bool false) := by rw [← hov2]; exact H6.out.1.cell 14
            have c13 : ((w5.alloc (.cells #[.int .i64 0, .int .i32 0, .int .i64 0, .string so5, .int .i64 Q.2.used] 31)).drew).cell? ⟨r, 13, none⟩ = some (.int .i64 0) := (H6.out.1.cell 13).trans (by show some (Value.int .i64 Q.2.trap) = _; rw [htr])
            have b0 := cell_of_row ((w5.alloc (.cells #[.int .i64 0, .int .i32 0, .int .i64 0, .string so5, .int .i64 Q.2.used] 31)).drew) w5.heap.size 0 _ 31 (0, 0) H6.out.2
            have b1 := cell_of_row ((w5.alloc (.cells #[.int .i64 0, .int .i32 0, .int .i64 0, .string so5, .int .i64 Q.2.used] 31)).drew) w5.heap.size 1 _ 31 (0, 0) H6.out.2
            have b2 := cell_of_row ((w5.alloc (.cells #[.int .i64 0, .int .i32 0, .int .i64 0, .string so5, .int .i64 Q.2.used] 31)).drew) w5.heap.size 2 _ 31 (0, 0) H6.out.2
            simp only [List.getElem?_toArray, List.getElem?_cons_succ, List.getElem?_cons_zero] at b0 b1 b2
            have hqb := HBK.out.2.2
            go_wp2
            clear c13 c14 b0 b1 b2
            clear H6
            generalize ((w5.alloc (.cells #[.int .i64 1, .int .i32 (wrap32 Q.1), .int .i64 0, .string so5, .int .i64 Q.2.used] 31)).drew) = w7 at *
            have t18 : ∀ q : After w7, q.1.cell? ⟨r, 18, none⟩ = some (.int .i64 Q.2.count) := fun q => keep_cell (H7.out.1.cell 18) q.2
            have tb : ∀ (q : After w7) (o : Nat), q.1.cell? ⟨w5.heap.size, o, none⟩ = (#[.int .i64 1, .int .i32 (wrap32 Q.1), .int .i64 0, .string so5, .int .i64 Q.2.used] : Array Value)[o]? := fun q o => by
              rw [cell_of_row q.1 w5.heap.size o _ 31 (0, 0) (by rw [q.2.block _ (Array.getElem?_eq_some_iff.1 H7.out.2).1]; exact H7.out.2)]
            have tb0 := fun q => tb q 0
            have tb1 := fun q => tb q 1
            have tb2 := fun q => tb q 2
            have tb3 := fun q => tb q 3
            have tb4 := fun q => tb q 4
            simp only [List.getElem?_toArray, List.getElem?_cons_succ, List.getElem?_cons_zero] at tb0 tb1 tb2 tb3 tb4
            have HRES : Hid (∀ w8, Below w7.heap.size w7 w8 → Below W.heap.size W w8 ∧ w8.heap[W.heap.size + 1]? = some (.cells #[.int .i64 0, .int .i32 0, .int .i64 0, .string ⟨#[]⟩, .int .i64 0] 31 (0, 0))) := fun w8 hb8 => by
              have hb := below_on H7.out.1.below hb8 H7.out.1.below.size
              exact ⟨below_up HB1.out hb, by rw [hb.block _ hs1]; exact HR1.out⟩
            have hne := after_some w7
            clear tb
            refine region_after 6 mixed (by kernel_rfl) ?_
            simp only [List.take_succ_cons, List.take_zero, List.drop_succ_cons, List.drop_zero]
            repeat (first | go_big_quiet_step (fail) | quiet_step (fail))
            refine wpQuiet_nil ?_
            intro w8 hb8
            obtain ⟨hB8, hX8⟩ := HRES.out w8 hb8
            have HB8 := hid' hB8
            obtain ⟨d0, d1, d2, d3, d4, df⟩ := res5 hX8
            obtain ⟨h9, hK9⟩ := set5 (w := w8) (u0 := .int .i64 1) (u1 := .int .i32 (wrap32 Q.1)) (u2 := .int .i64 0) (u3 := .string so5) (u4 := .int .i64 Q.2.used) hX8
            have H9 := hid' h9
            have HK9 := hid' hK9
            have HE := hid' hE
            clear t18 tb0 tb1 tb2 tb3 tb4 h9 hK9 hX8 hB8 hE
            go_wp2
            have h9 := H9.out
            have hK9 := HK9.out
            clear H9 HK9 d0 d1 d2 d3 d4 df
            generalize ((((w8.setCell ⟨W.heap.size + 1, 0, none⟩ (.int .i64 1)).setCell ⟨W.heap.size + 1, 1, none⟩ (.int .i32 (wrap32 Q.1))).setCell ⟨W.heap.size + 1, 2, none⟩ (.int .i64 0)).setCell ⟨W.heap.size + 1, 3, none⟩ (.string so5)).setCell ⟨W.heap.size + 1, 4, none⟩ (.int .i64 Q.2.used) = w9 at *
            obtain ⟨d0, d1, d2, d3, d4, df⟩ := res5 h9
            exact bodyPost_ret (v := .tuple #[.int .i64 Q.2.count, .agg #[.int .i64 1, .int .i32 (wrap32 Q.1), .int .i64 0, .string so5, .int .i64 Q.2.used]]) (by simp [results, Try.results12, go_sem, d0, d1, d2, d3, d4]) rfl ⟨by rw [HE.out], HB8.out.trans (hK9.below HB8.out.size (fun q e => by omega))⟩
          · have hnt : Q.2.trap ≠ 0 := htr
            have hE : (enD Q).val = .agg #[.int .i64 2, .int .i32 0, .int .i64 Q.2.trap, .string so5, .int .i64 Q.2.used] := by
              unfold enD En.val
              rw [if_neg hno, if_neg hno, if_neg hno, if_pos hnt, if_pos hnt, HSO.out]
            have H7 : Hid (DocM C w1 r ((w5.alloc (.cells #[.int .i64 2, .int .i32 0, .int .i64 Q.2.trap, .string so5, .int .i64 Q.2.used] 31)).drew) Q.2 v5 ∧ ((w5.alloc (.cells #[.int .i64 2, .int .i32 0, .int .i64 Q.2.trap, .string so5, .int .i64 Q.2.used] 31)).drew).heap[w5.heap.size]? = some (.cells #[.int .i64 2, .int .i32 0, .int .i64 Q.2.trap, .string so5, .int .i64 Q.2.used] 31 (0, 0))) := ⟨(HD5.out.on (below1 _ _)).on (drew1 _), heap_alloc_new _ _⟩
            have c14 : ((w5.alloc (.cells #[.int .i64 0, .int .i32 0, .int .i64 0, .string so5, .int .i64 Q.2.used] 31)).drew).cell? ⟨r, 14, none⟩ = some (.bool false) := by rw [← hov2]; exact H6.out.1.cell 14
            have c13b : ((w5.alloc (.cells #[.int .i64 2, .int .i32 0, .int .i64 0, .string so5, .int .i64 Q.2.used] 31)).drew).cell? ⟨r, 13, none⟩ = some (.int .i64 Q.2.trap) := ((HD5.out.on (below1 _ _)).on (drew1 _)).cell 13
            have bb2 := cell_of_row ((w5.alloc (.cells #[.int .i64 2, .int .i32 0, .int .i64 0, .string so5, .int .i64 Q.2.used] 31)).drew) w5.heap.size 2 _ 31 (0, 0) (heap_alloc_new _ _)
            simp only [List.getElem?_toArray, List.getElem?_cons_succ, List.getElem?_cons_zero] at bb2
            have c13 : ((w5.alloc (.cells #[.int .i64 0, .int .i32 0, .int .i64 0, .string so5, .int .i64 Q.2.used] 31)).drew).cell? ⟨r, 13, none⟩ = some (.int .i64 Q.2.trap) := H6.out.1.cell 13
            have hnt2 : (Q.2.trap != 0) = true := by simp [htr]
            have b0 := cell_of_row ((w5.alloc (.cells #[.int .i64 0, .int .i32 0, .int .i64 0, .string so5, .int .i64 Q.2.used] 31)).drew) w5.heap.size 0 _ 31 (0, 0) H6.out.2
            have b1 := cell_of_row ((w5.alloc (.cells #[.int .i64 0, .int .i32 0, .int .i64 0, .string so5, .int .i64 Q.2.used] 31)).drew) w5.heap.size 1 _ 31 (0, 0) H6.out.2
            have b2 := cell_of_row ((w5.alloc (.cells #[.int .i64 0, .int .i32 0, .int .i64 0, .string so5, .int .i64 Q.2.used] 31)).drew) w5.heap.size 2 _ 31 (0, 0) H6.out.2
            simp only [List.getElem?_toArray, List.getElem?_cons_succ, List.getElem?_cons_zero] at b0 b1 b2
            go_wp2
            clear c13b bb2
            clear c13 c14 b0 b1 b2
            clear H6
            generalize ((w5.alloc (.cells #[.int .i64 2, .int .i32 0, .int .i64 Q.2.trap, .string so5, .int .i64 Q.2.used] 31)).drew) = w7 at *
            have t18 : ∀ q : After w7, q.1.cell? ⟨r, 18, none⟩ = some (.int .i64 Q.2.count) := fun q => keep_cell (H7.out.1.cell 18) q.2
            have tb : ∀ (q : After w7) (o : Nat), q.1.cell? ⟨w5.heap.size, o, none⟩ = (#[.int .i64 2, .int .i32 0, .int .i64 Q.2.trap, .string so5, .int .i64 Q.2.used] : Array Value)[o]? := fun q o => by
              rw [cell_of_row q.1 w5.heap.size o _ 31 (0, 0) (by rw [q.2.block _ (Array.getElem?_eq_some_iff.1 H7.out.2).1]; exact H7.out.2)]
            have tb0 := fun q => tb q 0
            have tb1 := fun q => tb q 1
            have tb2 := fun q => tb q 2
            have tb3 := fun q => tb q 3
            have tb4 := fun q => tb q 4
            simp only [List.getElem?_toArray, List.getElem?_cons_succ, List.getElem?_cons_zero] at tb0 tb1 tb2 tb3 tb4
            have HRES : Hid (∀ w8, Below w7.heap.size w7 w8 → Below W.heap.size W w8 ∧ w8.heap[W.heap.size + 1]? = some (.cells #[.int .i64 0, .int .i32 0, .int .i64 0, .string ⟨#[]⟩, .int .i64 0] 31 (0, 0))) := fun w8 hb8 => by
              have hb := below_on H7.out.1.below hb8 H7.out.1.below.size
              exact ⟨below_up HB1.out hb, by rw [hb.block _ hs1]; exact HR1.out⟩
            have hne := after_some w7
            clear tb
            refine region_after 6 mixed (by kernel_rfl) ?_
            simp only [List.take_succ_cons, List.take_zero, List.drop_succ_cons, List.drop_zero]
            repeat (first | go_big_quiet_step (fail) | quiet_step (fail))
            refine wpQuiet_nil ?_
            intro w8 hb8
            obtain ⟨hB8, hX8⟩ := HRES.out w8 hb8
            have HB8 := hid' hB8
            obtain ⟨d0, d1, d2, d3, d4, df⟩ := res5 hX8
            obtain ⟨h9, hK9⟩ := set5 (w := w8) (u0 := .int .i64 2) (u1 := .int .i32 0) (u2 := .int .i64 Q.2.trap) (u3 := .string so5) (u4 := .int .i64 Q.2.used) hX8
            have H9 := hid' h9
            have HK9 := hid' hK9
            have HE := hid' hE
            clear t18 tb0 tb1 tb2 tb3 tb4 h9 hK9 hX8 hB8 hE
            go_wp2
            have h9 := H9.out
            have hK9 := HK9.out
            clear H9 HK9 d0 d1 d2 d3 d4 df
            generalize ((((w8.setCell ⟨W.heap.size + 1, 0, none⟩ (.int .i64 2)).setCell ⟨W.heap.size + 1, 1, none⟩ (.int .i32 0)).setCell ⟨W.heap.size + 1, 2, none⟩ (.int .i64 Q.2.trap)).setCell ⟨W.heap.size + 1, 3, none⟩ (.string so5)).setCell ⟨W.heap.size + 1, 4, none⟩ (.int .i64 Q.2.used) = w9 at *
            obtain ⟨d0, d1, d2, d3, d4, df⟩ := res5 h9
            exact bodyPost_ret (v := .tuple #[.int .i64 Q.2.count, .agg #[.int .i64 2, .int .i32 0, .int .i64 Q.2.trap, .string so5, .int .i64 Q.2.used]]) (by simp [results, Try.results12, go_sem, d0, d1, d2, d3, d4]) rfl ⟨by rw [HE.out], HB8.out.trans (hK9.below HB8.out.size (fun q e => by omega))⟩
end Go.Proofs.Ytiehlkhpblldaaa
