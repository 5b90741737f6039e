/- laidOut: the globals, with the program's data. -/
import Derived.Test.YtiehlkhpblldaaaH07
import Derived.Test.YtiehlkhpblldaaaH20
import Derived.Lib.LazyBuf
set_option linter.unusedVariables false
set_option linter.unusedSimpArgs false
set_option maxRecDepth 20000
set_option maxHeartbeats 8000000
namespace Go.Proofs.Ytiehlkhpblldaaa
open Go.RowKit Go.Maps

def bytL (b : ByteArray) : List Int := b.data.toList.map (fun x => (x.toNat : Int))
def laidN (p : Pg) (k : Nat) : List Int := (p.data.take k).foldl (fun l d => putL l d.at_.toNat (bytL d.by_)) (List.replicate p.global.toNat 0)
def laidF (p : Pg) : List Int := laidN p p.data.length
theorem lay_len : ∀ (ds : List Fi) (l : List Int), (ds.foldl (fun l d => putL l d.at_.toNat (bytL d.by_)) l).length = l.length
  | [], l => rfl
  | d :: ds, l => by rw [List.foldl_cons, lay_len ds, putL_length]
theorem laidN_len (p : Pg) (k : Nat) : (laidN p k).length = p.global.toNat := by
  unfold laidN
  rw [lay_len, List.length_replicate]
theorem laidN_succ (p : Pg) {k : Nat} (hk : k < p.data.length) : laidN p (k + 1) = putL (laidN p k) p.data[k].at_.toNat (bytL p.data[k].by_) := by
  unfold laidN
  rw [take_snoc _ _ hk, List.foldl_append]
  rfl
theorem dat_at {g : Int} : ∀ (ds : List Fi) (a : Int), datF g a ds = true → ∀ k (hk : k < ds.length), a ≤ ds[k].at_ ∧ ds[k].at_ + ds[k].by_.size ≤ g ∧ 0 < ds[k].by_.size
  | d :: ds, a, h, 0, _ => by
    unfold datF winF at h
    simp only [Bool.and_eq_true, decide_eq_true_eq] at h
    obtain ⟨h1, h2, h3⟩ := h
    exact ⟨h2.1, by show d.at_ + (d.by_.size : Int) ≤ _; omega, h1⟩
  | d :: ds, a, h, k + 1, hk => by
    unfold datF winF at h
    simp only [Bool.and_eq_true, decide_eq_true_eq] at h
    obtain ⟨h1, h2, h3⟩ := h
    have := dat_at ds _ h3 k (by simpa using hk)
    simp only [List.getElem_cons_succ]
    omega
theorem row_put {g : Nat} : ∀ (vs : List Int) (o : Nat) (w : World) (L : List Int), w.heap[g]? = some (.cells (flat bcel L).toArray 5 (0, 0)) → (w.setCells g o (flat bcel vs)).heap[g]? = some (.cells (flat bcel (putL L o vs)).toArray 5 (0, 0))
  | [], o, w, L, h => h
  | v :: vs, o, w, L, h => by
    refine row_put vs (o + 1) (w.setCell ⟨g, o, none⟩ (.int .u8 v)) (L.set o v) ?_
    rw [heap_setCell_same w g o _ 5 _ h, List.setIfInBounds_toArray, by_set]
theorem keptCells (g : Nat) : ∀ (vs : List Value) (o : Nat) (w : World), Kept (fun q => q = g) w (w.setCells g o vs)
  | [], o, w => Kept.rfl _ _
  | v :: vs, o, w => (setK w g o v).trans (keptCells g vs (o + 1) _)
theorem step_cpy2 {P : Program} {ops : Array Oper} {o : Oper} {a : Act} {w w' : World} {K : Act → World → Prop} {Q : Exit → Act → World → Prop} {E : Prop}
    (hg : o.guard = none) (s x : Operand) (t u : TypeId) (hop : o.op = Op.call { callee := Callee.builtin Builtin.copy, args := #[s, x], argTypes := #[t, u] })
    (v xv v' : Value) (hs : a.eval s = v) (hx : a.eval x = xv) (hrun : ∀ ty, (Builtin.copy_ #[t, u] ty #[v, xv]).run P w = .ok v' w') (hK : K (a.put o.dst v') w') :
    if Region.wanted o (yielded ops a.tmps) = true then Oper.wp P o a w K Q else E := by
  have hw : Region.wanted o (yielded ops a.tmps) = true := by simp [Region.wanted, hg]
  rw [if_pos hw]
  unfold Oper.wp
  simp [execOp, hop, resolve, invoke, builtin, hs, hx, hrun, Result.andThen]
  exact hK
theorem szr5 (w : World) : (Go.sizeOf 5).run Try.prog w = .ok 1 w := by
  obtain ⟨i, hi, hz⟩ := Option.map_eq_some_iff.1 inf5
  simp only [Prod.mk.injEq] at hz
  simp [sizeOf, typeInfo, hi, hz.2.1]
theorem flat_byt (b : ByteArray) : (b.data.toList.map fun x => Value.int .u8 (x.toNat : Int)) = flat bcel (bytL b) := by
  rw [flat_by]
  simp [bytL]
theorem laid16 {W : World} {p : Pg} (hp : Pg.ok W p) (hg : 0 ≤ p.global ∧ p.global ≤ 65536) (hd : datF p.global 0 p.data = true) :
    Calls Try.prog 16 #[p.val] W fun e w' => ∃ g, e = .returned (.agg #[.slice (some ⟨g, 0, none⟩) p.global.toNat p.global.toNat, .slice none 0 0, .int .i64 8388608]) ∧ W.heap.size ≤ g ∧ Below W.heap.size W w' ∧ w'.heap[g]? = some (.cells (flat bcel (laidF p)).toArray 5 (0, 0)) := by
  obtain ⟨G, hG⟩ : ∃ G : Nat, p.global = G := ⟨p.global.toNat, by omega⟩
  have HD : Hid (∀ k (hk : k < p.data.length), 0 ≤ p.data[k].at_ ∧ p.data[k].at_ + p.data[k].by_.size ≤ G ∧ 0 < p.data[k].by_.size) := fun k hk => by rw [← hG]; exact dat_at _ _ hd k hk
  have HS : Hid (∀ k (hk : k < p.data.length), laidN p (k + 1) = putL (laidN p k) p.data[k].at_.toNat (bytL p.data[k].by_)) := fun k hk => laidN_succ p hk
  have HL : Hid (∀ k, (laidN p k).length = G) := fun k => by rw [laidN_len, hG]; rfl
  have HZ : Hid (flat bcel (laidN p 0) = List.replicate G (.int .u8 0)) := by
    unfold Hid laidN
    rw [hG, flat_by]
    simp
  unfold laidF
  generalize laidN p = LN at *
  rw [hG] at hg ⊢
  simp only [Int.toNat_natCast]
  clear hd
  obtain ⟨fv, funcs, gl, dv, data, main⟩ := p
  obtain ⟨fo, fc, ef⟩ := hp.f.len
  obtain ⟨dd, dc, ed, hdd⟩ := hp.d.form fi2
  have hdl := hp.dl
  dsimp only at *
  subst ef ed hG
  have HF := hid' hdd
  unfold big at hdl
  clear hp hdd
  unfold Pg.val at *
  dsimp only at *
  obtain ⟨w1, hm, hrow, hb1, hs1⟩ := make_row (v := .int .u8 0) rfl ((W.alloc (.cells #[.slice fo funcs.length fc, .int .i64 G, .slice dd data.length dc, .int .i64 main] 25)).alloc (.cells #[.slice none 0 0, .slice none 0 0, .int .i64 0] 61)) (base := W.heap.size) (n := G) Try.underlying59 inf5 (by omega) (by omega) (by simp; omega)
  have hq : ∀ o, w1.cell? ⟨W.heap.size, o, none⟩ = (#[.slice fo funcs.length fc, .int .i64 G, .slice dd data.length dc, .int .i64 main] : Array Value)[o]? := fun o => by
    rw [(bcell hb1).1 _ _ (by simp; omega)]
    rw [cell_of_row _ _ _ _ 25 (0, 0) (by rw [Below.heap_alloc _ _ _ (by simp)]; exact heap_alloc_new _ _)]
  have c2 := hq 2
  simp only [List.getElem?_toArray, List.getElem?_cons_succ, List.getElem?_cons_zero] at c2
  have hz1 : w1.heap.size = W.heap.size + 1 + 1 + 1 := by rw [hs1]; simp
  have hbig1 : w1.heap[W.heap.size + 1 + 1]? = some (.cells (flat bcel (LN 0)).toArray 5 (0, 0)) := by
    rcases hrow.2 with ⟨e, _⟩ | ⟨g, cap', cur, e, _, hh, _, _, hsz, ht⟩
    · cases e
    · injection e with e1 e2 e3
      injection e1 with e1
      injection e1 with e1
      subst e3
      rw [List.take_of_length_le (by simp; omega)] at ht
      have e4 : g = W.heap.size + 1 + 1 := by rw [← e1]; simp
      rw [← e4, hh, HZ.out, ← ht, Array.toArray_toList]
  have hres1 : w1.heap[W.heap.size + 1]? = some (.cells #[.slice none 0 0, .slice none 0 0, .int .i64 0] 61 (0, 0)) := by
    rw [hb1.block _ (by simp)]
    have := heap_alloc_new (W.alloc (.cells #[.slice fo funcs.length fc, .int .i64 G, .slice dd data.length dc, .int .i64 main] 25)) (.cells #[.slice none 0 0, .slice none 0 0, .int .i64 0] 61)
    simpa using this
  have HB1 : Hid (Below W.heap.size W w1) := (below2 W _ _).trans (hb1.mono (by simp; omega))
  clear hq hrow hb1
  go_enter Try.func16, Try.ntmps16
  go_wp2
  have H4 : Hid (Below W.heap.size W (w1.alloc (.cells #[.slice (some ⟨W.heap.size + 1 + 1, 0, none⟩) G G, .slice none 0 0, .int .i64 8388608] 61))) := HB1.out.alloc HB1.out.size _
  have h4s : (w1.alloc (.cells #[.slice (some ⟨W.heap.size + 1 + 1, 0, none⟩) G G, .slice none 0 0, .int .i64 8388608] 61)).heap.size = W.heap.size + 1 + 1 + 1 + 1 := by simp [hz1]
  have h41 : (w1.alloc (.cells #[.slice (some ⟨W.heap.size + 1 + 1, 0, none⟩) G G, .slice none 0 0, .int .i64 8388608] 61)).heap[W.heap.size + 1 + 1]? = some (.cells (flat bcel (LN 0)).toArray 5 (0, 0)) := by rw [Below.heap_alloc _ _ _ (by omega)]; exact hbig1
  have h42 : (w1.alloc (.cells #[.slice (some ⟨W.heap.size + 1 + 1, 0, none⟩) G G, .slice none 0 0, .int .i64 8388608] 61)).heap[W.heap.size + 1]? = some (.cells #[.slice none 0 0, .slice none 0 0, .int .i64 0] 61 (0, 0)) := by rw [Below.heap_alloc _ _ _ (by omega)]; exact hres1
  have h43 : (w1.alloc (.cells #[.slice (some ⟨W.heap.size + 1 + 1, 0, none⟩) G G, .slice none 0 0, .int .i64 8388608] 61)).heap[W.heap.size + 1 + 1 + 1]? = some (.cells #[.slice (some ⟨W.heap.size + 1 + 1, 0, none⟩) G G, .slice none 0 0, .int .i64 8388608] 61 (0, 0)) := by rw [← hz1]; exact heap_alloc_new _ _
  generalize w1.alloc (.cells #[.slice (some ⟨W.heap.size + 1 + 1, 0, none⟩) G G, .slice none 0 0, .int .i64 8388608] 61) = w2 at *
  clear hm hs1 c2 hz1 hbig1 hres1 HB1 hg
  clear w1
  go_loopw [13] (fun i wr => ∃ k : Nat, k ≤ data.length ∧ i = .int .i64 k ∧ Below W.heap.size W wr ∧ W.heap.size + 1 + 1 + 1 + 1 ≤ wr.heap.size ∧ wr.heap[W.heap.size + 1 + 1]? = some (.cells (flat bcel (LN k)).toArray 5 (0, 0)) ∧ wr.heap[W.heap.size + 1]? = some (.cells #[.slice none 0 0, .slice none 0 0, .int .i64 0] 61 (0, 0)) ∧ wr.heap[W.heap.size + 1 + 1 + 1]? = some (.cells #[.slice (some ⟨W.heap.size + 1 + 1, 0, none⟩) G G, .slice none 0 0, .int .i64 8388608] 61 (0, 0))) (fun i _ => data.length - (intOf i).toNat)
  case atStart => exact ⟨0, Nat.zero_le _, rfl, H4.out, by omega, h41, h42, h43⟩
  case round =>
    obtain ⟨k, hk, rfl, hB, hsz, hb, hr, hm⟩ := hrel
    have HB := hid' hB
    have HBB := hid' hb
    have HRR := hid' hr
    have HMM := hid' hm
    clear hB hb hr hm h41 h42 h43 h4s H4
    by_cases hlt : k < data.length
    · obtain ⟨db, doff, rfl, hdb, hdc, hx⟩ := HF.out k hlt
      have d0 := hx wr HB.out 0 (by decide)
      have d1 := hx wr HB.out 1 (by decide)
      simp only [Fi.cells, List.getElem?_cons_succ, List.getElem?_cons_zero, Nat.add_zero] at d0 d1
      have m0 : wr.cell? ⟨W.heap.size + 1 + 1 + 1, 0, none⟩ = some (.slice (some ⟨W.heap.size + 1 + 1, 0, none⟩) G G) := by rw [cell_of_row _ _ _ _ 61 (0, 0) HMM.out]; rfl
      obtain ⟨q1, q2, q3⟩ := HD.out k hlt
      have HS1 := hid' (HS.out k hlt)
      have hki : (k : Int) < data.length := by omega
      have hkc : (k : Int) < dc := by omega
      clear hx
      generalize data[k] = d at *
      obtain ⟨A, hA⟩ : ∃ A : Nat, d.at_ = A := ⟨d.at_.toNat, by omega⟩
      rw [hA] at d0 q1 q2
      have hAG : ¬ G = A := by omega
      have hAG2 : (A : Int) ≤ G := by omega
      have hAG3 : A < G := by omega
      have H5 : Hid (Below W.heap.size W (wr.alloc (.cells #[.int .i64 A, .string d.by_] 78))) := HB.out.alloc HB.out.size _
      have h5s : W.heap.size + 1 + 1 + 1 + 1 ≤ (wr.alloc (.cells #[.int .i64 A, .string d.by_] 78)).heap.size := by simp; omega
      have h51 : (wr.alloc (.cells #[.int .i64 A, .string d.by_] 78)).heap[W.heap.size + 1 + 1]? = some (.cells (flat bcel (LN k)).toArray 5 (0, 0)) := by rw [Below.heap_alloc _ _ _ (by omega)]; exact HBB.out
      have h52 : (wr.alloc (.cells #[.int .i64 A, .string d.by_] 78)).heap[W.heap.size + 1]? = some (.cells #[.slice none 0 0, .slice none 0 0, .int .i64 0] 61 (0, 0)) := by rw [Below.heap_alloc _ _ _ (by omega)]; exact HRR.out
      have h53 : (wr.alloc (.cells #[.int .i64 A, .string d.by_] 78)).heap[W.heap.size + 1 + 1 + 1]? = some (.cells #[.slice (some ⟨W.heap.size + 1 + 1, 0, none⟩) G G, .slice none 0 0, .int .i64 8388608] 61 (0, 0)) := by rw [Below.heap_alloc _ _ _ (by omega)]; exact HMM.out
      have hll : (flat bcel (LN k)).length = G := by rw [flat_length by1, HL.out]; omega
      have hcp : ∀ ty cap, (Builtin.copy_ #[59, 9] ty #[.slice (some ⟨W.heap.size + 1 + 1, A, none⟩) (G - A) cap, .string d.by_]).run Try.prog (wr.alloc (.cells #[.int .i64 A, .string d.by_] 78)).drew = .ok (goInt d.by_.size) ((wr.alloc (.cells #[.int .i64 A, .string d.by_] 78)).drew.setCells (W.heap.size + 1 + 1) A (flat bcel (bytL d.by_))) := fun ty cap => by
        rw [← flat_byt]
        refine run_copy_string (P := Try.prog) _ 59 9 ty 5 (W.heap.size + 1 + 1) A (G - A) cap d.by_ Try.underlying59 szr5 (by omega) (fun j hj => ?_) (fun j hj => ?_)
        · rw [show (wr.alloc (.cells #[.int .i64 A, .string d.by_] 78)).drew.cell? ⟨W.heap.size + 1 + 1, A + j, none⟩ = (flat bcel (LN k)).toArray[A + j]? from cell_of_row _ _ _ _ 5 (0, 0) h51]
          rw [List.getElem?_toArray, List.getElem?_eq_getElem (by omega)]
          rfl
        · exact frozen_of_row (wr.alloc (.cells #[.int .i64 A, .string d.by_] 78)) _ _ _ 5 h51
      have hput := row_put (bytL d.by_) A (wr.alloc (.cells #[.int .i64 A, .string d.by_] 78)).drew (LN k) h51
      have HP := hid' hput
      clear hput
      have h54 : (wr.alloc (.cells #[.int .i64 A, .string d.by_] 78)).heap[wr.heap.size]? = some (.cells #[.int .i64 A, .string d.by_] 78 (0, 0)) := heap_alloc_new _ _
      go_wp2
      generalize wr.alloc (.cells #[.int .i64 A, .string d.by_] 78) = w5 at *
      have m5 : w5.cell? ⟨W.heap.size + 1 + 1 + 1, 0, none⟩ = some (.slice (some ⟨W.heap.size + 1 + 1, 0, none⟩) G G) := by rw [cell_of_row _ _ _ _ 61 (0, 0) h53]; rfl
      have m6 : w5.cell? ⟨wr.heap.size, 0, none⟩ = some (.int .i64 A) := by rw [cell_of_row _ _ _ _ 78 (0, 0) h54]; rfl
      have m7 : w5.cell? ⟨wr.heap.size, 1, none⟩ = some (.string d.by_) := by rw [cell_of_row _ _ _ _ 78 (0, 0) h54]; rfl
      have H51 := hid' h51
      have H52 := hid' h52
      have H53 := hid' h53
      clear h51 h52 h53 h54 m0 d0 d1
      go_region_law (refine step_cpy2 rfl (.tmp 21) (.tmp 23) 59 9 rfl _ _ _ (by simp [Act.eval]) (by simp [Act.eval]) (fun ty => hcp ty _) ?_)
      all_goals
        have hbw := HP.out
        have HK : Hid (Kept (fun q => q = W.heap.size + 1 + 1) w5 (w5.drew.setCells (W.heap.size + 1 + 1) A (flat bcel (bytL d.by_)))) := (Kept.drew (Kept.rfl _ _)).trans (keptCells _ _ _ _)
        clear HP hcp
        generalize w5.drew.setCells (W.heap.size + 1 + 1) A (flat bcel (bytL d.by_)) = w6 at *
        go_wp2
        refine ⟨⟨k + 1, by omega, by go_num, H5.out.trans (HK.out.below H5.out.size (fun q e => by omega)), Nat.le_trans h5s HK.out.size, ?_, ?_, ?_⟩, ?_⟩
        · rw [HS1.out, hA]
          exact hbw
        · rw [HK.out.block _ (by omega) (by omega)]
          exact H52.out
        · rw [HK.out.block _ (by omega) (by omega)]
          exact H53.out
        · simp [intOf]; omega
    · have e : k = data.length := by omega
      subst e
      have m0 : ∀ o, wr.cell? ⟨W.heap.size + 1 + 1 + 1, o, none⟩ = (#[.slice (some ⟨W.heap.size + 1 + 1, 0, none⟩) G G, .slice none 0 0, .int .i64 8388608] : Array Value)[o]? := fun o => by rw [cell_of_row _ _ _ _ 61 (0, 0) HMM.out]
      have m00 := m0 0
      have m01 := m0 1
      have m02 := m0 2
      simp only [List.getElem?_toArray, List.getElem?_cons_succ, List.getElem?_cons_zero] at m00 m01 m02
      have r0 : ∀ o, wr.cell? ⟨W.heap.size + 1, o, none⟩ = (#[.slice none 0 0, .slice none 0 0, .int .i64 0] : Array Value)[o]? := fun o => by rw [cell_of_row _ _ _ _ 61 (0, 0) HRR.out]
      have r00 := r0 0
      have r01 := r0 1
      have r02 := r0 2
      simp only [List.getElem?_toArray, List.getElem?_cons_succ, List.getElem?_cons_zero] at r00 r01 r02
      have rf : ∀ o, wr.frozen? ⟨W.heap.size + 1, o, none⟩ = false := fun o => frozen_of_row _ _ _ _ 61 HRR.out
      clear m0 r0
      go_wp2
      have f : ∀ o, (((wr.setCell ⟨W.heap.size + 1, 0, none⟩ (.slice (some ⟨W.heap.size + 1 + 1, 0, none⟩) G G)).setCell ⟨W.heap.size + 1, 1, none⟩ (.slice none 0 0)).setCell ⟨W.heap.size + 1, 2, none⟩ (.int .i64 8388608)).cell? ⟨W.heap.size + 1, o, none⟩ = (#[.slice (some ⟨W.heap.size + 1 + 1, 0, none⟩) G G, .slice none 0 0, .int .i64 8388608] : Array Value)[o]? := fun o => by
        rw [cell_of_row _ _ _ _ 61 (0, 0) (heap_setCell_same _ _ _ _ 61 _ (heap_setCell_same _ _ _ _ 61 _ (heap_setCell_same _ _ _ _ 61 _ HRR.out)))]
        rfl
      have f0 := f 0
      have f1 := f 1
      have f2 := f 2
      simp only [List.getElem?_toArray, List.getElem?_cons_succ, List.getElem?_cons_zero] at f0 f1 f2
      have HK : Hid (Kept (fun k => k = W.heap.size + 1) wr (((wr.setCell ⟨W.heap.size + 1, 0, none⟩ (.slice (some ⟨W.heap.size + 1 + 1, 0, none⟩) G G)).setCell ⟨W.heap.size + 1, 1, none⟩ (.slice none 0 0)).setCell ⟨W.heap.size + 1, 2, none⟩ (.int .i64 8388608))) := ((setK _ _ _ _).trans (setK _ _ _ _)).trans (setK _ _ _ _)
      generalize ((wr.setCell ⟨W.heap.size + 1, 0, none⟩ (.slice (some ⟨W.heap.size + 1 + 1, 0, none⟩) G G)).setCell ⟨W.heap.size + 1, 1, none⟩ (.slice none 0 0)).setCell ⟨W.heap.size + 1, 2, none⟩ (.int .i64 8388608) = w9 at *
      refine bodyPost_ret (v := .agg #[.slice (some ⟨W.heap.size + 1 + 1, 0, none⟩) G G, .slice none 0 0, .int .i64 8388608]) (by simp [results, Try.results16, go_sem, f0, f1, f2]) rfl ⟨W.heap.size + 1 + 1, rfl, by omega, HB.out.trans (HK.out.below HB.out.size (fun q e => by omega)), ?_⟩
      rw [HK.out.block _ (by omega) (by omega)]
      exact HBB.out
end Go.Proofs.Ytiehlkhpblldaaa
