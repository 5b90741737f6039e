/- Count: its walk. -/
import Derived.Test.YtiehlkhpblldaaaH32
import Derived.Test.YtiehlkhpblldaaaH35
import Derived.Deep.LoopGhost
import Derived.Deep.RegionLaw
import Derived.Deep.DeepCutAuto
set_option linter.unusedVariables false
set_option linter.unusedSimpArgs false
set_option maxRecDepth 20000
set_option maxHeartbeats 8000000
namespace Go.Proofs.Ytiehlkhpblldaaa
open Go.RowKit Go.Maps

theorem res5 {w : World} {b : Nat} {v0 v1 v2 v3 v4 : Value} {T : TypeId} (h : w.heap[b]? = some (.cells #[v0, v1, v2, v3, v4] T (0, 0))) : w.cell? ⟨b, 0, none⟩ = some v0 ∧ w.cell? ⟨b, 1, none⟩ = some v1 ∧ w.cell? ⟨b, 2, none⟩ = some v2 ∧ w.cell? ⟨b, 3, none⟩ = some v3 ∧ w.cell? ⟨b, 4, none⟩ = some v4 ∧ ∀ o, w.frozen? ⟨b, o, none⟩ = false := by
  have := fun o => cell_of_row w b o _ T (0, 0) h
  exact ⟨this 0, this 1, this 2, this 3, this 4, fun o => frozen_of_row w b o _ T h⟩
theorem set5 {w : World} {b : Nat} {v0 v1 v2 v3 v4 u0 u1 u2 u3 u4 : Value} {T : TypeId} (h : w.heap[b]? = some (.cells #[v0, v1, v2, v3, v4] T (0, 0))) : (((((w.setCell ⟨b, 0, none⟩ u0).setCell ⟨b, 1, none⟩ u1).setCell ⟨b, 2, none⟩ u2).setCell ⟨b, 3, none⟩ u3).setCell ⟨b, 4, none⟩ u4).heap[b]? = some (.cells #[u0, u1, u2, u3, u4] T (0, 0)) ∧ Kept (fun k => k = b) w (((((w.setCell ⟨b, 0, none⟩ u0).setCell ⟨b, 1, none⟩ u1).setCell ⟨b, 2, none⟩ u2).setCell ⟨b, 3, none⟩ u3).setCell ⟨b, 4, none⟩ u4) :=
  ⟨heap_setCell_same _ _ _ _ T _ (heap_setCell_same _ _ _ _ T _ (heap_setCell_same _ _ _ _ T _ (heap_setCell_same _ _ _ _ T _ (heap_setCell_same _ _ _ _ T _ h)))), ((((setK _ _ _ _).trans (setK _ _ _ _)).trans (setK _ _ _ _)).trans (setK _ _ _ _)).trans (setK _ _ _ _)⟩
theorem blk2 {W w1 : World} {o p : Obj} (hb : Below ((W.alloc o).alloc p).heap.size ((W.alloc o).alloc p) w1) : w1.heap[W.heap.size]? = some o ∧ w1.heap[W.heap.size + 1]? = some p ∧ Below W.heap.size W w1 ∧ W.heap.size + 1 < w1.heap.size := by
  have h2 := heap_alloc_new (W.alloc o) p
  have h1 := heap_alloc_new W o
  have hs := hb.size
  have e2 : (W.alloc o).heap.size = W.heap.size + 1 := by simp
  rw [e2] at h2
  simp at hs
  refine ⟨?_, ?_, (below2 W o p).trans (hb.mono (by simp; omega)), by omega⟩
  · rw [hb.block _ (by simp; omega), Below.heap_alloc _ _ _ (by simp)]
    exact h1
  · rw [hb.block _ (by simp)]
    exact h2
theorem count11_no {W : World} {p : Pg} (hp : Pg.ok W p) {input : ByteArray} {fuel deep sf sa : Int} {sv : Value} (hpg : pgF p = false) :
    Calls Try.prog 11 #[p.val, .string input, .int .i64 fuel, .int .i64 deep, .int .i64 sa, sv, .int .i64 sf] W fun e w' => e = .returned (.tuple #[.int .i64 0, .agg #[.int .i64 2, .int .i32 0, .int .i64 4, .string ⟨#[]⟩, .int .i64 0]]) ∧ Below W.heap.size W w' := by
  have H15 : Hid (∀ w1, Below W.heap.size W w1 → Calls Try.prog 15 #[p.val] w1 fun e w' => e = .returned (.int .i64 (errF (pgF p))) ∧ Below w1.heap.size w1 w') := fun w1 h => check15 (hp.on h)
  rw [hpg] at H15
  obtain ⟨fv, funcs, gl, dv, data, main⟩ := p
  unfold Pg.val at *
  dsimp only at *
  clear hp hpg
  go_enter Try.func11, Try.ntmps11
  go_wp2_with (go_at_call 15; refine (H15.out _ (below2 _ _ _)).mono ?_; rintro e1 w1 ⟨rfl, hb1⟩; obtain ⟨_, hr1, hB1, hs1⟩ := blk2 hb1; have HR1 := hid' hr1; have HB1 := hid' hB1; obtain ⟨c0, c1, c2, c3, c4, cf⟩ := res5 hr1; clear hr1 hB1 hb1)
  obtain ⟨h9, hK⟩ := set5 (u0 := .int .i64 2) (u1 := .int .i32 0) (u2 := .int .i64 4) (u3 := .string ⟨#[]⟩) (u4 := .int .i64 0) HR1.out
  generalize ((((w1.setCell ⟨W.heap.size + 1, 0, none⟩ (.int .i64 2)).setCell ⟨W.heap.size + 1, 1, none⟩ (.int .i32 0)).setCell ⟨W.heap.size + 1, 2, none⟩ (.int .i64 4)).setCell ⟨W.heap.size + 1, 3, none⟩ (.string ⟨#[]⟩)).setCell ⟨W.heap.size + 1, 4, none⟩ (.int .i64 0) = w9 at *
  obtain ⟨d0, d1, d2, d3, d4, df⟩ := res5 h9
  exact bodyPost_ret (v := .tuple #[.int .i64 0, .agg #[.int .i64 2, .int .i32 0, .int .i64 4, .string ⟨#[]⟩, .int .i64 0]]) (by simp [results, Try.results11, go_sem, d0, d1, d2, d3, d4]) rfl ⟨rfl, HB1.out.trans (hK.below HB1.out.size (fun q e => by omega))⟩
/-- What was put, as a text. -/
theorem conv_out {C : Cst} {W0 W : World} {r : Nat} {s : St} {x : Vs} {t : Tp} (h : RunM C W0 r W s x t) : (convert 59 9 x.ov).run Try.prog W = .ok (.string (strOfNums s.out)) W := by
  have ho := h.rows.os
  generalize hv : x.ov = v at *
  rcases ho.2 with ⟨e, e0⟩ | ⟨g, cap, cur, e, _⟩
  · have e1 : s.out = [] := List.eq_nil_of_length_eq_zero e0
    rw [e, e1]
    exact run_convert_bytes_nil W 59 5 Try.underlying59 Try.underlying5 0 0 9 Try.underlying9
  · subst e
    refine run_convert_bytes_arg W 59 5 Try.underlying59 Try.underlying5 g 0 s.out.length cap s.out rfl (fun i hi => ?_) 9 Try.underlying9
    rw [World.ownsRow.cellAt ho _ (by omega), flat_by]
    simp [List.getD, hi]
/-- A run that has ended stays. -/
theorem runN_end (C : Cst) {s : St} (h : s.kind ≠ 0) : ∀ n, runN C n s = s
  | 0 => rfl
  | n + 1 => by unfold runN; rw [if_neg h]
theorem runN_step (C : Cst) {s : St} (h : s.kind = 0) (n : Nat) : runN C (n + 1) s = runN C n (stepF C s) := by
  rw [runN, if_pos h]
theorem run_banks (w : World) {n : Nat} (hn : n ≤ 256) : (Instr.makeSlice 58 (.int .i64 n) (.int .i64 n)).run Try.prog w = .ok (.slice (some ⟨w.heap.size, 0, none⟩) n n) (w.alloc (.cells (List.replicate n (.slice none 0 0)).toArray 69)) := by
  obtain ⟨i0, hi, e0, e1, e2⟩ := info_parts (show (Try.prog.info? 69).map (fun i => (i.zero, i.size, i.bytes)) = some (some (.slice none 0 0), 1, 24) by kernel_rfl)
  have hr := run_make (P := Try.prog) w 58 69 i0 (.slice none 0 0) Try.underlying58 hi e0 .i64 .i64 (n : Nat) (n : Nat) (by omega) (Int.le_refl _) (by rw [e2]; omega) (by omega)
  rw [hr]
  have e3 : madeCells (Value.slice none 0 0).cells (n * 1) = (List.replicate n (.slice none 0 0)).toArray := by
    rw [← made1, Array.toArray_toList]
    rfl
  rw [Int.toNat_natCast, e1, e3]
set_option maxHeartbeats 20000000 in
theorem count11_yes {W : World} {p : Pg} (hp : Pg.ok W p) {input : ByteArray} (hin : input.size ≤ big2) {fuel deep sf sa : Int} (hfu : fuel ≤ 32768) {sv : Value} {sl : List Int} (hsv : Src icell W sv sl) (hsl : sl.length * 8 ≤ big) (hpg : pgF p = true) :
    Calls Try.prog 11 #[p.val, .string input, .int .i64 fuel, .int .i64 deep, .int .i64 sa, sv, .int .i64 sf] W fun e w' => e = .returned (.tuple #[.int .i64 (runF (cstOf p input deep sf sa sv sl) fuel).times, endV (runF (cstOf p input deep sf sa sv sl) fuel)]) ∧ Below W.heap.size W w' := by
  have P := pg_ok hpg
  have H15 : Hid (∀ w1, Below W.heap.size W w1 → Calls Try.prog 15 #[p.val] w1 fun e w' => e = .returned (.int .i64 (errF (pgF p))) ∧ Below w1.heap.size w1 w') := fun w1 h => check15 (hp.on h)
  rw [hpg] at H15
  have H16 : Hid (∀ w1, Below W.heap.size W w1 → _) := fun w1 h => laid16 (hp.on h) P.gl P.data
  have HPG := hid' hp
  have HSV := hid' hsv
  obtain ⟨fo, fc, ef⟩ := hp.f.len
  obtain ⟨dd, dc, ed⟩ := hp.d.len
  obtain ⟨so, sc, es⟩ := hsv.len
  subst es
  have hfl : p.funcs.length ≤ 256 := by
    unfold pgF mayF winF at hpg
    simp only [Bool.and_eq_true, decide_eq_true_eq] at hpg
    omega
  have HMK : Hid (∀ w : World, _) := fun w => run_banks w hfl
  obtain ⟨G, hG⟩ : ∃ G : Nat, p.global = G := ⟨p.global.toNat, by have := P.gl; omega⟩
  have hG2 : G ≤ 65536 := by have := P.gl; omega
  obtain ⟨M, hM⟩ : ∃ M : Nat, p.main = M := ⟨p.main.toNat, by have := P.main; omega⟩
  have epv : p.val = .agg #[.slice fo p.funcs.length fc, .int .i64 G, .slice dd p.data.length dc, .int .i64 M] := by unfold Pg.val; rw [ef, hG, hM, ed]
  rw [epv] at H15 ⊢
  rw [epv, hG] at H16
  simp only [Int.toNat_natCast] at H16
  have HP := hid' P
  obtain ⟨C, hC⟩ : ∃ C, C = cstOf p input deep sf sa (.slice so sl.length sc) sl := ⟨_, rfl⟩
  obtain ⟨R, hRd⟩ : ∃ R, R = runF C fuel := ⟨_, rfl⟩
  rw [← hC, ← hRd]
  clear hp hsv P hpg
  go_enter Try.func11, Try.ntmps11
  go_upto_region 3 with (go_at_call 15; refine (H15.out _ (below2 _ _ _)).mono ?_; rintro e1 w1 ⟨rfl, hb1⟩; obtain ⟨hp1, hr1, hB1, hs1⟩ := blk2 hb1; have HR1 := hid' hr1; have HP1 := hid' hp1; have HB1 := hid' hB1; clear hr1 hp1 hB1 hb1)
  have hmk := HMK.out
  have hnf : (0 : Int) ≤ p.funcs.length := by omega
  have hp4 : ∀ w2 : World, w2.heap[W.heap.size]? = some (.cells #[.slice fo p.funcs.length fc, .int .i64 G, .slice dd p.data.length dc, .int .i64 M] 25 (0, 0)) → w2.cell? ⟨W.heap.size, 0, none⟩ = some (.slice fo p.funcs.length fc) ∧ w2.cell? ⟨W.heap.size, 1, none⟩ = some (.int .i64 G) ∧ w2.cell? ⟨W.heap.size, 2, none⟩ = some (.slice dd p.data.length dc) ∧ w2.cell? ⟨W.heap.size, 3, none⟩ = some (.int .i64 M) := fun w2 h2 => by
    have := fun o => cell_of_row w2 W.heap.size o _ 25 (0, 0) h2
    exact ⟨this 0, this 1, this 2, this 3⟩
  have HP4 := hid' hp4
  obtain ⟨p0, p1, p2, p3⟩ := hp4 w1 HP1.out
  clear hp4
  have hlt1 : W.heap.size < w1.heap.size := by omega
  have hne1 : ¬ W.heap.size = w1.heap.size := by omega
  have BD : Hid (Below W.heap.size W w1.drew) := HB1.out.trans ((drew1 w1).mono HB1.out.size)
  have BA : Hid (Below W.heap.size W (w1.drew.alloc (.cells (List.replicate p.funcs.length (.slice none 0 0)).toArray 69))) := BD.out.alloc BD.out.size _
  have hfin : ∀ w4 bg gg, Below w1.heap.size w1 w4 → w1.heap.size ≤ bg → w4.heap[bg]? = some (.cells (List.replicate p.funcs.length (.slice none 0 0)).toArray 69 (0, 0)) → w1.heap.size ≤ gg → w4.heap[gg]? = some (.cells (flat bcel (laidF p)).toArray 5 (0, 0)) → ∃ x, RunM C w1 w4.heap.size (w4.alloc (.cells #[.slice fo p.funcs.length fc, .int .i64 G, .slice dd p.data.length dc, .int .i64 M, .slice (some ⟨bg, 0, none⟩) p.funcs.length p.funcs.length, .slice none 0 0, .slice (some ⟨gg, 0, none⟩) G G, .slice none 0 0, .int .i64 8388608, .slice none 0 0, .int .i64 0, .pointer none, .pointer none, .slice none 0 0, .slice none 0 0, .string input, .slice none 0 0, .int .i64 fuel, .int .i64 deep, .int .i64 sf, .int .i64 sa, .slice so sl.length sc, .int .i64 0, .int .i64 0, .int .i32 0, .int .i64 0, .string ⟨#[]⟩, .int .i64 0] 72)) (st0 p fuel) x tp0 := fun w4 bg gg a1 a2 a3 a4 a5 => by
    have h := run_begins (p := p) (input := input) (deep := deep) (sf := sf) (sa := sa) (fuel := fuel) (HPG.out.on HB1.out) (HSV.out.on HB1.out) hsl a1 a2 a3 a4 hG hG2 a5 hfl
    rw [← hC] at h
    unfold rcells at h
    rw [hC] at h ⊢
    unfold cstOf tp0 at h
    dsimp only at h
    rw [ef, ed, hG, hM] at h
    exact ⟨_, h⟩
  have HFa : Hid (∀ (w2 : World) (gg : Nat), Below (w1.drew.alloc (.cells (List.replicate p.funcs.length (.slice none 0 0)).toArray 69)).heap.size (w1.drew.alloc (.cells (List.replicate p.funcs.length (.slice none 0 0)).toArray 69)) w2 → (w1.drew.alloc (.cells (List.replicate p.funcs.length (.slice none 0 0)).toArray 69)).heap.size ≤ gg → w2.heap[gg]? = some (.cells (flat bcel (laidF p)).toArray 5 (0, 0)) → ∃ x, RunM C w1 w2.heap.size (w2.alloc (.cells #[.slice fo p.funcs.length fc, .int .i64 G, .slice dd p.data.length dc, .int .i64 M, .slice (some ⟨w1.heap.size, 0, none⟩) p.funcs.length p.funcs.length, .slice none 0 0, .slice (some ⟨gg, 0, none⟩) G G, .slice none 0 0, .int .i64 8388608, .slice none 0 0, .int .i64 0, .pointer none, .pointer none, .slice none 0 0, .slice none 0 0, .string input, .slice none 0 0, .int .i64 fuel, .int .i64 deep, .int .i64 sf, .int .i64 sa, .slice so sl.length sc, .int .i64 0, .int .i64 0, .int .i32 0, .int .i64 0, .string ⟨#[]⟩, .int .i64 0] 72)) (st0 p fuel) x tp0) := fun w2 gg hb hg1 hg2 => by
    have b1 : Below w1.heap.size w1 (w1.drew.alloc (.cells (List.replicate p.funcs.length (.slice none 0 0)).toArray 69)) := (drew1 w1).alloc (Nat.le_refl _) _
    refine hfin w2 w1.heap.size gg (b1.trans (hb.mono b1.size)) (Nat.le_refl _) ?_ (Nat.le_trans b1.size hg1) hg2
    rw [hb.block _ (by simp)]
    exact heap_alloc_new w1.drew _
  have HFb : Hid (∀ (w2 : World) (gg : Nat), Below w1.drew.heap.size w1.drew w2 → w1.drew.heap.size ≤ gg → w2.heap[gg]? = some (.cells (flat bcel (laidF p)).toArray 5 (0, 0)) → ∃ x, RunM C w1 (w2.heap.size + 1) ((w2.alloc (.cells (Array.replicate p.funcs.length (.slice none 0 0)) 69)).alloc (.cells #[.slice fo p.funcs.length fc, .int .i64 G, .slice dd p.data.length dc, .int .i64 M, .slice (some ⟨w2.heap.size, 0, none⟩) p.funcs.length p.funcs.length, .slice none 0 0, .slice (some ⟨gg, 0, none⟩) G G, .slice none 0 0, .int .i64 8388608, .slice none 0 0, .int .i64 0, .pointer none, .pointer none, .slice none 0 0, .slice none 0 0, .string input, .slice none 0 0, .int .i64 fuel, .int .i64 deep, .int .i64 sf, .int .i64 sa, .slice so sl.length sc, .int .i64 0, .int .i64 0, .int .i32 0, .int .i64 0, .string ⟨#[]⟩, .int .i64 0] 72)) (st0 p fuel) x tp0) := fun w2 gg hb hg1 hg2 => by
    have b1 : Below w1.heap.size w1 w2 := (drew1 w1).trans hb
    have e : (.cells (Array.replicate p.funcs.length (.slice none 0 0)) 69 : Obj) = .cells (List.replicate p.funcs.length (.slice none 0 0)).toArray 69 := by simp
    rw [e]
    obtain ⟨x, hx⟩ := hfin (w2.alloc (.cells (List.replicate p.funcs.length (.slice none 0 0)).toArray 69)) w2.heap.size gg (b1.alloc b1.size _) b1.size (heap_alloc_new _ _) hg1 (by rw [Below.heap_alloc _ _ _ (Array.getElem?_eq_some_iff.1 hg2).1]; exact hg2)
    rw [show (w2.alloc (.cells (List.replicate p.funcs.length (.slice none 0 0)).toArray 69)).heap.size = w2.heap.size + 1 by simp] at hx
    exact ⟨x, hx⟩
  clear hfin
  go_cut [16] (fun rv wx => ∃ r x, rv = .pointer (some ⟨r, 0, none⟩) ∧ RunM C w1 r wx (st0 p fuel) x tp0)
  case first =>
    go_region_law (first
      | (refine step_call rfl 16 #[.tmp 26] #[25] rfl #[.agg #[.slice fo p.funcs.length fc, .int .i64 G, .slice dd p.data.length dc, .int .i64 M]] (by simp [Act.eval, Act.put]) (fun W => by simp [go_sem, Try.func16]) ?_; refine (H16.out w1.drew BD.out).mono ?_; rintro e2 w2 ⟨gg, rfl, hg1, hb2, hg2⟩; refine ⟨_, rfl, ?_⟩; obtain ⟨q0, q1, q2, q3⟩ := HP4.out w2 (by rw [hb2.block _ hlt1]; exact HP1.out); have hlt2 : w1.heap.size ≤ w2.heap.size := hb2.size; have hlt3 : W.heap.size < w2.heap.size := (by omega); have hne2 : ¬ W.heap.size = w2.heap.size := (by omega))
      | (refine step_call rfl 16 #[.tmp 26] #[25] rfl #[.agg #[.slice fo p.funcs.length fc, .int .i64 G, .slice dd p.data.length dc, .int .i64 M]] (by simp [Act.eval, Act.put]) (fun W => by simp [go_sem, Try.func16]) ?_; refine (H16.out _ BA.out).mono ?_; rintro e2 w2 ⟨gg, rfl, hg1, hb2, hg2⟩; refine ⟨_, rfl, ?_⟩; obtain ⟨q0, q1, q2, q3⟩ := HP4.out w2 (by rw [hb2.block _ (by simp; omega), Below.heap_alloc _ _ _ (by exact hlt1)]; exact HP1.out); have hlt2 : w1.heap.size + 1 ≤ w2.heap.size := (by have := hb2.size; simpa using this); have hlt3 : W.heap.size < w2.heap.size := (by omega); have hne2 : ¬ W.heap.size = w2.heap.size := (by omega)))
    all_goals
      go_wp2_with fail
      go_meet
      first
        | (obtain ⟨x, hx⟩ := HFa.out w2 gg hb2 hg1 hg2; exact ⟨_, x, rfl, hx⟩)
        | (obtain ⟨x, hx⟩ := HFb.out w2 gg hb2 hg1 hg2; exact ⟨_, x, rfl, hx⟩)
  case rest =>
    obtain ⟨r, x, rfl, hR⟩ := hcut
    have hCp : C.p = p := by rw [hC]; rfl
    have hCi : C.input = input := by rw [hC]; rfl
    have hCr : C.room = none := by rw [hC]; rfl
    have hPC : PgOk C.p := by rw [hCp]; exact HP.out
    have h17 := enter_ (fn := M) (args := []) (av := .slice none 0 0) hR (by rw [← hCp]; exact st0_core hPC fuel) (by rw [← hCp]; exact st0_num hfu) hPC (by have := hPC.main; rw [hCp, hM] at this; rw [hCp]; omega) (fun c hc => by cases hc) (by
      have := hPC.pm
      rw [hCp, hM] at this
      show (0 : Int) = (fnOf C M).params
      unfold fnOf
      rw [hCp]
      exact this.symm) (fun a ha => by cases ha) ⟨none, 0, rfl, fun h => absurd h (Nat.lt_irrefl 0)⟩
    have e1 : entF C (st0 p fuel) M (fnOf C M) [] = st1 C fuel := by unfold st1; rw [hCp, hM]; rfl
    rw [e1] at h17
    have HK1 : Hid (Kpt C (st1 C fuel)) := st1_kpt hPC hfu
    have HF1 : Hid ((st1 C fuel).fuel ≤ fuel) := by
      unfold Hid st1
      exact (mono_ent C (st0 C.p fuel) C.p.main.toNat (fnOf C C.p.main.toNat) []).fuel
    have HBR := hid' hR.rows.below
    have q3 := (HP4.out wc (by rw [HBR.out.block _ hlt1]; exact HP1.out)).2.2.2
    have HRF : Hid (runN C (fuel.toNat + 1) (st1 C fuel) = R) := hRd.symm
    have HPC := hid' hPC
    have HIN : Hid (C.input.size ≤ big2) := by unfold Hid; rw [hCi]; exact hin
    have HFU := hid' hfu
    clear hR hRd hC hCp hCi hPC e1 HFa HFb HMK hmk H15 H16 p0 p1 p2 p3 hfu hin hG2 hfl hnf hG hM epv ef ed hsl HP HSV HPG HP4 BD BA
    go_wp2_with (go_at_call 17; refine h17.mono ?_; rintro e2 w3 ⟨rfl, x3, t3, hR3, hT3⟩)
    have HR3 := hid' hR3
    have HT3 := hid' hT3
    clear hR3 hT3 h17 q3
    go_loopg [] (fuel.toNat + 1) (fun g wr => ∃ s x t, RunM C w1 r wr s x t ∧ Kpt C s ∧ (s.kind = 0 → ∃ c l, Top C s x t c l) ∧ runN C g s = R ∧ (s.kind = 0 → s.fuel.toNat < g))
    case atStart => exact ⟨_, _, _, HR3.out, HK1.out, HT3.out, HRF.out, fun _ => by have := HF1.out; omega⟩
    case round =>
      obtain ⟨s, x, t, hR, hK, hT, hN, hF⟩ := hrel
      have HR := hid' hR
      have HK := hid' hK
      have HT := hid' hT
      have HN := hid' hN
      have HF := hid' hF
      have c23 : wr.cell? ⟨r, 23, none⟩ = some (.int .i64 s.kind) := hR.cell 23
      clear hR hK hT hN hF
      by_cases hk : s.kind = 0
      · obtain ⟨g', hg⟩ : ∃ g', gk = g' + 1 := ⟨gk - 1, by have := HF.out hk; omega⟩
        obtain ⟨c, l, hTop⟩ := HT.out hk
        have hG := HK.out.2 hk
        have h18 := step_ HR.out hTop hG HPC.out hCr HIN.out
        have hms := mono_step C s
        have HST : Hid (Kpt C (stepF C s) ∧ runN C g' (stepF C s) = R ∧ ((stepF C s).kind = 0 → (stepF C s).fuel.toNat < g')) := by
          refine ⟨step_kpt hG HPC.out, ?_, fun h0 => ?_⟩
          · rw [← runN_step C hk, ← hg]
            exact HN.out
          · have h1 := HF.out hk
            have h2 : 1 ≤ s.fuel := by
              by_cases h3 : s.fuel < 1
              · have := hms.2.2 h3
                omega
              · omega
            obtain ⟨c9, hc9, _⟩ := hG.top
            have h3 := hms.2.1 h2 (fun e => by rw [e] at hc9; cases hc9)
            omega
        clear hms hG hTop
        rw [hk] at c23
        go_wp2_with (go_at_call 18; refine h18.mono ?_; rintro e5 w5 ⟨rfl, x5, t5, hR5, hT5⟩)
        go_roundg g'
        case measure => omega
        case rel => exact ⟨_, x5, t5, hR5, HST.out.1, hT5, HST.out.2.1, HST.out.2.2⟩
      · have hRS : R = s := by rw [← HN.out]; exact runN_end C hk _
        have hcv := conv_out HR.out
        have c16 : wr.cell? ⟨r, 16, none⟩ = some x.ov := HR.out.cell 16
        have c26 : wr.cell? ⟨r, 26, none⟩ = some (.string ⟨#[]⟩) := HR.out.cell 26
        have cf := HR.out.fro
        have hbr := HR.out.rows.below
        have hrr := HR.out.rr
        have hrc := HR.out.rc
        have h15 : wr.heap[W.heap.size + 1]? = some (.cells #[.int .i64 0, .int .i32 0, .int .i64 0, .string ⟨#[]⟩, .int .i64 0] 31 (0, 0)) := by rw [hbr.block _ hs1]; exact HR1.out
        have h7c := heap_setCell_same wr r 26 _ 72 (.string (strOfNums s.out)) hrc
        have h7r : (wr.setCell ⟨r, 26, none⟩ (.string (strOfNums s.out))).heap[W.heap.size + 1]? = some (.cells #[.int .i64 0, .int .i32 0, .int .i64 0, .string ⟨#[]⟩, .int .i64 0] 31 (0, 0)) := by rw [(setK wr r 26 _).block _ (by have := hbr.size; omega) (by omega)]; exact h15
        have HB7 : Hid (Below W.heap.size W (wr.setCell ⟨r, 26, none⟩ (.string (strOfNums s.out)))) := (HB1.out.trans (hbr.mono HB1.out.size)).trans ((setK wr r 26 _).below (HB1.out.trans (hbr.mono HB1.out.size)).size (fun q e => by omega))
        clear h15 hrc hbr
        go_wp2
        generalize wr.setCell ⟨r, 26, none⟩ (.string (strOfNums s.out)) = w7 at *
        have k7 := fun o => cell_of_row w7 r o _ 72 (0, 0) h7c
        have k22 : w7.cell? ⟨r, 22, none⟩ = some (.int .i64 s.times) := k7 22
        have k23 : w7.cell? ⟨r, 23, none⟩ = some (.int .i64 s.kind) := k7 23
        have k24 : w7.cell? ⟨r, 24, none⟩ = some (.int .i32 s.code) := k7 24
        have k25 : w7.cell? ⟨r, 25, none⟩ = some (.int .i64 s.trap) := k7 25
        have k26 : w7.cell? ⟨r, 26, none⟩ = some (.string (strOfNums s.out)) := k7 26
        have k27 : w7.cell? ⟨r, 27, none⟩ = some (.int .i64 s.used) := k7 27
        obtain ⟨d0, d1, d2, d3, d4, df⟩ := res5 h7r
        obtain ⟨h9, hKp⟩ := set5 (w := w7) (u0 := .int .i64 s.kind) (u1 := .int .i32 s.code) (u2 := .int .i64 s.trap) (u3 := .string (strOfNums s.out)) (u4 := .int .i64 s.used) h7r
        have H9 := hid' h9
        have HKp := hid' hKp
        clear k7 h7c h7r c23 c16 c26 cf hcv h9 hKp HR1
        go_region_law (fail)
        all_goals
          go_wp2
          have h9 := H9.out
          have hKp := HKp.out
          clear H9 HKp d0 d1 d2 d3 d4 df
          generalize ((((w7.setCell ⟨W.heap.size + 1, 0, none⟩ (.int .i64 s.kind)).setCell ⟨W.heap.size + 1, 1, none⟩ (.int .i32 s.code)).setCell ⟨W.heap.size + 1, 2, none⟩ (.int .i64 s.trap)).setCell ⟨W.heap.size + 1, 3, none⟩ (.string (strOfNums s.out))).setCell ⟨W.heap.size + 1, 4, none⟩ (.int .i64 s.used) = w9 at *
          obtain ⟨d0, d1, d2, d3, d4, df⟩ := res5 h9
          refine bodyPost_ret (v := .tuple #[.int .i64 s.times, endV s]) (by simp [results, Try.results11, go_sem, d0, d1, d2, d3, d4, endV]) rfl ⟨by rw [hRS], (HB7.out.trans (hKp.below HB7.out.size (fun q e => by omega))).trans ((drew1 w9).mono (Nat.le_trans HB7.out.size hKp.size))⟩
end Go.Proofs.Ytiehlkhpblldaaa
