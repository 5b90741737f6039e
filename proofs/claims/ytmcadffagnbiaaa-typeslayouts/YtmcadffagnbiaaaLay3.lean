/- The program's Layout. -/
import Derived.Test.YtmcadffagnbiaaaLay2
namespace Go.Proofs.Ytmcadffagnbiaaa
open Go.RowKit Go.Maps
set_option linter.unusedVariables false
set_option linter.unusedSimpArgs false

/-- What Layout tells. -/
def LayIs (nm : ByteArray) (l : List Mb) (rn : ByteArray) (ms : List Mb) (rz er : Int) : Prop :=
  (32 < l.length ∧ er = 3 ∧ rn = ⟨#[]⟩ ∧ ms = [] ∧ rz = 0) ∨ (l.length ≤ 32 ∧ ¬ goodL l ∧ er = 1 ∧ rn = ⟨#[]⟩ ∧ ms = [] ∧ rz = 0) ∨
  (l.length ≤ 32 ∧ goodL l ∧ er = 0 ∧ rn = nm ∧ ms = (runL l).d ∧ rz = upF (runL l).z (runL l).g)
theorem LayIs.unique {nm : ByteArray} {l : List Mb} {rn rn' : ByteArray} {ms ms' : List Mb} {rz rz' er er' : Int} (h : LayIs nm l rn ms rz er) (h' : LayIs nm l rn' ms' rz' er') : rn = rn' ∧ ms = ms' ∧ rz = rz' ∧ er = er' := by
  rcases h with ⟨a, rfl, rfl, rfl, rfl⟩ | ⟨a, b, rfl, rfl, rfl, rfl⟩ | ⟨a, b, rfl, rfl, rfl, rfl⟩ <;> rcases h' with ⟨a', rfl, rfl, rfl, rfl⟩ | ⟨a', b', rfl, rfl, rfl, rfl⟩ | ⟨a', b', rfl, rfl, rfl, rfl⟩ <;> first | exact ⟨rfl, rfl, rfl, rfl⟩ | omega | exact absurd b b' | exact absurd b' b
def LayR (nm : ByteArray) (l : List Mb) (w : World) (e : Ending) (w' : World) : Prop :=
  ∃ (rn : ByteArray) (rv : Value) (rz er : Int) (ms : List Mb), e = .returned (.tuple #[.agg #[.string rn, rv, .int .i64 rz], .int .i64 er]) ∧ LayIs nm l rn ms rz er ∧ Src Mb.cells w' rv ms ∧ Below w.heap.size w w'
theorem src_nil {w : World} {ao : Option Addr} {cap : Nat} : Src Mb.cells w (.slice ao 0 cap) [] := .inl ⟨rfl, _, _, rfl⟩

theorem layout_long (nm : ByteArray) (ao : Option Addr) (n cap : Nat) (hn : 32 < n) (w : World) :
    Calls Try.prog 19 #[.string nm, .slice ao n cap] w fun e w' => e = .returned (.tuple #[.agg #[.string ⟨#[]⟩, .slice none 0 0, .int .i64 0], .int .i64 3]) ∧ Below w.heap.size w w' := by
  have : (32 : Int) < n := by omega
  go_enter Try.func19, Try.ntmps19
  go_wp2
  exact bodyPost_ret (v := .tuple #[.agg #[.string ⟨#[]⟩, .slice none 0 0, .int .i64 0], .int .i64 3]) (by simp [results, Try.results19, go_sem]) rfl ⟨rfl, below1 _ _⟩
theorem layout_bad (nm : ByteArray) (ao : Option Addr) (n cap : Nat) (hn : ¬ 32 < n) (w : World) (h33 : ∀ W, Below w.heap.size w W → Calls Try.prog 33 #[.slice ao n cap] W fun e w' => e = .returned (.bool false) ∧ Below W.heap.size W w') :
    Calls Try.prog 19 #[.string nm, .slice ao n cap] w fun e w' => e = .returned (.tuple #[.agg #[.string ⟨#[]⟩, .slice none 0 0, .int .i64 0], .int .i64 1]) ∧ Below w.heap.size w w' := by
  have : ¬ (32 : Int) < n := by omega
  have H := hid' h33
  clear h33
  go_enter Try.func19, Try.ntmps19
  go_wp2_with (go_at_call 33; refine (H.out _ (below1 _ _)).mono ?_; rintro e w1 ⟨rfl, hb1⟩; obtain ⟨hc1, hf1⟩ := bcell hb1; have hs1 := hb1.size)
  have hob : IsRec w1 w.heap.size ⟨#[]⟩ (.slice none 0 0) 0 := by
    refine (hb1.block w.heap.size (by simp)).trans ?_
    rw [heap_alloc_new]
  have hp := hob.put3 ⟨#[]⟩ (.slice none 0 0) 0
  have hB : Below w.heap.size w _ := (below_on (below1 _ _) hb1 (by simp)).trans ((Kept.put3 w1 w.heap.size (.string ⟨#[]⟩) (.slice none 0 0) (.int .i64 0)).below (by simp at hs1; omega) (fun k e => by omega))
  generalize ((w1.setCell ⟨w.heap.size, 0, none⟩ (.string ⟨#[]⟩)).setCell ⟨w.heap.size, 1, none⟩ (.slice none 0 0)).setCell ⟨w.heap.size, 2, none⟩ (.int .i64 0) = W at *
  exact bodyPost_ret (v := .tuple #[.agg #[.string ⟨#[]⟩, .slice none 0 0, .int .i64 0], .int .i64 1]) (by simp [results, Try.results19, go_sem, hp.c0, hp.c1, hp.c2]) rfl ⟨rfl, hB⟩

def zRec : Obj := .cells #[.string ⟨#[]⟩, .slice none 0 0, .int .i64 0] 37
theorem mid0 {w w1 W : World} {nm : ByteArray} {l : List Mb} {rb mb : Nat} {R : Array Value} (hR : R = madeCells mz.cells (l.length * 6)) (hl : l.length ≤ 32) (h1 : IsRec w1 w.heap.size ⟨#[]⟩ (.slice none 0 0) 0) (hB1 : Below w.heap.size w w1) (hw1 : w.heap.size < w1.heap.size)
    (hb : Below w1.heap.size w1 W) (hm : W.heap[mb]? = some (.cells R 49)) (hr : IsRec W rb nm (.slice (some ⟨mb, 0, none⟩) l.length l.length) 0) (hrm : rb ≠ mb) (hrb : w1.heap.size ≤ rb) (hmb : w1.heap.size ≤ mb) : LMid w nm l 0 rb mb W := by
  have K : Kept (fun _ => False) w1 W := Kept.of_below hb
  refine ⟨?_, by simpa [runL] using hr, K.isRec h1 (fun e => e), hrm, by omega, by omega, below_on hB1 hb hB1.size⟩
  have e : curM l 0 = List.replicate l.length zM := by simp [curM, runL]
  rw [e]
  refine ⟨by rw [flat_length mb6], .inr ⟨mb, l.length, R, by rw [List.length_replicate], by omega, hm, by simp, by unfold maxLen; omega, by rw [hR, size_madeCells], ?_⟩⟩
  rw [flat_zeros, List.length_replicate, hR]
  rw [List.take_of_length_le (by rw [Array.length_toList, size_madeCells]; exact Nat.le_refl _)]
  simp only [madeCells, Array.toList_map, Array.toList_range]
  rfl
theorem new_at (w : World) (o : Obj) (k : Nat) (hk : k = w.heap.size) : (w.alloc o).heap[k]? = some o := by rw [hk, heap_alloc_new]
theorem old_at (w : World) (o : Obj) (k : Nat) (hk : k < w.heap.size) {x : Option Obj} (h : w.heap[k]? = x) : (w.alloc o).heap[k]? = x := (Below.heap_alloc w o k hk).trans h
theorem drew_below (w : World) : Below w.heap.size w w.drew := ⟨rfl, rfl, rfl, Nat.le_refl _, fun _ _ => rfl⟩

/-- What a round reads: its member's box, and a record. -/
structure RF (W : World) (b rb : Nat) (mn : ByteArray) (tk te tn ts mp : Int) (sv : Value) (z : Int) : Prop where
  m0 : W.cell? ⟨b, 0, none⟩ = some (.string mn)
  m1 : W.cell? ⟨b, 1, none⟩ = some (.int .i64 tk)
  m2 : W.cell? ⟨b, 2, none⟩ = some (.int .i64 te)
  m3 : W.cell? ⟨b, 3, none⟩ = some (.int .i64 tn)
  m4 : W.cell? ⟨b, 4, none⟩ = some (.int .i64 ts)
  m5 : W.cell? ⟨b, 5, none⟩ = some (.int .i64 mp)
  r1 : W.cell? ⟨rb, 1, none⟩ = some sv
  r2 : W.cell? ⟨rb, 2, none⟩ = some (.int .i64 z)
theorem keep_cell {W W' : World} {b o : Nat} {v : Value} (h : W.cell? ⟨b, o, none⟩ = some v) (hb : Below W.heap.size W W') : W'.cell? ⟨b, o, none⟩ = some v :=
  (hb.cell (p := ⟨b, o, none⟩) (World.block_lt_of_cell? W _ h)).trans h
theorem RF.on {W W' : World} {b rb : Nat} {mn : ByteArray} {tk te tn ts mp : Int} {sv : Value} {z : Int} (h : RF W b rb mn tk te tn ts mp sv z) (hb : Below W.heap.size W W') : RF W' b rb mn tk te tn ts mp sv z :=
  ⟨keep_cell h.m0 hb, keep_cell h.m1 hb, keep_cell h.m2 hb, keep_cell h.m3 hb, keep_cell h.m4 hb, keep_cell h.m5 hb, keep_cell h.r1 hb, keep_cell h.r2 hb⟩
theorem rf_new {wr : World} {rb : Nat} {mn : ByteArray} {tk te tn ts mp : Int} {sv : Value} {z : Int} {t : TypeId} (r1 : wr.cell? ⟨rb, 1, none⟩ = some sv) (r2 : wr.cell? ⟨rb, 2, none⟩ = some (.int .i64 z)) :
    RF (wr.alloc (.cells #[.string mn, .int .i64 tk, .int .i64 te, .int .i64 tn, .int .i64 ts, .int .i64 mp] t)) wr.heap.size rb mn tk te tn ts mp sv z :=
  ⟨by simp [go_sem], by simp [go_sem], by simp [go_sem], by simp [go_sem], by simp [go_sem], by simp [go_sem], keep_cell r1 (below1 _ _), keep_cell r2 (below1 _ _)⟩

set_option maxHeartbeats 8000000 in
set_option maxRecDepth 20000 in
theorem layout_ok {nm : ByteArray} {w : World} {ao : Option Addr} {cap : Nat} {l : List Mb} (hS : Src Mb.cells w (.slice ao l.length cap) l) (hn : ¬ 32 < l.length) (hg : goodL l) (hnm : nm.size ≤ 140737488351232) (hns : ∀ m ∈ l, m.nm.size ≤ 140737488351232)
    (h33 : ∀ W, Below w.heap.size w W → Calls Try.prog 33 #[.slice ao l.length cap] W fun e w' => e = .returned (.bool true) ∧ Below W.heap.size W w') :
    Calls Try.prog 19 #[.string nm, .slice ao l.length cap] w fun e w' => ∃ mb : Nat, e = .returned (.tuple #[.agg #[.string nm, .slice (some ⟨mb, 0, none⟩) l.length l.length, .int .i64 (upF (runL l).z (runL l).g)], .int .i64 0]) ∧ Own 49 6 Mb.cells w' (w.heap.size + 1) (.slice (some ⟨mb, 0, none⟩) l.length l.length) (runL l).d ∧ Below w.heap.size w w' := by
  have h32 : ¬ (32 : Int) < l.length := by omega
  have H := hid' h33
  have HS := hid' hS
  have HG := hid' hg
  have HNS := hid' hns
  clear h33 hS hg hns
  go_enter Try.func19, Try.ntmps19
  go_wp2_with (go_at_call 33; refine (H.out _ (below1 _ _)).mono ?_; rintro e w1 ⟨rfl, hb1⟩)
  have hob : IsRec w1 w.heap.size ⟨#[]⟩ (.slice none 0 0) 0 := by
    refine (hb1.block w.heap.size (by simp)).trans ?_
    rw [heap_alloc_new]
  have HO := hid' hob
  have HB1 : Hid (Below w.heap.size w w1) := below_on (below1 _ _) hb1 (by simp)
  have hw1 : w.heap.size < w1.heap.size := by have := hb1.size; simp at this; omega
  clear hob hb1
  obtain ⟨R, hR, hmk⟩ : ∃ R : Array Value, R = madeCells mz.cells (l.length * 6) ∧ ∀ W, (Instr.makeSlice 35 (.int .i64 (l.length : Nat)) (.int .i64 (l.length : Nat))).run Try.prog W = .ok (.slice (some ⟨W.heap.size, 0, none⟩) l.length l.length) (W.alloc (.cells R 49)) := by
    refine ⟨_, rfl, fun W => ?_⟩
    obtain ⟨i0, hi, e0, e1, e2⟩ := info_parts info49
    have hr := run_make (P := Try.prog) W 35 49 i0 mz Try.underlying35 hi e0 .i64 .i64 (l.length : Nat) (l.length : Nat) (by omega) (Int.le_refl _) (by rw [e2]; omega) (by omega)
    rw [Int.toNat_natCast, e1] at hr
    exact hr
  have HR := hid' hR
  clear hR
  go_cut [6] (fun p wx => ∃ rb mb, p = .pointer (some ⟨rb, 0, none⟩) ∧ LMid w nm l 0 rb mb wx)
  case first =>
    go_region_with (go_at_call 34; refine (clone34 nm _ hnm).mono ?_; rintro e w2 ⟨rfl, hb2⟩; obtain ⟨hc2, hf2⟩ := bcell hb2; have hs2 := hb2.size; try (have hs3 : w1.heap.size < w2.heap.size := by (simp at hs2; omega)); try (have hs4 : ¬ w1.heap.size = w2.heap.size := by omega); try (have hs5 : ¬ w2.heap.size = w1.heap.size := by omega))
    · have hx : LMid w nm l 0 (w2.heap.size + 1) w2.heap.size ((w2.alloc (.cells R 49)).alloc (.cells #[.string nm, .slice (some ⟨w2.heap.size, 0, none⟩) l.length l.length, .int .i64 0] 37)) := by
        have hb : Below w1.heap.size w1 w2 := (drew_below w1).trans hb2
        have h9 := hb.size
        exact mid0 HR.out (by omega) HO.out HB1.out hw1 ((hb.alloc h9 _).alloc (by simp; omega) _) (old_at _ _ _ (by simp) (new_at _ _ _ rfl)) (new_at _ _ _ (by simp)) (by omega) (by omega) (by omega)
      have HX := hid' hx
      clear hx
      go_wp2_with fail
      go_meet
      exact ⟨_, _, rfl, HX.out⟩
    · have hx : LMid w nm l 0 w2.heap.size (w2.heap.size + 1) ((w2.alloc (.cells #[.string nm, .slice (some ⟨w2.heap.size + 1, 0, none⟩) l.length l.length, .int .i64 0] 37)).alloc (.cells R 49)) := by
        have hb : Below w1.heap.size w1 w2 := (drew_below w1).trans hb2
        have h9 := hb.size
        exact mid0 HR.out (by omega) HO.out HB1.out hw1 ((hb.alloc h9 _).alloc (by simp; omega) _) (new_at _ _ _ (by simp)) (old_at _ _ _ (by simp) (new_at _ _ _ rfl)) (by omega) (by omega) (by omega)
      have HX := hid' hx
      clear hx
      go_wp2_with fail
      go_meet
      exact ⟨_, _, rfl, HX.out⟩
    · have hx : LMid w nm l 0 w2.heap.size w1.heap.size (w2.alloc (.cells #[.string nm, .slice (some ⟨w1.heap.size, 0, none⟩) l.length l.length, .int .i64 0] 37)) := by
        have hb : Below w1.heap.size w1 w2 := (drew_below w1).trans (((below1 w1.drew _).mono (Nat.le_refl _)).trans (hb2.mono (by simp)))
        have h9 := hb.size
        exact mid0 HR.out (by omega) HO.out HB1.out hw1 (hb.alloc h9 _) (old_at _ _ _ (by omega) ((hb2.block _ (by simp)).trans (new_at _ _ _ rfl))) (new_at _ _ _ rfl) (by omega) (by omega) (by omega)
      have HX := hid' hx
      clear hx
      go_wp2_with fail
      go_meet
      exact ⟨_, _, rfl, HX.out⟩
    · have hx : LMid w nm l 0 (w1.heap.size + 1) w1.heap.size (((w2.setCell ⟨w1.heap.size + 1, 0, none⟩ (.string nm)).setCell ⟨w1.heap.size + 1, 1, none⟩ (.slice (some ⟨w1.heap.size, 0, none⟩) l.length l.length)).setCell ⟨w1.heap.size + 1, 2, none⟩ (.int .i64 0)) := by
        have hb : Below w1.heap.size w1 w2 := (drew_below w1).trans (((below2 w1.drew _ _).mono (Nat.le_refl _)).trans (hb2.mono (by simp; omega)))
        have h9 := hb.size
        have hz : IsRec w2 (w1.heap.size + 1) ⟨#[]⟩ (.slice none 0 0) 0 := (hb2.block _ (by simp)).trans (new_at _ _ _ (by simp))
        have hm : w2.heap[w1.heap.size]? = some (.cells R 49) := (hb2.block _ (by simp; omega)).trans (old_at _ _ _ (by simp) (new_at _ _ _ rfl))
        have K3 := Kept.put3 w2 (w1.heap.size + 1) (.string nm) (.slice (some ⟨w1.heap.size, 0, none⟩) l.length l.length) (.int .i64 0)
        exact mid0 HR.out (by omega) HO.out HB1.out hw1 (hb.trans (K3.below h9 (fun k e => by omega))) ((K3.block _ (by omega) (by omega)).trans hm) (hz.put3 _ _ _) (by omega) (by omega) (by omega)
      have HX := hid' hx
      clear hx
      go_wp2_with fail
      go_meet
      exact ⟨_, _, rfl, HX.out⟩
    · have hx : LMid w nm l 0 w1.heap.size w2.heap.size ((((w2.setCell ⟨w1.heap.size, 0, none⟩ (.string nm)).setCell ⟨w1.heap.size, 1, none⟩ (.slice (some ⟨w2.heap.size, 0, none⟩) l.length l.length)).setCell ⟨w1.heap.size, 2, none⟩ (.int .i64 0)).alloc (.cells R 49)) := by
        have hb : Below w1.heap.size w1 w2 := (drew_below w1).trans (((below1 w1.drew _).mono (Nat.le_refl _)).trans (hb2.mono (by simp)))
        have h9 := hb.size
        have hz : IsRec w2 w1.heap.size ⟨#[]⟩ (.slice none 0 0) 0 := (hb2.block _ (by simp)).trans (new_at _ _ _ rfl)
        have K3 := Kept.put3 w2 w1.heap.size (.string nm) (.slice (some ⟨w2.heap.size, 0, none⟩) l.length l.length) (.int .i64 0)
        have hs := K3.size
        refine mid0 HR.out (by omega) HO.out HB1.out hw1 ((hb.trans (K3.below h9 (fun k e => by omega))).alloc (by omega) _) (new_at _ _ _ (by simp)) (old_at _ _ _ (by omega) (hz.put3 _ _ _)) (by omega) (by omega) (by omega)
      have HX := hid' hx
      clear hx
      go_wp2_with fail
      go_meet
      exact ⟨_, _, rfl, HX.out⟩
    · have hx : LMid w nm l 0 w1.heap.size (w1.heap.size + 1) (((w2.setCell ⟨w1.heap.size, 0, none⟩ (.string nm)).setCell ⟨w1.heap.size, 1, none⟩ (.slice (some ⟨w1.heap.size + 1, 0, none⟩) l.length l.length)).setCell ⟨w1.heap.size, 2, none⟩ (.int .i64 0)) := by
        have hb : Below w1.heap.size w1 w2 := (drew_below w1).trans (((below2 w1.drew _ _).mono (Nat.le_refl _)).trans (hb2.mono (by simp; omega)))
        have h9 := hb.size
        have hz : IsRec w2 w1.heap.size ⟨#[]⟩ (.slice none 0 0) 0 := (hb2.block _ (by simp; omega)).trans (old_at _ _ _ (by simp) (new_at _ _ _ rfl))
        have hm : w2.heap[w1.heap.size + 1]? = some (.cells R 49) := (hb2.block _ (by simp)).trans (new_at _ _ _ (by simp))
        have K3 := Kept.put3 w2 w1.heap.size (.string nm) (.slice (some ⟨w1.heap.size + 1, 0, none⟩) l.length l.length) (.int .i64 0)
        exact mid0 HR.out (by omega) HO.out HB1.out hw1 (hb.trans (K3.below h9 (fun k e => by omega))) ((K3.block _ (by have := hb2.size; simp at this; omega) (by omega)).trans hm) (hz.put3 _ _ _) (by omega) (by omega) (by omega)
      have HX := hid' hx
      clear hx
      go_wp2_with fail
      go_meet
      exact ⟨_, _, rfl, HX.out⟩
  case rest =>
    obtain ⟨rb, mb, rfl, hM0⟩ := hcut
    have HM0 := hid' hM0
    obtain ⟨ao', cap', hv, hf⟩ := HS.out.form mb6
    obtain ⟨rfl, _, rfl⟩ : ao = ao' ∧ True ∧ cap = cap' := by injection hv with a1 a2 a3; exact ⟨a1, trivial, a3⟩
    have HF := hid' hf
    clear hM0 hf hv
    go_wp2_with fail
    go_loopw [7, 30] (fun g i wr => ∃ k : Nat, k ≤ l.length ∧ i = .int .i64 k ∧ g = .int .i64 (runL (l.take k)).g ∧ LMid w nm l k rb mb wr) (fun _ i _ => l.length - (intOf i).toNat)
    case atStart => exact ⟨0, Nat.zero_le _, rfl, by simp [runL], HM0.out⟩
    case round =>
      obtain ⟨k, hk, rfl, rfl, hM⟩ := hrel
      by_cases hlt : k < l.length
      · obtain ⟨b, off, rfl, hbl, hcp, hc⟩ := HF.out k hlt
        obtain ⟨c0, c1, c2, c3, c4, c5⟩ := mb_cells (hc wr hM.below)
        have hok := fine_ok HG.out.1
        rw [List.take_length] at hok
        have hokk := hok l[k] (List.getElem_mem hlt)
        have H10 := fun W => size10 (w := W) (v := .slice none 0 0) (l := []) (.inl ⟨rfl, _, _, rfl⟩) (by simp) l[k].ty
        rw [okM_size hokk] at H10
        have H35 := fun W => al35 l[k].ty W
        have hrun := run_le (l := l.take k) (fun m hm => hok m (List.mem_of_mem_take hm))
        have hzl : (runL (l.take k)).z ≤ 140000 := by have := hrun.2.1; rw [List.length_take] at this; omega
        have hsz := szM_le hokk
        have hal := al_or l[k].ty
        have hup := up_le hrun.1 hal
        have H36 := fun W => up36 (runL (l.take k)).z (alF l[k].ty) hrun.1 (by omega) hal W
        have hnk := HNS.out l[k] (List.getElem_mem hlt)
        have H34 := fun W => clone34 l[k].nm W hnk
        have HNX : Hid (∀ W, LMid w nm l k rb mb W → LMid w nm l (k + 1) rb mb ((put6 W mb k ⟨l[k].nm, l[k].ty, upF (runL (l.take k)).z (alF l[k].ty)⟩).setCell ⟨rb, 2, none⟩ (.int .i64 (upF (runL (l.take k)).z (alF l[k].ty) + szM l[k].ty)))) := fun W h => h.next hlt
        have HGX : Hid ((runL (l.take (k + 1))).g = max (runL (l.take k)).g (alF l[k].ty)) := by unfold Hid; rw [take_snoc l k hlt, runL_snoc]; rfl
        have hgg := hrun.2.2
        have r0 := hM.rc.c0
        have r1 := hM.rc.c1
        have r2 := hM.rc.c2
        have hrl := hM.rc.lt
        have HMk := hid' hM
        have hz0 := hrun.1
        clear hc hok hokk hrun hnk hM
        generalize upF (runL (l.take k)).z (alF l[k].ty) = at' at *
        generalize szM l[k].ty = sz at *
        generalize alF l[k].ty = al at *
        generalize (runL (l.take k)).z = z at *
        generalize (runL (l.take k)).g = g at *
        generalize l[k] = m at *
        obtain ⟨mn, ⟨tk, te, tn, ts⟩, mp⟩ := m
        unfold Ty.val at *
        dsimp only at *
        have HF0 : Hid (RF (wr.alloc (.cells #[.string mn, .int .i64 tk, .int .i64 te, .int .i64 tn, .int .i64 ts, .int .i64 mp] 49)) wr.heap.size rb mn tk te tn ts mp (.slice (some ⟨mb, 0, none⟩) l.length l.length) z) := rf_new r1 r2
        clear r0 r1 r2
        go_wp2_with (first
          | (go_at_call 10; refine (H10 _).mono ?_; rintro e3 w3 ⟨rfl, hb3⟩; have HF3 := hid' (HF0.out.on hb3); replace hb3 := hid' (below_on (below1 _ _) hb3 (by simp)); obtain ⟨m0, m1, m2, m3, m4, m5, r1, r2⟩ := HF3.out)
          | (go_at_call 35; refine (H35 _).mono ?_; rintro e4 w4 ⟨rfl, hb4⟩; clear m0 m1 m2 m3 m4 m5 r1 r2; have HF4 := hid' (HF3.out.on hb4); replace hb4 := hid' (below_on hb3.out hb4 hb3.out.size); obtain ⟨m0, m1, m2, m3, m4, m5, r1, r2⟩ := HF4.out)
          | (go_at_call 36; refine (H36 _).mono ?_; rintro e5 w5 ⟨rfl, rfl⟩))
        clear m0 m1 m2 m3 m4 m5 r1 r2 H10 H35 H36 c0 c1 c2 c3 c4 c5 HF0 HF3
        have hlt' : (k : Int) < l.length := by omega
        go_cut [57] (fun p wx => ∃ W, LMid w nm l k rb mb W ∧ wx = put6 W mb k ⟨mn, ⟨tk, te, tn, ts⟩, at'⟩)
        case first =>
          have q0 := fun t : After w5 => (HF4.out.on t.2).m0
          have q1 := fun t : After w5 => (HF4.out.on t.2).m1
          have q2 := fun t : After w5 => (HF4.out.on t.2).m2
          have q3 := fun t : After w5 => (HF4.out.on t.2).m3
          have q4 := fun t : After w5 => (HF4.out.on t.2).m4
          have q5 := fun t : After w5 => (HF4.out.on t.2).r1
          have K34 : ∀ t : After w5, _ := fun t => Calls.after t (H34 t.1)
          have hne := after_some w5
          refine region_after 11 mixed (by kernel_rfl) ?_
          simp only [List.take_succ_cons, List.take_zero, List.drop_succ_cons, List.drop_zero]
          repeat quiet_step (with_reducible exact K34 _)
          refine wpQuiet_nil ?_
          intro w6 hb6
          have hM6 := (HMk.out.kept hb4.out).kept hb6
          have HM6 := hid' hM6
          have hlc := curM_len (l := l) (k := k) hk
          have hcell : ∀ c, c < 6 → ∃ u, w6.cell? ⟨mb, k * 6 + c, none⟩ = some u := fun c hc => by
            have hx : k * 6 + c < (flat Mb.cells (curM l k)).length := by rw [flat_length mb6, hlc]; omega
            have ho := hM6.own
            rw [← hlc] at ho
            exact ⟨_, (World.ownsRow.cellAt ho (k * 6 + c) (by rw [hlc]; omega)).trans (List.getElem?_eq_getElem hx)⟩
          obtain ⟨u0, d0⟩ := hcell 0 (by omega)
          obtain ⟨u1, d1⟩ := hcell 1 (by omega)
          obtain ⟨u2, d2⟩ := hcell 2 (by omega)
          obtain ⟨u3, d3⟩ := hcell 3 (by omega)
          obtain ⟨u4, d4⟩ := hcell 4 (by omega)
          obtain ⟨u5, d5⟩ := hcell 5 (by omega)
          have hfz : ∀ j, w6.frozen? ⟨mb, j, none⟩ = false := fun j => by
            have ho := hM6.own
            rw [← hlc] at ho
            exact World.ownsRow.frozenAt ho j
          rw [Nat.add_zero] at d0
          clear hM6 hb6 hcell hlc q0 q1 q2 q3 q4 q5 K34 H34
          go_wp2_with fail
          go_meet
          exact ⟨w6, HM6.out, rfl⟩
        case rest =>
          obtain ⟨W, hMW, rfl⟩ := hcut
          have HNW := hid' (HNX.out W hMW)
          have hr := (Kept.put6 W mb k ⟨mn, ⟨tk, te, tn, ts⟩, at'⟩).isRec hMW.rc hMW.rm
          have r2 := hr.c2
          have rf := hr.fr
          clear hMW hr HNX HMk HF4 H34
          generalize put6 W mb k ⟨mn, ⟨tk, te, tn, ts⟩, at'⟩ = W6 at *
          have hw : IntKind.i64.wrap (at' + sz) = at' + sz := by simp [IntKind.wrap, IntKind.bits, IntKind.signed]; omega
          clear hup hsz hzl hz0
          rcases hal with rfl | rfl <;> rcases hgg with rfl | rfl
          all_goals
            go_wp2_with fail
            go_roundw
            case rel => exact ⟨k + 1, by omega, by go_num, by rw [HGX.out]; rfl, HNW.out⟩
            case measure => simp [intOf]; omega
      · have e : k = l.length := by omega
        subst e
        have hok := fine_ok HG.out.1
        have hrun := run_le hok
        have hzl : (runL (l.take l.length)).z ≤ 140000 := by have := hrun.2.1; rw [List.length_take] at this; omega
        have H36 := fun W => up36 (runL (l.take l.length)).z (runL (l.take l.length)).g hrun.1 (by omega) hrun.2.2 W
        have hO := hM.own
        rw [curM_all] at hO
        rw [List.take_length] at *
        have r0 := hM.rc.c0
        have r1 := hM.rc.c1
        have r2 := hM.rc.c2
        rw [List.take_length] at r2
        have rf := hM.rc.fr
        have o0 := hM.ob.c0
        have o1 := hM.ob.c1
        have o2 := hM.ob.c2
        have of := hM.ob.fr
        have hro := hM.ro
        have n1 : ¬ rb = w.heap.size := by omega
        have n2 : ¬ w.heap.size = rb := by omega
        have HMk := hid' hM
        have HOk := hid' hO
        have HUP : Hid (upF (runL l).z (runL l).g = upF (runL l).z (runL l).g) := rfl
        clear hM hO hok hrun hzl
        generalize hz : (runL l).z = z at *
        generalize hg2 : (runL l).g = g at *
        generalize hy : upF z g = y at *
        have HZ := hid' hz
        have HG2 := hid' hg2
        have HY := hid' hy
        clear hz hg2 hy
        go_wp2_with (go_at_call 36; with_reducible refine (H36 _).mono ?_; rintro e9 w9 ⟨rfl, rfl⟩)
        have K1 := (Kept.rfl (fun b => b = rb) w9).set (a := ⟨rb, 2, none⟩) (.inl rfl) (.int .i64 y)
        have hob1 := K1.isRec HMk.out.ob (fun e => by omega)
        have hown1 := K1.owns HOk.out (fun b hb e => HMk.out.rm (by simp [Value.ownBlock] at hb; omega))
        have hsz1 := K1.size
        have hbl1 := HMk.out.below.trans (K1.below HMk.out.below.size (fun b e => by omega))
        generalize w9.setCell ⟨rb, 2, none⟩ (.int .i64 y) = W1 at *
        have K2 := Kept.put3 W1 w.heap.size (.string nm) (.slice (some ⟨mb, 0, none⟩) l.length l.length) (.int .i64 y)
        have hp := hob1.put3 nm (.slice (some ⟨mb, 0, none⟩) l.length l.length) y
        have hown2 := K2.owns hown1 (fun b hb e => by have := HMk.out.mo; simp [Value.ownBlock] at hb; omega)
        have hbl2 := hbl1.trans (K2.below hbl1.size (fun b e => by omega))
        generalize ((W1.setCell ⟨w.heap.size, 0, none⟩ (.string nm)).setCell ⟨w.heap.size, 1, none⟩ (.slice (some ⟨mb, 0, none⟩) l.length l.length)).setCell ⟨w.heap.size, 2, none⟩ (.int .i64 y) = W2 at *
        exact bodyPost_ret (v := .tuple #[.agg #[.string nm, .slice (some ⟨mb, 0, none⟩) l.length l.length, .int .i64 y], .int .i64 0]) (by simp [results, Try.results19, go_sem, hp.c0, hp.c1, hp.c2]) rfl ⟨mb, by rw [HZ.out, HG2.out, HY.out], hown2, hbl2⟩

theorem layout19 {nm : ByteArray} {w : World} {v : Value} {l : List Mb} (h : Src Mb.cells w v l) (hnm : nm.size ≤ 140737488351232) (hns : ∀ m ∈ l, m.nm.size ≤ 140737488351232) : Calls Try.prog 19 #[.string nm, v] w (LayR nm l w) := by
  obtain ⟨ao, cap, rfl⟩ := h.len
  by_cases hn : 32 < l.length
  · refine (layout_long nm ao _ cap hn w).mono ?_
    rintro e w' ⟨rfl, hb⟩
    exact ⟨_, _, _, _, [], rfl, .inl ⟨hn, rfl, rfl, rfl, rfl⟩, src_nil, hb⟩
  · have h33 : ∀ W, Below w.heap.size w W → _ := fun W hW => may33 (h.on hW) (by omega)
    by_cases hg : goodL l
    · refine (layout_ok h hn hg hnm hns (fun W hW => (h33 W hW).mono ?_)).mono ?_
      · rintro e w' ⟨b, rfl, hb, hB⟩
        rw [hb.2 hg]
        exact ⟨rfl, hB⟩
      · rintro e w' ⟨mb, rfl, ho, hb⟩
        refine ⟨_, _, _, _, _, rfl, .inr (.inr ⟨by omega, hg, rfl, rfl, rfl, rfl⟩), ?_, hb⟩
        have e := runL_len l
        unfold Own at ho
        rw [← e] at ho
        rw [← e]
        exact Own.src mb6 ho
    · refine (layout_bad nm ao _ cap hn w (fun W hW => (h33 W hW).mono ?_)).mono ?_
      · rintro e w' ⟨b, rfl, hb, hB⟩
        cases b
        · exact ⟨rfl, hB⟩
        · exact absurd (hb.1 rfl) hg
      · rintro e w' ⟨rfl, hb⟩
        exact ⟨_, _, _, _, [], rfl, .inr (.inl ⟨by omega, hg, rfl, rfl, rfl, rfl⟩), src_nil, hb⟩
end Go.Proofs.Ytmcadffagnbiaaa
