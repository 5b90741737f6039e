/- The innermost call turns; a list of the run's becomes shorter. -/
import Derived.Test.YtiehlkhpblldaaaH14
set_option linter.unusedVariables false
set_option linter.unusedSimpArgs false
set_option maxRecDepth 20000
set_option maxHeartbeats 8000000
namespace Go.Proofs.Ytiehlkhpblldaaa
open Go.RowKit Go.Maps
section
variable {C : Cst} {W0 W W' : World} {r : Nat} {s s' : St} {x : Vs} {t : Tp}
def topS (s : St) (c : Cl) : St := { s with calls := s.calls.dropLast ++ [c] }
theorem set_last {α : Type} (l : List α) (h : 0 < l.length) (c : α) : l.set (l.length - 1) c = l.dropLast ++ [c] := by
  refine List.ext_getElem? (fun j => ?_)
  rw [List.getElem?_set]
  by_cases e : l.length - 1 = j
  · rw [if_pos e, if_pos (by omega), List.getElem?_append_right (by rw [List.length_dropLast]; omega)]
    simp [← e]
  · rw [if_neg e]
    by_cases hj : j < l.length - 1
    · rw [List.getElem?_append_left (by rw [List.length_dropLast]; omega), List.getElem?_dropLast, if_pos hj]
    · rw [List.getElem?_eq_none (by omega), List.getElem?_eq_none (by simp; omega)]
theorem topS_len (s : St) (c : Cl) (h : 0 < s.calls.length) : (topS s c).calls.length = s.calls.length := by simp [topS]; omega
/-- A cell of the innermost call turns. -/
theorem RunM.topc (h : RunM C W0 r W s x t) {c : Cl} {l : List Rg} (T : Top C s x t c l) {cb cap : Nat} (ecv : x.cv = .slice (some ⟨cb, 0, none⟩) s.calls.length cap) {j : Nat} (hj : j < 6) (c' : Cl) (u : Value) (hc : Cl.cells c' = (Cl.cells c).set j u) (hf : c'.fn = c.fn) :
    RunM C W0 r (W.setCell ⟨cb, (s.calls.length - 1) * 6 + j, none⟩ u) (topS s c') x t ∧ Top C (topS s c') x t c' l := by
  have R := h.rows
  have hrow := R.cs
  rw [ecv] at hrow
  obtain ⟨cur, hcur⟩ := own_block hrow (b := cb) rfl
  have K := setK W cb ((s.calls.length - 1) * 6 + j) u
  have hB := (World.ownsRow.lt hrow cb rfl).1
  have hpos : 0 < s.calls.length := by
    cases hs : s.calls with
    | nil => have := T.last; rw [hs] at this; cases this
    | cons a l => simp
  have hne : r ≠ cb := fun e => by
    have := h.rc
    rw [e, hcur] at this
    injection this with this
    injection this with _ h2
    cases h2
  have hl := T.last
  rw [List.getLast?_eq_getElem?] at hl
  obtain ⟨hlt, hl⟩ := List.getElem?_eq_some_iff.1 hl
  have hst := (World.ownsRow.stored hrow ((s.calls.length - 1) * 6 + j) u).1
  rw [flat_set cl6 s.calls (s.calls.length - 1) j hlt hj c' u (by rw [hl]; exact hc), set_last _ hpos] at hst
  have elen := topS_len s c' hpos
  refine ⟨⟨?_, h.rr, (K.block r h.lt hne).trans h.rc⟩, ?_⟩
  · refine { below := R.below.trans (K.below R.below.size (fun k e => by omega)), pg := R.pg, sv := R.sv, svl := R.svl, bs := own_ty R.bs hcur (by decide) K, bk := fun i l hi => own_ty (R.bk i l hi) hcur (by decide) K, bi := R.bi, hs := own_ty R.hs hcur (by decide) K, gs := own_ty R.gs hcur (by decide) K, ks := own_ty R.ks hcur (by decide) K, os := own_ty R.os hcur (by decide) K, gk := R.gk, go := R.go, ko := R.ko, cs := ?_, xs := own_ty R.xs hcur (by decide) K, rm := fun g0 c0 hg0 => blk_ty (R.rm g0 c0 hg0) hcur (by decide) K }
    rw [elen, ecv]
    exact hst
  · refine ⟨by simp [topS], ?_, by rw [hf]; exact T.fn, by rw [hf]; exact T.tf, by rw [hf]; exact T.bank, by rw [hf]; exact T.tb⟩
    rw [elen]
    exact T.tt
/-- The list of what was chosen is emptied. -/
theorem RunM.noch (h : RunM C W0 r W s x t) : ∃ v, (∀ ao n cap, x.xv = .slice ao n cap → v = .slice ao 0 cap) ∧ RunM C W0 r (W.setCell ⟨r, 14, none⟩ v) { s with ch := [] } { x with xv := v } t := by
  have KS := setK W r 14
  rcases h.rows.xs.2 with ⟨e, e2⟩ | ⟨g, cap, cur, e, hB, hh, hn, hc, hz, ht⟩
  · refine ⟨.slice none 0 0, fun ao n cap e3 => ?_, ?_, h.rr, heap_setCell_same W r 14 _ 72 _ h.rc⟩
    · rw [e] at e3; injection e3 with a1 a2 a3; rw [← a1, ← a3]
    · have R := h.rows.turn h.rc h.rr (by decide) (KS (.slice none 0 0))
      exact { R with xs := World.ownsRow_nil _ _ _ _ }
  · refine ⟨.slice (some ⟨g, 0, none⟩) 0 cap, fun ao n cap2 e3 => ?_, ?_, h.rr, heap_setCell_same W r 14 _ 72 _ h.rc⟩
    · rw [e] at e3; injection e3 with a1 a2 a3; rw [← a1, ← a3]
    · have R := h.rows.turn h.rc h.rr (by decide) (KS (.slice (some ⟨g, 0, none⟩) 0 cap))
      refine { R with xs := ?_ }
      refine own_ty (⟨by simp [flat], .inr ⟨g, cap, cur, rfl, hB, hh, Nat.zero_le _, hc, hz, by simp [flat]⟩⟩ : W.ownsRow W0.heap.size 79 1 (.slice (some ⟨g, 0, none⟩) 0 cap) 0 (flat ucel [])) h.rc (by decide) (KS _)
/-- The last of the hidden, of the calls, goes. -/
theorem own_pop {B : Nat} {e : TypeId} {z n cap g : Nat} {xs : List Value} {m : Nat} (h : W.ownsRow B e z (.slice (some ⟨g, 0, none⟩) n cap) n xs) (hm : m ≤ n) : W.ownsRow B e z (.slice (some ⟨g, 0, none⟩) m cap) m (xs.take (m * z)) := by
  obtain ⟨hl, h'⟩ := h
  have hmz : m * z ≤ n * z := Nat.mul_le_mul_right z hm
  refine ⟨by rw [List.length_take]; omega, ?_⟩
  rcases h' with ⟨e, _⟩ | ⟨g', cap', cur, e, hB, hh, hn, hc, hz, ht⟩
  · cases e
  · injection e with e1 e2 e3
    injection e1 with e1
    injection e1 with e1
    subst e1 e3
    refine .inr ⟨g, cap, cur, rfl, hB, hh, by omega, hc, hz, ?_⟩
    rw [← ht, List.take_take, Nat.min_eq_left hmz]
theorem flat_take {α : Type} {f : α → List Value} {z : Nat} (hz : ∀ x, (f x).length = z) (l : List α) (m : Nat) (hm : m ≤ l.length) : (flat f l).take (m * z) = flat f (l.take m) := by
  have e : flat f l = flat f (l.take m) ++ flat f (l.drop m) := by rw [← flat_append, List.take_append_drop]
  rw [e, List.take_append_of_le_length (by rw [flat_length hz, List.length_take]; simp [Nat.min_eq_left hm]), List.take_of_length_le (by rw [flat_length hz, List.length_take, Nat.min_eq_left hm]; exact Nat.le_refl _)]
theorem RunM.popH (h : RunM C W0 r W s x t) {hb cap n : Nat} (hn : s.hidden.length = n + 1) (e : x.hv = .slice (some ⟨hb, 0, none⟩) (n + 1) cap) : RunM C W0 r (W.setCell ⟨r, 5, none⟩ (.slice (some ⟨hb, 0, none⟩) n cap)) { s with hidden := s.hidden.take n } { x with hv := .slice (some ⟨hb, 0, none⟩) n cap } t := by
  have R := h.rows.turn h.rc h.rr (by decide) (setK W r 5 (.slice (some ⟨hb, 0, none⟩) n cap))
  refine ⟨?_, h.rr, heap_setCell_same W r 5 _ 72 _ h.rc⟩
  have hs := R.hs
  rw [hn, e] at hs
  have := own_pop hs (m := n) (by omega)
  rw [flat_take (hd3 x.bb) _ n (by omega)] at this
  refine { R with hs := ?_ }
  dsimp only
  rw [List.length_take, hn, Nat.min_eq_left (by omega)]
  exact this
theorem RunM.popC (h : RunM C W0 r W s x t) {cb cap n : Nat} (hn : s.calls.length = n + 1) (e : x.cv = .slice (some ⟨cb, 0, none⟩) (n + 1) cap) : RunM C W0 r (W.setCell ⟨r, 9, none⟩ (.slice (some ⟨cb, 0, none⟩) n cap)) { s with calls := s.calls.take n } { x with cv := .slice (some ⟨cb, 0, none⟩) n cap } t := by
  have R := h.rows.turn h.rc h.rr (by decide) (setK W r 9 (.slice (some ⟨cb, 0, none⟩) n cap))
  refine ⟨?_, h.rr, heap_setCell_same W r 9 _ 72 _ h.rc⟩
  have hs := R.cs
  rw [hn, e] at hs
  have := own_pop hs (m := n) (by omega)
  rw [flat_take cl6 _ n (by omega)] at this
  refine { R with cs := ?_ }
  dsimp only
  rw [List.length_take, hn, Nat.min_eq_left (by omega)]
  exact this
end
end Go.Proofs.Ytiehlkhpblldaaa
namespace Go.Proofs.Ytiehlkhpblldaaa
open Go.RowKit Go.Maps
theorem make_any2 {et st : TypeId} {cs : Array Value} {z by_ : Nat} (w : World) {n : Nat} (hst : Try.prog.underlying st = some (.slice et)) (hi' : (Try.prog.info? et).map (fun i => (i.zero, i.size, i.bytes)) = some (some (.agg cs), z, by_)) (hn : n * by_ ≤ 140737488355328) (hn2 : n ≤ 140737488355328) :
    ∃ (w1 : World) (cur : Array Value), (Instr.makeSlice st (.int .i64 (n : Nat)) (.int .i64 (n : Nat))).run Try.prog w = .ok (.slice (some ⟨w.heap.size, 0, none⟩) n n) w1 ∧ w1.heap[w.heap.size]? = some (.cells cur et (0, 0)) ∧ (cur.size = n * z ∧ cur = madeCells (Value.agg cs).cells (n * z)) ∧ Below w.heap.size w w1 := by
  obtain ⟨i0, hi, e0, e1, e2⟩ := info_parts hi'
  have hmul : ((by_ : Nat) : Int) * ((n : Nat) : Int) ≤ 281474976710656 := by
    have : ((by_ : Int) * (n : Int)) = ((n * by_ : Nat) : Int) := by rw [Int.mul_comm]; simp
    omega
  have hr := run_make (P := Try.prog) w st et i0 (.agg cs) hst hi e0 .i64 .i64 (n : Nat) (n : Nat) (by omega) (Int.le_refl _) (by rw [e2]; exact hmul) (by omega)
  rw [Int.toNat_natCast, e1] at hr
  exact ⟨_, _, hr, heap_alloc_new _ _, ⟨size_madeCells _ _, rfl⟩, below1 _ _⟩
theorem set_some2 {bs : List (Option (List Rg))} {fn : Nat} {m : List Rg} (h : fn < bs.length) {i : Nat} {k : List Rg} (hi : (bs.set fn (some m))[i]? = some (some k)) : (i = fn ∧ k = m) ∨ (i ≠ fn ∧ bs[i]? = some (some k)) := by
  rw [List.getElem?_set] at hi
  by_cases e : fn = i
  · subst e
    rw [if_pos rfl, if_pos h] at hi
    injection hi with hi
    injection hi with hi
    exact .inl ⟨rfl, hi.symm⟩
  · rw [if_neg e] at hi
    exact .inr ⟨Ne.symm e, hi⟩
end Go.Proofs.Ytiehlkhpblldaaa
namespace Go.Proofs.Ytiehlkhpblldaaa
open Go.RowKit Go.Maps
section
variable {C : Cst} {W0 W W' : World} {r : Nat} {s s' : St} {x : Vs} {t : Tp}
theorem inf109 : (Try.prog.info? 109).map (fun i => (i.zero, i.size, i.bytes)) = some (some (.agg #[.int .u32 0, .int .i64 0]), 2, 16) := by kernel_rfl
theorem flat_rep (n : Nat) : flat Rg.cells (List.replicate n ⟨0, 0⟩) = (madeCells #[.int .u32 0, .int .i64 0] (n * 2)).toList := by
  refine List.ext_getElem? (fun j => ?_)
  by_cases hj : j < n * 2
  · obtain ⟨i, c, hi, hc, rfl⟩ : ∃ i c, i < n ∧ c < 2 ∧ j = i * 2 + c := ⟨j / 2, j % 2, by omega, by omega, by omega⟩
    rw [flat_get rg2 _ i c (by simpa using hi) hc, List.getElem_replicate]
    simp only [madeCells, Array.toList_map, Array.toList_range, List.getElem?_map, List.getElem?_range hj, Option.map_some]
    rcases (show c = 0 ∨ c = 1 by omega) with rfl | rfl
    · simp [Rg.cells, show (i * 2 + 0) % 2 = 0 by omega]
    · simp [Rg.cells, show (i * 2 + 1) % 2 = 1 by omega]
  · rw [List.getElem?_eq_none (by rw [flat_length rg2, List.length_replicate]; omega), List.getElem?_eq_none (by rw [Array.length_toList, size_madeCells]; omega)]
theorem flat_congr {α : Type} {f g : α → List Value} : ∀ {l : List α}, (∀ a ∈ l, f a = g a) → flat f l = flat g l
  | [], _ => rfl
  | a :: l, h => by rw [flat_cons, flat_cons, h a (by simp), flat_congr (fun b hb => h b (by simp [hb]))]
/-- A new bank, in a new block, laid into the row of banks. -/
theorem RunM.newB (h : RunM C W0 r W s x t) {fn n : Nat} (hfn : s.banks[fn]? = some none) (hn : n ≤ 65536) (hh : ∀ e ∈ s.hidden, ∃ l, s.banks[e.fn]? = some (some l)) {bb cap m : Nat} (hm : s.banks.length = m) (ebv : x.bv = .slice (some ⟨bb, 0, none⟩) m cap) :
    ∃ w1, (Instr.makeSlice 69 (.int .i64 (n : Nat)) (.int .i64 (n : Nat))).run Try.prog W = .ok (.slice (some ⟨W.heap.size, 0, none⟩) n n) w1 ∧ Below W.heap.size W w1 ∧ RunM C W0 r w1 s x t ∧
      RunM C W0 r (w1.setCell ⟨bb, fn, none⟩ (.slice (some ⟨W.heap.size, 0, none⟩) n n)) { s with banks := s.banks.set fn (some (List.replicate n ⟨0, 0⟩)) } { x with bb := fun i => if i = fn then W.heap.size else x.bb i } t := by
  obtain ⟨w1, cur, hmk, hg, hcs, hb1⟩ := make_any2 W (n := n) Try.underlying69 inf109 (by omega) (by omega)
  have h1 := h.on hb1
  have R := h1.rows
  have hrow := R.bs
  rw [hm, ebv] at hrow
  obtain ⟨curb, hcurb⟩ := own_block hrow (b := bb) rfl
  have K := setK w1 bb fn (.slice (some ⟨W.heap.size, 0, none⟩) n n)
  have hB := (World.ownsRow.lt hrow bb rfl).1
  have hW0 := h.rows.below.size
  have hne : r ≠ bb := fun e => by
    have := h1.rc
    rw [e, hcurb] at this
    injection this with this
    injection this with _ h2
    cases h2
  obtain ⟨hfl, hfe⟩ := List.getElem?_eq_some_iff.1 hfn
  have hnewrow : w1.ownsRow W0.heap.size 109 2 (.slice (some ⟨W.heap.size, 0, none⟩) n n) n (flat Rg.cells (List.replicate n ⟨0, 0⟩)) := by
    refine ⟨by rw [flat_length rg2, List.length_replicate], .inr ⟨W.heap.size, n, cur, rfl, hW0, hg, Nat.le_refl _, by unfold maxLen; omega, by rw [hcs.1], ?_⟩⟩
    rw [hcs.2, flat_rep]; show (madeCells #[.int .u32 0, .int .i64 0] (n * 2)).toList.take _ = _; rw [List.take_of_length_le (by rw [Array.length_toList, size_madeCells]; exact Nat.le_refl _)]
  have hst := (World.ownsRow.stored hrow fn (.slice (some ⟨W.heap.size, 0, none⟩) n n)).1
  have hlt : ∀ i l, s.banks[i]? = some (some l) → x.bb i < W.heap.size := fun i l hi => (World.ownsRow.lt (h.rows.bk i l hi) _ rfl).2
  have hnf : ∀ i l, s.banks[i]? = some (some l) → i ≠ fn := fun i l hi e => by rw [e, hfn] at hi; cases hi
  refine ⟨w1, hmk, hb1, h1, ?_, h1.rr, (K.block r h1.lt hne).trans h1.rc⟩
  refine { below := R.below.trans (K.below R.below.size (fun k e => by omega)), pg := R.pg, sv := R.sv, svl := R.svl, bs := ?_, bk := ?_, bi := ?_, hs := ?_, gs := own_ty R.gs hcurb (by decide) K, ks := own_ty R.ks hcurb (by decide) K, os := own_ty R.os hcurb (by decide) K, gk := R.gk, go := R.go, ko := R.ko, cs := own_ty R.cs hcurb (by decide) K, xs := own_ty R.xs hcurb (by decide) K, rm := fun g0 c0 hg0 => blk_ty (R.rm g0 c0 hg0) hcurb (by decide) K }
  · dsimp only
    rw [List.length_set, hm, ebv]
    have e : (s.banks.set fn (some (List.replicate n ⟨0, 0⟩))).mapIdx (bankV (fun i => if i = fn then W.heap.size else x.bb i)) = (s.banks.mapIdx (bankV x.bb)).set fn (.slice (some ⟨W.heap.size, 0, none⟩) n n) := by
      refine List.ext_getElem? (fun j => ?_)
      rw [List.getElem?_mapIdx, List.getElem?_set, List.getElem?_set, List.getElem?_mapIdx]
      by_cases ej : fn = j
      · subst ej
        rw [if_pos rfl, if_pos rfl, if_pos hfl, if_pos (by simpa using hfl)]
        simp [bankV]
      · rw [if_neg ej, if_neg ej]
        cases hq : s.banks[j]? with
        | none => rfl
        | some o => cases o <;> simp [bankV, Ne.symm ej]
    rw [e]
    exact hst
  · intro j l hj
    dsimp only at hj ⊢
    rcases set_some2 hfl hj with ⟨rfl, rfl⟩ | ⟨hne2, hj⟩
    · rw [if_pos rfl, List.length_replicate]
      exact own_ty hnewrow hcurb (by decide) K
    · rw [if_neg hne2]
      exact own_ty (R.bk j l hj) hcurb (by decide) K
  · intro j k l l' hj hk e
    dsimp only at hj hk e
    rcases set_some2 hfl hj with ⟨e1, _⟩ | ⟨n1, hj2⟩
    · rcases set_some2 hfl hk with ⟨e2, _⟩ | ⟨n2, hk2⟩
      · rw [e1, e2]
      · rw [if_pos e1, if_neg n2] at e
        have := hlt _ _ hk2
        omega
    · rcases set_some2 hfl hk with ⟨e2, _⟩ | ⟨n2, hk2⟩
      · rw [if_neg n1, if_pos e2] at e
        have := hlt _ _ hj2
        omega
      · rw [if_neg n1, if_neg n2] at e
        exact R.bi _ _ _ _ hj2 hk2 e
  · have e : flat (Hd.cells (fun i => if i = fn then W.heap.size else x.bb i)) s.hidden = flat (Hd.cells x.bb) s.hidden := by
      refine flat_congr (fun a ha => ?_)
      obtain ⟨l, hl⟩ := hh a ha
      simp [Hd.cells, hnf _ _ hl]
    dsimp only
    rw [e]
    exact own_ty R.hs hcurb (by decide) K
end
end Go.Proofs.Ytiehlkhpblldaaa
namespace Go.Proofs.Ytiehlkhpblldaaa
open Go.RowKit Go.Maps
section
variable {C : Cst} {W0 W W' : World} {r : Nat} {s s' : St} {x : Vs} {t : Tp}
set_option maxHeartbeats 20000000 in
theorem do30_const {c : Cl} {l : List Rg} {b o : Nat} {i : In} (h : RunM C W0 r W s x t) (T : Top C s x t c l) (hI : InAt W0 b o i) (hop : i.op = 1) {d : Nat} (hd : i.dst = d) (hdl : d < l.length) (hl : (s.hidden.length + 1) * 24 ≤ 140737488355328) :
    Calls Try.prog 30 #[.pointer (some ⟨r, 0, none⟩), .pointer (some ⟨b, o, none⟩)] W fun e w' => e = .returned (.tuple #[]) ∧ ∃ x', RunM C W0 r w' (setS s c l d (i.imm % 4294967296)) x' t ∧ Top C (setS s c l d (i.imm % 4294967296)) x' t c (l.set d ⟨(i.imm % 4294967296), c.no⟩) := by
  have H := hid' h
  have HT := hid' T
  have HI := hid' hI
  have HB := hid' h.rows.below
  have y0 : W.cell? ⟨b, o, none⟩ = some (.int .i64 1) := by rw [← hop]; exact (in_cells (hI.2.1 W h.rows.below)).1
  have y1 : ∀ q : After W, q.1.cell? ⟨b, o + 1, none⟩ = some (.int .i64 d) := fun q => by rw [← hd]; exact (in_cells (HI.out.2.1 q.1 (below_on HB.out q.2 HB.out.size))).2.1
  have y3 : ∀ q : After W, q.1.cell? ⟨b, o + 3, none⟩ = some (.int .i32 i.imm) := fun q => (in_cells (HI.out.2.1 q.1 (below_on HB.out q.2 HB.out.size))).2.2.2.1
  have H26 : Hid (∀ w6, Below W.heap.size W w6 → _) := fun w6 hb6 => set26 (H.out.on hb6) HT.out hdl ((i.imm % 4294967296)) hl
  have hne := after_some W
  clear h T hI
  go_enter Try.func30, Try.ntmps30
  go_wp2
  refine region_after 10 mixed (by kernel_rfl) ?_
  simp only [List.take_succ_cons, List.take_zero, List.drop_succ_cons, List.drop_zero]
  repeat (first | go_big_quiet_step (fail) | quiet_step (fail))
  refine wpQuiet_nil ?_
  intro w6 hb6
  have h26 := H26.out w6 hb6
  clear y1 y3
  go_wp2_with (go_at_call 26; refine h26.mono ?_; rintro e7 w7 ⟨rfl, x7, hR7, hT7⟩)
  go_end0
  exact ⟨rfl, x7, hR7, hT7⟩
set_option maxHeartbeats 20000000 in
theorem do30_global {c : Cl} {l : List Rg} {b o : Nat} {i : In} (h : RunM C W0 r W s x t) (T : Top C s x t c l) (hI : InAt W0 b o i) (hop : i.op = 4) {d : Nat} (hd : i.dst = d) (hdl : d < l.length) (hl : (s.hidden.length + 1) * 24 ≤ 140737488355328) :
    Calls Try.prog 30 #[.pointer (some ⟨r, 0, none⟩), .pointer (some ⟨b, o, none⟩)] W fun e w' => e = .returned (.tuple #[]) ∧ ∃ x', RunM C W0 r w' (setS s c l d ((16777216 + i.imm % 4294967296) % 4294967296)) x' t ∧ Top C (setS s c l d ((16777216 + i.imm % 4294967296) % 4294967296)) x' t c (l.set d ⟨((16777216 + i.imm % 4294967296) % 4294967296), c.no⟩) := by
  have H := hid' h
  have HT := hid' T
  have HI := hid' hI
  have HB := hid' h.rows.below
  have y0 : W.cell? ⟨b, o, none⟩ = some (.int .i64 4) := by rw [← hop]; exact (in_cells (hI.2.1 W h.rows.below)).1
  have y1 : ∀ q : After W, q.1.cell? ⟨b, o + 1, none⟩ = some (.int .i64 d) := fun q => by rw [← hd]; exact (in_cells (HI.out.2.1 q.1 (below_on HB.out q.2 HB.out.size))).2.1
  have y3 : ∀ q : After W, q.1.cell? ⟨b, o + 3, none⟩ = some (.int .i32 i.imm) := fun q => (in_cells (HI.out.2.1 q.1 (below_on HB.out q.2 HB.out.size))).2.2.2.1
  have H26 : Hid (∀ w6, Below W.heap.size W w6 → _) := fun w6 hb6 => set26 (H.out.on hb6) HT.out hdl (((16777216 + i.imm % 4294967296) % 4294967296)) hl
  have hne := after_some W
  clear h T hI
  generalize hu : i.imm % 4294967296 = u at *
  generalize hgv : (16777216 + u) % 4294967296 = gv at *
  go_enter Try.func30, Try.ntmps30
  go_wp2
  refine region_after 11 mixed (by kernel_rfl) ?_
  simp only [List.take_succ_cons, List.take_zero, List.drop_succ_cons, List.drop_zero]
  repeat (first | go_big_quiet_step (fail) | quiet_step (fail))
  refine wpQuiet_nil ?_
  intro w6 hb6
  have h26 := H26.out w6 hb6
  clear y1 y3
  go_wp2_with (go_at_call 26; refine h26.mono ?_; rintro e7 w7 ⟨rfl, x7, hR7, hT7⟩)
  go_end0
  exact ⟨rfl, x7, hR7, hT7⟩
set_option maxHeartbeats 20000000 in
theorem do30_slot {c : Cl} {l : List Rg} {b o : Nat} {i : In} (h : RunM C W0 r W s x t) (T : Top C s x t c l) (hI : InAt W0 b o i) (hop : i.op = 5) {d : Nat} (hd : i.dst = d) (hdl : d < l.length) (hl : (s.hidden.length + 1) * 24 ≤ 140737488355328) :
    Calls Try.prog 30 #[.pointer (some ⟨r, 0, none⟩), .pointer (some ⟨b, o, none⟩)] W fun e w' => e = .returned (.tuple #[]) ∧ ∃ x', RunM C W0 r w' (setS s c l d ((c.sl + i.imm % 4294967296) % 4294967296)) x' t ∧ Top C (setS s c l d ((c.sl + i.imm % 4294967296) % 4294967296)) x' t c (l.set d ⟨((c.sl + i.imm % 4294967296) % 4294967296), c.no⟩) := by
  have H := hid' h
  have HT := hid' T
  have HI := hid' hI
  have HB := hid' h.rows.below
  have y0 : W.cell? ⟨b, o, none⟩ = some (.int .i64 5) := by rw [← hop]; exact (in_cells (hI.2.1 W h.rows.below)).1
  have y1 : ∀ q : After W, q.1.cell? ⟨b, o + 1, none⟩ = some (.int .i64 d) := fun q => by rw [← hd]; exact (in_cells (HI.out.2.1 q.1 (below_on HB.out q.2 HB.out.size))).2.1
  have y3 : ∀ q : After W, q.1.cell? ⟨b, o + 3, none⟩ = some (.int .i32 i.imm) := fun q => (in_cells (HI.out.2.1 q.1 (below_on HB.out q.2 HB.out.size))).2.2.2.1
  obtain ⟨cb, et, hcc, _⟩ := HT.out.see H.out
  have c11 : ∀ q : After W, q.1.cell? ⟨r, 11, none⟩ = some (.pointer (some ⟨cb, (s.calls.length - 1) * 6, none⟩)) := fun q => keep_cell (by rw [← et]; exact H.out.cell 11) q.2
  have k2 : ∀ q : After W, q.1.cell? ⟨cb, (s.calls.length - 1) * 6 + 2, none⟩ = some (.int .u32 c.sl) := fun q => keep_cell (hcc 2 (by omega)) q.2
  clear hcc
  have H26 : Hid (∀ w6, Below W.heap.size W w6 → _) := fun w6 hb6 => set26 (H.out.on hb6) HT.out hdl (((c.sl + i.imm % 4294967296) % 4294967296)) hl
  have hne := after_some W
  clear h T hI
  generalize hu : i.imm % 4294967296 = u at *
  generalize hgv : (c.sl + u) % 4294967296 = gv at *
  go_enter Try.func30, Try.ntmps30
  go_wp2
  refine region_after 18 mixed (by kernel_rfl) ?_
  simp only [List.take_succ_cons, List.take_zero, List.drop_succ_cons, List.drop_zero]
  repeat (first | go_big_quiet_step (fail) | quiet_step (fail))
  refine wpQuiet_nil ?_
  intro w6 hb6
  have h26 := H26.out w6 hb6
  clear y1 y3
  go_wp2_with (go_at_call 26; refine h26.mono ?_; rintro e7 w7 ⟨rfl, x7, hR7, hT7⟩)
  go_end0
  exact ⟨rfl, x7, hR7, hT7⟩
set_option maxHeartbeats 20000000 in
theorem do30_copy {c : Cl} {l : List Rg} {b o : Nat} {i : In} (h : RunM C W0 r W s x t) (T : Top C s x t c l) (hI : InAt W0 b o i) (hop : i.op = 2) {d : Nat} (hd : i.dst = d) (hdl : d < l.length) {a : Nat} (hlen : i.args.length = 1) (ha : i.args[0]? = some (a : Int)) (hal : a < l.length) (hl : (s.hidden.length + 1) * 24 ≤ 140737488355328) :
    Calls Try.prog 30 #[.pointer (some ⟨r, 0, none⟩), .pointer (some ⟨b, o, none⟩)] W fun e w' => e = .returned (.tuple #[]) ∧ ∃ x', RunM C W0 r w' (setS s c l d (getR l a c.no)) x' t ∧ Top C (setS s c l d (getR l a c.no)) x' t c (l.set d ⟨(getR l a c.no), c.no⟩) := by
  have H := hid' h
  have HT := hid' T
  have HI := hid' hI
  have HB := hid' h.rows.below
  have y0 : W.cell? ⟨b, o, none⟩ = some (.int .i64 2) := by rw [← hop]; exact (in_cells (hI.2.1 W h.rows.below)).1
  have y1 : ∀ q : After W, q.1.cell? ⟨b, o + 1, none⟩ = some (.int .i64 d) := fun q => by rw [← hd]; exact (in_cells (HI.out.2.1 q.1 (below_on HB.out q.2 HB.out.size))).2.1
  have y3 : ∀ q : After W, q.1.cell? ⟨b, o + 3, none⟩ = some (.int .i32 i.imm) := fun q => (in_cells (HI.out.2.1 q.1 (below_on HB.out q.2 HB.out.size))).2.2.2.1
  obtain ⟨ab, ao, acap, ea, hab, hac, hargs⟩ := args_at hI (k := 0) (by omega)
  obtain ⟨h0, h0e⟩ := List.getElem?_eq_some_iff.1 ha
  have y2 : ∀ q : After W, q.1.cell? ⟨b, o + 2, none⟩ = some (.slice (some ⟨ab, ao, none⟩) 1 acap) := fun q => by rw [← hlen, ← ea]; exact (in_cells (HI.out.2.1 q.1 (below_on HB.out q.2 HB.out.size))).2.2.1
  have ya : ∀ q : After W, q.1.cell? ⟨ab, ao, none⟩ = some (.int .i64 a) := fun q => by rw [← h0e]; exact hargs q.1 (below_on HB.out q.2 HB.out.size) 0 h0
  have K46 : ∀ q : After W, _ := fun q => Calls.after q (get46 (H.out.on q.2) HT.out hal)
  clear hargs ea h0e ha hlen
  have H26 : Hid (∀ w6, Below W.heap.size W w6 → _) := fun w6 hb6 => set26 (H.out.on hb6) HT.out hdl ((getR l a c.no)) hl
  have hne := after_some W
  clear h T hI
  go_enter Try.func30, Try.ntmps30
  go_wp2
  refine region_after 13 mixed (by kernel_rfl) ?_
  simp only [List.take_succ_cons, List.take_zero, List.drop_succ_cons, List.drop_zero]
  repeat (first | go_big_quiet_step (with_reducible exact K46 _) | quiet_step (with_reducible exact K46 _))
  refine wpQuiet_nil ?_
  intro w6 hb6
  have h26 := H26.out w6 hb6
  clear y1 y3
  go_wp2_with (go_at_call 26; refine h26.mono ?_; rintro e7 w7 ⟨rfl, x7, hR7, hT7⟩)
  go_end0
  exact ⟨rfl, x7, hR7, hT7⟩
end
end Go.Proofs.Ytiehlkhpblldaaa
