/- The innermost call turns; a list of the run's becomes shorter. -/
import Derived.Test.YtiehlkhpblldaaaRe
namespace Go.Proofs.Ytiehlkhpblldaaa
open Go.RowKit Go.Maps
set_option linter.unusedVariables false
set_option linter.unusedSimpArgs false
section
variable {C : Cst} {W0 W W' : World} {r : Nat} {s s' : St} {x : Vs} {t : Tp}
def topS (s : St) (c : Cl) : St := { s with calls := s.calls.dropLast ++ [c] }
theorem set_last {α : Type} (l : List α) (h : 0 < l.length) (c : α) : l.set (l.length - 1) c = l.dropLast ++ [c] := by
  refine List.ext_getElem? (fun j => ?_)
  rw [List.getElem?_set]
  by_cases e : l.length - 1 = j
  · rw [if_pos e, if_pos (by omega), List.getElem?_append_right (by rw [List.length_dropLast]; omega)]
    simp [← e]
  · rw [if_neg e]
    by_cases hj : j < l.length - 1
    · rw [List.getElem?_append_left (by rw [List.length_dropLast]; omega), List.getElem?_dropLast, if_pos hj]
    · rw [List.getElem?_eq_none (by omega), List.getElem?_eq_none (by simp; omega)]
theorem topS_len (s : St) (c : Cl) (h : 0 < s.calls.length) : (topS s c).calls.length = s.calls.length := by simp [topS]; omega
/-- A cell of the innermost call turns. -/
theorem RunM.topc (h : RunM C W0 r W s x t) {c : Cl} {l : List Rg} (T : Top C s x t c l) {cb cap : Nat} (ecv : x.cv = .slice (some ⟨cb, 0, none⟩) s.calls.length cap) {j : Nat} (hj : j < 6) (c' : Cl) (u : Value) (hc : Cl.cells c' = (Cl.cells c).set j u) (hf : c'.fn = c.fn) :
    RunM C W0 r (W.setCell ⟨cb, (s.calls.length - 1) * 6 + j, none⟩ u) (topS s c') x t ∧ Top C (topS s c') x t c' l := by
  have R := h.rows
  have hrow := R.cs
  rw [ecv] at hrow
  obtain ⟨cur, hcur⟩ := own_block hrow (b := cb) rfl
  have K := setK W cb ((s.calls.length - 1) * 6 + j) u
  have hB := (World.ownsRow.lt hrow cb rfl).1
  have hpos : 0 < s.calls.length := by
    cases hs : s.calls with
    | nil => have := T.last; rw [hs] at this; cases this
    | cons a l => simp
  have hne : r ≠ cb := fun e => by
    have := h.rc
    rw [e, hcur] at this
    injection this with this
    injection this with _ h2
    cases h2
  have hl := T.last
  rw [List.getLast?_eq_getElem?] at hl
  obtain ⟨hlt, hl⟩ := List.getElem?_eq_some_iff.1 hl
  have hst := (World.ownsRow.stored hrow ((s.calls.length - 1) * 6 + j) u).1
  rw [flat_set cl6 s.calls (s.calls.length - 1) j hlt hj c' u (by rw [hl]; exact hc), set_last _ hpos] at hst
  have elen := topS_len s c' hpos
  refine ⟨⟨?_, h.rr, (K.block r h.lt hne).trans h.rc⟩, ?_⟩
  · refine { below := R.below.trans (K.below R.below.size (fun k e => by omega)), pg := R.pg, sv := R.sv, svl := R.svl, bs := own_ty R.bs hcur (by decide) K, bk := fun i l hi => own_ty (R.bk i l hi) hcur (by decide) K, bi := R.bi, hs := own_ty R.hs hcur (by decide) K, gs := own_ty R.gs hcur (by decide) K, ks := own_ty R.ks hcur (by decide) K, os := own_ty R.os hcur (by decide) K, gk := R.gk, go := R.go, ko := R.ko, cs := ?_, xs := own_ty R.xs hcur (by decide) K, rm := fun g0 c0 hg0 => blk_ty (R.rm g0 c0 hg0) hcur (by decide) K }
    rw [elen, ecv]
    exact hst
  · refine ⟨by simp [topS], ?_, by rw [hf]; exact T.fn, by rw [hf]; exact T.tf, by rw [hf]; exact T.bank, by rw [hf]; exact T.tb⟩
    rw [elen]
    exact T.tt
/-- The list of what was chosen is emptied. -/
theorem RunM.noch (h : RunM C W0 r W s x t) : ∃ v, (∀ ao n cap, x.xv = .slice ao n cap → v = .slice ao 0 cap) ∧ RunM C W0 r (W.setCell ⟨r, 14, none⟩ v) { s with ch := [] } { x with xv := v } t := by
  have KS := setK W r 14
  rcases h.rows.xs.2 with ⟨e, e2⟩ | ⟨g, cap, cur, e, hB, hh, hn, hc, hz, ht⟩
  · refine ⟨.slice none 0 0, fun ao n cap e3 => ?_, ?_, h.rr, heap_setCell_same W r 14 _ 72 _ h.rc⟩
    · rw [e] at e3; injection e3 with a1 a2 a3; rw [← a1, ← a3]
    · have R := h.rows.turn h.rc h.rr (by decide) (KS (.slice none 0 0))
      exact { R with xs := World.ownsRow_nil _ _ _ _ }
  · refine ⟨.slice (some ⟨g, 0, none⟩) 0 cap, fun ao n cap2 e3 => ?_, ?_, h.rr, heap_setCell_same W r 14 _ 72 _ h.rc⟩
    · rw [e] at e3; injection e3 with a1 a2 a3; rw [← a1, ← a3]
    · have R := h.rows.turn h.rc h.rr (by decide) (KS (.slice (some ⟨g, 0, none⟩) 0 cap))
      refine { R with xs := ?_ }
      refine own_ty (⟨by simp [flat], .inr ⟨g, cap, cur, rfl, hB, hh, Nat.zero_le _, hc, hz, by simp [flat]⟩⟩ : W.ownsRow W0.heap.size 79 1 (.slice (some ⟨g, 0, none⟩) 0 cap) 0 (flat ucel [])) h.rc (by decide) (KS _)
/-- The last of the hidden, of the calls, goes. -/
theorem own_pop {B : Nat} {e : TypeId} {z n cap g : Nat} {xs : List Value} {m : Nat} (h : W.ownsRow B e z (.slice (some ⟨g, 0, none⟩) n cap) n xs) (hm : m ≤ n) : W.ownsRow B e z (.slice (some ⟨g, 0, none⟩) m cap) m (xs.take (m * z)) := by
  obtain ⟨hl, h'⟩ := h
  have hmz : m * z ≤ n * z := Nat.mul_le_mul_right z hm
  refine ⟨by rw [List.length_take]; omega, ?_⟩
  rcases h' with ⟨e, _⟩ | ⟨g', cap', cur, e, hB, hh, hn, hc, hz, ht⟩
  · cases e
  · injection e with e1 e2 e3
    injection e1 with e1
    injection e1 with e1
    subst e1 e3
    refine .inr ⟨g, cap, cur, rfl, hB, hh, by omega, hc, hz, ?_⟩
    rw [← ht, List.take_take, Nat.min_eq_left hmz]
theorem flat_take {α : Type} {f : α → List Value} {z : Nat} (hz : ∀ x, (f x).length = z) (l : List α) (m : Nat) (hm : m ≤ l.length) : (flat f l).take (m * z) = flat f (l.take m) := by
  have e : flat f l = flat f (l.take m) ++ flat f (l.drop m) := by rw [← flat_append, List.take_append_drop]
  rw [e, List.take_append_of_le_length (by rw [flat_length hz, List.length_take]; simp [Nat.min_eq_left hm]), List.take_of_length_le (by rw [flat_length hz, List.length_take, Nat.min_eq_left hm]; exact Nat.le_refl _)]
theorem RunM.popH (h : RunM C W0 r W s x t) {hb cap n : Nat} (hn : s.hidden.length = n + 1) (e : x.hv = .slice (some ⟨hb, 0, none⟩) (n + 1) cap) : RunM C W0 r (W.setCell ⟨r, 5, none⟩ (.slice (some ⟨hb, 0, none⟩) n cap)) { s with hidden := s.hidden.take n } { x with hv := .slice (some ⟨hb, 0, none⟩) n cap } t := by
  have R := h.rows.turn h.rc h.rr (by decide) (setK W r 5 (.slice (some ⟨hb, 0, none⟩) n cap))
  refine ⟨?_, h.rr, heap_setCell_same W r 5 _ 72 _ h.rc⟩
  have hs := R.hs
  rw [hn, e] at hs
  have := own_pop hs (m := n) (by omega)
  rw [flat_take (hd3 x.bb) _ n (by omega)] at this
  refine { R with hs := ?_ }
  dsimp only
  rw [List.length_take, hn, Nat.min_eq_left (by omega)]
  exact this
theorem RunM.popC (h : RunM C W0 r W s x t) {cb cap n : Nat} (hn : s.calls.length = n + 1) (e : x.cv = .slice (some ⟨cb, 0, none⟩) (n + 1) cap) : RunM C W0 r (W.setCell ⟨r, 9, none⟩ (.slice (some ⟨cb, 0, none⟩) n cap)) { s with calls := s.calls.take n } { x with cv := .slice (some ⟨cb, 0, none⟩) n cap } t := by
  have R := h.rows.turn h.rc h.rr (by decide) (setK W r 9 (.slice (some ⟨cb, 0, none⟩) n cap))
  refine ⟨?_, h.rr, heap_setCell_same W r 9 _ 72 _ h.rc⟩
  have hs := R.cs
  rw [hn, e] at hs
  have := own_pop hs (m := n) (by omega)
  rw [flat_take cl6 _ n (by omega)] at this
  refine { R with cs := ?_ }
  dsimp only
  rw [List.length_take, hn, Nat.min_eq_left (by omega)]
  exact this
end
end Go.Proofs.Ytiehlkhpblldaaa
