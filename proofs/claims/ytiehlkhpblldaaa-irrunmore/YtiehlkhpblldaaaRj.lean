/- Registers for a function that is called for the first time. -/
import Derived.Test.YtiehlkhpblldaaaRh
import Derived.Test.YtiehlkhpblldaaaCpy0
namespace Go.Proofs.Ytiehlkhpblldaaa
open Go.RowKit Go.Maps
set_option linter.unusedVariables false
set_option linter.unusedSimpArgs false
section
variable {C : Cst} {W0 W W' : World} {r : Nat} {s s' : St} {x : Vs} {t : Tp}
theorem inf109 : (Try.prog.info? 109).map (fun i => (i.zero, i.size, i.bytes)) = some (some (.agg #[.int .u32 0, .int .i64 0]), 2, 16) := by kernel_rfl
theorem flat_rep (n : Nat) : flat Rg.cells (List.replicate n ⟨0, 0⟩) = (madeCells #[.int .u32 0, .int .i64 0] (n * 2)).toList := by
  refine List.ext_getElem? (fun j => ?_)
  by_cases hj : j < n * 2
  · obtain ⟨i, c, hi, hc, rfl⟩ : ∃ i c, i < n ∧ c < 2 ∧ j = i * 2 + c := ⟨j / 2, j % 2, by omega, by omega, by omega⟩
    rw [flat_get rg2 _ i c (by simpa using hi) hc, List.getElem_replicate]
    simp only [madeCells, Array.toList_map, Array.toList_range, List.getElem?_map, List.getElem?_range hj, Option.map_some]
    rcases (show c = 0 ∨ c = 1 by omega) with rfl | rfl
    · simp [Rg.cells, show (i * 2 + 0) % 2 = 0 by omega]
    · simp [Rg.cells, show (i * 2 + 1) % 2 = 1 by omega]
  · rw [List.getElem?_eq_none (by rw [flat_length rg2, List.length_replicate]; omega), List.getElem?_eq_none (by rw [Array.length_toList, size_madeCells]; omega)]
theorem flat_congr {α : Type} {f g : α → List Value} : ∀ {l : List α}, (∀ a ∈ l, f a = g a) → flat f l = flat g l
  | [], _ => rfl
  | a :: l, h => by rw [flat_cons, flat_cons, h a (by simp), flat_congr (fun b hb => h b (by simp [hb]))]
/-- A new bank, in a new block, laid into the row of banks. -/
theorem RunM.newB (h : RunM C W0 r W s x t) {fn n : Nat} (hfn : s.banks[fn]? = some none) (hn : n ≤ 65536) (hh : ∀ e ∈ s.hidden, ∃ l, s.banks[e.fn]? = some (some l)) {bb cap m : Nat} (hm : s.banks.length = m) (ebv : x.bv = .slice (some ⟨bb, 0, none⟩) m cap) :
    ∃ w1, (Instr.makeSlice 69 (.int .i64 (n : Nat)) (.int .i64 (n : Nat))).run Try.prog W = .ok (.slice (some ⟨W.heap.size, 0, none⟩) n n) w1 ∧ Below W.heap.size W w1 ∧ RunM C W0 r w1 s x t ∧
      RunM C W0 r (w1.setCell ⟨bb, fn, none⟩ (.slice (some ⟨W.heap.size, 0, none⟩) n n)) { s with banks := s.banks.set fn (some (List.replicate n ⟨0, 0⟩)) } { x with bb := fun i => if i = fn then W.heap.size else x.bb i } t := by
  obtain ⟨w1, cur, hmk, hg, hcs, hb1⟩ := make_any2 W (n := n) Try.underlying69 inf109 (by omega) (by omega)
  have h1 := h.on hb1
  have R := h1.rows
  have hrow := R.bs
  rw [hm, ebv] at hrow
  obtain ⟨curb, hcurb⟩ := own_block hrow (b := bb) rfl
  have K := setK w1 bb fn (.slice (some ⟨W.heap.size, 0, none⟩) n n)
  have hB := (World.ownsRow.lt hrow bb rfl).1
  have hW0 := h.rows.below.size
  have hne : r ≠ bb := fun e => by
    have := h1.rc
    rw [e, hcurb] at this
    injection this with this
    injection this with _ h2
    cases h2
  obtain ⟨hfl, hfe⟩ := List.getElem?_eq_some_iff.1 hfn
  have hnewrow : w1.ownsRow W0.heap.size 109 2 (.slice (some ⟨W.heap.size, 0, none⟩) n n) n (flat Rg.cells (List.replicate n ⟨0, 0⟩)) := by
    refine ⟨by rw [flat_length rg2, List.length_replicate], .inr ⟨W.heap.size, n, cur, rfl, hW0, hg, Nat.le_refl _, by unfold maxLen; omega, by rw [hcs.1], ?_⟩⟩
    rw [hcs.2, flat_rep]; show (madeCells #[.int .u32 0, .int .i64 0] (n * 2)).toList.take _ = _; rw [List.take_of_length_le (by rw [Array.length_toList, size_madeCells]; exact Nat.le_refl _)]
  have hst := (World.ownsRow.stored hrow fn (.slice (some ⟨W.heap.size, 0, none⟩) n n)).1
  have hlt : ∀ i l, s.banks[i]? = some (some l) → x.bb i < W.heap.size := fun i l hi => (World.ownsRow.lt (h.rows.bk i l hi) _ rfl).2
  have hnf : ∀ i l, s.banks[i]? = some (some l) → i ≠ fn := fun i l hi e => by rw [e, hfn] at hi; cases hi
  refine ⟨w1, hmk, hb1, h1, ?_, h1.rr, (K.block r h1.lt hne).trans h1.rc⟩
  refine { below := R.below.trans (K.below R.below.size (fun k e => by omega)), pg := R.pg, sv := R.sv, svl := R.svl, bs := ?_, bk := ?_, bi := ?_, hs := ?_, gs := own_ty R.gs hcurb (by decide) K, ks := own_ty R.ks hcurb (by decide) K, os := own_ty R.os hcurb (by decide) K, gk := R.gk, go := R.go, ko := R.ko, cs := own_ty R.cs hcurb (by decide) K, xs := own_ty R.xs hcurb (by decide) K, rm := fun g0 c0 hg0 => blk_ty (R.rm g0 c0 hg0) hcurb (by decide) K }
  · dsimp only
    rw [List.length_set, hm, ebv]
    have e : (s.banks.set fn (some (List.replicate n ⟨0, 0⟩))).mapIdx (bankV (fun i => if i = fn then W.heap.size else x.bb i)) = (s.banks.mapIdx (bankV x.bb)).set fn (.slice (some ⟨W.heap.size, 0, none⟩) n n) := by
      refine List.ext_getElem? (fun j => ?_)
      rw [List.getElem?_mapIdx, List.getElem?_set, List.getElem?_set, List.getElem?_mapIdx]
      by_cases ej : fn = j
      · subst ej
        rw [if_pos rfl, if_pos rfl, if_pos hfl, if_pos (by simpa using hfl)]
        simp [bankV]
      · rw [if_neg ej, if_neg ej]
        cases hq : s.banks[j]? with
        | none => rfl
        | some o => cases o <;> simp [bankV, Ne.symm ej]
    rw [e]
    exact hst
  · intro j l hj
    dsimp only at hj ⊢
    rcases set_some2 hfl hj with ⟨rfl, rfl⟩ | ⟨hne2, hj⟩
    · rw [if_pos rfl, List.length_replicate]
      exact own_ty hnewrow hcurb (by decide) K
    · rw [if_neg hne2]
      exact own_ty (R.bk j l hj) hcurb (by decide) K
  · intro j k l l' hj hk e
    dsimp only at hj hk e
    rcases set_some2 hfl hj with ⟨e1, _⟩ | ⟨n1, hj2⟩
    · rcases set_some2 hfl hk with ⟨e2, _⟩ | ⟨n2, hk2⟩
      · rw [e1, e2]
      · rw [if_pos e1, if_neg n2] at e
        have := hlt _ _ hk2
        omega
    · rcases set_some2 hfl hk with ⟨e2, _⟩ | ⟨n2, hk2⟩
      · rw [if_neg n1, if_pos e2] at e
        have := hlt _ _ hj2
        omega
      · rw [if_neg n1, if_neg n2] at e
        exact R.bi _ _ _ _ hj2 hk2 e
  · have e : flat (Hd.cells (fun i => if i = fn then W.heap.size else x.bb i)) s.hidden = flat (Hd.cells x.bb) s.hidden := by
      refine flat_congr (fun a ha => ?_)
      obtain ⟨l, hl⟩ := hh a ha
      simp [Hd.cells, hnf _ _ hl]
    dsimp only
    rw [e]
    exact own_ty R.hs hcurb (by decide) K
end
end Go.Proofs.Ytiehlkhpblldaaa
