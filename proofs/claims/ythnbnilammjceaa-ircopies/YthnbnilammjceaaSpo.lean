/- spoilt: writes numbers over numbers, in memory of a function's own. -/
import Derived.Test.YthnbnilammjceaaCop2
namespace Go.Proofs.Ythnbnilammjceaa
open Go.RowKit Go.Maps
set_option linter.unusedVariables false
set_option linter.unusedSimpArgs false

/-- Numbers in the blocks from B on may have turned into other numbers; nothing else. -/
structure Sp (B E : Nat) (w w' : World) : Prop where
  os : w'.os = w.os
  tape : w'.tape = w.tape
  output : w'.output = w.output
  size : w'.heap.size = w.heap.size
  block : ∀ k, k < B ∨ E ≤ k → w'.heap[k]? = w.heap[k]?
  num : ∀ b o n, w.cell? ⟨b, o, none⟩ = some (.int .i64 n) → ∃ m, w'.cell? ⟨b, o, none⟩ = some (.int .i64 m)
  els : ∀ b o a n c, w.cell? ⟨b, o, none⟩ = some (.slice a n c) → w'.cell? ⟨b, o, none⟩ = some (.slice a n c)
  frozen : ∀ b o, w'.frozen? ⟨b, o, none⟩ = w.frozen? ⟨b, o, none⟩
theorem Sp.rfl (B E : Nat) (w : World) : Sp B E w w := ⟨Eq.refl _, Eq.refl _, Eq.refl _, Eq.refl _, fun _ _ => Eq.refl _, fun _ _ n h => ⟨n, h⟩, fun _ _ _ _ _ h => h, fun _ _ => Eq.refl _⟩
theorem Sp.set {B E : Nat} {w w' : World} (h : Sp B E w w') {b o : Nat} {m : Int} (hb : B ≤ b) (hE : b < E) (hc : ∃ n, w'.cell? ⟨b, o, none⟩ = some (.int .i64 n)) : Sp B E w (w'.setCell ⟨b, o, none⟩ (.int .i64 m)) := by
  obtain ⟨n, hc⟩ := hc
  have hcell : ∀ c p, (w'.setCell ⟨b, o, none⟩ (.int .i64 m)).cell? ⟨c, p, none⟩ = if c = b ∧ p = o then some (.int .i64 m) else w'.cell? ⟨c, p, none⟩ := fun c p => by
    by_cases e : c = b ∧ p = o
    · obtain ⟨rfl, rfl⟩ := e
      rw [if_pos ⟨Eq.refl _, Eq.refl _⟩]
      simp [go_sem, hc]
    · rw [if_neg e]
      by_cases e2 : c = b
      · subst e2
        exact cell_ne (fun e3 => e ⟨Eq.refl _, e3.symm⟩)
      · exact World.cell?_of_block (Below.heap_setCell _ _ _ _ e2)
  refine ⟨h.os, h.tape, h.output, by have := h.size; simp [World.setCell]; omega, fun k hk => (Below.heap_setCell _ _ _ _ (fun e => by dsimp only at e; omega)).trans (h.block k hk), fun c p q hq => ?_, fun c p a q r hq => ?_, fun c p => frozen_set.trans (h.frozen c p)⟩
  · rw [hcell]
    split
    · exact ⟨m, Eq.refl _⟩
    · exact h.num c p q hq
  · rw [hcell]
    have := h.els c p a q r hq
    split
    · rename_i e
      obtain ⟨rfl, rfl⟩ := e
      rw [hc] at this
      cases this
    · exact this
theorem Sp.keep {B E : Nat} {w w' : World} (h : Sp B E w w') : Kept (fun k => B ≤ k ∧ k < E) w w' :=
  ⟨h.os, h.tape, h.output, Nat.le_of_eq h.size.symm, fun k _ hn => h.block k (by omega)⟩

/-- A row of numbers in a box of its own. -/
theorem own_ints {w : World} {B : Nat} {v : Value} {l : List Int} (h : Own 3 1 icell w B v l) (hE : True) : ∃ ao cap, v = .slice ao l.length cap ∧ ∀ k, k < l.length → ∃ g, ao = some ⟨g, 0, none⟩ ∧ B ≤ g ∧ g < w.heap.size ∧ l.length ≤ cap ∧ (∃ n, w.cell? ⟨g, k, none⟩ = some (.int .i64 n)) ∧ w.frozen? ⟨g, k, none⟩ = false := by
  rcases h.2 with ⟨rfl, e⟩ | ⟨g, cap, cur, rfl, hB, hh, hcp, _⟩
  · exact ⟨none, 0, by rw [e], fun k hk => by omega⟩
  · refine ⟨_, cap, Eq.refl _, fun k hk => ⟨g, Eq.refl _, hB, (Array.getElem?_eq_some_iff.1 hh).1, hcp, ⟨l[k], ?_⟩, World.ownsRow.frozenAt h k⟩⟩
    rw [World.ownsRow.cellAt h k (by omega), flat_i]
    simp [hk]
theorem own_ins {w : World} {B : Nat} {v : Value} {l : List In} (h : Own 47 7 In.cells w B v l) : ∃ ao cap, v = .slice ao l.length cap ∧ ∀ k (hk : k < l.length), ∃ g, ao = some ⟨g, 0, none⟩ ∧ B ≤ g ∧ g < w.heap.size ∧ l.length ≤ cap ∧ w.cell? ⟨g, k * 7, none⟩ = some (.int .i64 l[k].op) ∧ w.cell? ⟨g, k * 7 + 2, none⟩ = some l[k].av ∧ w.cell? ⟨g, k * 7 + 6, none⟩ = some l[k].pv ∧ w.frozen? ⟨g, k * 7, none⟩ = false := by
  rcases h.2 with ⟨rfl, e⟩ | ⟨g, cap, cur, rfl, hB, hh, hcp, _⟩
  · exact ⟨none, 0, by rw [e], fun k hk => by omega⟩
  · refine ⟨_, cap, Eq.refl _, fun k hk => ?_⟩
    have hc : ∀ j, j < 7 → w.cell? ⟨g, k * 7 + j, none⟩ = (In.cells l[k])[j]? := fun j hj => by
      rw [World.ownsRow.cellAt h (k * 7 + j) (by omega), flat_get in7 l k j hk hj]
    obtain ⟨c0, c1, c2, c3, c4, c5, c6⟩ := in_cells (o := k * 7) hc
    exact ⟨g, Eq.refl _, hB, (Array.getElem?_eq_some_iff.1 hh).1, hcp, c0, c2, c6, World.ownsRow.frozenAt h _⟩
theorem own_bls {w : World} {B : Nat} {v : Value} {l : List Bl} (h : Own 54 4 Bl.cells w B v l) : ∃ ao cap, v = .slice ao l.length cap ∧ ∀ k (hk : k < l.length), ∃ g, ao = some ⟨g, 0, none⟩ ∧ B ≤ g ∧ g < w.heap.size ∧ l.length ≤ cap ∧ w.cell? ⟨g, k * 4, none⟩ = some l[k].cv ∧ w.cell? ⟨g, k * 4 + 1, none⟩ = some (.int .i64 l[k].en) ∧ w.cell? ⟨g, k * 4 + 3, none⟩ = some l[k].tv ∧ w.frozen? ⟨g, k * 4 + 1, none⟩ = false := by
  rcases h.2 with ⟨rfl, e⟩ | ⟨g, cap, cur, rfl, hB, hh, hcp, _⟩
  · exact ⟨none, 0, by rw [e], fun k hk => by omega⟩
  · refine ⟨_, cap, Eq.refl _, fun k hk => ?_⟩
    have hc : ∀ j, j < 4 → w.cell? ⟨g, k * 4 + j, none⟩ = (Bl.cells l[k])[j]? := fun j hj => by
      rw [World.ownsRow.cellAt h (k * 4 + j) (by omega), flat_get bl4 l k j hk hj]
    obtain ⟨c0, c1, c2, c3⟩ := bl_cells (o := k * 4) hc
    exact ⟨g, Eq.refl _, hB, (Array.getElem?_eq_some_iff.1 hh).1, hcp, c0, c1, c3, World.ownsRow.frozenAt h _⟩
end Go.Proofs.Ythnbnilammjceaa
