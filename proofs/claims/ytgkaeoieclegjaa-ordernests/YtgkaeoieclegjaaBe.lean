/- How each law begins: the function is made bare. -/
import Derived.Test.YtgkaeoieclegjaaBd
import Derived.Test.YtgkaeoieclegjaaAw
namespace Go.Proofs.Ytgkaeoieclegjaa
open Go Go.RowKit Go.Maps
set_option linter.unusedVariables false
set_option linter.unusedSimpArgs false
def put5 (W : World) (b : Nat) (hv : Value) : World := ((((W.setCell ⟨b, 0, none⟩ (.string ⟨#[]⟩)).setCell ⟨b, 1, none⟩ (.int .i64 0)).setCell ⟨b, 2, none⟩ (.int .i64 1)).setCell ⟨b, 3, none⟩ (.int .i64 0)).setCell ⟨b, 4, none⟩ hv
theorem put5_kept (W : World) (b : Nat) (hv : Value) : Kept (fun k => k = b) W (put5 W b hv) := by
  unfold put5
  exact ((((setK W b 0 _).set (a := ⟨b, 1, none⟩) (.inl rfl) _).set (a := ⟨b, 2, none⟩) (.inl rfl) _).set (a := ⟨b, 3, none⟩) (.inl rfl) _).set (a := ⟨b, 4, none⟩) (.inl rfl) _
theorem put5_cells {W : World} {b : Nat} {v0 v1 v2 v3 v4 hv : Value} (h : W.heap[b]? = some (.cells #[v0, v1, v2, v3, v4] 24 (0, 0))) : (put5 W b hv).heap[b]? = some (.cells (gcells hv) 24 (0, 0)) := by
  unfold put5
  have h1 := heap_setCell_same W b 0 _ 24 (.string ⟨#[]⟩) h
  have h2 := heap_setCell_same _ b 1 _ 24 (.int .i64 0) h1
  have h3 := heap_setCell_same _ b 2 _ 24 (.int .i64 1) h2
  have h4 := heap_setCell_same _ b 3 _ 24 (.int .i64 0) h3
  have h5 := heap_setCell_same _ b 4 _ 24 hv h4
  rw [h5]
  rfl
/-- Behind the beginning: the function's box holds the bare one. -/
structure BgM (w : World) (hv : Value) (bl : List Bl) (W : World) : Prop where
  box : W.heap[w.heap.size]? = some (.cells (gcells hv) 24 (0, 0))
  ok : Fn.ok W ⟨⟨#[]⟩, 0, 1, 0, hv, bl⟩
  below : Below w.heap.size w W
theorem BgM.on {w W W' : World} {hv : Value} {bl : List Bl} (h : BgM w hv bl W) (hb : Below W.heap.size W W') : BgM w hv bl W' :=
  ⟨(hb.block _ (Array.getElem?_eq_some_iff.1 h.box).1).trans h.box, h.ok.on hb, below_on h.below hb h.below.size⟩
theorem BgM.cells {w W : World} {hv : Value} {bl : List Bl} (h : BgM w hv bl W) : W.cell? ⟨w.heap.size, 0, none⟩ = some (.string ⟨#[]⟩) ∧ W.cell? ⟨w.heap.size, 1, none⟩ = some (.int .i64 0) ∧ W.cell? ⟨w.heap.size, 2, none⟩ = some (.int .i64 1) ∧ W.cell? ⟨w.heap.size, 3, none⟩ = some (.int .i64 0) ∧ W.cell? ⟨w.heap.size, 4, none⟩ = some hv := by
  have q := fun o => cell_of_row W w.heap.size o _ 24 (0, 0) h.box
  exact ⟨q 0, q 1, q 2, q 3, q 4⟩
theorem bg_begin {w w9 : World} {f : Fn} {v0 v1 v2 v3 v4 hv : Value} (h : Fn.ok w f) (h9 : w9.heap[w.heap.size]? = some (.cells #[v0, v1, v2, v3, v4] 24 (0, 0))) (hb : Below w.heap.size w w9) (ho : Own 45 4 Bl.cells w9 (w.heap.size + 1) hv (f.blocks.map bareB)) : BgM w hv (f.blocks.map bareB) (put5 w9 w.heap.size hv) := by
  have K := put5_kept w9 w.heap.size hv
  have hB : Below w.heap.size w (put5 w9 w.heap.size hv) := hb.trans (K.below hb.size (fun k e => by omega))
  exact ⟨put5_cells h9, bare_fn (own_ty ho h9 (by decide) K) h.bl h.bls hB, hB⟩
theorem bare_cv {bl : List Bl} : ∀ x ∈ bl.map bareB, x.cv = .slice none 0 0 := fun x hx => by
  obtain ⟨y, _, rfl⟩ := List.mem_map.1 hx
  rfl
end Go.Proofs.Ytgkaeoieclegjaa
