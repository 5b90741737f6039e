/- awake. -/
import Derived.Test.YtgkaeoieclegjaaDz
namespace Go.Proofs.Ytgkaeoieclegjaa
open Go Go.RowKit Go.Maps
set_option linter.unusedVariables false
set_option linter.unusedSimpArgs false
def awB (g : Nat) : List Bl := [⟨.slice none 0 0, [], 1, 0, .slice (some ⟨g, 0, none⟩) 1 1, [1]⟩, ⟨.slice none 0 0, [], 3, -1, .slice none 0 0, []⟩]
theorem aw_dom {g : Nat} {D : Nat → Option Nat} (h : DomOk (awB g) D) : D 0 = none ∧ D 1 = some 0 := by
  have hw : WayB (awB g) 1 := by
    refine .snoc (.nil trivial) (toL_mem.2 ⟨by simp [awB], ?_⟩) trivial
    simp [succN, awB]
  refine ⟨(h.no 0 (by simp [awB])).2 (.inl rfl), ?_⟩
  cases e : D 1 with
  | none =>
    have := (h.no 1 (by simp [awB])).1 e
    rcases this with h1 | h1
    · omega
    · exact absurd hw h1
  | some d =>
    obtain ⟨h1, _, _, h4, _⟩ := h.yes 1 d (by simp [awB]) e
    have : d < 2 := h1
    congr 1
    omega
theorem aw_ok {w : World} : let W := ((w.alloc (.cells #[.int .i64 1] 3)).alloc (.cells #[.slice none 0 0, .int .i64 1, .int .i64 0, .slice (some ⟨w.heap.size, 0, none⟩) 1 1, .slice none 0 0, .int .i64 3, .int .i64 (-1), .slice none 0 0] 45)).alloc (.cells #[.string ⟨#[]⟩, .int .i64 0, .int .i64 0, .int .i64 0, .slice (some ⟨w.heap.size + 1, 0, none⟩) 2 2] 24)
    Fn.ok W ⟨⟨#[]⟩, 0, 0, 0, .slice (some ⟨w.heap.size + 1, 0, none⟩) 2 2, awB w.heap.size⟩ := by
  intro W
  have s1 : W.heap[w.heap.size]? = some (.cells #[.int .i64 1] 3 (0, 0)) := by
    simp only [W]
    rw [Below.heap_alloc _ _ _ (by simp; omega), Below.heap_alloc _ _ _ (by simp), heap_alloc_new]
  have s2 : W.heap[w.heap.size + 1]? = some (.cells #[.slice none 0 0, .int .i64 1, .int .i64 0, .slice (some ⟨w.heap.size, 0, none⟩) 1 1, .slice none 0 0, .int .i64 3, .int .i64 (-1), .slice none 0 0] 45 (0, 0)) := by
    simp only [W]
    rw [Below.heap_alloc _ _ _ (by simp)]
    have := heap_alloc_new (w.alloc (.cells #[.int .i64 1] 3)) (.cells #[.slice none 0 0, .int .i64 1, .int .i64 0, .slice (some ⟨w.heap.size, 0, none⟩) 1 1, .slice none 0 0, .int .i64 3, .int .i64 (-1), .slice none 0 0] 45)
    have e : (w.alloc (.cells #[.int .i64 1] 3)).heap.size = w.heap.size + 1 := by simp
    rw [e] at this
    exact this
  have c1 := fun o => cell_of_row W w.heap.size o _ 3 (0, 0) s1
  have c2 := fun o => cell_of_row W (w.heap.size + 1) o _ 45 (0, 0) s2
  have l1 := (Array.getElem?_eq_some_iff.1 s1).1
  have l2 := (Array.getElem?_eq_some_iff.1 s2).1
  refine ⟨.inr ⟨w.heap.size + 1, 0, 2, rfl, l2, Nat.le_refl _, fun j u hj => ?_⟩, by simp [awB, big], (by show 0 ≤ big; exact Nat.zero_le _), fun x hx => ?_⟩
  · rw [Nat.zero_add, c2 j]
    simpa [awB, flat, Bl.cells] using hj
  · simp only [awB, List.mem_cons, List.not_mem_nil, or_false] at hx
    rcases hx with rfl | rfl
    · exact ⟨.inl ⟨rfl, _, _, rfl⟩, by simp, .inr ⟨w.heap.size, 0, 1, rfl, l1, Nat.le_refl _, fun j u hj => by
        rw [Nat.zero_add, c1 j]
        simpa [flat, icell] using hj⟩, by simp [big], fun y hy => by simp at hy⟩
    · exact ⟨.inl ⟨rfl, _, _, rfl⟩, by simp, .inl ⟨rfl, _, _, rfl⟩, by simp, fun y hy => by simp at hy⟩
set_option maxRecDepth 20000 in
set_option maxHeartbeats 8000000 in
theorem awake12 (w : World) : Calls Try.prog 12 #[] w fun e w' => e = .returned (.bool true) ∧ Below w.heap.size w w' := by
  have hok := aw_ok (w := w)
  dsimp only at hok
  have H10 := hid' (doms10a hok)
  clear hok
  unfold Fn.val at H10
  dsimp only at H10
  have hb3 := below3 w (.cells #[.int .i64 1] 3) (.cells #[.slice none 0 0, .int .i64 1, .int .i64 0, .slice (some ⟨w.heap.size, 0, none⟩) 1 1, .slice none 0 0, .int .i64 3, .int .i64 (-1), .slice none 0 0] 45) (.cells #[.string ⟨#[]⟩, .int .i64 0, .int .i64 0, .int .i64 0, .slice (some ⟨w.heap.size + 1, 0, none⟩) 2 2] 24)
  have HB3 := hid' hb3
  clear hb3
  go_enter Try.func12, Try.ntmps12
  go_wp2_with (go_at_call 10; refine H10.out.mono ?_; rintro e1 w1 ⟨q, D, rfl, hq, hR, hD, hb1⟩; obtain ⟨d0, d1⟩ := aw_dom hD; have r0 := hR.cell (i := 0) (by simp [awB]); have r1 := hR.cell (i := 1) (by simp [awB]); rw [d0, oi_none] at r0; rw [d1, oi_some] at r1; have HB1 := hid' (below_up HB3.out hb1); clear hq hR hD hb1 d0 d1; simp only [awB, List.length_cons, List.length_nil])
  go_ret
  exact ⟨by simp, HB1.out⟩
end Go.Proofs.Ytgkaeoieclegjaa
