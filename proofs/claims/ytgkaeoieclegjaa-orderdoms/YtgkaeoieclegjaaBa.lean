/- A function with its blocks' ends alone: what lies where. -/
import Derived.Test.YtgkaeoieclegjaaOw
namespace Go.Proofs.Ytgkaeoieclegjaa
open Go Go.RowKit Go.Maps
set_option linter.unusedVariables false
set_option linter.unusedSimpArgs false
theorem infB : (Try.prog.info? 45).map (fun i => (i.zero, i.size, i.bytes)) = some (some (.agg #[.slice none 0 0, .int .i64 0, .int .i64 0, .slice none 0 0]), 4, 64) := by kernel_rfl
/-- A bare block's Arg. -/
def bareA (en arg : Int) : Int := if en = 2 then 0 else if en = 3 then -1 else arg
def bareB (b : Bl) : Bl := ⟨.slice none 0 0, [], b.en, bareA b.en b.arg, b.tv, b.to⟩
def rawB (b : Bl) : Bl := ⟨.slice none 0 0, [], b.en, b.arg, b.tv, b.to⟩
def gcells (hv : Value) : Array Value := #[.string ⟨#[]⟩, .int .i64 0, .int .i64 1, .int .i64 0, hv]
def zcells : Array Value := #[.string ⟨#[]⟩, .int .i64 0, .int .i64 0, .int .i64 0, .slice none 0 0]
/-- The boxes: of the function, of the answer, of the bare one. -/
structure BD (w : World) (fc : Array Value) (hv : Value) (W : World) : Prop where
  f : W.heap[w.heap.size]? = some (.cells fc 24 (0, 0))
  a : W.heap[w.heap.size + 1]? = some (.cells zcells 24 (0, 0))
  g : W.heap[w.heap.size + 1 + 1]? = some (.cells (gcells hv) 24 (0, 0))
  below : Below w.heap.size w W
/-- .. and the row of blocks. -/
structure BM (w : World) (fc : Array Value) (hv v : Value) (l : List Bl) (W : World) : Prop extends BD w fc hv W where
  row : Own 45 4 Bl.cells W w.heap.size v l
theorem BD.on {w W W' : World} {fc : Array Value} {hv : Value} (h : BD w fc hv W) (hb : Below W.heap.size W W') : BD w fc hv W' :=
  ⟨(hb.block _ (Array.getElem?_eq_some_iff.1 h.f).1).trans h.f, (hb.block _ (Array.getElem?_eq_some_iff.1 h.a).1).trans h.a, (hb.block _ (Array.getElem?_eq_some_iff.1 h.g).1).trans h.g, below_on h.below hb h.below.size⟩
theorem BM.on {w W W' : World} {fc : Array Value} {hv v : Value} {l : List Bl} (h : BM w fc hv v l W) (hb : Below W.heap.size W W') : BM w fc hv v l W' :=
  ⟨h.toBD.on hb, (Kept.of_below (S := fun _ => False) hb).owns h.row (fun _ _ e => e)⟩
theorem bare_one (b : Bl) (hc : b.cv = .slice none 0 0) {w : World} (ht : Src icell w b.tv b.to) : ∀ u ∈ Bl.cells b, u.oneCell' = true := by
  intro u hu
  obtain ⟨ao', cap', e'⟩ := ht.len
  simp only [Bl.cells, List.mem_cons, List.not_mem_nil, or_false] at hu
  rcases hu with rfl | rfl | rfl | rfl
  · rw [hc]; rfl
  · rfl
  · rfl
  · rw [e']; rfl
theorem exec_append {P : Program} {o : Oper} {a : Act} {w w' : World} (s x : Operand) (t : TypeId) (hop : o.op = Op.call { callee := Callee.builtin Builtin.append, args := #[s, x], argTypes := #[t, t] }) (v xv v' : Value) (hs : a.eval s = v) (hx : a.eval x = xv)
    (hrun : (Builtin.append_ #[t, t] o.type #[v, xv]).run P w = .ok v' w') : (execOp a.eval o).run P w = .ok (.value v') w' := by
  simp [execOp, hop, resolve, invoke, builtin, hs, hx, hrun, Result.andThen]
/-- A block more. -/
theorem BM.app {w W : World} {fc : Array Value} {hv v : Value} {l : List Bl} {x : Bl} {q : Nat} (h : BM w fc hv v l W) (hq : W.heap[q]? = some (.cells (Bl.cells x).toArray 45 (0, 0))) (hx : ∀ u ∈ Bl.cells x, u.oneCell' = true) (hl : (l.length + 1) * 64 ≤ 140737488355328) :
    ∃ b cap w', (∀ ty, (Builtin.append_ #[22, 22] ty #[v, .slice (some ⟨q, 0, none⟩) 1 1]).run Try.prog W = .ok (.slice (some ⟨b, 0, none⟩) (l.length + 1) cap) w') ∧ BM w fc hv (.slice (some ⟨b, 0, none⟩) (l.length + 1) cap) (l ++ [x]) w' := by
  have hqlt := (Array.getElem?_eq_some_iff.1 hq).1
  have hsrc : Src Bl.cells W (.slice (some ⟨q, 0, none⟩) 1 1) [x] := .inr ⟨q, 0, 1, rfl, hqlt, Nat.le_refl _, fun j u hj => by
    rw [Nat.zero_add, cell_of_row W q j _ 45 (0, 0) hq]
    simpa [flat] using hj⟩
  obtain ⟨v', w', h1, h2, h3, h4⟩ := append_own2 (f := Bl.cells) (st := 22) (et := 45) (bytes := 64) bl4 (l := l) (m := [x]) (base := w.heap.size) (w := W) (v := v) (x := .slice (some ⟨q, 0, none⟩) 1 1) (fun y hy => (List.mem_singleton.1 hy) ▸ hx) Try.underlying22 infB rfl (by decide) h.row hsrc (by simp only [List.length_singleton]; omega) (by simp only [List.length_singleton]; unfold maxLen; omega) h.below.size 22
  unfold Own at h2
  rw [List.length_append, List.length_singleton] at h2
  obtain ⟨b, cap, rfl⟩ := own_form h2
  have K := grown_kept h3
  refine ⟨b, cap, w', fun ty => h1, ⟨grown_r h.row h.f (by decide) K, grown_r h.row h.a (by decide) K, grown_r h.row h.g (by decide) K, h.below.trans (K.below h.below.size (fun k e => (World.ownsRow.lt h.row k e).1))⟩, ?_⟩
  unfold Own
  rw [List.length_append, List.length_singleton]
  exact h2
/-- The header is stored. -/
theorem BM.head {w W : World} {fc : Array Value} {hv v : Value} {l : List Bl} (h : BM w fc hv v l W) : BM w fc v v l (W.setCell ⟨w.heap.size + 1 + 1, 4, none⟩ v) := by
  have K := setK W (w.heap.size + 1 + 1) 4 v
  have hg := h.g
  refine ⟨⟨(K.block _ (Array.getElem?_eq_some_iff.1 h.f).1 (by omega)).trans h.f, (K.block _ (Array.getElem?_eq_some_iff.1 h.a).1 (by omega)).trans h.a, ?_, h.below.trans (K.below h.below.size (fun k e => by omega))⟩, own_ty h.row hg (by decide) K⟩
  rw [heap_setCell_same W (w.heap.size + 1 + 1) 4 _ 24 _ hg]
  rfl
/-- A block's Arg is put. -/
theorem BM.arg {w W : World} {fc : Array Value} {hv : Value} {l : List Bl} {b i cap : Nat} {x : Bl} {n : Int} (h : BM w fc hv (.slice (some ⟨b, 0, none⟩) l.length cap) l W) (hi : i < l.length) (hx : Bl.cells x = (Bl.cells l[i]).set 2 (.int .i64 n)) :
    BM w fc hv (.slice (some ⟨b, 0, none⟩) l.length cap) (l.set i x) (W.setCell ⟨b, i * 4 + 2, none⟩ (.int .i64 n)) := by
  obtain ⟨cur, hbc⟩ := own_block h.row (b := b) rfl
  have K := setK W b (i * 4 + 2) (.int .i64 n)
  have hne : ∀ k c, W.heap[k]? = some (.cells c 24 (0, 0)) → k ≠ b := fun k c hk e => by
    subst e
    rw [hbc] at hk
    injection hk with hk
    injection hk with _ e2
    cases e2
  have hlt := World.ownsRow.lt h.row b rfl
  refine ⟨⟨(K.block _ (Array.getElem?_eq_some_iff.1 h.f).1 (hne _ _ h.f)).trans h.f, (K.block _ (Array.getElem?_eq_some_iff.1 h.a).1 (hne _ _ h.a)).trans h.a, (K.block _ (Array.getElem?_eq_some_iff.1 h.g).1 (hne _ _ h.g)).trans h.g, h.below.trans (K.below h.below.size (fun k e => by subst e; exact hlt.1))⟩, ?_⟩
  have := (World.ownsRow.stored h.row (i * 4 + 2) (.int .i64 n)).1
  unfold Own
  rw [List.length_set, flat_set Bl.cells bl4 l i 2 x _ hi (by omega) hx]
  exact this
theorem BM.src {w W : World} {fc : Array Value} {hv v : Value} {l : List Bl} (h : BM w fc hv v l W) : Src Bl.cells W v l := Own.src bl4 h.row
end Go.Proofs.Ytgkaeoieclegjaa
