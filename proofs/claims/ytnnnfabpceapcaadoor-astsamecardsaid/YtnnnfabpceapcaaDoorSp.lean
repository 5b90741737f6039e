/- The speller: a list of pieces in memory of its own. -/
import Derived.Test.YtnnnfabpceapcaaDoorTree
import Derived.Test.YtnnnfabpceapcaaDoorWalkI
import Derived.Deep.AppendLies
namespace Go.Proofs.YtnnnfabpceapcaaDoor
open Go.RowKit
set_option linter.unusedVariables false

/-- A piece of a text: bytes, or a node. -/
structure Pc where
  text : ByteArray
  ptr : Option (Nat × Nat)
  t : Tr
def noT : Tr := Tr.node ⟨0, ⟨#[]⟩, 0, false, 0⟩ []
def txt (s : ByteArray) : Pc := ⟨s, none, noT⟩
def nod (b o : Nat) (t : Tr) : Pc := ⟨⟨#[]⟩, some (b, o), t⟩
def pcP (p : Pc) : Value := .pointer (p.ptr.map fun a => ⟨a.1, a.2, none⟩)
def pcC : List Pc → List Value
  | [] => []
  | p :: r => .string p.text :: pcP p :: pcC r
theorem pcC_length : ∀ (T : List Pc), (pcC T).length = T.length * 2
  | [] => rfl
  | p :: r => by
    show (pcC r).length + 1 + 1 = (r.length + 1) * 2
    rw [pcC_length r]
    omega
theorem pcC_append : ∀ (a b : List Pc), pcC (a ++ b) = pcC a ++ pcC b
  | [], b => rfl
  | p :: r, b => by
    show .string p.text :: pcP p :: pcC (r ++ b) = _
    rw [pcC_append r b]
    rfl

/-- Nothing of a set of blocks has turned. -/
structure On (A : Nat → Prop) (w w' : World) : Prop where
  os : w'.os = w.os
  tape : w'.tape = w.tape
  output : w'.output = w.output
  size : w.heap.size ≤ w'.heap.size
  block : ∀ k, A k → k < w.heap.size → w'.heap[k]? = w.heap[k]?
section
variable {A A' : Nat → Prop} {w w' w'' : World}
theorem On.rfl (A : Nat → Prop) (w : World) : On A w w := ⟨Eq.refl _, Eq.refl _, Eq.refl _, Nat.le_refl _, fun _ _ _ => Eq.refl _⟩
theorem On.trans (h : On A w w') (k : On A w' w'') : On A w w'' :=
  ⟨k.os.trans h.os, k.tape.trans h.tape, k.output.trans h.output, Nat.le_trans h.size k.size, fun i hA hi => (k.block i hA (Nat.lt_of_lt_of_le hi h.size)).trans (h.block i hA hi)⟩
theorem On.alloc (h : On A w w') (o : Obj) : On A w (w'.alloc o) :=
  ⟨h.os, h.tape, h.output, by have := h.size; simp; omega, fun k hA hk => (Below.heap_alloc _ _ _ (Nat.lt_of_lt_of_le hk h.size)).trans (h.block k hA hk)⟩
theorem On.less (h : On A w w') (hs : ∀ k, A' k → A k) : On A' w w' := ⟨h.os, h.tape, h.output, h.size, fun k hA hk => h.block k (hs k hA) hk⟩
theorem On.grown {row : Option Nat} (h : On A w w') (hg : w'.grownBy w'' row) (hr : ∀ k, row = some k → ¬ A k) : On A w w'' :=
  ⟨hg.os.trans h.os, hg.tape.trans h.tape, hg.output.trans h.output, Nat.le_trans h.size hg.size, fun k hA hk => (hg.block k (Nat.lt_of_lt_of_le hk h.size) (fun e => hr k e.symm hA)).trans (h.block k hA hk)⟩
theorem On.setC (h : On A w w') {b o : Nat} (hb : ¬ A b) (u : Value) : On A w (w'.setCell ⟨b, o, none⟩ u) :=
  ⟨h.os, h.tape, h.output, by rw [World.size_setCell]; exact h.size, fun k hA hk => (Below.heap_setCell _ _ _ _ (fun e => hb (by subst e; exact hA))).trans (h.block k hA hk)⟩
theorem On.cell (h : On A w w') {b o : Nat} (hA : A b) (hb : b < w.heap.size) : w'.cell? ⟨b, o, none⟩ = w.cell? ⟨b, o, none⟩ := World.cell?_of_block (w := w) (h.block b hA hb)
theorem On.below {n : Nat} (h : On A w w') (hA : ∀ k, k < n → A k) (hn : n ≤ w.heap.size) : Below n w w' := ⟨h.os, h.tape, h.output, h.size, fun k hk => h.block k (hA k hk) (by omega)⟩
theorem On.of_below (h : Below w.heap.size w w') : On A w w' := ⟨h.os, h.tape, h.output, h.size, fun k _ hk => h.block k hk⟩
end

/-- The speller in block sb has these pieces to do; none of its memory is among A's. -/
structure Sp (A : Nat → Prop) (sb : Nat) (T : List Pc) (w : World) : Prop where
  lt : ∀ k, A k → k < w.heap.size
  nsb : ¬ A sb
  slt : sb < w.heap.size
  own : ∃ v, w.heap[sb]? = some (.cells #[v] 59 (0, 0)) ∧ w.ownsRow 0 56 2 v T.length (pcC T) ∧ ∀ b, v.ownBlock = some b → b ≠ sb ∧ ¬ A b
section
variable {A A' : Nat → Prop} {sb : Nat} {T : List Pc} {w w' : World}
theorem Sp.less (h : Sp A sb T w) (hs : ∀ k, A' k → A k) : Sp A' sb T w := by
  obtain ⟨h1, h2, h3, v, h4, h5, h6⟩ := h
  exact ⟨fun k hk => h1 k (hs k hk), fun hk => h2 (hs _ hk), h3, v, h4, h5, fun b hb => ⟨(h6 b hb).1, fun hA => (h6 b hb).2 (hs b hA)⟩⟩
theorem Sp.below (h : Sp A sb T w) (hb : Below w.heap.size w w') : Sp A sb T w' := by
  obtain ⟨h1, h2, h3, v, h4, h5, h6⟩ := h
  exact ⟨fun k hk => Nat.lt_of_lt_of_le (h1 k hk) hb.size, h2, Nat.lt_of_lt_of_le h3 hb.size, v, (hb.block sb h3).trans h4, h5.kept (row := none) ⟨hb.os, hb.tape, hb.output, hb.size, fun k hk _ => hb.block k hk⟩ (by cases hq : v.ownBlock with | none => exact .inl rfl | some k => exact .inr (by simp)), h6⟩
/-- A new block joins those that are let be. -/
theorem Sp.also (h : Sp A sb T w) (o : Obj) : Sp (fun k => A k ∨ k = w.heap.size) sb T (w.alloc o) := by
  obtain ⟨h1, h2, h3, v, h4, h5, h6⟩ := h.below (below1 w o)
  have hs := h.slt
  refine ⟨fun k hk => ?_, fun hk => ?_, h3, v, h4, h5, fun b hb => ⟨(h6 b hb).1, fun hk => ?_⟩⟩
  · rcases hk with hk | rfl
    · exact h1 k hk
    · simp
  · rcases hk with hk | hk
    · exact h2 hk
    · omega
  · rcases hk with hk | rfl
    · exact (h6 b hb).2 hk
    · obtain ⟨_, _, _, v', h4', h5', _⟩ := h
      have e : (w.alloc o).heap[sb]? = w.heap[sb]? := (below1 w o).block sb hs
      rw [e, h4'] at h4
      injection h4 with h4
      injection h4 with h4
      injection h4 with h4
      injection h4 with h4
      subst h4
      have := (h5'.lt _ hb).2
      omega
end

def Mark (x : Prop) : Prop := x
theorem of_mark {x : Prop} (h : Mark x) : x := h
theorem info56' : (Tryd.prog.info? 56).map (fun i => (i.zero, i.size, i.bytes)) = some (some (.agg #[.string ⟨#[]⟩, .pointer none]), 2, 24) := by kernel_rfl

/-- Behind a push. -/
theorem Sp.push {A : Nat → Prop} {sb g cap : Nat} {T : List Pc} {p : Pc} {w w1 w2 : World} {v : Value} (hlt : ∀ k, A k → k < w.heap.size) (hns : ¬ A sb) (hs : sb < w.heap.size) (h4 : w.heap[sb]? = some (.cells #[v] 59 (0, 0))) (h6 : ∀ b, v.ownBlock = some b → b ≠ sb ∧ ¬ A b)
    (hb : Below w.heap.size w w1) (hown : w2.ownsRow 0 56 2 (.slice (some ⟨g, 0, none⟩) (T.length + 1) cap) (T.length + 1) (pcC T ++ [.string p.text, pcP p])) (hg : w1.grownBy w2 v.ownBlock) (hloc : v.ownBlock = some g ∨ g = w1.heap.size) :
    Sp A sb (T ++ [p]) (w2.setCell ⟨sb, 0, none⟩ (.slice (some ⟨g, 0, none⟩) (T.length + 1) cap)) ∧ On A w (w2.setCell ⟨sb, 0, none⟩ (.slice (some ⟨g, 0, none⟩) (T.length + 1) cap)) := by
  have hbs := hb.size
  have hgs := hg.size
  have hgA : g ≠ sb ∧ ¬ A g := by
    rcases hloc with h | rfl
    · exact h6 g h
    · exact ⟨by omega, fun hA => by have := hlt _ hA; omega⟩
  have hblk : w2.heap[sb]? = some (.cells #[v] 59 (0, 0)) := by
    rw [hg.block sb (by omega) (fun e => (h6 sb e.symm).1 rfl), hb.block sb hs, h4]
  refine ⟨⟨fun k hk => ?_, hns, ?_, .slice (some ⟨g, 0, none⟩) (T.length + 1) cap, ?_, ?_, fun b hb' => ?_⟩, ?_⟩
  · have := hlt k hk
    rw [World.size_setCell]
    omega
  · rw [World.size_setCell]
    omega
  · exact heap_setCell_same w2 sb 0 #[v] 59 _ hblk
  · rw [List.length_append, pcC_append]
    exact hown.kept (row := some sb) ⟨rfl, rfl, rfl, by rw [World.size_setCell]; omega, fun k _ hk => Below.heap_setCell _ _ _ _ (fun e => hk (by rw [e]))⟩ (.inr (fun e => hgA.1 (Option.some.inj e)))
  · have : b = g := (Option.some.inj hb').symm
    subst this
    exact hgA
  · exact ((On.of_below hb).grown hg (fun k e => (h6 k e).2)).setC hns _

set_option maxHeartbeats 2000000 in
theorem put55 {A : Nat → Prop} {sb b o : Nat} {T : List Pc} {w : World} (t : Tr) (h : Sp A sb T w) (hT : T.length ≤ 1099511627776) :
    Calls Tryd.prog 55 #[.pointer (some ⟨sb, 0, none⟩), .pointer (some ⟨b, o, none⟩)] w fun e w' => e = .returned (.tuple #[]) ∧ Sp A sb (T ++ [nod b o t]) w' ∧ On A w w' := by
  obtain ⟨i0, hi, hz0, hz1, hz2⟩ := info_parts info56'
  obtain ⟨h1, h2, h3, v, h4, h5, h6⟩ := h
  have c0 : w.cell? ⟨sb, 0, none⟩ = some v := by simp [World.cell?, h4]
  have H4 := hid' h4
  have H6 := hid' h6
  have H1 := hid' h1
  have hvl := pcC_length T
  clear h4 h6 h1
  go_enter Tryd.func55, Tryd.ntmps55
  go_wp2_with (at_builtin; refine of_mark ?_)
  unfold Mark
  refine wpList_append_lies _ rfl _ _ 57 rfl 0 56 i0 (.agg #[.string ⟨#[]⟩, .pointer none]) 2 24 Tryd.underlying57 hi hz0 hz1 hz2 rfl (by decide) v T.length (pcC T) rfl (h5.alloc _) ⟨w.heap.size, 0, none⟩ 1 1 [.string ⟨#[]⟩, .pointer (some ⟨b, o, none⟩)] rfl rfl (cells2 (by simp [go_sem]) (by simp [go_sem])) (fun u hu => by simp at hu; rcases hu with rfl | rfl <;> rfl) (by decide) (by unfold maxLen; omega) (by omega) (by omega) (w.heap.size + 1) (by simp) ?_
  intro g cap w2 hown hgrow hloc hgl
  have HP := hid' (Sp.push (p := nod b o t) H1.out h2 h3 H4.out H6.out (below1 _ _) hown hgrow (hloc.imp id (fun e => by simpa using e)))
  have hfz : w2.frozen? ⟨sb, 0, none⟩ = false := by
    have : w2.heap[sb]? = some (.cells #[v] 59 (0, 0)) := by
      rw [hgrow.block sb (by simp; omega) (fun e => (H6.out sb e.symm).1 rfl), (below1 _ _).block sb h3, H4.out]
    simp [World.frozen?, this]
  have hl2 : sb < w2.heap.size := by have := hgrow.size; simp at this; omega
  have hc2 : ∃ u, w2.cell? ⟨sb, 0, none⟩ = some u := by
    have : w2.heap[sb]? = some (.cells #[v] 59 (0, 0)) := by
      rw [hgrow.block sb (by simp; omega) (fun e => (H6.out sb e.symm).1 rfl), (below1 _ _).block sb h3, H4.out]
    exact ⟨v, by simp [World.cell?, this]⟩
  obtain ⟨u2, hc2⟩ := hc2
  clear hown hgrow hloc
  go_wp2
  go_end0
  exact ⟨rfl, HP.out⟩
end Go.Proofs.YtnnnfabpceapcaaDoor
