/- The document's settled: its blocks. -/
import Derived.Test.YtgnlplddppheiaaRSet
import Derived.Test.YtgnlplddppheiaaRCheck
import Derived.Deep.CutRange
namespace Go.Proofs.Ytgnlplddppheiaa
open Go.RowKit Go.Maps
set_option linter.unusedVariables false

theorem info4' : (Try.prog.info? 4).map (fun i => (i.zero, i.size, i.bytes)) = some (some (.bool false), 1, 1) := by kernel_rfl
theorem run_make54 (n : Nat) (hn : n ≤ 1000000) (W : World) : (Instr.makeSlice 54 (.int .i64 (n : Int)) (.int .i64 (n : Int))).run Try.prog W = .ok (.slice (some ⟨W.heap.size, 0, none⟩) n n) (W.alloc (.cells (madeCells #[.bool false] n) 4)) :=
  run_make_row' 54 4 (.bool false) 1 Try.underlying54 info4' rfl .i64 .i64 n (by omega) (by omega) W

abbrev layV (tb lb ab n : Nat) : Array Value := #[.slice (some ⟨tb, 0, none⟩) n n, .slice (some ⟨lb, 0, none⟩) n n, .slice (some ⟨ab, 0, none⟩) (n + 1) (n + 1)]

/-- Five new blocks. -/
theorem five (w : World) (r o1 o2 o3 o4 : Obj) : (((((w.alloc r).alloc o1).alloc o2).alloc o3).alloc o4).drew.heap[w.heap.size]? = some r ∧ (((((w.alloc r).alloc o1).alloc o2).alloc o3).alloc o4).drew.heap[w.heap.size + 1]? = some o1 ∧ (((((w.alloc r).alloc o1).alloc o2).alloc o3).alloc o4).drew.heap[w.heap.size + 1 + 1]? = some o2 ∧
    (((((w.alloc r).alloc o1).alloc o2).alloc o3).alloc o4).drew.heap[w.heap.size + 1 + 1 + 1]? = some o3 ∧ (((((w.alloc r).alloc o1).alloc o2).alloc o3).alloc o4).drew.heap[w.heap.size + 1 + 1 + 1 + 1]? = some o4 ∧ Below w.heap.size w (((((w.alloc r).alloc o1).alloc o2).alloc o3).alloc o4).drew := by
  have K := (((((Kept.rfl (fun _ => False) w).alloc r).alloc o1).alloc o2).alloc o3).alloc o4 |>.drew
  have e : (((((w.alloc r).alloc o1).alloc o2).alloc o3).alloc o4).drew.heap = ((((w.heap.push r).push o1).push o2).push o3).push o4 := rfl
  rw [e]
  refine ⟨?_, ?_, ?_, ?_, ?_, K.below (Nat.le_refl _) (fun _ h => h.elim)⟩
  all_goals
    simp only [Array.getElem?_push, Array.size_push]
    repeat (first | rw [if_pos (by omega)] | rw [if_neg (by omega)])
    exact if_pos trivial

/-- What the first statement of settled leaves. -/
structure SPl (w W : World) (yb tb lb ab n : Nat) : Prop where
  yc : W.heap[yb]? = some (.cells (layV tb lb ab n) 56)
  res : W.heap[w.heap.size]? = some (.cells #[.slice none 0 0, .slice none 0 0, .slice none 0 0] 56)
  below : Below w.heap.size w W
  hy : w.heap.size < yb
  ht : w.heap.size < tb
  hl : w.heap.size < lb
  ha : w.heap.size < ab
  ne1 : yb ≠ tb
  ne2 : yb ≠ lb
  ne3 : yb ≠ ab

theorem SPl.yc0 {w W : World} {yb tb lb ab n : Nat} (h : SPl w W yb tb lb ab n) : W.cell? ⟨yb, 0, none⟩ = some (.slice (some ⟨tb, 0, none⟩) n n) ∧ W.cell? ⟨yb, 1, none⟩ = some (.slice (some ⟨lb, 0, none⟩) n n) ∧ W.cell? ⟨yb, 2, none⟩ = some (.slice (some ⟨ab, 0, none⟩) (n + 1) (n + 1)) := by
  have := h.yc
  simp [World.cell?, this, layV]
theorem SPl.ylt {w W : World} {yb tb lb ab n : Nat} (h : SPl w W yb tb lb ab n) : yb < W.heap.size := (Array.getElem?_eq_some_iff.1 h.yc).1
theorem SPl.rlt {w W : World} {yb tb lb ab n : Nat} (h : SPl w W yb tb lb ab n) : w.heap.size < W.heap.size := (Array.getElem?_eq_some_iff.1 h.res).1
theorem SPl.kept {w W W' : World} {yb tb lb ab n : Nat} {Q : Nat → Prop} (h : SPl w W yb tb lb ab n) (k : Kept Q W W') (h1 : ¬ Q yb) (h2 : ¬ Q w.heap.size) (h3 : ∀ b, Q b → w.heap.size ≤ b) : SPl w W' yb tb lb ab n :=
  ⟨(k.block _ h.ylt h1).trans h.yc, (k.block _ h.rlt h2).trans h.res, h.below.trans (k.below h.below.size h3), h.hy, h.ht, h.hl, h.ha, h.ne1, h.ne2, h.ne3⟩

/-- In the midst of settled. -/
structure SM (w W : World) (yb tb lb ab : Nat) (ls : List Ln) (T : Nat → Int) (S : Nat → Bool) (A : Nat → Int) : Prop where
  pl : SPl w W yb tb lb ab ls.length
  lay : Lay W tb lb ab ls.length T S A ls
section
variable {w W W' : World} {yb tb lb ab : Nat} {ls : List Ln} {T : Nat → Int} {S : Nat → Bool} {A : Nat → Int}
theorem Lay.next (h : Lay W tb lb ab ls.length T S A ls) (hb : Kept (fun _ => False) W W') : Lay W' tb lb ab ls.length T S A ls :=
  ⟨hb.row h.to (fun e => e), hb.row h.long (fun e => e), hb.row h.at_ (fun e => e), h.ne1, h.ne2, h.ne3⟩
theorem SM.next (h : SM w W yb tb lb ab ls T S A) (hb : Below W.heap.size W W') : SM w W' yb tb lb ab ls T S A :=
  ⟨h.pl.kept (Kept.of_below (S := fun _ => False) hb) (fun e => e) (fun e => e) (fun _ e => e.elim), h.lay.next (Kept.of_below hb)⟩
theorem SM.drewN (h : SM w W yb tb lb ab ls T S A) (n : Nat) : SM w (W.drewN n) yb tb lb ab ls T S A :=
  ⟨h.pl.kept ((Kept.rfl (fun _ => False) W).drewN n) (fun e => e) (fun e => e) (fun _ e => e.elim), h.lay.next ((Kept.rfl _ W).drewN n)⟩
theorem SM.setT (h : SM w W yb tb lb ab ls T S A) (i : Nat) (x : Int) : SM w (W.setCell ⟨tb, i, none⟩ (.int .i64 x)) yb tb lb ab ls (fun j => if j = i then x else T j) S A := by
  have K : Kept (fun b => b = tb) W (W.setCell ⟨tb, i, none⟩ (.int .i64 x)) := (Kept.rfl (fun b => b = tb) W).set (.inl rfl) _
  have h1 := h.pl.ne1
  have h2 := h.pl.ht
  have h3 := h.lay.ne1
  have h4 := h.lay.ne2
  exact ⟨h.pl.kept K (by omega) (by omega) (fun b e => by omega), ⟨(h.lay.to.set i _).congr (fun j _ => by by_cases e : j = i <;> simp [e]), K.row h.lay.long (by omega), K.row h.lay.at_ (by omega), h.lay.ne1, h.lay.ne2, h.lay.ne3⟩⟩
theorem SM.setL (h : SM w W yb tb lb ab ls T S A) {g : Nat} (hg : g < ls.length) (h0 : labAt ls g = 0) : SM w (W.setCell ⟨lb, g, none⟩ (.bool true)) yb tb lb ab ls T (addS S (ixF ls g)) A := by
  have K : Kept (fun b => b = lb) W (W.setCell ⟨lb, g, none⟩ (.bool true)) := (Kept.rfl (fun b => b = lb) W).set (.inl rfl) _
  have h1 := h.pl.ne2
  have h2 := h.pl.hl
  have h3 := h.lay.ne1
  have h4 := h.lay.ne3
  exact ⟨h.pl.kept K (by omega) (by omega) (fun b e => by omega), ⟨K.row h.lay.to (by omega), (h.lay.long.set g _).congr (fun j hj => by rw [lgF_add hg h0 hj]; by_cases e : j = g <;> simp [e]), K.row h.lay.at_ (by omega), h.lay.ne1, h.lay.ne2, h.lay.ne3⟩⟩
end
theorem SM.start {w W : World} {yb tb lb ab : Nat} {ls : List Ln} (h : SPl w W yb tb lb ab ls.length) (h1 : W.heap[tb]? = some (.cells (madeCells #[.int .i64 0] ls.length) 3)) (h2 : W.heap[lb]? = some (.cells (madeCells #[.bool false] ls.length) 4)) (h3 : W.heap[ab]? = some (.cells (madeCells #[.int .i64 0] (ls.length + 1)) 3))
    (n1 : tb ≠ lb) (n2 : tb ≠ ab) (n3 : lb ≠ ab) : SM w W yb tb lb ab ls (fun _ => 0) (fun _ => false) (fun _ => 0) :=
  ⟨h, ⟨⟨_, h1, size_madeCells _ _, fun i hi => by simp [madeCells, hi, Nat.mod_one]⟩, ⟨_, h2, size_madeCells _ _, fun i hi => by simp [madeCells, hi, Nat.mod_one, lgF]⟩, ⟨_, h3, size_madeCells _ _, fun i hi => by simp [madeCells, hi, Nat.mod_one]⟩, n1, n2, n3⟩⟩
/-- A line's target. -/
def TOk (ls : List Ln) (T : Nat → Int) (i : Nat) : Prop := ∀ h : i < ls.length, 0 < ls[i].to → ∃ j : Nat, T i = j ∧ j < ls.length ∧ labAt ls j = ls[i].to
end Go.Proofs.Ytgnlplddppheiaa
