/- What is as it was; the tree's row in a world; rows of integers. -/
import Derived.Test.YtgnlplddppheiaaTake
import Derived.Test.YtgnlplddppheiaaTreeP
import Derived.Laws.AppendOwn
import Derived.Laws.OwnMore
import Derived.Maps.AppendAt
import Derived.Maps.OwnSet
import Derived.BigQuiet
import Derived.Deep.QuietTactic
import Derived.Deep.RegionWith
namespace Go.Proofs.Ytgnlplddppheiaa
open Go.RowKit
set_option linter.unusedVariables false

/-- All that has been there is as it was, but what S names. -/
structure Kept (S : Nat → Prop) (w w' : World) : Prop where
  os : w'.os = w.os
  tape : w'.tape = w.tape
  output : w'.output = w.output
  size : w.heap.size ≤ w'.heap.size
  block : ∀ k, k < w.heap.size → ¬ S k → w'.heap[k]? = w.heap[k]?

theorem Kept.rfl (S : Nat → Prop) (w : World) : Kept S w w := ⟨Eq.refl _, Eq.refl _, Eq.refl _, Nat.le_refl _, fun _ _ _ => Eq.refl _⟩
theorem Kept.trans {S : Nat → Prop} {a b c : World} (h : Kept S a b) (k : Kept S b c) : Kept S a c :=
  ⟨k.os.trans h.os, k.tape.trans h.tape, k.output.trans h.output, Nat.le_trans h.size k.size, fun i hi hn => (k.block i (Nat.lt_of_lt_of_le hi h.size) hn).trans (h.block i hi hn)⟩
theorem Kept.mono {S T : Nat → Prop} {w w' : World} (h : Kept S w w') (hs : ∀ k, k < w.heap.size → S k → T k) : Kept T w w' :=
  ⟨h.os, h.tape, h.output, h.size, fun k hk hn => h.block k hk (fun e => hn (hs k hk e))⟩
theorem Kept.alloc {S : Nat → Prop} {w w' : World} (h : Kept S w w') (o : Obj) : Kept S w (w'.alloc o) :=
  ⟨h.os, h.tape, h.output, by have := h.size; simp; omega, fun k hk hn => (Below.heap_alloc _ _ _ (Nat.lt_of_lt_of_le hk h.size)).trans (h.block k hk hn)⟩
theorem Kept.drew {S : Nat → Prop} {w w' : World} (h : Kept S w w') : Kept S w w'.drew := ⟨h.os, h.tape, h.output, h.size, h.block⟩
theorem Kept.drewN {S : Nat → Prop} {w w' : World} (h : Kept S w w') (n : Nat) : Kept S w (w'.drewN n) := ⟨h.os, h.tape, h.output, h.size, h.block⟩
theorem Kept.set {S : Nat → Prop} {w w' : World} (h : Kept S w w') {a : Addr} (ha : S a.block ∨ w.heap.size ≤ a.block) (v : Value) : Kept S w (w'.setCell a v) :=
  ⟨h.os, h.tape, h.output, by have := h.size; simp [World.setCell]; omega, fun k hk hn => (Below.heap_setCell _ _ _ _ (fun e => by subst e; rcases ha with ha | ha; exact hn ha; omega)).trans (h.block k hk hn)⟩
theorem Kept.of_below {S : Nat → Prop} {w w' : World} (h : Below w.heap.size w w') : Kept S w w' := ⟨h.os, h.tape, h.output, h.size, fun k hk _ => h.block k hk⟩
theorem Kept.of_grown {S : Nat → Prop} {row : Option Nat} {w w' : World} (h : w.grownBy w' row) (hr : ∀ k, row = some k → S k) : Kept S w w' :=
  ⟨h.os, h.tape, h.output, h.size, fun k hk hn => h.block k hk (fun e => hn (hr k e.symm))⟩
theorem Kept.below {S : Nat → Prop} {B : Nat} {w w' : World} (h : Kept S w w') (hB : B ≤ w.heap.size) (hs : ∀ k, S k → B ≤ k) : Below B w w' :=
  ⟨h.os, h.tape, h.output, h.size, fun k hk => h.block k (by omega) (fun e => by have := hs k e; omega)⟩
/-- .. from an earlier world on: what is new may be turned. -/
theorem Kept.ahead {S T : Nat → Prop} {a b c : World} (h : Kept S a b) (k : Kept T b c) (hs : ∀ i, i < a.heap.size → T i → S i) : Kept S a c :=
  ⟨k.os.trans h.os, k.tape.trans h.tape, k.output.trans h.output, Nat.le_trans h.size k.size, fun i hi hn => (k.block i (Nat.lt_of_lt_of_le hi h.size) (fun e => hn (hs i hi e))).trans (h.block i hi hn)⟩
theorem Kept.cell {S : Nat → Prop} {w w' : World} (h : Kept S w w') {b o : Nat} (hb : b < w.heap.size) (hn : ¬ S b) : w'.cell? ⟨b, o, none⟩ = w.cell? ⟨b, o, none⟩ := World.cell?_of_block (h.block b hb hn)
theorem Kept.frozen {S : Nat → Prop} {w w' : World} (h : Kept S w w') {b o : Nat} (hb : b < w.heap.size) (hn : ¬ S b) : w'.frozen? ⟨b, o, none⟩ = w.frozen? ⟨b, o, none⟩ := World.frozen?_of_block (h.block b hb hn)
theorem Kept.row {S : Nat → Prop} {w w' : World} (h : Kept S w w') {b : Nat} {t : TypeId} {n : Nat} {f : Nat → Value} (hr : w.rowIs b t n f) (hn : ¬ S b) : w'.rowIs b t n f := hr.of_block (h.block b hr.lt hn)
theorem Kept.owns {S : Nat → Prop} {w w' : World} (h : Kept S w w') {base : Nat} {e : TypeId} {size : Nat} {v : Value} {n : Nat} {xs : List Value} (ho : w.ownsRow base e size v n xs) (hn : ∀ b, v.ownBlock = some b → ¬ S b) : w'.ownsRow base e size v n xs := by
  obtain ⟨hl, h'⟩ := ho
  refine ⟨hl, ?_⟩
  rcases h' with h' | ⟨g, cap, cur, hv, hg, hb, hr⟩
  · exact .inl h'
  · have hgl : g < w.heap.size := (Array.getElem?_eq_some_iff.1 hb).1
    exact .inr ⟨g, cap, cur, hv, hg, (h.block g hgl (hn g (by rw [hv]; exact Eq.refl _))).trans hb, hr⟩
theorem Kept.omap {S : Nat → Prop} {w w' : World} (h : Kept S w w') {H : Type} {P : Program} {k : TypeId} {R : Value → Option (DataW H × List MemPlace)} {b n : Nat} {D : DataW H} (ho : w.ownsMap P k R b n D) (hn : ¬ S b) : w'.ownsMap P k R b n D := by
  have e := h.block b ho.lt hn
  unfold World.ownsMap at *
  rw [e]
  exact ho

/-- Integers as cells. -/
def ints (l : List Nat) : List Value := l.map fun x : Nat => Value.int .i64 (x : Int)
theorem ints_length (l : List Nat) : (ints l).length = l.length := by simp [ints]
theorem ints_append (l m : List Nat) : ints (l ++ m) = ints l ++ ints m := by simp [ints]

/-- The tree's row. -/
def IsTree (w : World) (tb n : Nat) (h : Nat → Int) : Prop := w.rowIs tb 95 (7 * n) (fun c => .int .i64 (h c))

theorem IsTree.cell {w : World} {tb n : Nat} {h : Nat → Int} (ht : IsTree w tb n h) {k j : Nat} (hk : k < n) (hj : j < 7) : w.cell? ⟨tb, k * 7 + j, none⟩ = some (.int .i64 (h (7 * k + j))) := by
  rw [show k * 7 + j = 7 * k + j by omega]
  exact World.rowIs.cell ht (by omega)
theorem IsTree.free {w : World} {tb n : Nat} {h : Nat → Int} (ht : IsTree w tb n h) (i : Nat) : w.frozen? ⟨tb, i, none⟩ = false := World.rowIs.frozen ht i
theorem IsTree.set {w : World} {tb n : Nat} {h : Nat → Int} (ht : IsTree w tb n h) (c : Nat) (v : Int) : IsTree (w.setCell ⟨tb, c, none⟩ (.int .i64 v)) tb n (set1 h c v) := by
  refine (World.rowIs.set ht c _).congr (fun i _ => ?_)
  unfold set1
  split <;> simp
theorem IsTree.take {w : World} {tb n : Nat} {h : Nat → Int} (ht : IsTree w tb n h) (k : Nat) (m : Int) :
    IsTree ((w.setCell ⟨tb, k * 7 + 5, none⟩ (.int .i64 (h (7 * k + 5) - m))).setCell ⟨tb, k * 7 + 6, none⟩ (.int .i64 (h (7 * k + 6) + m))) tb n (takeH h k m) := by
  have := (ht.set (k * 7 + 5) (h (7 * k + 5) - m)).set (k * 7 + 6) (h (7 * k + 6) + m)
  rw [show k * 7 + 5 = 7 * k + 5 by omega, show k * 7 + 6 = 7 * k + 6 by omega] at *
  exact this

/-- Seven stores: a group laid. -/
theorem IsTree.put {w : World} {tb n : Nat} {h : Nat → Int} (ht : IsTree w tb n h) (k : Nat) (a0 a1 a2 a3 a4 a5 a6 : Int) :
    IsTree (((((((w.setCell ⟨tb, k * 7, none⟩ (.int .i64 a0)).setCell ⟨tb, k * 7 + 1, none⟩ (.int .i64 a1)).setCell ⟨tb, k * 7 + 2, none⟩ (.int .i64 a2)).setCell ⟨tb, k * 7 + 3, none⟩ (.int .i64 a3)).setCell ⟨tb, k * 7 + 4, none⟩ (.int .i64 a4)).setCell ⟨tb, k * 7 + 5, none⟩ (.int .i64 a5)).setCell ⟨tb, k * 7 + 6, none⟩ (.int .i64 a6)) tb n
      (fun c => if c = 7 * k then a0 else if c = 7 * k + 1 then a1 else if c = 7 * k + 2 then a2 else if c = 7 * k + 3 then a3 else if c = 7 * k + 4 then a4 else if c = 7 * k + 5 then a5 else if c = 7 * k + 6 then a6 else h c) := by
  have := ((((((ht.set (k * 7) a0).set (k * 7 + 1) a1).set (k * 7 + 2) a2).set (k * 7 + 3) a3).set (k * 7 + 4) a4).set (k * 7 + 5) a5).set (k * 7 + 6) a6
  refine World.rowIs.congr this (fun c _ => ?_)
  rw [Nat.mul_comm k 7]
  unfold set1
  by_cases e : c / 7 = k
  · have : c = 7 * k ∨ c = 7 * k + 1 ∨ c = 7 * k + 2 ∨ c = 7 * k + 3 ∨ c = 7 * k + 4 ∨ c = 7 * k + 5 ∨ c = 7 * k + 6 := by omega
    rcases this with rfl | rfl | rfl | rfl | rfl | rfl | rfl <;> simp
  · have n0 : c ≠ 7 * k := by omega
    have n1 : c ≠ 7 * k + 1 := by omega
    have n2 : c ≠ 7 * k + 2 := by omega
    have n3 : c ≠ 7 * k + 3 := by omega
    have n4 : c ≠ 7 * k + 4 := by omega
    have n5 : c ≠ 7 * k + 5 := by omega
    have n6 : c ≠ 7 * k + 6 := by omega
    simp only [n0, n1, n2, n3, n4, n5, n6, if_false]
theorem Kept.put7 {S : Nat → Prop} {w w' : World} (h : Kept S w w') {tb o : Nat} (ht : S tb) (a0 a1 a2 a3 a4 a5 a6 : Value) :
    Kept S w (((((((w'.setCell ⟨tb, o, none⟩ a0).setCell ⟨tb, o + 1, none⟩ a1).setCell ⟨tb, o + 2, none⟩ a2).setCell ⟨tb, o + 3, none⟩ a3).setCell ⟨tb, o + 4, none⟩ a4).setCell ⟨tb, o + 5, none⟩ a5).setCell ⟨tb, o + 6, none⟩ a6) :=
  ((((((h.set (.inl ht) _).set (.inl ht) _).set (.inl ht) _).set (.inl ht) _).set (.inl ht) _).set (.inl ht) _).set (.inl ht) _

/-- All numbers of a tree's part are within the row. -/
def Fit (n : Nat) : TT → Nat → Prop
  | .leaf, k => k < n
  | .inner _ _ (some _) _ _, k => k < n
  | .inner _ _ none l r, k => k < n ∧ Fit n l (2 * k) ∧ Fit n r (2 * k + 1)
theorem Fit.lt {n : Nat} : ∀ {T : TT} {k : Nat}, Fit n T k → k < n
  | .leaf, _, h => h
  | .inner _ _ (some _) _ _, _, h => h
  | .inner _ _ none _ _, _, h => h.1

theorem take_tree {tb n k : Nat} {h : Nat → Int} {m : Int} {w : World} (ht : IsTree w tb n h) (hk : k < n) (r0 : -9223372036854775808 ≤ h (7 * k + 5) - m) (r1 : h (7 * k + 5) - m ≤ 9223372036854775807) (t0 : -9223372036854775808 ≤ h (7 * k + 6) + m) (t1 : h (7 * k + 6) + m ≤ 9223372036854775807) :
    Calls Try.prog 61 #[.pointer (some ⟨tb, k * 7, none⟩), .int .i64 m] w fun e w' => e = .returned (.tuple #[]) ∧ IsTree w' tb n (takeH h k m) ∧ Kept (fun b => b = tb) w w' := by
  refine (take61 (ht.cell hk (by omega)) (ht.cell hk (by omega)) (ht.free _) (ht.free _) r0 r1 t0 t1).mono ?_
  rintro e w' ⟨rfl, rfl⟩
  exact ⟨rfl, ht.take k m, ((Kept.rfl (fun b => b = tb) w).set (.inl rfl) _).set (.inl rfl) _⟩
end Go.Proofs.Ytgnlplddppheiaa
