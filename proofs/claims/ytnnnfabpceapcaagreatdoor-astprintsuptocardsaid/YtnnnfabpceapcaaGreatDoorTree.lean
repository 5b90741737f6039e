/- Trees: as plain data, and how they lie in memory. -/
import Derived.Test.YtnnnfabpceapcaaGreatDoorRows
import Derived.WalkKit
import Derived.Deep.OwnRows
namespace Go.Proofs.YtnnnfabpceapcaaGreatDoor
open Go.RowKit
set_option linter.unusedVariables false

theorem below1 (w : World) (o : Obj) : Below w.heap.size w (w.alloc o) := (Below.refl _ _).alloc (Nat.le_refl _) o
theorem hid' {x : Prop} (h : x) : Hid x := h
theorem below_call {w w' : World} {o : Obj} (h : Below (w.alloc o).heap.size (w.alloc o) w') : Below w.heap.size w w' := (below1 w o).trans (h.mono (by simp))
theorem below_on {a b c : World} (h : Below a.heap.size a b) (k : Below b.heap.size b c) : Below a.heap.size a c := h.trans (k.mono h.size)

/-- All that has been there is as it was, but what S names. -/
structure Kept (S : Nat → Prop) (w w' : World) : Prop where
  os : w'.os = w.os
  tape : w'.tape = w.tape
  output : w'.output = w.output
  size : w.heap.size ≤ w'.heap.size
  block : ∀ k, k < w.heap.size → ¬ S k → w'.heap[k]? = w.heap[k]?
theorem Kept.rfl (S : Nat → Prop) (w : World) : Kept S w w := ⟨Eq.refl _, Eq.refl _, Eq.refl _, Nat.le_refl _, fun _ _ _ => Eq.refl _⟩
theorem Kept.trans {S : Nat → Prop} {a b c : World} (h : Kept S a b) (k : Kept S b c) : Kept S a c :=
  ⟨k.os.trans h.os, k.tape.trans h.tape, k.output.trans h.output, Nat.le_trans h.size k.size, fun i hi hn => (k.block i (Nat.lt_of_lt_of_le hi h.size) hn).trans (h.block i hi hn)⟩
theorem Kept.alloc {S : Nat → Prop} {w w' : World} (h : Kept S w w') (o : Obj) : Kept S w (w'.alloc o) :=
  ⟨h.os, h.tape, h.output, by have := h.size; simp; omega, fun k hk hn => (Below.heap_alloc _ _ _ (Nat.lt_of_lt_of_le hk h.size)).trans (h.block k hk hn)⟩
theorem Kept.drew {S : Nat → Prop} {w w' : World} (h : Kept S w w') : Kept S w w'.drew := ⟨h.os, h.tape, h.output, h.size, h.block⟩
theorem Kept.of_below {S : Nat → Prop} {w w' : World} (h : Below w.heap.size w w') : Kept S w w' := ⟨h.os, h.tape, h.output, h.size, fun k hk _ => h.block k hk⟩
theorem Kept.cell {S : Nat → Prop} {w w' : World} (h : Kept S w w') {b o : Nat} (hb : b < w.heap.size) (hn : ¬ S b) : w'.cell? ⟨b, o, none⟩ = w.cell? ⟨b, o, none⟩ := World.cell?_of_block (w := w) (h.block b hb hn)
theorem Kept.frozen {S : Nat → Prop} {w w' : World} (h : Kept S w w') {b o : Nat} (hb : b < w.heap.size) (hn : ¬ S b) : w'.frozen? ⟨b, o, none⟩ = w.frozen? ⟨b, o, none⟩ := World.frozen?_of_block (w := w) (h.block b hb hn)
theorem Kept.grown {S : Nat → Prop} {w w' w'' : World} {row : Option Nat} (h : Kept S w w') (hg : w'.grownBy w'' row) (hr : ∀ k, row = some k → k < w.heap.size → S k) : Kept S w w'' :=
  ⟨hg.os.trans h.os, hg.tape.trans h.tape, hg.output.trans h.output, Nat.le_trans h.size hg.size, fun k hk hn => (hg.block k (Nat.lt_of_lt_of_le hk h.size) (fun e => hn (hr k e.symm hk))).trans (h.block k hk hn)⟩
theorem Kept.setC {S : Nat → Prop} {w w' : World} (h : Kept S w w') {b o : Nat} (hb : b < w.heap.size → S b) (u : Value) : Kept S w (w'.setCell ⟨b, o, none⟩ u) :=
  ⟨h.os, h.tape, h.output, by rw [World.size_setCell]; exact h.size, fun k hk hn => (Below.heap_setCell _ _ _ _ (fun e => hn (by subst e; exact hb hk))).trans (h.block k hk hn)⟩

/-- What a node holds, but for its kids. -/
structure NdH where
  kind : Int
  str : ByteArray
  num : Int
  flag : Bool
  pos : Int
/-- A tree: the library's data type, of which one form is used: a node and its kids. -/
abbrev Tr := DataW NdH
def Tr.node (x : NdH) (ks : List Tr) : Tr := .slice ks [.held x]

/-- How many nodes. -/
def szT : Tr → Nat
  | .slice ks _ => 1 + (ks.map szT).sum
  | _ => 1
def szL (ks : List Tr) : Nat := (ks.map szT).sum
/-- How deep. -/
def dpT : Tr → Nat
  | .slice ks _ => 1 + (ks.map dpT).foldr max 0
  | _ => 1
def dpL (ks : List Tr) : Nat := (ks.map dpT).foldr max 0
theorem szT_node (x : NdH) (ks : List Tr) : szT (Tr.node x ks) = 1 + szL ks := by unfold Tr.node; rw [szT]; rfl
theorem dpT_node (x : NdH) (ks : List Tr) : dpT (Tr.node x ks) = 1 + dpL ks := by unfold Tr.node; rw [dpT]; rfl
theorem szL_nil : szL [] = 0 := rfl
theorem dpL_nil : dpL [] = 0 := rfl
theorem szL_cons (t : Tr) (r : List Tr) : szL (t :: r) = szT t + szL r := by unfold szL; rw [List.map_cons, List.sum_cons]
theorem dpL_cons (t : Tr) (r : List Tr) : dpL (t :: r) = max (dpT t) (dpL r) := by unfold dpL; rw [List.map_cons, List.foldr_cons]
theorem szL_append : ∀ (a b : List Tr), szL (a ++ b) = szL a + szL b
  | [], b => by rw [List.nil_append, szL_nil]; omega
  | t :: r, b => by rw [List.cons_append, szL_cons, szL_cons, szL_append r b]; omega
theorem dpL_append : ∀ (a b : List Tr), dpL (a ++ b) = max (dpL a) (dpL b)
  | [], b => by rw [List.nil_append, dpL_nil]; omega
  | t :: r, b => by rw [List.cons_append, dpL_cons, dpL_cons, dpL_append r b]; omega
theorem take_next {α : Type} (l : List α) (k : Nat) (h : k < l.length) : l.take (k + 1) = l.take k ++ [l[k]] := by rw [List.take_succ_eq_append_getElem h]
theorem szL_next (l : List Tr) (k : Nat) (h : k < l.length) : szL (l.take (k + 1)) = szL (l.take k) + szT l[k] := by rw [take_next l k h, szL_append, szL_cons, szL_nil]; omega
theorem dpL_next (l : List Tr) (k : Nat) (h : k < l.length) : dpL (l.take (k + 1)) = max (dpL (l.take k)) (dpT l[k]) := by rw [take_next l k h, dpL_append, dpL_cons, dpL_nil]; omega
theorem szL_take_le (l : List Tr) (k : Nat) : szL (l.take k) ≤ szL l := by
  have h := szL_append (l.take k) (l.drop k)
  rw [List.take_append_drop] at h
  omega

def ndV (x : NdH) (kv : Value) : Value := .agg #[.int .i64 x.kind, .string x.str, .int .u32 x.num, .bool x.flag, kv, .int .i64 x.pos]
/-- A node's cells. -/
def NdAt (w : World) (b o : Nat) (x : NdH) (kv : Value) : Prop := w.cell? ⟨b, o, none⟩ = some (.int .i64 x.kind) ∧ w.cell? ⟨b, o + 1, none⟩ = some (.string x.str) ∧ w.cell? ⟨b, o + 2, none⟩ = some (.int .u32 x.num) ∧ w.cell? ⟨b, o + 3, none⟩ = some (.bool x.flag) ∧ w.cell? ⟨b, o + 4, none⟩ = some kv ∧ w.cell? ⟨b, o + 5, none⟩ = some (.int .i64 x.pos)
theorem NdAt.kept {S : Nat → Prop} {w w' : World} {b o : Nat} {x : NdH} {kv : Value} (h : NdAt w b o x kv) (hb : Kept S w w') (hl : b < w.heap.size) (hn : ¬ S b) : NdAt w' b o x kv := by
  obtain ⟨h0, h1, h2, h3, h4, h5⟩ := h
  exact ⟨(hb.cell hl hn).trans h0, (hb.cell hl hn).trans h1, (hb.cell hl hn).trans h2, (hb.cell hl hn).trans h3, (hb.cell hl hn).trans h4, (hb.cell hl hn).trans h5⟩
/-- A slice is trees, no deeper than a number, none of them in a certain block. -/
def Ks (cb : Nat) : Nat → World → Value → List Tr → Prop
  | 0, _, v, ks => ks = [] ∧ ∃ ao cap, v = .slice ao 0 cap
  | n + 1, w, v, ks => ks.length ≤ 9223372036854775807 ∧ ∃ ao cap, v = .slice ao ks.length cap ∧ ∀ i (h : i < ks.length), ∃ b off x kv ks', ao = some ⟨b, off, none⟩ ∧ (b < w.heap.size ∧ b ≠ cb) ∧ (ks[i] = Tr.node x ks' ∧ ks.length ≤ cap) ∧ NdAt w b (off + i * 6) x kv ∧ Ks cb n w kv ks'
theorem Ks.kept {cb : Nat} {w w' : World} (hb : Kept (fun b => b = cb) w w') : ∀ {n : Nat} {v : Value} {ks : List Tr}, Ks cb n w v ks → Ks cb n w' v ks
  | 0, _, _, h => h
  | n + 1, v, ks, h => by
    rw [Ks] at h ⊢
    obtain ⟨hl, ao, cap, rfl, h⟩ := h
    refine ⟨hl, ao, cap, rfl, fun i hi => ?_⟩
    obtain ⟨b, off, x, kv, ks', e, ⟨hlt, hne⟩, he, hc, hk⟩ := h i hi
    exact ⟨b, off, x, kv, ks', e, ⟨Nat.lt_of_lt_of_le hlt hb.size, hne⟩, he, hc.kept hb hlt hne, Ks.kept hb hk⟩
theorem Ks.below {cb : Nat} {w w' : World} (hb : Below w.heap.size w w') {n : Nat} {v : Value} {ks : List Tr} (h : Ks cb n w v ks) : Ks cb n w' v ks := h.kept (Kept.of_below hb)
theorem Ks.shape {cb : Nat} {w : World} : ∀ {n : Nat} {v : Value} {ks : List Tr}, Ks cb n w v ks → ks.length ≤ 9223372036854775807 ∧ ∃ ao cap, v = .slice ao ks.length cap
  | 0, _, _, h => by
    obtain ⟨rfl, ao, cap, rfl⟩ := h
    exact ⟨by simp, ao, cap, rfl⟩
  | n + 1, v, ks, h => by
    rw [Ks] at h
    obtain ⟨hl, ao, cap, rfl, h⟩ := h
    exact ⟨hl, ao, cap, rfl⟩
/-- A kid, where it stands. -/
theorem Ks.kid {cb : Nat} {w : World} : ∀ {n : Nat} {ao : Option Addr} {l cap : Nat} {ks : List Tr}, Ks cb n w (.slice ao l cap) ks → ∀ i (h : i < ks.length), ∃ m b off x kv ks', m < n ∧ ao = some ⟨b, off, none⟩ ∧ (b < w.heap.size ∧ b ≠ cb) ∧ ks[i] = Tr.node x ks' ∧ NdAt w b (off + i * 6) x kv ∧ Ks cb m w kv ks'
  | 0, _, _, _, _, h, i, hi => by
    obtain ⟨rfl, _⟩ := h
    simp at hi
  | n + 1, ao, l, cap, ks, h, i, hi => by
    rw [Ks] at h
    obtain ⟨hl, ao', cap', e, h⟩ := h
    injection e with e1 e2 e3
    subst e1
    obtain ⟨b, off, x, kv, ks', e, hlt, he, hc, hk⟩ := h i hi
    exact ⟨n, b, off, x, kv, ks', by omega, e, hlt, he.1, hc, hk⟩
/-- A slice's room. -/
theorem Ks.room {cb : Nat} {w : World} : ∀ {n : Nat} {ao : Option Addr} {l cap : Nat} {ks : List Tr}, Ks cb n w (.slice ao l cap) ks → 0 < ks.length → ks.length ≤ cap
  | 0, _, _, _, _, h, hi => by
    obtain ⟨rfl, _⟩ := h
    simp at hi
  | n + 1, ao, l, cap, ks, h, hi => by
    rw [Ks] at h
    obtain ⟨hl, ao', cap', e, h⟩ := h
    injection e with e1 e2 e3
    subst e3
    obtain ⟨b, off, x, kv, ks', e, hlt, he, hc, hk⟩ := h 0 hi
    exact he.2
/-- All kids but the first. -/
theorem Ks.tail {cb : Nat} {w : World} : ∀ {n : Nat} {b off l cap : Nat} {t : Tr} {ks : List Tr}, Ks cb n w (.slice (some ⟨b, off, none⟩) l cap) (t :: ks) → Ks cb n w (.slice (some ⟨b, off + 6, none⟩) ks.length (cap - 1)) ks
  | 0, _, _, _, _, _, _, h => by
    obtain ⟨h, _⟩ := h
    cases h
  | n + 1, b, off, l, cap, t, ks, h => by
    rw [Ks] at h ⊢
    obtain ⟨hl, ao', cap', e, h⟩ := h
    injection e with e1 e2 e3
    subst e1 e3
    simp at hl
    refine ⟨by omega, _, _, rfl, fun i hi => ?_⟩
    obtain ⟨b', off', x, kv, ks', e, hlt, he, hc, hk⟩ := h (i + 1) (by simp; omega)
    injection e with e
    injection e with e4 e5
    subst e4 e5
    have hlen := he.2
    simp at hlen
    refine ⟨b, off + 6, x, kv, ks', rfl, hlt, ⟨by simpa using he.1, by omega⟩, ?_, hk⟩
    have e6 : off + 6 + i * 6 = off + (i + 1) * 6 := by omega
    rw [e6]
    exact hc
end Go.Proofs.YtnnnfabpceapcaaGreatDoor
