/- Bytes laid into a memory: what becomes of it, and of all else. -/
import Derived.Test.YtimbnlcegcmfiaaMMem
import Derived.Lib.LazyBuf
namespace Go.Proofs.Ytimbnlcegcmfiaa
open Go.RowKit

/-- Bytes laid from a place on. -/
def lay (g : Nat → UInt8) (a : Nat) (l : List UInt8) : Nat → UInt8 := fun j => if a ≤ j ∧ j < a + l.length then l[j - a]?.getD 0 else g j

theorem lay_nil (g : Nat → UInt8) (a : Nat) : lay g a [] = g := by
  funext j
  simp [lay]
  intro h1 h2
  omega

theorem lay_snoc (g : Nat → UInt8) (a : Nat) (l : List UInt8) (x : UInt8) : lay (lay g a l) (a + l.length) [x] = lay g a (l ++ [x]) := by
  funext j
  unfold lay
  by_cases h : j = a + l.length
  · subst h
    simp
  · by_cases h2 : a ≤ j ∧ j < a + l.length
    · rw [if_neg (by simp; omega), if_pos h2, if_pos (by simp; omega), List.getElem?_append_left (by omega)]
    · rw [if_neg (by simp; omega), if_neg h2, if_neg (by simp; omega)]

/-- Nothing but the row of a memory has turned, and what is new. -/
abbrev Only (r : Nat) (w w' : World) : Prop := w.grownBy w' (some r)

theorem Only.rfl (r : Nat) (w : World) : Only r w w := ⟨Eq.refl _, Eq.refl _, Eq.refl _, Nat.le_refl _, fun _ _ _ => Eq.refl _⟩
theorem Only.trans {r : Nat} {a b c : World} (h : Only r a b) (k : Only r b c) : Only r a c :=
  ⟨k.os.trans h.os, k.tape.trans h.tape, k.output.trans h.output, Nat.le_trans h.size k.size, fun i hi hne => (k.block i (Nat.lt_of_lt_of_le hi h.size) hne).trans (h.block i hi hne)⟩
theorem Only.alloc (r : Nat) (w : World) (o : Obj) : Only r w (w.alloc o) := World.grownBy_alloc w o _
theorem Only.set (w : World) (r a : Nat) (v : Value) : Only r w (w.setCell ⟨r, a, none⟩ v) :=
  ⟨Eq.refl _, Eq.refl _, Eq.refl _, by simp [World.setCell], fun k _ hk => Below.heap_setCell _ _ _ _ (fun e => hk (by simp [e]))⟩
theorem Only.sets (r : Nat) : ∀ (vs : List Value) (a : Nat) (w : World), Only r w (w.setCells r a vs)
  | [], _, w => Only.rfl r w
  | v :: vs, a, w => (Only.set w r a v).trans (Only.sets r vs (a + 1) _)

theorem IsMem.other {w w' : World} {T : TypeId} {p r n r' : Nat} {g : Nat → UInt8} (h : IsMem w T p r n g) (hO : Only r' w w') (hp : p ≠ r') (hr : r ≠ r') : IsMem w' T p r n g := by
  have hpl : p < w.heap.size := (Array.getElem?_eq_some_iff.1 h.head).1
  exact ⟨(hO.block p hpl (by simp [hp])).trans h.head, h.row.of_block (hO.block r h.row.lt (by simp [hr])), h.ne, h.lo, h.hi⟩
theorem IsMem.alloc {w : World} {T : TypeId} {p r n : Nat} {g : Nat → UInt8} (h : IsMem w T p r n g) (o : Obj) : IsMem (w.alloc o) T p r n g := by
  have hpl : p < w.heap.size := (Array.getElem?_eq_some_iff.1 h.head).1
  exact ⟨(Below.heap_alloc _ _ _ hpl).trans h.head, h.row.alloc o, h.ne, h.lo, h.hi⟩
theorem IsMem.below {w w' : World} {T : TypeId} {p r n B : Nat} {g : Nat → UInt8} (h : IsMem w T p r n g) (hO : Below B w w') (hp : p < B) (hr : r < B) : IsMem w' T p r n g :=
  ⟨(hO.block p hp).trans h.head, h.row.of_block (hO.block r hr), h.ne, h.lo, h.hi⟩
theorem IsMem.plt {w : World} {T : TypeId} {p r n : Nat} {g : Nat → UInt8} (h : IsMem w T p r n g) : p < w.heap.size := (Array.getElem?_eq_some_iff.1 h.head).1
theorem IsMem.rlt {w : World} {T : TypeId} {p r n : Nat} {g : Nat → UInt8} (h : IsMem w T p r n g) : r < w.heap.size := h.row.lt

theorem IsMem.drew {w : World} {T : TypeId} {p r n : Nat} {g : Nat → UInt8} (h : IsMem w T p r n g) : IsMem w.drew T p r n g := ⟨h.head, h.row.drew, h.ne, h.lo, h.hi⟩
theorem Only.drew {r : Nat} {w w' : World} (h : Only r w w') : Only r w w'.drew := ⟨h.os, h.tape, h.output, h.size, h.block⟩

theorem setCells_other (b k : Nat) (hk : k ≠ b) : ∀ (vs : List Value) (o : Nat) (w : World), (w.setCells b o vs).heap[k]? = w.heap[k]?
  | [], _, _ => rfl
  | _ :: vs, o, _ => (setCells_other b k hk vs (o + 1) _).trans (Below.heap_setCell _ _ _ _ hk)

theorem IsMem.lays {w : World} {T : TypeId} {p r n : Nat} {g : Nat → UInt8} (h : IsMem w T p r n g) (a : Nat) (l : List UInt8) : IsMem (w.setCells r a (l.map fun x => Value.int .u8 (x.toNat : Int))) T p r n (lay g a l) := by
  refine ⟨(setCells_other r p h.ne _ _ _).trans h.head, (rowIs_setCells _ a w _ h.row).congr (fun i _ => ?_), h.ne, h.lo, h.hi⟩
  by_cases e : a ≤ i ∧ i < a + l.length
  · have h1 : i - a < l.length := by omega
    simp [lay, e, h1]
  · simp [lay, e]

theorem IsMem.lay1 {w : World} {T : TypeId} {p r n : Nat} {g : Nat → UInt8} (h : IsMem w T p r n g) (a : Nat) (x : UInt8) : IsMem (w.setCell ⟨r, a, none⟩ (.int .u8 (x.toNat : Int))) T p r n (lay g a [x]) := h.lays a [x]

/-- The lowest byte of a number. -/
def by8 (x : Int) : UInt8 := UInt8.ofNat x.toNat
theorem by8_val {x : Int} (h : 0 ≤ x) : ((by8 x).toNat : Int) = x % 256 := by
  unfold by8
  rw [UInt8.toNat_ofNat']
  omega
theorem by8_small {x : Int} (h : 0 ≤ x) (h1 : x < 256) : ((by8 x).toNat : Int) = x := by
  rw [by8_val h]; omega

/-- A word's bytes, the lowest first. -/
def four (x : Int) : List UInt8 := [by8 x, by8 (x / 256), by8 (x / 65536), by8 (x / 16777216)]
theorem four_cells {x : Int} (x0 : 0 ≤ x) (x1 : x < 4294967296) :
    (four x).map (fun y => Value.int .u8 (y.toNat : Int)) = [.int .u8 (x % 256), .int .u8 (x / 256 % 256), .int .u8 (x / 65536 % 256), .int .u8 (x / 16777216)] := by
  unfold four
  simp only [List.map_cons, List.map_nil]
  rw [by8_val x0, by8_val (by omega), by8_val (by omega), by8_small (by omega) (by omega)]
end Go.Proofs.Ytimbnlcegcmfiaa
