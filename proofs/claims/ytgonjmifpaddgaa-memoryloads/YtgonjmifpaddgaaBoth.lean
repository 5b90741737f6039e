/- What is done in both memories: each act's contract, whether it may be or not; both memories, alike. -/
import Derived.Test.YtgonjmifpaddgaaAwake
import Derived.Test.YtgonjmifpaddgaaRefStores
namespace Go.Proofs.Ytgonjmifpaddgaa
open Go.RowKit

def ok4 (n a : Nat) : Bool := decide (a % 4 = 0 ∧ a + 4 ≤ n)
def ok1 (n a : Nat) : Bool := decide (a < n)
def okS (n a k : Nat) : Bool := decide (a + k ≤ n)
def codeOf (b : Bool) : Int := if b then 0 else 1
def layIf (b : Bool) (g : Nat → UInt8) (a : Nat) (l : List UInt8) : Nat → UInt8 := if b then lay g a l else g

section
variable {p r n a : Nat} {x : Int} {s : ByteArray} {g : Nat → UInt8} {w : World}
theorem store4_any (h : IsMem w 46 p r n g) (ha : a < 4294967296) (x0 : 0 ≤ x) (x1 : x < 4294967296) :
    Calls Try.prog 15 #[.pointer (some ⟨p, 0, none⟩), .int .u32 a, .int .u32 x] w fun e w' => e = .returned (.int .i64 (codeOf (ok4 n a))) ∧ IsMem w' 46 p r n (layIf (ok4 n a) g a (four x)) ∧ Only r w w' := by
  by_cases c : a % 4 = 0 ∧ a + 4 ≤ n
  · rw [show ok4 n a = true from decide_eq_true c]
    exact store4_yes h c.1 c.2 x0 x1
  · rw [show ok4 n a = false from decide_eq_false c]
    refine (store4_no h ha c).mono ?_
    rintro e w' ⟨rfl, rfl⟩
    exact ⟨rfl, h, Only.rfl _ _⟩
theorem rstore4_any (h : IsMem w 35 p r n g) (ha : a < 4294967296) (x0 : 0 ≤ x) (x1 : x < 4294967296) :
    Calls Try.prog 24 #[.pointer (some ⟨p, 0, none⟩), .int .u32 a, .int .u32 x] w fun e w' => e = .returned (.int .i64 (codeOf (ok4 n a))) ∧ IsMem w' 35 p r n (layIf (ok4 n a) g a (four x)) ∧ Only r w w' := by
  by_cases c : a % 4 = 0 ∧ a + 4 ≤ n
  · rw [show ok4 n a = true from decide_eq_true c]
    exact rstore4_yes h c.1 c.2 x0 x1
  · rw [show ok4 n a = false from decide_eq_false c]
    refine (rstore4_no h ha c).mono ?_
    rintro e w' ⟨rfl, rfl⟩
    exact ⟨rfl, h, Only.rfl _ _⟩
theorem store1_any (h : IsMem w 46 p r n g) (ha : a < 4294967296) (x0 : 0 ≤ x) :
    Calls Try.prog 16 #[.pointer (some ⟨p, 0, none⟩), .int .u32 a, .int .u32 x] w fun e w' => e = .returned (.int .i64 (codeOf (ok1 n a))) ∧ IsMem w' 46 p r n (layIf (ok1 n a) g a [by8 x]) ∧ Only r w w' := by
  by_cases c : a < n
  · rw [show ok1 n a = true from decide_eq_true c]
    exact store1_yes h c x0
  · rw [show ok1 n a = false from decide_eq_false c]
    refine (store1_no h ha c).mono ?_
    rintro e w' ⟨rfl, rfl⟩
    exact ⟨rfl, h, Only.rfl _ _⟩
theorem rstore1_any (h : IsMem w 35 p r n g) (ha : a < 4294967296) (x0 : 0 ≤ x) :
    Calls Try.prog 25 #[.pointer (some ⟨p, 0, none⟩), .int .u32 a, .int .u32 x] w fun e w' => e = .returned (.int .i64 (codeOf (ok1 n a))) ∧ IsMem w' 35 p r n (layIf (ok1 n a) g a [by8 x]) ∧ Only r w w' := by
  by_cases c : a < n
  · rw [show ok1 n a = true from decide_eq_true c]
    exact rstore1_yes h c x0
  · rw [show ok1 n a = false from decide_eq_false c]
    refine (rstore1_no h ha c).mono ?_
    rintro e w' ⟨rfl, rfl⟩
    exact ⟨rfl, h, Only.rfl _ _⟩
theorem fill_any (h : IsMem w 46 p r n g) (ha : a < 4294967296) (hs : s.size ≤ maxLen) :
    Calls Try.prog 17 #[.pointer (some ⟨p, 0, none⟩), .int .u32 a, .string s] w fun e w' => e = .returned (.int .i64 (codeOf (okS n a s.size))) ∧ IsMem w' 46 p r n (layIf (okS n a s.size) g a s.data.toList) ∧ Only r w w' := by
  by_cases c : a + s.size ≤ n
  · rw [show okS n a s.size = true from decide_eq_true c]
    exact fill_yes h c
  · rw [show okS n a s.size = false from decide_eq_false c]
    refine (fill_no h ha hs c).mono ?_
    rintro e w' ⟨rfl, rfl⟩
    exact ⟨rfl, h, Only.rfl _ _⟩
theorem rfill_any (h : IsMem w 35 p r n g) (ha : a < 4294967296) :
    Calls Try.prog 26 #[.pointer (some ⟨p, 0, none⟩), .int .u32 a, .string s] w fun e w' => e = .returned (.int .i64 (codeOf (okS n a s.size))) ∧ IsMem w' 35 p r n (layIf (okS n a s.size) g a s.data.toList) ∧ Only r w w' := by
  by_cases c : a + s.size ≤ n
  · rw [show okS n a s.size = true from decide_eq_true c]
    exact rfill_yes h c
  · rw [show okS n a s.size = false from decide_eq_false c]
    refine (rfill_no h ha c).mono ?_
    rintro e w' ⟨rfl, rfl⟩
    exact ⟨rfl, h, Only.rfl _ _⟩
end

/-- Both memories, alike, apart, and made since block B. -/
structure Pair (w : World) (B p r q t n : Nat) (g : Nat → UInt8) : Prop where
  m : IsMem w 46 p r n g
  d : IsMem w 35 q t n g
  pt : p ≠ t
  rt : r ≠ t
  qr : q ≠ r
  bp : B ≤ p
  br : B ≤ r
  bq : B ≤ q
  bt : B ≤ t

theorem Pair.size {w : World} {B p r q t n : Nat} {g : Nat → UInt8} (h : Pair w B p r q t n g) : B ≤ w.heap.size := Nat.le_trans h.bp (Nat.le_of_lt h.m.plt)

/-- Both done: first in the one, then in the other, behind a new block. -/
theorem Pair.step {w w0 w1 w2 : World} {B p r q t n : Nat} {g g' : Nat → UInt8} (h : Pair w B p r q t n g) (hw0 : Below w.heap.size w w0)
    (h1 : IsMem w1 46 p r n g') (o1 : Only r w0 w1) (h2 : IsMem w2 35 q t n g') (o2 : Only t w1 w2) : Pair w2 B p r q t n g' ∧ Below B w w2 := by
  have s0 := hw0.size
  have hs := h.size
  have s1 := o1.size
  refine ⟨⟨h1.other o2 h.pt h.rt, h2, h.pt, h.rt, h.qr, h.bp, h.br, h.bq, h.bt⟩, ?_⟩
  exact ((hw0.mono hs).trans (o1.below h.br (by omega))).trans (o2.below h.bt (by omega))

theorem keeps {r b : Nat} {w w' : World} (h : Only r w w') (hb : b < w.heap.size) (hr : b ≠ r) : ∀ o, w'.cell? ⟨b, o, none⟩ = w.cell? ⟨b, o, none⟩ :=
  fun o => World.cell?_of_block (w := w) (a := ⟨b, o, none⟩) (h.block b hb (by simp [hr]))

end Go.Proofs.Ytgonjmifpaddgaa
