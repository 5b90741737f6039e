/- A word's instruction, or none: Decode as plain functions, and its contract. -/
import Derived.Test.YtimbnlcegcmfiaaIDecode
import Derived.Test.YtimbnlcegcmfiaaMWords
namespace Go.Proofs.Ytimbnlcegcmfiaa
open Go.RowKit
set_option linter.unusedVariables false

def uP (u : Int) : Int := partsF (u / 16777216)
def uOp (u : Int) : Int := u / 16777216
def uD (u : Int) : Int := regF (u / 1048576) (hasD (uP u))
def uA (u : Int) : Int := regF (u / 65536) (hasA (uP u))
def uB (u : Int) : Int := regF (u / 4096) (hasB (uP u))
def uI (u : Int) : Int := immF (nF (uP u)) (sgF (uP u)) u
def uMay (u : Int) : Bool := mayR (isF (uP u)) (hasD (uP u)) (hasA (uP u)) (hasB (uP u)) (loF (uP u)) (hiF (uP u)) (uD u) (uA u) (uB u) (uI u)
/-- Is the word an instruction's? -/
def uOk (u : Int) : Bool := uMay u && (wordF (nF (uP u)) (uOp u) (uD u) (uA u) (uB u) (uI u) == u)

theorem dec48_yes (u : Int) (u0 : 0 ≤ u) (u1 : u < 4294967296) (h : uOk u = true) (w : World) :
    Calls Try.prog 48 #[.int .u32 u] w fun e w' => e = .returned (.tuple #[.agg #[.int .i64 (uOp u), .int .i64 (uD u), .int .i64 (uA u), .int .i64 (uB u), .int .i32 (uI u)], .int .i64 0]) ∧ Below w.heap.size w w' := by
  unfold uOk at h
  simp only [Bool.and_eq_true, beq_iff_eq] at h
  exact decode12_yes (row_of (u / 16777216)) rfl u0 u1 rfl rfl rfl rfl rfl h.1 h.2 w

theorem dec48_no (u : Int) (u0 : 0 ≤ u) (u1 : u < 4294967296) (h : uOk u = false) (w : World) :
    Calls Try.prog 48 #[.int .u32 u] w fun e w' => e = .returned (.tuple #[.agg #[.int .i64 0, .int .i64 0, .int .i64 0, .int .i64 0, .int .i32 0], .int .i64 1]) ∧ Below w.heap.size w w' := by
  cases hm : uMay u
  · exact decode12_no (row_of (u / 16777216)) rfl u0 u1 rfl rfl rfl rfl rfl hm w
  · unfold uOk at h
    rw [hm] at h
    have h' : ¬ wordF (nF (uP u)) (uOp u) (uD u) (uA u) (uB u) (uI u) = u := by simpa using h
    exact decode12_other (row_of (u / 16777216)) rfl u0 u1 rfl rfl rfl rfl rfl hm h' w

/-- What is known of an instruction's word. -/
structure Known (op d a b i : Int) : Prop where
  o0 : 1 ≤ op
  o1 : op ≤ 47
  gap : op ≤ 19 ∨ 32 ≤ op
  d0 : 0 ≤ d
  d1 : d < 16
  a0 : 0 ≤ a
  a1 : a < 16
  b0 : 0 ≤ b
  b1 : b < 16
  i0 : -8388608 ≤ i
  i1 : i ≤ 8388607
  trap : op = 46 → 1 ≤ i ∧ i ≤ 5

theorem parts_gap (op : Int) (h : partsF op ≠ 0) : op ≤ 19 ∨ 32 ≤ op := by
  unfold partsF at h
  omega

theorem known (u : Int) (h : uOk u = true) : Known (uOp u) (uD u) (uA u) (uB u) (uI u) := by
  unfold uOk at h
  simp only [Bool.and_eq_true, beq_iff_eq] at h
  have hm := h.1
  have R := row_of (u / 16777216)
  obtain ⟨g1, g2, g3, g4, g5, g6, g7, g8, g9, g10, _⟩ := may_bounds R rfl hm
  obtain ⟨m1, _, _, _, m5, m6⟩ := mayR_true hm
  refine ⟨g1, g2, parts_gap _ (some_of R m1), g3, g4, g5, g6, g7, g8, g9, g10, fun e => ?_⟩
  have e' : u / 16777216 = 46 := e
  have ep : uP u = 64 := by unfold uP; rw [e']; decide
  rw [ep] at m5 m6
  exact ⟨m5, m6⟩

/-- A byte of the code. -/
def byteAt (c : ByteArray) (k : Nat) : Nat := if h : k < c.size then c[k].toNat else 0
theorem byteAt_lt (c : ByteArray) (k : Nat) : byteAt c k < 256 := by
  unfold byteAt
  split
  · exact UInt8.toNat_lt _
  · omega
/-- The word at a place of the code. -/
def codeWord (c : ByteArray) (k : Nat) : Int := word4 (byteAt c k) (byteAt c (k + 1)) (byteAt c (k + 2)) (byteAt c (k + 3))
theorem codeWord_lo (c : ByteArray) (k : Nat) : 0 ≤ codeWord c k := by unfold codeWord word4; omega
theorem codeWord_hi (c : ByteArray) (k : Nat) : codeWord c k < 4294967296 := by
  have h0 := byteAt_lt c k
  have h1 := byteAt_lt c (k + 1)
  have h2 := byteAt_lt c (k + 2)
  have h3 := byteAt_lt c (k + 3)
  unfold codeWord word4; omega
theorem byteAt_eq {c : ByteArray} {k : Nat} (h : k < c.size) : (c[k]).toNat = byteAt c k := by unfold byteAt; rw [dif_pos h]
theorem byteAt_cut {c : ByteArray} {k j : Nat} (h : j < (c.extract k (k + 4)).size) : ((c.extract k (k + 4))[j]).toNat = byteAt c (k + j) := by
  rw [ByteArray.getElem_extract, byteAt_eq]

theorem wrap_u32_mod (n : Int) : IntKind.u32.wrap n = n % 4294967296 := by simp [IntKind.wrap, IntKind.bits, IntKind.signed]

theorem codeWord_up {c : ByteArray} {k : Nat} (h0 : 0 < (c.extract k (k + 4)).size) (h1 : 1 < (c.extract k (k + 4)).size) (h2 : 2 < (c.extract k (k + 4)).size) (h3 : 3 < (c.extract k (k + 4)).size) :
    bits BinOp.or IntKind.u32 (bits BinOp.or IntKind.u32 (bits BinOp.or IntKind.u32 (IntKind.u32.wrap ((c.extract k (k + 4))[0].toNat : Int)) (IntKind.u32.wrap (IntKind.u32.wrap ((c.extract k (k + 4))[1].toNat : Int) * 256)))
      (IntKind.u32.wrap (IntKind.u32.wrap ((c.extract k (k + 4))[2].toNat : Int) * 65536))) (IntKind.u32.wrap (IntKind.u32.wrap ((c.extract k (k + 4))[3].toNat : Int) * 16777216)) = codeWord c k := by
  rw [byteAt_cut h0, byteAt_cut h1, byteAt_cut h2, byteAt_cut h3]
  simp only [wrap_u32_mod]
  exact up4 _ _ _ _ (byteAt_lt _ _) (byteAt_lt _ _) (byteAt_lt _ _) (byteAt_lt _ _)
end Go.Proofs.Ytimbnlcegcmfiaa
