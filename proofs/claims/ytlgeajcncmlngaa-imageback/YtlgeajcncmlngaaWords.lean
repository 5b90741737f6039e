/- Four bytes as a word: by shifts and 'or', both ways. -/
import Derived.WalkKit
namespace Go.Proofs.Ytlgeajcncmlngaa
open Go.RowKit
set_option linter.unusedVariables false

theorem or_u32 (a b : Nat) (ha : a < 4294967296) (hb : b < 4294967296) : bits .or .u32 (a : Int) (b : Int) = ((a ||| b : Nat) : Int) := by
  have hlt : a ||| b < 4294967296 := Nat.or_lt_two_pow (n := 32) ha hb
  have e : (BitVec.ofInt 32 (a : Int) ||| BitVec.ofInt 32 (b : Int)).toNat = a ||| b := by
    rw [BitVec.toNat_or, BitVec.ofInt_natCast, BitVec.ofInt_natCast, BitVec.toNat_ofNat, BitVec.toNat_ofNat, Nat.mod_eq_of_lt ha, Nat.mod_eq_of_lt hb]
  show IntKind.u32.wrap ((BitVec.ofInt 32 (a : Int) ||| BitVec.ofInt 32 (b : Int)).toNat : Int) = _
  rw [e]
  simp [IntKind.wrap, IntKind.bits, IntKind.signed]
  omega

theorem or_high (i a b : Nat) (h : a < 2 ^ i) : a ||| b * 2 ^ i = a + b * 2 ^ i := by
  have := Nat.shiftLeft_add_eq_or_of_lt h b
  rw [Nat.shiftLeft_eq] at this
  rw [Nat.or_comm, ← this, Nat.add_comm]

/-- Four bytes as a word. -/
def word4 (a b c d : Nat) : Int := a + b * 256 + c * 65536 + d * 16777216

theorem or_part (i k x y : Nat) (hk : k = 2 ^ i) (hx : x < k) (hs : x + y * k < 4294967296) : bits .or .u32 (x : Int) ((y * k : Nat) : Int) = ((x + y * k : Nat) : Int) := by
  subst hk
  rw [or_u32 x (y * 2 ^ i) (by omega) (by omega), or_high i x y hx]

theorem up4 (a b c d : Nat) (ha : a < 256) (hb : b < 256) (hc : c < 256) (hd : d < 256) :
    bits .or .u32 (bits .or .u32 (bits .or .u32 ((a : Int) % 4294967296) ((b : Int) % 4294967296 * 256 % 4294967296)) ((c : Int) % 4294967296 * 65536 % 4294967296)) ((d : Int) % 4294967296 * 16777216 % 4294967296) = word4 a b c d := by
  have e0 : (a : Int) % 4294967296 = ((a : Nat) : Int) := by omega
  have e1 : (b : Int) % 4294967296 * 256 % 4294967296 = ((b * 256 : Nat) : Int) := by omega
  have e2 : (c : Int) % 4294967296 * 65536 % 4294967296 = ((c * 65536 : Nat) : Int) := by omega
  have e3 : (d : Int) % 4294967296 * 16777216 % 4294967296 = ((d * 16777216 : Nat) : Int) := by omega
  have o1 := or_part 8 256 a b (by decide) (by omega) (by omega)
  obtain ⟨u, hu⟩ : ∃ u, u = a + b * 256 := ⟨_, rfl⟩
  rw [← hu] at o1
  have o2 := or_part 16 65536 u c (by decide) (by omega) (by omega)
  obtain ⟨v, hv⟩ : ∃ v, v = u + c * 65536 := ⟨_, rfl⟩
  rw [← hv] at o2
  have o3 := or_part 24 16777216 v d (by decide) (by omega) (by omega)
  have g : word4 a b c d = ((v + d * 16777216 : Nat) : Int) := by unfold word4; omega
  obtain ⟨B, hB⟩ : ∃ B, B = b * 256 := ⟨_, rfl⟩
  obtain ⟨C, hC⟩ : ∃ C, C = c * 65536 := ⟨_, rfl⟩
  obtain ⟨D, hD⟩ : ∃ D, D = d * 16777216 := ⟨_, rfl⟩
  rw [← hB] at e1 o1
  rw [← hC] at e2 o2
  rw [← hD] at e3 o3 g
  rw [e0, e1, e2, e3, o1, o2, o3, g]

theorem or_low (x y : Nat) (hy : y < 256) (hx : x < 16777216) : bits .or .u32 ((x : Int) * 256 % 4294967296) (y : Int) = ((x * 256 + y : Nat) : Int) := by
  have h1 : x * 256 < 4294967296 := by omega
  have h2 : y < 4294967296 := by omega
  have o := or_u32 (x * 256) y h1 h2
  have h3 := or_high 8 y x hy
  have e : (x : Int) * 256 % 4294967296 = ((x * 256 : Nat) : Int) := by omega
  rw [e, o, Nat.or_comm]
  rw [show (2 : Nat) ^ 8 = 256 from rfl] at h3
  rw [h3, Nat.add_comm]

theorem down4 (a b c d : Nat) (ha : a < 256) (hb : b < 256) (hc : c < 256) (hd : d < 256) :
    bits .or .u32 (bits .or .u32 (bits .or .u32 (bits .or .u32 0 ((d : Int) % 4294967296) * 256 % 4294967296) ((c : Int) % 4294967296) * 256 % 4294967296) ((b : Int) % 4294967296) * 256 % 4294967296) ((a : Int) % 4294967296) = word4 a b c d := by
  have e0 : (a : Int) % 4294967296 = ((a : Nat) : Int) := by omega
  have e1 : (b : Int) % 4294967296 = ((b : Nat) : Int) := by omega
  have e2 : (c : Int) % 4294967296 = ((c : Nat) : Int) := by omega
  have e3 : (d : Int) % 4294967296 = ((d : Nat) : Int) := by omega
  have z : bits .or .u32 0 ((d : Nat) : Int) = ((d : Nat) : Int) := by
    have := or_u32 0 d (by omega) (by omega)
    simpa using this
  have o1 := or_low d c hc (by omega)
  obtain ⟨u, hu⟩ : ∃ u, u = d * 256 + c := ⟨_, rfl⟩
  rw [← hu] at o1
  have o2 := or_low u b hb (by omega)
  obtain ⟨v, hv⟩ : ∃ v, v = u * 256 + b := ⟨_, rfl⟩
  rw [← hv] at o2
  have o3 := or_low v a ha (by omega)
  rw [e0, e1, e2, e3, z, o1, o2, o3]
  unfold word4
  omega
end Go.Proofs.Ytlgeajcncmlngaa
