/- What words of 32 bits reckon, as plain functions on integers, and the arithmetic that the laws of layer word ask of them. No program is named here. -/
import Derived.WalkKit
namespace Go.Proofs.Ytiehlkhpblldaaa
open Go.RowKit
set_option linter.unusedVariables false

/-- What an operation makes of two words. -/
def aluV (op a b : Int) : Int :=
  if op = 1 then (a + b) % 4294967296
  else if op = 2 then (a - b) % 4294967296
  else if op = 3 then a * b % 4294967296
  else if op = 4 then (if b = 0 then 0 else (wrap32 a).tdiv (wrap32 b) % 4294967296)
  else if op = 5 then (if b = 0 then 0 else a / b)
  else if op = 6 then (if b = 0 then 0 else (wrap32 a).tmod (wrap32 b) % 4294967296)
  else if op = 7 then (if b = 0 then 0 else a % b)
  else if op = 8 then bits .and .u32 a b
  else if op = 9 then bits .or .u32 a b
  else if op = 10 then bits .xor .u32 a b
  else if op = 11 then a * 2 ^ (b % 32).toNat % 4294967296
  else if op = 12 then a / 2 ^ (b % 32).toNat
  else if op = 13 then wrap32 a / 2 ^ (b % 32).toNat % 4294967296
  else if op = 14 then (if a = b then 1 else 0)
  else if op = 15 then (if a = b then 0 else 1)
  else if op = 16 then (if wrap32 a < wrap32 b then 1 else 0)
  else if op = 17 then (if a < b then 1 else 0)
  else if op = 18 then (if wrap32 a ≤ wrap32 b then 1 else 0)
  else if op = 19 then (if a ≤ b then 1 else 0)
  else 0

/-- The trap that it meets instead. -/
def aluT (op b : Int) : Int :=
  if 4 ≤ op ∧ op ≤ 7 then (if b = 0 then 1 else 0)
  else if 1 ≤ op ∧ op ≤ 19 then 0
  else 4

theorem wrap32_lo (x : Int) : -2147483648 ≤ wrap32 x := by unfold wrap32; omega
theorem wrap32_hi (x : Int) : wrap32 x ≤ 2147483647 := by unfold wrap32; omega
theorem wrap32_mod (x : Int) : wrap32 x % 4294967296 = x % 4294967296 := by unfold wrap32; omega
theorem wrap32_emod (x : Int) : wrap32 (x % 4294967296) = wrap32 x := by unfold wrap32; omega
theorem wrap32_id (x : Int) (h0 : -2147483648 ≤ x) (h1 : x ≤ 2147483647) : wrap32 x = x := by unfold wrap32; omega
theorem wrap64_id (x : Int) (h0 : -9223372036854775808 ≤ x) (h1 : x ≤ 9223372036854775807) : wrap64 x = x := by unfold wrap64; omega
theorem wrap32_zero (b : Int) (b0 : 0 ≤ b) (b1 : b < 4294967296) (h : b ≠ 0) : ¬ wrap32 b = 0 := by unfold wrap32; omega
theorem wrap32_inj (a b : Int) (a0 : 0 ≤ a) (a1 : a < 4294967296) (b0 : 0 ≤ b) (b1 : b < 4294967296) (h : wrap32 a = wrap32 b) : a = b := by unfold wrap32 at h; omega
theorem wrap64_32 (x : Int) : wrap64 (wrap32 x) = wrap32 x :=
  wrap64_id _ (by have := wrap32_lo x; omega) (by have := wrap32_hi x; omega)

theorem tdiv_lo (x y : Int) (h0 : -2147483648 ≤ x) (h1 : x ≤ 2147483647) : -2147483648 ≤ x.tdiv y ∧ x.tdiv y ≤ 2147483648 := by
  have h : (x.tdiv y).natAbs ≤ x.natAbs := by
    rw [Int.natAbs_tdiv]; exact Nat.div_le_self _ _
  omega
theorem tmod_lo (x y : Int) (h0 : -2147483648 ≤ x) (h1 : x ≤ 2147483647) : -2147483648 ≤ x.tmod y ∧ x.tmod y ≤ 2147483647 := by
  have h : (x.tmod y).natAbs ≤ x.natAbs := by
    rw [Int.natAbs_tmod]; exact Nat.mod_le _ _
  by_cases hx : 0 ≤ x
  · omega
  · have g := Int.tmod_nonneg (a := -x) y (by omega)
    rw [Int.neg_tmod] at g
    omega
theorem div64 (a b : Int) : wrap64 ((wrap64 (wrap32 a)).tdiv (wrap64 (wrap32 b))) % 4294967296 = (wrap32 a).tdiv (wrap32 b) % 4294967296 := by
  rw [wrap64_32, wrap64_32]
  have h := tdiv_lo (wrap32 a) (wrap32 b) (wrap32_lo a) (wrap32_hi a)
  rw [wrap64_id _ (by omega) (by omega)]
theorem rem64 (a b : Int) : wrap64 ((wrap64 (wrap32 a)).tmod (wrap64 (wrap32 b))) % 4294967296 = (wrap32 a).tmod (wrap32 b) % 4294967296 := by
  rw [wrap64_32, wrap64_32]
  have h := tmod_lo (wrap32 a) (wrap32 b) (wrap32_lo a) (wrap32_hi a)
  rw [wrap64_id _ (by omega) (by omega)]
end Go.Proofs.Ytiehlkhpblldaaa
