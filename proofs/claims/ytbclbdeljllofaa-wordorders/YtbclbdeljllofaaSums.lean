/- The arithmetic behind the two laws of layer word on rests and on orders: facts on 'aluV' and 'aluT', for all words a and b. No program is walked here. -/
import Derived.Test.YtbclbdeljllofaaPlain
import Derived.Test.YtbclbdeljllofaaKinds
namespace Go.Proofs.Ytbclbdeljllofaa
open Go.RowKit

theorem aluT_zero (k b : Int) (h0 : 4 ≤ k) (h1 : k ≤ 7) (hb : b = 0) : aluT k b = 1 := by unfold aluT; rw [if_pos ⟨h0, h1⟩, if_pos hb]
theorem aluT_not (k b : Int) (h0 : 4 ≤ k) (h1 : k ≤ 7) (hb : ¬ b = 0) : aluT k b = 0 := by unfold aluT; rw [if_pos ⟨h0, h1⟩, if_neg hb]
theorem v4 (a b : Int) (hb : ¬ b = 0) : aluV 4 a b = (wrap32 a).tdiv (wrap32 b) % 4294967296 := by simp [aluV, hb]
theorem v5 (a b : Int) (hb : ¬ b = 0) : aluV 5 a b = a / b := by simp [aluV, hb]
theorem v6 (a b : Int) (hb : ¬ b = 0) : aluV 6 a b = (wrap32 a).tmod (wrap32 b) % 4294967296 := by simp [aluV, hb]
theorem v7 (a b : Int) (hb : ¬ b = 0) : aluV 7 a b = a % b := by simp [aluV, hb]
theorem v4z (a : Int) : aluV 4 a 0 = 0 := by simp [aluV]
theorem v5z (a : Int) : aluV 5 a 0 = 0 := by simp [aluV]
theorem v6z (a : Int) : aluV 6 a 0 = 0 := by simp [aluV]
theorem v7z (a : Int) : aluV 7 a 0 = 0 := by simp [aluV]

theorem wrap32_two (b : Int) (b0 : 0 ≤ b) (b1 : b < 4294967296) : wrap32 b = b ∨ wrap32 b = b - 4294967296 := by unfold wrap32; omega

theorem sum_signed (a b : Int) (a0 : 0 ≤ a) (a1 : a < 4294967296) (b0 : 0 ≤ b) (b1 : b < 4294967296) (hb : ¬ b = 0) :
    (aluV 4 a b * b + aluV 6 a b) % 4294967296 = a := by
  rw [v4 a b hb, v6 a b hb]
  have h := Int.mul_tdiv_add_tmod (wrap32 a) (wrap32 b)
  generalize hq : (wrap32 a).tdiv (wrap32 b) = q at h
  generalize hr : (wrap32 a).tmod (wrap32 b) = r at h
  have e : (q % 4294967296 * b + r % 4294967296) % 4294967296 = (q * b + r) % 4294967296 := by simp [Int.add_emod, Int.mul_emod]
  rw [e]
  have ha := wrap32_two a a0 a1
  rcases wrap32_two b b0 b1 with hy | hy
  · rw [hy, Int.mul_comm] at h
    generalize q * b = m at h
    omega
  · rw [hy, Int.mul_comm, Int.mul_sub] at h
    generalize q * b = m at h
    omega
theorem sum_plain (a b : Int) (a0 : 0 ≤ a) (a1 : a < 4294967296) (hb : ¬ b = 0) :
    (aluV 5 a b * b + aluV 7 a b) % 4294967296 = a := by
  rw [v5 a b hb, v7 a b hb]
  have h := Int.mul_ediv_add_emod a b
  rw [Int.mul_comm] at h
  rw [h]
  exact Int.emod_eq_of_lt a0 a1
theorem rest_plain (a b : Int) (b0 : 0 ≤ b) (hb : ¬ b = 0) : aluV 7 a b < b := by
  rw [v7 a b hb]
  exact Int.emod_lt_of_pos a (by omega)

theorem rest_is (a b : Int) (hb : ¬ b = 0) : wrap64 (wrap32 (aluV 6 a b)) = (wrap32 a).tmod (wrap32 b) := by
  rw [v6 a b hb, wrap32_emod, wrap64_32]
  have h := tmod_lo (wrap32 a) (wrap32 b) (wrap32_lo a) (wrap32_hi a)
  exact wrap32_id _ h.1 h.2

theorem sq_lt (t y : Int) (h : t.natAbs < y.natAbs) : t * t < y * y := by
  rw [← Int.natAbs_mul_self (a := t), ← Int.natAbs_mul_self (a := y)]
  exact Int.ofNat_lt.mpr (Nat.mul_self_lt_mul_self h)
theorem sq_hi (y : Int) (h0 : -2147483648 ≤ y) (h1 : y ≤ 2147483647) : y * y ≤ 4611686018427387904 := by
  rw [← Int.natAbs_mul_self (a := y)]
  have h : y.natAbs ≤ 2147483648 := by omega
  have g : y.natAbs * y.natAbs ≤ 2147483648 * 2147483648 := Nat.mul_le_mul h h
  omega
theorem sq_lo (y : Int) : 0 ≤ y * y := by
  rw [← Int.natAbs_mul_self (a := y)]
  omega
theorem rest_below (a b : Int) (b0 : 0 ≤ b) (b1 : b < 4294967296) (hb : ¬ b = 0) :
    wrap64 (wrap64 (wrap32 (aluV 6 a b)) * wrap64 (wrap32 (aluV 6 a b))) < wrap64 (wrap64 (wrap32 b) * wrap64 (wrap32 b)) := by
  rw [rest_is a b hb, wrap64_32]
  have hy := wrap32_zero b b0 b1 hb
  have ht := tmod_lo (wrap32 a) (wrap32 b) (wrap32_lo a) (wrap32_hi a)
  have hl : ((wrap32 a).tmod (wrap32 b)).natAbs < (wrap32 b).natAbs := by
    rw [Int.natAbs_tmod]; exact Nat.mod_lt _ (by omega)
  have l0 := wrap32_lo b
  have l1 := wrap32_hi b
  generalize (wrap32 a).tmod (wrap32 b) = t at ht hl
  generalize wrap32 b = y at hl l0 l1
  have s := sq_lt t y hl
  have s1 := sq_hi y l0 l1
  have s2 := sq_lo t
  rw [wrap64_id (t * t) (by omega) (by omega), wrap64_id (y * y) (by omega) (by omega)]
  exact s
theorem rest_sign (a b : Int) (hb : ¬ b = 0) (hn : ¬ wrap64 (wrap32 (aluV 6 a b)) = 0) :
    wrap64 (wrap32 (aluV 6 a b)) < 0 ↔ wrap32 a < 0 := by
  rw [rest_is a b hb] at hn ⊢
  by_cases hx : 0 ≤ wrap32 a
  · have g := Int.tmod_nonneg (a := wrap32 a) (wrap32 b) hx
    omega
  · have g := Int.tmod_nonneg (a := -wrap32 a) (wrap32 b) (by omega)
    rw [Int.neg_tmod] at g
    omega

theorem one_signed (a b : Int) (a0 : 0 ≤ a) (a1 : a < 4294967296) (b0 : 0 ≤ b) (b1 : b < 4294967296) :
    (aluV 16 a b + aluV 16 b a + aluV 14 a b) % 4294967296 = 1 := by
  have h := wrap32_inj a b a0 a1 b0 b1
  by_cases e : a = b
  · subst e
    simp [aluV]
  · have n : ¬ wrap32 a = wrap32 b := fun g => e (h g)
    by_cases l : wrap32 a < wrap32 b
    · have m : ¬ wrap32 b < wrap32 a := by omega
      simp [aluV, e, l, m]
    · have m : wrap32 b < wrap32 a := by omega
      simp [aluV, e, l, m]
theorem one_plain (a b : Int) :
    (aluV 17 a b + aluV 17 b a + aluV 14 a b) % 4294967296 = 1 := by
  by_cases e : a = b
  · subst e
    simp [aluV]
  · by_cases l : a < b
    · have m : ¬ b < a := by omega
      simp [aluV, e, l, m]
    · have m : b < a := by omega
      simp [aluV, e, l, m]
theorem le_is (a b : Int) (a0 : 0 ≤ a) (a1 : a < 4294967296) (b0 : 0 ≤ b) (b1 : b < 4294967296) :
    aluV 18 a b = (aluV 16 a b + aluV 14 a b) % 4294967296 := by
  have h := wrap32_inj a b a0 a1 b0 b1
  by_cases e : a = b
  · subst e
    simp [aluV]
  · have n : ¬ wrap32 a = wrap32 b := fun g => e (h g)
    by_cases l : wrap32 a < wrap32 b
    · have m : wrap32 a ≤ wrap32 b := by omega
      simp [aluV, e, l, m]
    · have m : ¬ wrap32 a ≤ wrap32 b := by omega
      simp [aluV, e, l, m]
theorem ne_is (a b : Int) : ((aluV 15 a b + aluV 14 a b) % 4294967296 != 1) = false := by
  by_cases e : a = b
  · subst e
    simp [aluV]
  · simp [aluV, e]

theorem com_is (op : Int) (h : comF op = true) : op = 1 ∨ op = 3 ∨ op = 8 ∨ op = 9 ∨ op = 10 ∨ op = 14 ∨ op = 15 := by
  simp [comF] at h
  omega
theorem bits_and (a b : Int) : bits .and .u32 a b = bits .and .u32 b a := by unfold bits; simp only [BitVec.and_comm]
theorem bits_or (a b : Int) : bits .or .u32 a b = bits .or .u32 b a := by unfold bits; simp only [BitVec.or_comm]
theorem bits_xor (a b : Int) : bits .xor .u32 a b = bits .xor .u32 b a := by unfold bits; simp only [BitVec.xor_comm]
theorem com_val (op a b : Int) (h : comF op = true) : aluV op a b = aluV op b a := by
  rcases com_is op h with rfl | rfl | rfl | rfl | rfl | rfl | rfl
  · simp [aluV, Int.add_comm]
  · simp [aluV, Int.mul_comm]
  · simp only [aluV]; exact bits_and a b
  · simp only [aluV]; exact bits_or a b
  · simp only [aluV]; exact bits_xor a b
  · simp [aluV, eq_comm]
  · simp [aluV, eq_comm]
theorem com_trap (op a b : Int) (h : comF op = true) : aluT op b = aluT op a := by
  rcases com_is op h with rfl | rfl | rfl | rfl | rfl | rfl | rfl <;> simp [aluT]
end Go.Proofs.Ytbclbdeljllofaa
