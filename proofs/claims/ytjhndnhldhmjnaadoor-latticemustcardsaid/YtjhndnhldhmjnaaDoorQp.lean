/- Numbers as bits of a row, in the plain; the least bit of a word. -/
import Derived.Test.YtjhndnhldhmjnaaDoorRf
import Derived.Lib.TrailingZeros
namespace Go.Proofs.YtjhndnhldhmjnaaDoor
open Go.RowKit Go.Maps
set_option linter.unusedVariables false
set_option linter.unusedSimpArgs false
/-- Is number k among a row's? -/
def inQ (st : Nat → Wd) (k : Nat) : Bool := (st (k / 64)).getLsbD (k % 64)
theorem inQ_add (st : Nat → Wd) (k j : Nat) : inQ (upd st (k / 64) (st (k / 64) ||| bitW k)) j = (decide (j = k) || inQ st j) := by
  unfold inQ upd
  have hm : j % 64 < 64 := Nat.mod_lt _ (by decide)
  by_cases e : j / 64 = k / 64
  · rw [if_pos e, BitVec.getLsbD_or, bit_get k _ hm, e, Bool.or_comm]
    congr 1
    by_cases c : j = k
    · subst c; simp
    · have : ¬ j % 64 = k % 64 := by omega
      simp [c, this]
  · have c : ¬ j = k := fun h => e (by rw [h])
    rw [if_neg e]
    simp [c]
theorem inQ_del (st : Nat → Wd) (k j : Nat) : inQ (upd st (k / 64) (st (k / 64) &&& ~~~bitW k)) j = (!decide (j = k) && inQ st j) := by
  unfold inQ upd
  have hm : j % 64 < 64 := Nat.mod_lt _ (by decide)
  by_cases e : j / 64 = k / 64
  · rw [if_pos e, BitVec.getLsbD_and, BitVec.getLsbD_not, bit_get k _ hm, e, Bool.and_comm]
    congr 1
    by_cases c : j = k
    · subst c; simp
    · have : ¬ j % 64 = k % 64 := by omega
      simp [c, this, hm]
  · have c : ¬ j = k := fun h => e (by rw [h])
    rw [if_neg e]
    simp [c]
/-- Where the least bit of a word is. -/
def tz (x : Wd) : Nat := Lib.ctz 64 x.toNat
theorem tz_spec {x : Wd} (h : x ≠ 0) : tz x < 64 ∧ x.getLsbD (tz x) = true ∧ ∀ j, j < tz x → x.getLsbD j = false := by
  have hx : x.toNat ≠ 0 := fun e => h (BitVec.eq_of_toNat_eq (by simpa using e))
  have e : tz x = Lib.ctzFrom 64 x.toNat := by unfold tz Lib.ctz; rw [if_neg hx]
  obtain ⟨m, hm, hk⟩ := Lib.ctzFrom_spec 64 x.toNat (by omega) x.isLt
  rw [← e] at hm hk
  refine ⟨hk, ?_, fun j hj => ?_⟩
  · unfold BitVec.getLsbD
    rw [hm, Nat.mul_comm, Nat.testBit_mul_two_pow]
    simp
  · unfold BitVec.getLsbD
    rw [hm, Nat.mul_comm, Nat.testBit_mul_two_pow]
    simp
    omega
/-- The least number from n on, of a row of m words. -/
def NextR (f : Nat → Wd) (m n : Nat) (r : Int) : Prop :=
  (r = -1 ∧ ∀ k, n ≤ k → k / 64 < m → inQ f k = false) ∨ (∃ k : Nat, r = k ∧ n ≤ k ∧ k / 64 < m ∧ inQ f k = true ∧ ∀ j, n ≤ j → j < k → inQ f j = false)
/-- A word with the bits below a place taken out. -/
def cutW (x : Wd) (n : Nat) : Wd := x &&& ~~~(bitW n - 1)
theorem low_get (n i : Nat) (hi : i < 64) : (bitW n - 1).getLsbD i = decide (i < n % 64) := by
  have hn : n % 64 < 64 := Nat.mod_lt _ (by decide)
  have e : (bitW n - 1).toNat = 2 ^ (n % 64) - 1 := by
    have h1 : (bitW n).toNat = 2 ^ (n % 64) := by
      unfold bitW
      rw [BitVec.toNat_twoPow]
      exact Nat.mod_eq_of_lt (Nat.pow_lt_pow_right (by decide) hn)
    have h2 : 1 ≤ 2 ^ (n % 64) := Nat.one_le_two_pow
    have h3 : 2 ^ (n % 64) < 2 ^ 64 := Nat.pow_lt_pow_right (by decide) hn
    have e1 : (1 : Wd).toNat = 1 := rfl
    rw [BitVec.toNat_sub, h1, e1]
    generalize 2 ^ (n % 64) = z at *
    omega
  unfold BitVec.getLsbD
  rw [e, Nat.testBit_two_pow_sub_one]
theorem cut_get (x : Wd) (n i : Nat) (hi : i < 64) : (cutW x n).getLsbD i = (x.getLsbD i && decide (n % 64 ≤ i)) := by
  unfold cutW
  rw [BitVec.getLsbD_and, BitVec.getLsbD_not, low_get n i hi]
  congr 1
  by_cases c : i < n % 64
  · have : ¬ n % 64 ≤ i := by omega
    simp [c, this]
  · have : n % 64 ≤ i := by omega
    simp [c, this, hi]
theorem word_zero {x : Wd} (h : x = 0) (i : Nat) : x.getLsbD i = false := by rw [h]; simp
/-- The word of the row in which the search stands: i-th, of those from n on. -/
def wordAt (f : Nat → Wd) (n i : Nat) : Wd := if i = n / 64 then cutW (f i) n else f i
theorem wordAt_get (f : Nat → Wd) (n k : Nat) (hk : n / 64 ≤ k / 64) : (wordAt f n (k / 64)).getLsbD (k % 64) = (inQ f k && decide (n ≤ k)) := by
  have hm : k % 64 < 64 := Nat.mod_lt _ (by decide)
  unfold wordAt inQ
  by_cases e : k / 64 = n / 64
  · rw [if_pos e, cut_get _ _ _ hm]
    have : (n % 64 ≤ k % 64) ↔ (n ≤ k) := by omega
    simp only [this]
  · rw [if_neg e, decide_eq_true (by omega : n ≤ k), Bool.and_true]
/-- All words from n's on, ahead of i, are 0. -/
def NoneTo (f : Nat → Wd) (n i : Nat) : Prop := ∀ j, n / 64 ≤ j → j < i → wordAt f n j = 0
theorem NoneTo.bits {f : Nat → Wd} {n i : Nat} (h : NoneTo f n i) : ∀ k, n ≤ k → k / 64 < i → inQ f k = false := fun k hk hi => by
  have := wordAt_get f n k (by omega)
  rw [h (k / 64) (by omega) hi, decide_eq_true hk, Bool.and_true] at this
  rw [← this]
  simp
theorem next_none {f : Nat → Wd} {m n : Nat} (h : NoneTo f n m) : NextR f m n (-1) := .inl ⟨rfl, fun k hk hm => h.bits k hk hm⟩
theorem next_some {f : Nat → Wd} {m n i : Nat} (h : NoneTo f n i) (hi : n / 64 ≤ i) (hm : i < m) (hne : wordAt f n i ≠ 0) : NextR f m n (((i * 64 + tz (wordAt f n i) : Nat)) : Int) := by
  obtain ⟨h1, h2, h3⟩ := tz_spec hne
  generalize tz (wordAt f n i) = t at *
  have e1 : (i * 64 + t) / 64 = i := by omega
  have e2 : (i * 64 + t) % 64 = t := by omega
  have g := wordAt_get f n (i * 64 + t) (by omega)
  rw [e1, e2, h2] at g
  have g' := Bool.and_eq_true_iff.1 g.symm
  refine .inr ⟨i * 64 + t, rfl, of_decide_eq_true g'.2, by omega, g'.1, fun j hj hlt => ?_⟩
  by_cases c : j / 64 < i
  · exact h.bits j hj c
  · have ej : j / 64 = i := by omega
    have g2 := wordAt_get f n j (by omega)
    rw [ej, h3 (j % 64) (by omega), decide_eq_true hj, Bool.and_true] at g2
    exact g2.symm
end Go.Proofs.YtjhndnhldhmjnaaDoor
