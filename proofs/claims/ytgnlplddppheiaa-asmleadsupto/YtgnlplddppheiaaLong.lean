/- Which branches are long: the least choice of long ones such that the short ones reach. Plain mathematics. -/
import Derived.WalkKit
namespace Go.Proofs.Ytgnlplddppheiaa

/-- A branch: which instruction it is, and the instructions from low on and below high lie between it and its label. -/
structure Br where
  ix : Nat
  low : Nat
  high : Nat

/-- How many below n are in a set. -/
def below (S : Nat → Bool) : Nat → Nat
  | 0 => 0
  | n + 1 => below S n + (if S n then 1 else 0)

/-- How many of a list lie from lo on and below hi. -/
def cntL (L : List Nat) (lo hi : Nat) : Nat := (L.filter (fun p => decide (lo ≤ p ∧ p < hi))).length

def memB (L : List Nat) (p : Nat) : Bool := L.contains p

/-- All that are short reach. -/
def Closed (bs : List Br) (S : Nat → Bool) : Prop := ∀ b ∈ bs, S b.ix = false → (b.high - b.low) + (below S b.high - below S b.low) ≤ 32767
/-- .. and no such choice has fewer. -/
def Least (bs : List Br) (S : Nat → Bool) : Prop := Closed bs S ∧ ∀ S', Closed bs S' → ∀ p, S p = true → S' p = true

theorem below_le (S : Nat → Bool) : ∀ n, below S n ≤ n
  | 0 => Nat.le_refl _
  | n + 1 => by
    have := below_le S n
    unfold below
    split <;> omega
theorem below_step (S : Nat → Bool) (n : Nat) : below S n ≤ below S (n + 1) := by
  show _ ≤ below S n + _
  omega
theorem below_mono (S : Nat → Bool) {m n : Nat} (h : m ≤ n) : below S m ≤ below S n := by
  induction n with
  | zero => have : m = 0 := by omega
            subst this; exact Nat.le_refl _
  | succ n ih =>
    by_cases e : m = n + 1
    · subst e; exact Nat.le_refl _
    · exact Nat.le_trans (ih (by omega)) (below_step S n)
/-- How many of a range are in a set: no more than the range has. -/
theorem range_le (S : Nat → Bool) {m n : Nat} (h : m ≤ n) : below S n - below S m ≤ n - m := by
  induction n with
  | zero => have : m = 0 := by omega
            subst this; simp
  | succ n ih =>
    by_cases e : m = n + 1
    · subst e; simp
    · have := ih (by omega)
      have h1 := below_mono S (show m ≤ n by omega)
      show below S n + _ - _ ≤ _
      split <;> omega
/-- .. and no more than of a greater set. -/
theorem range_mono {S S' : Nat → Bool} (hS : ∀ p, S p = true → S' p = true) {m n : Nat} (h : m ≤ n) : below S n - below S m ≤ below S' n - below S' m := by
  induction n with
  | zero => have : m = 0 := by omega
            subst this; simp
  | succ n ih =>
    by_cases e : m = n + 1
    · subst e; simp
    · have := ih (by omega)
      have h1 := below_mono S (show m ≤ n by omega)
      have h2 := below_mono S' (show m ≤ n by omega)
      show below S n + _ - _ ≤ below S' n + _ - _
      cases hs : S n
      · simp; omega
      · simp [hS n hs]; omega

theorem Least.unique {bs : List Br} {S S' : Nat → Bool} (h : Least bs S) (h' : Least bs S') : S = S' := by
  funext p
  cases e : S p <;> cases e' : S' p
  · rfl
  · rw [h'.2 S h.1 p e'] at e; cases e
  · rw [h.2 S' h'.1 p e] at e'; cases e'
  · rfl

theorem below_congr {S S' : Nat → Bool} {n : Nat} (h : ∀ p, p < n → S p = S' p) : below S n = below S' n := by
  induction n with
  | zero => rfl
  | succ n ih =>
    show below S n + _ = below S' n + _
    rw [ih (fun p hp => h p (by omega)), h n (by omega)]

theorem memB_cons (x : Nat) (L : List Nat) (p : Nat) : memB (x :: L) p = (p == x || memB L p) := by unfold memB; rw [List.contains_cons]
theorem memB_iff (L : List Nat) (p : Nat) : memB L p = true ↔ p ∈ L := by simp [memB]
theorem memB_false (L : List Nat) (p : Nat) : memB L p = false ↔ p ∉ L := by simp [memB]

theorem cntL_nil (lo hi : Nat) : cntL [] lo hi = 0 := rfl
theorem cntL_cons (x : Nat) (L : List Nat) (lo hi : Nat) : cntL (x :: L) lo hi = (if lo ≤ x ∧ x < hi then 1 else 0) + cntL L lo hi := by
  unfold cntL
  by_cases h : lo ≤ x ∧ x < hi
  · simp [h]; omega
  · simp [h]
theorem cntL_append (L M : List Nat) (lo hi : Nat) : cntL (L ++ M) lo hi = cntL L lo hi + cntL M lo hi := by
  unfold cntL; simp
theorem cntL_one (x : Nat) (lo hi : Nat) : cntL [x] lo hi = if lo ≤ x ∧ x < hi then 1 else 0 := by rw [cntL_cons]; rfl

theorem below_mem {L : List Nat} (hn : L.Nodup) (n : Nat) : below (memB L) n = cntL L 0 n := by
  induction L with
  | nil =>
    induction n with
    | zero => rfl
    | succ n ih => show below _ n + _ = _; rw [ih]; rfl
  | cons x L ih =>
    obtain ⟨h1, h2⟩ := List.nodup_cons.1 hn
    rw [cntL_cons, ← ih h2]
    clear ih
    induction n with
    | zero => simp [below]
    | succ n ih =>
      show below _ n + _ = _ + (below _ n + _)
      rw [ih, memB_cons]
      by_cases e : n = x
      · subst e
        have : memB L n = false := (memB_false L n).2 h1
        simp [this]; omega
      · have : (n == x) = false := by simp [e]
        simp only [this, Bool.false_or]
        by_cases h : x < n
        · have : x < n + 1 := by omega
          simp [h, this]; omega
        · have : ¬ x < n + 1 := by omega
          simp [h, this]
theorem cntL_split (L : List Nat) {lo hi : Nat} (h : lo ≤ hi) : cntL L 0 hi = cntL L 0 lo + cntL L lo hi := by
  induction L with
  | nil => rfl
  | cons x L ih =>
    rw [cntL_cons, cntL_cons, cntL_cons, ih]
    by_cases h1 : x < lo
    · have : x < hi := by omega
      have : ¬ lo ≤ x := by omega
      simp [*]; omega
    · by_cases h2 : x < hi
      · have : lo ≤ x := by omega
        simp [*]; omega
      · simp [*]
theorem range_mem {L : List Nat} (hn : L.Nodup) {lo hi : Nat} (h : lo ≤ hi) : below (memB L) hi - below (memB L) lo = cntL L lo hi := by
  rw [below_mem hn, below_mem hn, cntL_split L h]; omega
theorem cntL_le_range {L : List Nat} (hn : L.Nodup) {S : Nat → Bool} (hS : ∀ p ∈ L, S p = true) {lo hi : Nat} (h : lo ≤ hi) : cntL L lo hi ≤ below S hi - below S lo := by
  rw [← range_mem hn h]
  exact range_mono (fun p hp => hS p ((memB_iff L p).1 hp)) h

/-- A branch is forced by the long ones that are there. -/
def Forced (bs : List Br) (L : List Nat) (x : Nat) : Prop := ∃ b ∈ bs, b.ix = x ∧ 32767 < (b.high - b.low) + cntL L b.low b.high

theorem forced_in {bs : List Br} {L : List Nat} {x : Nat} (hw : ∀ b ∈ bs, b.low ≤ b.high) (hn : L.Nodup) (hf : Forced bs L x) {S : Nat → Bool} (hS : Closed bs S) (hL : ∀ p ∈ L, S p = true) : S x = true := by
  obtain ⟨b, hb, rfl, hlt⟩ := hf
  cases e : S b.ix
  · have := hS b hb e
    have := cntL_le_range hn hL (hw b hb)
    omega
  · rfl
end Go.Proofs.Ytgnlplddppheiaa
