/- A walk as a machine, plainly: what is met, the blocks that wait with how many of their successors are tried, what is left. -/
import Derived.Test.YtgkaeoieclegjaaDfw
namespace Go.Proofs.Ytgkaeoieclegjaa
set_option linter.unusedVariables false
abbrev Sd := (Nat → Prop) × List (Nat × Nat) × List Nat
noncomputable def stepS (tos : Nat → List Int) (n : Nat) : Sd → Option Sd
  | (_, [], _) => none
  | (met, (b, k) :: stk, out) => match (tos b)[k]? with
    | none => some (met, stk, out ++ [b])
    | some t => @ite _ (0 ≤ t ∧ t < n ∧ ¬ met t.toNat) (Classical.propDecidable _) (some (fun x => met x ∨ x = t.toNat, (t.toNat, 0) :: (b, k + 1) :: stk, out)) (some (met, (b, k + 1) :: stk, out))
noncomputable def runS (tos : Nat → List Int) (n : Nat) : Nat → Sd → Option Sd
  | 0, s => some s
  | k + 1, s => match stepS tos n s with
    | none => none
    | some s' => runS tos n k s'
section
variable {tos : Nat → List Int} {n : Nat}
theorem runS_some {k : Nat} {s s' : Sd} (h : stepS tos n s = some s') : runS tos n (k + 1) s = runS tos n k s' := by
  show (match stepS tos n s with | none => none | some s' => runS tos n k s') = _
  rw [h]
theorem runS_none {k : Nat} {s : Sd} (h : stepS tos n s = none) : runS tos n (k + 1) s = none := by
  show (match stepS tos n s with | none => none | some s' => runS tos n k s') = _
  rw [h]
theorem runS_add : ∀ (i j : Nat) (s a : Sd), runS tos n i s = some a → runS tos n (i + j) s = runS tos n j a
  | 0, j, s, a, h => by
    injection h with h
    subst h
    rw [Nat.zero_add]
  | i + 1, j, s, a, h => by
    rw [show i + 1 + j = (i + j) + 1 by omega]
    cases e : stepS tos n s with
    | none => rw [runS_none e] at h; cases h
    | some s' =>
      rw [runS_some e] at h ⊢
      exact runS_add i j s' a h
/-- The machine comes from one state to another. -/
def RunsS (tos : Nat → List Int) (n : Nat) (s a : Sd) : Prop := ∃ k, runS tos n k s = some a
theorem RunsS.refl (s : Sd) : RunsS tos n s s := ⟨0, rfl⟩
theorem RunsS.trans {s a b : Sd} (h : RunsS tos n s a) (h' : RunsS tos n a b) : RunsS tos n s b := by
  obtain ⟨i, hi⟩ := h
  obtain ⟨j, hj⟩ := h'
  exact ⟨i + j, by rw [runS_add i j s a hi]; exact hj⟩
theorem RunsS.one {s a : Sd} (h : stepS tos n s = some a) : RunsS tos n s a := ⟨1, by rw [runS_some h]; rfl⟩
theorem RunsS.end_eq {s a b : Sd} (h : RunsS tos n s a) (h' : RunsS tos n s b) (ha : stepS tos n a = none) (hb : stepS tos n b = none) : a = b := by
  have key : ∀ (i j : Nat) (a b : Sd), runS tos n i s = some a → runS tos n j s = some b → stepS tos n a = none → i ≤ j → a = b := fun i j a b hi hj ha hij => by
    obtain ⟨d, rfl⟩ : ∃ d, j = i + d := ⟨j - i, by omega⟩
    rw [runS_add i d s a hi] at hj
    cases d with
    | zero =>
      injection hj
    | succ d =>
      rw [runS_none ha] at hj
      cases hj
  obtain ⟨i, hi⟩ := h
  obtain ⟨j, hj⟩ := h'
  by_cases e : i ≤ j
  · exact key i j a b hi hj ha e
  · exact (key j i b a hj hi hb (by omega)).symm
/-- What each step keeps. -/
theorem RunsS.keep {P : Sd → Prop} (hP : ∀ s a, P s → stepS tos n s = some a → P a) {s a : Sd} (h : RunsS tos n s a) (hs : P s) : P a := by
  obtain ⟨k, hk⟩ := h
  induction k generalizing s with
  | zero =>
    injection hk with hk
    subst hk
    exact hs
  | succ k ih =>
    cases e : stepS tos n s with
    | none => rw [runS_none e] at hk; cases hk
    | some s' =>
      rw [runS_some e] at hk
      exact ih (hP s s' hs e) hk
theorem stepS_cons {met : Nat → Prop} {b k : Nat} {stk : List (Nat × Nat)} {out : List Nat} : stepS tos n (met, (b, k) :: stk, out) = (match (tos b)[k]? with
    | none => some (met, stk, out ++ [b])
    | some t => @ite _ (0 ≤ t ∧ t < n ∧ ¬ met t.toNat) (Classical.propDecidable _) (some (fun x => met x ∨ x = t.toNat, (t.toNat, 0) :: (b, k + 1) :: stk, out)) (some (met, (b, k + 1) :: stk, out))) := rfl
theorem stepS_pop {met : Nat → Prop} {b k : Nat} {stk : List (Nat × Nat)} {out : List Nat} (h : (tos b)[k]? = none) : stepS tos n (met, (b, k) :: stk, out) = some (met, stk, out ++ [b]) := by
  rw [stepS_cons, h]
theorem stepS_push {met : Nat → Prop} {b k t : Nat} {stk : List (Nat × Nat)} {out : List Nat} (h : (tos b)[k]? = some (t : Int)) (ht : t < n) (hm : ¬ met t) : stepS tos n (met, (b, k) :: stk, out) = some (fun x => met x ∨ x = t, (t, 0) :: (b, k + 1) :: stk, out) := by
  rw [stepS_cons, h]
  dsimp only
  rw [if_pos ⟨by omega, by omega, by simpa using hm⟩, Int.toNat_natCast]
theorem stepS_skip {met : Nat → Prop} {b k : Nat} {t : Int} {stk : List (Nat × Nat)} {out : List Nat} (h : (tos b)[k]? = some t) (hm : 0 ≤ t → t < n → met t.toNat) : stepS tos n (met, (b, k) :: stk, out) = some (met, (b, k + 1) :: stk, out) := by
  rw [stepS_cons, h]
  dsimp only
  rw [if_neg (fun hx => hx.2.2 (hm hx.1 hx.2.1))]
end
/-- The blocks that wait. -/
def stkP (blk par tr : Nat → Nat) : Nat → Nat → List (Nat × Nat)
  | 0, a => [(blk a, tr (blk a))]
  | d + 1, a => (blk a, tr (blk a)) :: stkP blk par tr d (par a)
def metP (m : Nat) (blk : Nat → Nat) (x : Nat) : Prop := ∃ j, j < m ∧ blk j = x
def start0 : Sd := (fun x => x = 0, [(0, 0)], [])
end Go.Proofs.Ytgkaeoieclegjaa
