/- What a run did not get of its input turns nothing. -/
import Derived.Test.YtimbnlcegcmfiaaMore
namespace Go.Proofs.Ytimbnlcegcmfiaa
open Go.RowKit
set_option linter.unusedVariables false

/-- The same state, with another input. -/
def withI (s : St) (x : ByteArray) : St := { s with input := x }

section
variable (s : St) (x : ByteArray)
theorem stF_withI (op : Int) (d a : Nat) (i : Int) : stF (withI s x) op d a i = (withI (stF s op d a i).1 x, (stF s op d a i).2) := by
  unfold stF
  show (if stOk op (adr s a i).toNat then _ else _) = _
  by_cases h : stOk op (adr s a i).toNat = true
  · rw [if_pos h, if_pos h]; rfl
  · rw [if_neg h, if_neg h]
theorem valF_withI (op : Int) (d a b : Nat) (i : Int) : valF (withI s x) op d a b i = valF s op d a b i := rfl
theorem giF_withI (op : Int) (d a b : Nat) (i : Int) (hg : op = 44 → getV (withI s x) = getV s ∧ getS (withI s x) = withI (getS s) x) : giF (withI s x) op d a b i = (withI (giF s op d a b i).1 x, (giF s op d a b i).2) := by
  unfold giF
  by_cases h : op = 44
  · rw [if_pos h, if_pos h, (hg h).1, (hg h).2]
    rfl
  · rw [if_neg h, if_neg h, valF_withI]
    by_cases hz : (valF s op d a b i).2 = 0
    · rw [if_pos hz, if_pos hz]; rfl
    · rw [if_neg hz, if_neg hz]
theorem doF_withI (op : Int) (d a b : Nat) (i : Int) (hg : op = 44 → getV (withI s x) = getV s ∧ getS (withI s x) = withI (getS s) x) : doF (withI s x) op d a b i = withI (doF s op d a b i) x := by
  unfold doF
  rw [stF_withI, giF_withI s x op d a b i hg]
  by_cases h1 : op = 37 ∨ op = 38
  · rw [if_pos h1, if_pos h1]
    by_cases hz : (stF s op d a i).2 = 0
    · rw [if_pos hz, if_pos hz]; rfl
    · rw [if_neg hz, if_neg hz]; rfl
  rw [if_neg h1, if_neg h1]
  by_cases h2 : op = 39 ∨ op = 40 ∨ op = 41 ∨ op = 43
  · rw [if_pos h2, if_pos h2]; rfl
  rw [if_neg h2, if_neg h2]
  by_cases h3 : op = 42
  · rw [if_pos h3, if_pos h3]; rfl
  rw [if_neg h3, if_neg h3]
  by_cases h4 : op = 45
  · rw [if_pos h4, if_pos h4]; rfl
  rw [if_neg h4, if_neg h4]
  by_cases h5 : op = 46
  · rw [if_pos h5, if_pos h5]; rfl
  rw [if_neg h5, if_neg h5]
  by_cases h6 : op = 47
  · rw [if_pos h6, if_pos h6]; rfl
  rw [if_neg h6, if_neg h6]
  by_cases hz : (giF s op d a b i).2 = 0
  · rw [if_pos hz, if_pos hz]; rfl
  · rw [if_neg hz, if_neg hz]; rfl
theorem stepF_withI (hg : getV (withI s x) = getV s ∧ getS (withI s x) = withI (getS s) x) : stepF (withI s x) = withI (stepF s) x := by
  unfold stepF
  show (if s.kind = 3 then (if fetchB s = true then doF (withI s x) (uOp (wordU s)) (uD (wordU s)).toNat (uA (wordU s)).toNat (uB (wordU s)).toNat (uI (wordU s)) else trapS (withI s x) 4) else withI s x) = _
  by_cases h : s.kind = 3
  · rw [if_pos h, if_pos h]
    by_cases hf : fetchB s = true
    · rw [if_pos hf, if_pos hf]
      exact doF_withI s x _ _ _ _ _ (fun _ => hg)
    · rw [if_neg hf, if_neg hf]; rfl
  · rw [if_neg h, if_neg h]
end

/-- Two inputs that are alike up to a place, and have it. -/
structure Alike (x y : ByteArray) (u : Nat) : Prop where
  hx : u < x.size
  hy : u < y.size
  same : ∀ i (h1 : i < x.size) (h2 : i < y.size), i ≤ u → x[i] = y[i]

theorem get_alike {s : St} {x : ByteArray} {u : Nat} (h : Alike s.input x u) (hu : s.used ≤ u) : getV (withI s x) = getV s ∧ getS (withI s x) = withI (getS s) x := by
  have h1 : s.used < s.input.size := Nat.lt_of_le_of_lt hu h.hx
  have h2 : s.used < x.size := Nat.lt_of_le_of_lt hu h.hy
  constructor
  · have e1 : getV s = (s.input[s.used].toNat : Int) := by unfold getV; rw [dif_pos h1]
    have e2 : getV (withI s x) = (x[s.used].toNat : Int) := by
      unfold getV
      rw [dif_pos (show (withI s x).used < (withI s x).input.size from h2)]
      rfl
    rw [e1, e2, h.same s.used h1 h2 hu]
  · have e1 : getS s = { s with used := s.used + 1 } := by unfold getS; rw [if_pos h1]
    have e2 : getS (withI s x) = { withI s x with used := s.used + 1 } := by
      unfold getS
      rw [if_pos (show (withI s x).used < (withI s x).input.size from h2)]
      rfl
    rw [e1, e2]
    rfl

theorem getS_input (s : St) : (getS s).input = s.input := by unfold getS; split <;> rfl
theorem stF_input (s : St) (op : Int) (d a : Nat) (i : Int) : (stF s op d a i).1.input = s.input := by unfold stF; split <;> rfl
theorem giF_input (s : St) (op : Int) (d a b : Nat) (i : Int) : (giF s op d a b i).1.input = s.input := by
  unfold giF
  split
  · exact getS_input s
  · split <;> rfl
theorem doF_input (s : St) (op : Int) (d a b : Nat) (i : Int) : (doF s op d a b i).input = s.input := by
  have h1 := stF_input s op d a i
  have h3 := giF_input s op d a b i
  generalize hs : stF s op d a i = ps at h1
  generalize hg : giF s op d a b i = pg at h3
  unfold doF
  rw [hs, hg]
  repeat' split
  all_goals first
    | exact h1
    | exact h3
    | rfl
theorem stepF_input (s : St) : (stepF s).input = s.input := by
  unfold stepF
  split
  · split
    · exact doF_input s _ _ _ _ _
    · rfl
  · rfl
theorem stepN_input (s : St) : ∀ n, (stepN n s).input = s.input
  | 0 => rfl
  | n + 1 => (stepF_input _).trans (stepN_input s n)

theorem stepN_withI {s : St} {x : ByteArray} {n : Nat} (h : Alike s.input x (stepN n s).used) : ∀ k, k ≤ n → stepN k (withI s x) = withI (stepN k s) x
  | 0, _ => rfl
  | k + 1, hk => by
    have ih := stepN_withI h k (by omega)
    show stepF (stepN k (withI s x)) = withI (stepF (stepN k s)) x
    rw [ih]
    refine stepF_withI _ _ (get_alike (u := (stepN n s).used) ?_ ?_)
    · rw [stepN_input]; exact h
    · have := stepN_used s k (n - k)
      rwa [show k + (n - k) = n by omega] at this

theorem alike_cut (x y : ByteArray) (u : Nat) (h : u < x.size) : Alike x (x.extract 0 (u + 1) ++ y) u := by
  have hs : (x.extract 0 (u + 1)).size = u + 1 := by rw [ByteArray.size_extract]; omega
  refine ⟨h, by rw [ByteArray.size_append, hs]; omega, fun i h1 h2 hi => ?_⟩
  rw [ByteArray.getElem_append_left (by rw [hs]; omega), ByteArray.getElem_extract]
  simp
end Go.Proofs.Ytimbnlcegcmfiaa
