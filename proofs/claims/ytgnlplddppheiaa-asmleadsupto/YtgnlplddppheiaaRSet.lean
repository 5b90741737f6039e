/- The document's rounds: plain mathematics. -/
import Derived.Test.YtgnlplddppheiaaRLaid
namespace Go.Proofs.Ytgnlplddppheiaa
open Go.RowKit Go.Maps
set_option linter.unusedVariables false

/-- A label's place in instructions, by the line that it stands in. -/
theorem labs_ix {ls : List Ln} (hnd : (labL ls).Nodup) {j : Nat} {n : Int} (hj : j < ls.length) (h : labAt ls j = n) (hn : n ≠ 0) : labs ls n = some (ixF ls j) := by
  rw [labAt_get hj] at h
  have e : ls = ls.take j ++ ls[j] :: ls.drop (j + 1) := by rw [List.getElem_cons_drop, List.take_append_drop]
  have hnone : labs (ls.take j) n = none := by
    rw [labs_none]
    refine .inl (fun hm => ?_)
    rw [e, labL_append] at hnd
    have := (List.nodup_append.1 hnd).2.2 n hm n (by
      rw [show labL (ls[j] :: ls.drop (j + 1)) = labL [ls[j]] ++ labL (ls.drop (j + 1)) from labL_append [ls[j]] _, labL_one, h, if_neg hn]
      simp)
    exact this rfl
  have h2 := labs_append (ls.take j) (ls[j] :: ls.drop (j + 1)) n
  rw [← e, hnone] at h2
  simp only at h2
  rw [h2]
  simp [labs, h, hn, ixF]

theorem ixF_mono (ls : List Ln) {i j : Nat} (h : i ≤ j) (hj : j ≤ ls.length) : ixF ls i ≤ ixF ls j := by
  induction j with
  | zero => have : i = 0 := by omega
            subst this; exact Nat.le_refl _
  | succ j ih =>
    by_cases e : i = j + 1
    · subst e; exact Nat.le_refl _
    · have h1 := ih (by omega) (by omega)
      have h2 := ixF_succ (ls := ls) (i := j) (by omega)
      omega
theorem ixF_lt {ls : List Ln} {i j : Nat} (h : i < j) (hj : j ≤ ls.length) (h0 : labAt ls i = 0) : ixF ls i < ixF ls j := by
  have h1 := ixF_succ (ls := ls) (i := i) (by omega)
  rw [if_pos h0] at h1
  have h2 := ixF_mono ls (show i + 1 ≤ j by omega) hj
  omega
theorem ixF_inj {ls : List Ln} {i j : Nat} (hi : i < ls.length) (hj : j < ls.length) (h1 : labAt ls i = 0) (h2 : labAt ls j = 0) (h : ixF ls i = ixF ls j) : i = j := by
  rcases Nat.lt_trichotomy i j with e | e | e
  · have := ixF_lt e (by omega) h1; omega
  · exact e
  · have := ixF_lt e (by omega) h2; omega

/-- A branch with To. -/
def asksB (x : Ln) : Bool := x.to != 0 && askF x.op

theorem brGo_mem (f : Int → Option Nat) : ∀ (ls : List Ln) (k : Nat) (y : Nat × Nat × Nat), y ∈ brGo f k ls ↔ ∃ i, ∃ h : i < ls.length, ls[i].label = 0 ∧ asksB ls[i] = true ∧ y = brTo (k + ixF ls i) ((f ls[i].to).getD 0)
  | [], k, y => by simp [brGo]
  | x :: r, k, y => by
    have e : brGo f k (x :: r) = brGo f k [x] ++ brGo f (k + insN [x]) r := brGo_append f [x] r k
    rw [e, List.mem_append, brGo_mem f r, brGo_one]
    constructor
    · rintro (h | ⟨i, hi, h1, h2, h3⟩)
      · by_cases h0 : x.label = 0
        · by_cases h1 : x.to ≠ 0 ∧ askF x.op = true
          · rw [if_pos h0, if_pos h1] at h
            refine ⟨0, by simp, h0, by unfold asksB; simp [h1.1, h1.2], ?_⟩
            simpa [ixF, insN] using h
          · rw [if_pos h0, if_neg h1] at h; simp at h
        · rw [if_neg h0] at h; simp at h
      · refine ⟨i + 1, by simpa using hi, by simpa using h1, by simpa using h2, ?_⟩
        rw [h3]
        have : k + insN [x] + ixF r i = k + ixF (x :: r) (i + 1) := by
          unfold ixF
          rw [List.take_succ_cons, show insN (x :: r.take i) = insN [x] + insN (r.take i) from insN_append [x] _]
          omega
        rw [this]
        simp
    · rintro ⟨i, hi, h1, h2, h3⟩
      cases i with
      | zero =>
        left
        simp only [List.getElem_cons_zero] at h1 h2 h3
        unfold asksB at h2
        simp at h2
        rw [if_pos h1, if_pos h2]
        simpa [ixF, insN] using h3
      | succ i =>
        right
        refine ⟨i, by simpa using hi, by simpa using h1, by simpa using h2, ?_⟩
        rw [h3]
        have : k + insN [x] + ixF r i = k + ixF (x :: r) (i + 1) := by
          unfold ixF
          rw [List.take_succ_cons, show insN (x :: r.take i) = insN [x] + insN (r.take i) from insN_append [x] _]
          omega
        rw [this]
        simp

/-- A branch's room. -/
def roomS (S : Nat → Bool) (b : Br) : Nat := (b.high - b.low) + (below S b.high - below S b.low)

/-- away is too far where the room is too great. -/
theorem far_iff {S : Nat → Bool} {k p : Nat} (hk : S k = false) : ((atF S p : Int) - ((atF S k : Int) + 1) < -32768 ∨ 32767 < (atF S p : Int) - ((atF S k : Int) + 1)) ↔ 32767 < roomS S (mkBr (brTo k p)) := by
  unfold roomS brTo atF
  by_cases h : k < p
  · have h1 : below S (k + 1) = below S k := by show below S k + _ = _; simp [hk]
    have h2 := below_mono S (show k + 1 ≤ p by omega)
    simp only [h, if_true, mkBr, h1]
    omega
  · have h2 := below_mono S (show p ≤ k by omega)
    simp only [h, if_false, mkBr]
    omega

/-- Below every choice. -/
def Low (bs : List Br) (S : Nat → Bool) : Prop := ∀ S', Closed bs S' → ∀ p, S p = true → S' p = true
def addS (S : Nat → Bool) (k : Nat) : Nat → Bool := fun p => p == k || S p

theorem Low.none (bs : List Br) : Low bs (fun _ => false) := fun S' _ p hp => by simp at hp
/-- All that are too far in S must be long. -/
theorem Low.must {bs : List Br} {S : Nat → Bool} (h : Low bs S) {b : Br} (hb : b ∈ bs) (hlh : b.low ≤ b.high) (hf : 32767 < roomS S b) : ∀ S', Closed bs S' → S' b.ix = true := by
  intro S' hS'
  cases e : S' b.ix with
  | true => rfl
  | false =>
    have h1 := hS' b hb e
    have h2 := range_mono (fun p hp => h S' hS' p hp) hlh
    unfold roomS at hf
    omega
theorem Low.add {bs : List Br} {S : Nat → Bool} (h : Low bs S) {k : Nat} (hk : ∀ S', Closed bs S' → S' k = true) : Low bs (addS S k) := by
  intro S' hS' p hp
  unfold addS at hp
  simp at hp
  rcases hp with rfl | hp
  · exact hk S' hS'
  · exact h S' hS' p hp

theorem lgF_add {ls : List Ln} {S : Nat → Bool} {g : Nat} (hg : g < ls.length) (h0 : labAt ls g = 0) {j : Nat} (hj : j < ls.length) : lgF ls (addS S (ixF ls g)) j = (if j = g then true else lgF ls S j) := by
  unfold lgF addS
  by_cases e : j = g
  · subst e; simp [h0]
  · simp only [e, if_false]
    by_cases h1 : labAt ls j = 0
    · have : ixF ls j ≠ ixF ls g := fun e2 => e (ixF_inj hj hg h1 h0 e2)
      simp [h1, this]
    · have h2 : (labAt ls j == 0) = false := by simpa using h1
      rw [h2]; rfl
end Go.Proofs.Ytgnlplddppheiaa
