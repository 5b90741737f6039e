/- Both plain readings, held against each other. -/
import Derived.Test.YthdphldagfeepaaRef3
namespace Go.Proofs.Ythdphldagfeepaa
open Go.RowKit Go.Maps
set_option linter.unusedVariables false
set_option linter.unusedSimpArgs false

/-- The document's names are those of the program's blocks, one block behind the other. -/
def Rel (g : Blocks) : Nat → List Ent → Prop
  | 0, L => L = []
  | n + 1, L => ∃ L0 S, L = L0 ++ S ∧ Rel g n L0 ∧ (∀ e ∈ S, e.bl = (n : Int) + 1) ∧ ∀ s, g n s = lastF S s

theorem rel_start : Rel (fun _ _ => none) 1 [] := ⟨[], [], rfl, rfl, fun _ h => (by cases h), fun _ => rfl⟩
theorem rel_congr {g g' : Blocks} : ∀ {n : Nat} {L : List Ent}, (∀ i, i < n → ∀ s, g' i s = g i s) → Rel g n L → Rel g' n L
  | 0, _, _, h => h
  | n + 1, L, e, ⟨L0, S, h1, h2, h3, h4⟩ => ⟨L0, S, h1, rel_congr (fun i hi => e i (by omega)) h2, h3, fun s => (e n (by omega) s).trans (h4 s)⟩
theorem rel_enter {g : Blocks} {n : Nat} {L : List Ent} (h : Rel g n L) : Rel (enterG g n) (n + 1) L :=
  ⟨L, [], by simp, rel_congr (fun i hi s => by unfold enterG; rw [if_neg (by omega)]) h, fun _ h => (by cases h), fun s => by simp [enterG, lastF]⟩
theorem rel_bl {g : Blocks} : ∀ {n : Nat} {L : List Ent}, Rel g n L → ∀ e ∈ L, e.bl ≤ n
  | 0, L, h, e, he => by
    have : L = [] := h
    subst this
    cases he
  | n + 1, L, ⟨L0, S, h1, h2, h3, h4⟩, e, he => by
    subst h1
    rcases List.mem_append.1 he with he | he
    · have := rel_bl h2 e he
      omega
    · have := h3 e he
      omega
theorem snoc_ind {P : List Ent → Prop} (h0 : P []) (h1 : ∀ L e, P L → P (L ++ [e])) (L : List Ent) : P L := by
  have : ∀ l : List Ent, P l.reverse := fun l => by
    induction l with
    | nil => exact h0
    | cons e l ih => rw [List.reverse_cons]; exact h1 _ _ ih
  have h := this L.reverse
  rwa [List.reverse_reverse] at h
theorem popR_none {L : List Ent} {N : Int} (h : ∀ e ∈ L, e.bl ≠ N) : popR L N = L := by
  rcases snoc_cases L with rfl | ⟨X, e, rfl⟩
  · rfl
  · rw [popR_snoc, if_neg (h e (by simp))]
theorem popR_all {L0 : List Ent} {N : Int} (S : List Ent) : (∀ e ∈ S, e.bl = N) → popR (L0 ++ S) N = popR L0 N := by
  refine snoc_ind (P := fun S => (∀ e ∈ S, e.bl = N) → popR (L0 ++ S) N = popR L0 N) (fun _ => by simp) (fun S e ih h => ?_) S
  rw [← List.append_assoc, popR_snoc, if_pos (h e (by simp)), ih (fun x hx => h x (by simp [hx]))]
theorem rel_leave {g : Blocks} {n : Nat} {L : List Ent} (h : Rel g (n + 1) L) : Rel g n (popR L ((n : Int) + 1)) := by
  obtain ⟨L0, S, rfl, h2, h3, h4⟩ := h
  rw [popR_all S h3, popR_none (fun e he => by have := rel_bl h2 e he; omega)]
  exact h2
theorem lastF_some (S : List Ent) (s : ByteArray) : (lastF S s).isSome = S.any fun e => decide (e.nm = s) := by
  refine snoc_ind (P := fun S => (lastF S s).isSome = S.any fun e => decide (e.nm = s)) rfl (fun S e ih => ?_) S
  rw [lastF_snoc, List.any_append, ← ih]
  by_cases h : e.nm = s
  · simp [h]
  · simp [h]
theorem lastF_append (L0 S : List Ent) (s : ByteArray) : lastF (L0 ++ S) s = match lastF S s with | some x => some x | none => lastF L0 s := by
  refine snoc_ind (P := fun S => lastF (L0 ++ S) s = match lastF S s with | some x => some x | none => lastF L0 s) ?_ (fun S e ih => ?_) S
  · rw [List.append_nil, lastF_nil]
  · rw [← List.append_assoc, lastF_snoc, lastF_snoc, ih]
    by_cases h : e.nm = s
    · rw [if_pos h, if_pos h]
    · rw [if_neg h, if_neg h]
theorem rel_has {g : Blocks} {n : Nat} {L : List Ent} (h : Rel g (n + 1) L) (s : ByteArray) : hasB L ((n : Int) + 1) s = (g n s).isSome := by
  obtain ⟨L0, S, rfl, h2, h3, h4⟩ := h
  rw [h4, lastF_some]
  unfold hasB
  rw [List.any_append]
  have e1 : (L0.any fun e => decide (e.bl = (n : Int) + 1 ∧ e.nm = s)) = false := by
    rw [List.any_eq_false]
    intro e he
    have := rel_bl h2 e he
    simp
    intro h
    omega
  rw [e1, Bool.false_or]
  rw [Bool.eq_iff_iff, List.any_eq_true, List.any_eq_true]
  constructor
  · rintro ⟨e, he, h⟩
    exact ⟨e, he, by simp at h ⊢; exact h.2⟩
  · rintro ⟨e, he, h⟩
    exact ⟨e, he, by simp at h ⊢; exact ⟨h3 e he, h⟩⟩
theorem rel_put {g : Blocks} {n : Nat} {L : List Ent} (h : Rel g (n + 1) L) (s : ByteArray) (x : Int) : Rel (putG g n s x) (n + 1) (L ++ [⟨(n : Int) + 1, s, x⟩]) := by
  obtain ⟨L0, S, rfl, h2, h3, h4⟩ := h
  refine ⟨L0, S ++ [⟨(n : Int) + 1, s, x⟩], by simp, rel_congr (fun i hi t => by unfold putG; rw [if_neg (by omega)]) h2, fun e he => ?_, fun t => ?_⟩
  · rcases List.mem_append.1 he with he | he
    · exact h3 e he
    · simp at he
      subst he
      rfl
  · rw [lastF_snoc]
    unfold putG
    dsimp only
    by_cases h : s = t
    · rw [if_pos ⟨rfl, h.symm⟩, if_pos h]
    · rw [if_neg (fun e => h e.2.symm), if_neg h]
      exact h4 t
theorem rel_find {g : Blocks} : ∀ {n : Nat} {L : List Ent}, Rel g n L → ∀ s, findG g n s = lastF L s
  | 0, L, h, s => by
    have : L = [] := h
    subst this
    rfl
  | n + 1, L, ⟨L0, S, h1, h2, h3, h4⟩, s => by
    subst h1
    rw [findG, lastF_append, h4 s, rel_find h2 s]
    cases lastF S s <;> rfl

/-- What the document's calls answer and leave. -/
def rdE (L : List Ent) (N : Int) (s : ByteArray) : Int := if hasB L N s then 1 else 0
def rdL (L : List Ent) (N : Int) (s : ByteArray) (x : Int) : List Ent := if hasB L N s then L else L ++ [⟨N, s, x⟩]
def rlE (N : Int) : Int := if N < 2 then 4 else 0
def rlL (L : List Ent) (N : Int) : List Ent := if N < 2 then L else popR L N
def rlN (N : Int) : Int := if N < 2 then N else N - 1

/-- What an act makes of the program's scope, of the document's, and what is told. -/
def stN (d : Int) (n : Nat) : Nat := if d = 1 then n + 1 else if d = 2 then leaveN n else n
def stG (d : Int) (s : ByteArray) (x : Int) (n : Nat) (g : Blocks) : Blocks := if d = 0 then declG g (n - 1) s x else if d = 1 then enterG g n else g
def stL (d : Int) (s : ByteArray) (x : Int) (L : List Ent) (N : Int) : List Ent := if d = 0 then rdL L N s x else if d = 2 then rlL L N else L
def stR (d : Int) (N : Int) : Int := if d = 1 then N + 1 else if d = 2 then rlN N else N
def toldB (d : Int) (s : ByteArray) (n : Nat) (g : Blocks) (L : List Ent) (N : Int) : Prop :=
  (d = 0 → declE g (n - 1) s = rdE L N s) ∧ (d = 2 → leaveE n = rlE N) ∧ (d = 3 → findG g n s = lastF L s) ∧ (d ≠ 0 → d ≠ 2 → d ≠ 3 → (stN d n : Int) = stR d N)

theorem rel_told {d : Int} {s : ByteArray} {n : Nat} {g : Blocks} {L : List Ent} {N : Int} (h : Rel g n L) (hN : N = n) (hn : 1 ≤ n) : toldB d s n g L N := by
  subst hN
  obtain ⟨k, rfl⟩ : ∃ k, n = k + 1 := ⟨n - 1, by omega⟩
  refine ⟨fun _ => ?_, fun _ => ?_, fun _ => rel_find h s, fun _ h2 _ => ?_⟩
  · unfold declE rdE
    have := rel_has h s
    rw [show ((k + 1 : Nat) : Int) = (k : Int) + 1 by omega, this]
    rfl
  · unfold leaveE rlE
    by_cases e : k = 0
    · subst e; rfl
    · rw [if_neg (by omega), if_neg (by omega)]
  · unfold stN stR
    by_cases e : d = 1
    · rw [if_pos e, if_pos e]; omega
    · rw [if_neg e, if_neg e, if_neg h2, if_neg h2]
theorem rel_step {d : Int} {s : ByteArray} {x : Int} {n : Nat} {g : Blocks} {L : List Ent} {N : Int} (h : Rel g n L) (hN : N = n) (hn : 1 ≤ n) :
    Rel (stG d s x n g) (stN d n) (stL d s x L N) ∧ stR d N = stN d n := by
  subst hN
  obtain ⟨k, rfl⟩ : ∃ k, n = k + 1 := ⟨n - 1, by omega⟩
  have ek : ((k + 1 : Nat) : Int) = (k : Int) + 1 := by omega
  unfold stG stN stL stR
  by_cases e0 : d = 0
  · subst e0
    simp only [if_true, if_neg (by decide : ¬ (0 : Int) = 1), if_neg (by decide : ¬ (0 : Int) = 2)]
    refine ⟨?_, trivial⟩
    unfold declG rdL
    rw [ek, rel_has h s, show k + 1 - 1 = k by omega]
    cases hv : (g k s).isSome with
    | true => exact h
    | false => exact rel_put h s x
  · by_cases e1 : d = 1
    · subst e1
      simp only [if_true, if_neg (by decide : ¬ (1 : Int) = 0), if_neg (by decide : ¬ (1 : Int) = 2)]
      exact ⟨rel_enter h, by omega⟩
    · by_cases e2 : d = 2
      · subst e2
        simp only [if_true, if_neg (by decide : ¬ (2 : Int) = 0), if_neg (by decide : ¬ (2 : Int) = 1)]
        unfold leaveN rlL rlN
        by_cases c : k = 0
        · subst c
          exact ⟨h, rfl⟩
        · rw [if_neg (by omega), if_neg (by omega), if_neg (by omega), ek, show k + 1 - 1 = k by omega]
          exact ⟨rel_leave h, by omega⟩
      · rw [if_neg e0, if_neg e1, if_neg e1, if_neg e2, if_neg e0, if_neg e2, if_neg e1, if_neg e2]
        exact ⟨h, rfl⟩
end Go.Proofs.Ythdphldagfeepaa
