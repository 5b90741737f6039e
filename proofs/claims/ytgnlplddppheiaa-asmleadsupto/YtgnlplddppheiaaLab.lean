/- Labels and their places. Plain mathematics. -/
import Derived.Test.YtgnlplddppheiaaLine
import Derived.Test.YtgnlplddppheiaaLong
namespace Go.Proofs.Ytgnlplddppheiaa
set_option linter.unusedVariables false

/-- How many instructions. -/
def insN (ls : List Ln) : Nat := (ls.filter fun x => x.label == 0).length
/-- The labels. -/
def labL (ls : List Ln) : List Int := (ls.filter fun x => x.label != 0).map Ln.label
/-- How many instructions lie ahead of a label. -/
def labs : List Ln → Int → Option Nat
  | [], _ => none
  | x :: r, n => if x.label = 0 then (labs r n).map (· + 1) else if x.label = n then some 0 else labs r n

theorem insN_le (ls : List Ln) : insN ls ≤ ls.length := List.length_filter_le _ _
theorem labL_le (ls : List Ln) : (labL ls).length ≤ ls.length := by unfold labL; simp [List.length_filter_le]
theorem ins_lab (ls : List Ln) : insN ls + (labL ls).length = ls.length := by
  induction ls with
  | nil => rfl
  | cons x r ih =>
    unfold insN labL at *
    by_cases h : x.label = 0 <;> simp [h] at * <;> omega
theorem insN_append (a b : List Ln) : insN (a ++ b) = insN a + insN b := by unfold insN; simp
theorem labL_append (a b : List Ln) : labL (a ++ b) = labL a ++ labL b := by unfold labL; simp
theorem insN_one (x : Ln) : insN [x] = if x.label = 0 then 1 else 0 := by unfold insN; by_cases h : x.label = 0 <;> simp [h]
theorem labL_one (x : Ln) : labL [x] = if x.label = 0 then [] else [x.label] := by unfold labL; by_cases h : x.label = 0 <;> simp [h]

theorem labs_append (a b : List Ln) (n : Int) : labs (a ++ b) n = (match labs a n with | some p => some p | none => (labs b n).map (· + insN a)) := by
  induction a with
  | nil => simp [labs, insN]
  | cons x r ih =>
    have e : insN (x :: r) = insN [x] + insN r := insN_append [x] r
    rw [List.cons_append, labs, labs, ih, e, insN_one]
    by_cases h : x.label = 0
    · simp only [h, if_true]
      cases labs r n with
      | some p => simp
      | none => cases labs b n <;> simp; omega
    · simp only [h, if_false]
      by_cases h2 : x.label = n
      · simp [h2]
      · simp only [h2, if_false]
        cases labs r n with
        | some p => simp
        | none => cases labs b n <;> simp
theorem labs_none (ls : List Ln) (n : Int) : labs ls n = none ↔ n ∉ labL ls ∨ n = 0 := by
  induction ls with
  | nil => simp [labs, labL]
  | cons x r ih =>
    rw [labs, show labL (x :: r) = labL [x] ++ labL r from labL_append [x] r, labL_one]
    by_cases h : x.label = 0
    · simp [h, ih]
    · by_cases h2 : x.label = n
      · have hn : n ≠ 0 := by rw [← h2]; exact h
        simp [hn, h2]
      · simp only [h, h2, if_false, ih, List.mem_append, List.mem_singleton]
        constructor
        · rintro (h3 | h3)
          · exact .inl (fun h4 => h4.elim (fun e => h2 e.symm) h3)
          · exact .inr h3
        · rintro (h3 | h3)
          · exact .inl (fun h4 => h3 (.inr h4))
          · exact .inr h3
theorem labs_zero (ls : List Ln) : labs ls 0 = none := (labs_none ls 0).2 (.inr rfl)
theorem labs_some {ls : List Ln} {n : Int} (h : n ∈ labL ls) : ∃ p, labs ls n = some p := by
  cases e : labs ls n with
  | some p => exact ⟨p, rfl⟩
  | none =>
    rcases (labs_none ls n).1 e with h1 | h1
    · exact absurd h h1
    · subst h1
      unfold labL at h
      obtain ⟨x, hx, e2⟩ := List.mem_map.1 h
      have := (List.mem_filter.1 hx).2
      simp at this
      exact absurd e2 this
theorem labs_le {ls : List Ln} {n : Int} {p : Nat} (h : labs ls n = some p) : p ≤ insN ls := by
  induction ls generalizing p with
  | nil => simp [labs] at h
  | cons x r ih =>
    have e : insN (x :: r) = insN [x] + insN r := insN_append [x] r
    rw [labs] at h
    rw [e, insN_one]
    by_cases h1 : x.label = 0
    · simp only [h1, if_true] at h ⊢
      cases e2 : labs r n with
      | none => rw [e2] at h; simp at h
      | some q =>
        rw [e2] at h
        simp at h
        have := ih e2
        omega
    · simp only [h1, if_false] at h ⊢
      by_cases h2 : x.label = n
      · simp [h2] at h; omega
      · simp only [h2, if_false] at h
        have := ih h
        omega
theorem labL_ne {ls : List Ln} {n : Int} (h : n ∈ labL ls) : n ≠ 0 := by
  unfold labL at h
  obtain ⟨x, hx, e2⟩ := List.mem_map.1 h
  have := (List.mem_filter.1 hx).2
  simp at this
  rw [← e2]; exact this
theorem labL_mem {ls : List Ln} {x : Ln} (hx : x ∈ ls) (hl : x.label ≠ 0) : x.label ∈ labL ls := List.mem_map.2 ⟨x, List.mem_filter.2 ⟨hx, by simp [hl]⟩, rfl⟩

/-- Why lines may not be; 0: they may. -/
def ErrIs (ls : List Ln) (e : Int) : Prop :=
  (262144 < ls.length ∧ e = 3) ∨ (ls.length ≤ 262144 ∧ (∃ x ∈ ls, x.ok = false) ∧ e = 1) ∨
  (ls.length ≤ 262144 ∧ (∀ x ∈ ls, x.ok = true) ∧ (¬ (labL ls).Nodup ∨ ∃ x ∈ ls, x.to ≠ 0 ∧ x.to ∉ labL ls) ∧ e = 60) ∨
  (ls.length ≤ 262144 ∧ (∀ x ∈ ls, x.ok = true) ∧ (labL ls).Nodup ∧ (∀ x ∈ ls, x.to ≠ 0 → x.to ∈ labL ls) ∧ e = 0)

theorem ErrIs.unique {ls : List Ln} {e e' : Int} (h : ErrIs ls e) (h' : ErrIs ls e') : e = e' := by
  rcases h with ⟨a1, rfl⟩ | ⟨a1, ⟨x, hx, ha⟩, rfl⟩ | ⟨a1, a2, a3, rfl⟩ | ⟨a1, a2, a3, a4, rfl⟩ <;>
    rcases h' with ⟨b1, rfl⟩ | ⟨b1, ⟨y, hy, hb⟩, rfl⟩ | ⟨b1, b2, b3, rfl⟩ | ⟨b1, b2, b3, b4, rfl⟩
  any_goals rfl
  any_goals omega
  · rw [b2 x hx] at ha; cases ha
  · rw [b2 x hx] at ha; cases ha
  · rw [a2 y hy] at hb; cases hb
  · rcases a3 with a3 | ⟨x, hx, h1, h2⟩
    · exact absurd b3 a3
    · exact absurd (b4 x hx h1) h2
  · rw [a2 y hy] at hb; cases hb
  · rcases b3 with b3 | ⟨x, hx, h1, h2⟩
    · exact absurd a3 b3
    · exact absurd (a4 x hx h1) h2
end Go.Proofs.Ytgnlplddppheiaa
