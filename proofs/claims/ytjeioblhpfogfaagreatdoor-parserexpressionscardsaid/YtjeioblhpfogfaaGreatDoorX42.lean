/- The document's tokens: plain mathematics. -/
import Derived.Test.YtjeioblhpfogfaaGreatDoorX03
set_option linter.unusedVariables false
set_option linter.unusedSimpArgs false
set_option maxRecDepth 20000
set_option maxHeartbeats 8000000
namespace Go.Proofs.YtjeioblhpfogfaaGreatDoorLx
open Go.RowKit

/-- A quoted text's token, of either mark, by its units. -/
def quotF (mk : UInt8) (l : List UInt8) : Option (Tok × Nat) :=
  if [mk].isPrefixOf (l.drop (1 + (units mk (l.drop 1)).2)) = true then
    (if mk = 34 then some (⟨7, (units mk (l.drop 1)).1, 0, false⟩, (units mk (l.drop 1)).2 + 2)
     else if (units mk (l.drop 1)).1.length = 1 then some (⟨6, [], ((units mk (l.drop 1)).1.headD 0).toNat, false⟩, (units mk (l.drop 1)).2 + 2) else none)
  else none
theorem text_quot (l : List UInt8) : textF l = quotF 34 l := by
  unfold textF quotF
  simp only [if_pos]
theorem char_quot (l : List UInt8) : charF l = quotF 39 l := by
  unfold charF quotF
  rw [if_neg (show ¬ (39 : UInt8) = 34 by decide)]
  cases hu : unitF 39 (l.drop 1) with
  | none =>
    rw [units_none hu]
    simp
  | some p =>
    obtain ⟨b, n⟩ := p
    rw [units_some hu, List.drop_drop]
    dsimp only
    cases hv : unitF 39 (l.drop (1 + n)) with
    | none =>
      rw [units_none hv]
      simp
    | some q =>
      obtain ⟨c, m⟩ := q
      have h1 : [39].isPrefixOf (l.drop (1 + n)) = false := by
        rw [Bool.eq_false_iff]
        intro h
        match hl : l.drop (1 + n), h, hv with
        | x :: r, h, hv =>
          have : (39 : UInt8) = x := by simp at h; exact h
          subst this
          simp [unitF] at hv
      rw [units_some hv, h1]
      simp
/-- Marks, the first of the list that stands there. -/
theorem marks_len : ∀ i k : Fin 43, (marksL.getD k.val []).length < (marksL.getD i.val []).length → i.val < k.val := by decide +kernel
theorem marks_le : ∀ k : Fin 43, 1 ≤ (marksL.getD k.val []).length ∧ (marksL.getD k.val []).length ≤ 3 := by decide +kernel
theorem marks_mem : ∀ k : Fin 43, isM (marksL.getD k.val []) = true := by decide +kernel
theorem marks_at {x : List UInt8} (h : isM x = true) : ∃ i, i < 43 ∧ marksL.getD i [] = x := by
  have hm : x ∈ marksL := List.contains_iff_mem.1 h
  obtain ⟨i, hi, e⟩ := List.getElem_of_mem hm
  exact ⟨i, hi, by rw [List.getD_eq_getElem?_getD, List.getElem?_eq_getElem hi]; exact e⟩
theorem find_some {l : List UInt8} {k : Nat} (hk : k < 43) (h : (marksL.getD k []).isPrefixOf l = true) (hn : ∀ j, j < k → (marksL.getD j []).isPrefixOf l = false) :
    markF l = some (⟨4, marksL.getD k [], 0, false⟩, (marksL.getD k []).length) := by
  have hl := (List.isPrefixOf_iff_prefix.1 h).length_le
  have ht : l.take (marksL.getD k []).length = marksL.getD k [] := (List.prefix_iff_eq_take.1 (List.isPrefixOf_iff_prefix.1 h)).symm
  have hle := marks_le ⟨k, hk⟩
  have := mark_some (l := l) (k := (marksL.getD k []).length) hle.1 hle.2 hl (by rw [ht]; exact marks_mem ⟨k, hk⟩) (fun j h1 h2 h3 => by
    rw [Bool.eq_false_iff]
    intro hm
    obtain ⟨i, hi, e⟩ := marks_at hm
    have hlen : (marksL.getD i []).length = j := by rw [e, List.length_take]; omega
    have := marks_len ⟨i, hi⟩ ⟨k, hk⟩ (by show (marksL.getD k []).length < (marksL.getD i []).length; omega)
    have h4 := hn i this
    rw [e, Bool.eq_false_iff] at h4
    exact h4 (List.isPrefixOf_iff_prefix.2 (List.take_prefix _ _)))
  rw [ht] at this
  exact this
theorem find_none {l : List UInt8} (h0 : 1 ≤ l.length) (hn : ∀ j, j < 43 → (marksL.getD j []).isPrefixOf l = false) : markF l = none :=
  mark_none h0 (fun j h1 h2 h3 => by
    rw [Bool.eq_false_iff]
    intro hm
    obtain ⟨i, hi, e⟩ := marks_at hm
    have h4 := hn i hi
    rw [e, Bool.eq_false_iff] at h4
    exact h4 (List.isPrefixOf_iff_prefix.2 (List.take_prefix _ _)))
end Go.Proofs.YtjeioblhpfogfaaGreatDoorLx
