/- A token is read the same, whatever stands behind it that does not lengthen it: plain mathematics. -/
import Derived.Test.YtfnekmhhhjdeiaaCut
namespace Go.Proofs.Ytfnekmhhhjdeiaa
open Go.RowKit
set_option linter.unusedVariables false

/-- What may stand in E's place behind a token. -/
def Behind (E E' : List UInt8) : Prop := E' = [] ∨ (∃ c r, E' = c :: r ∧ blank c = true) ∨ (∃ c r r', E = c :: r ∧ E' = c :: r')
section
variable {E E' k : List UInt8}
theorem Behind.head (h : Behind E E') {p : UInt8 → Bool} (hp : p = isU ∨ p = nm) (he : headIs p E = false) : headIs p E' = false := by
  rcases h with rfl | ⟨c, r, rfl, hb⟩ | ⟨c, r, r', rfl, rfl⟩
  · rfl
  · rcases hp with rfl | rfl
    · exact blank_isU hb
    · exact blank_nm hb
  · exact he
theorem Behind.dig (h : Behind E E') {b : Nat} (hb : b ≤ 16) (v : Nat) (k : List UInt8) (he : (digG b v (k ++ E)).2 ≤ k.length) : digG b v (k ++ E') = digG b v (k ++ E) := by
  rcases h with rfl | ⟨c, r, rfl, hc⟩ | ⟨c, r, r', rfl, rfl⟩
  · rw [List.append_nil, dig_cut k v he]
  · rw [dig_ext hc hb, dig_cut k v he]
  · exact dig_same k v he
theorem Behind.isX (h : Behind E E') (hk : k.length = 1) (he : isX (k ++ E) = false) : isX (k ++ E') = false := by
  match k, hk with
  | [a], _ =>
    rcases h with rfl | ⟨c, r, rfl, hc⟩ | ⟨c, r, r', rfl, rfl⟩
    · rw [Bool.eq_false_iff]
      intro hx
      have := isX_len hx
      simp at this
    · rw [Bool.eq_false_iff]
      intro hx
      unfold Ytfnekmhhhjdeiaa.isX at hx
      simp at hx
      rcases blank_u8 hc with rfl | rfl | rfl | rfl <;> simp at hx
    · rw [← he]
      rfl
theorem numF_behind (h : Behind E E') (hk : k ≠ []) {t : Tok} (hr : numF (k ++ E) = some (t, k.length)) : numF (k ++ E') = some (t, k.length) :=
  numF_cut hk hr (fun h1 h2 => h.isX h1 h2) (fun b hb v k' he => h.dig hb v k' he) (fun p hp he => h.head hp he)

theorem tw_head : ∀ k : List UInt8, ((k ++ E).takeWhile nm).length = k.length → headIs nm E = false
  | [], h => by
    rw [List.nil_append] at h
    match E, h with
    | [], _ => rfl
    | c :: r, h =>
      cases hc : nm c
      · exact hc
      · rw [tw_yes hc] at h; simp at h
  | a :: t, h => by
    rw [List.cons_append] at h
    cases ha : nm a
    · rw [tw_no ha] at h; simp at h
    · rw [tw_yes ha] at h
      exact tw_head t (by simp at h; omega)
theorem tw_cut (he : headIs nm E' = false) : ∀ k : List UInt8, ((k ++ E).takeWhile nm).length = k.length → (k ++ E').takeWhile nm = (k ++ E).takeWhile nm
  | [], h => by
    rw [List.nil_append] at h ⊢
    rw [List.nil_append, List.eq_nil_of_length_eq_zero h]
    match E', he with
    | [], _ => rfl
    | c :: r, he => exact List.eq_nil_of_length_eq_zero (tw_no he)
  | a :: t, h => by
    rw [List.cons_append] at h ⊢
    cases ha : nm a
    · rw [tw_no ha] at h; simp at h
    · rw [tw_yes ha] at h
      rw [List.takeWhile_cons_of_pos ha, List.cons_append, List.takeWhile_cons_of_pos ha, tw_cut he t (by simp at h; omega)]
theorem nameF_behind (h : Behind E E') {t : Tok} (hr : nameF (k ++ E) = some (t, k.length)) : nameF (k ++ E') = some (t, k.length) := by
  unfold nameF at hr ⊢
  have hl : ((k ++ E).takeWhile nm).length = k.length := by
    simp only [Option.some.injEq, Prod.mk.injEq] at hr
    exact hr.2
  rw [tw_cut (h.head (.inr rfl) (tw_head k hl)) k hl]
  exact hr

theorem mark3_two : ∀ x ∈ marksL, x.length = 3 → isM (x.take 2) = true := by decide +kernel
theorem isM_len : ∀ x ∈ marksL, 1 ≤ x.length ∧ x.length ≤ 3 := by decide +kernel
theorem mark_spec {l : List UInt8} {t : Tok} {n : Nat} (h : markF l = some (t, n)) : t = ⟨4, l.take n, 0, false⟩ ∧ isM (l.take n) = true ∧ 1 ≤ n ∧ n ≤ 3 ∧ n ≤ l.length ∧ ∀ j, n < j → j ≤ 3 → isM (l.take j) = false ∨ l.length ≤ n := by
  have len : ∀ x, isM x = true → 1 ≤ x.length := fun x hx => (isM_len x (List.contains_iff_mem.1 hx)).1
  have tk : ∀ j, l.take (l.take j).length = l.take j := fun j => by
    rw [List.length_take]
    rcases Nat.le_total j l.length with h | h
    · rw [Nat.min_eq_left h]
    · rw [Nat.min_eq_right h, List.take_of_length_le (Nat.le_refl _), List.take_of_length_le h]
  unfold markF at h
  cases h3 : isM (l.take 3)
  · rw [h3, if_neg (by simp)] at h
    cases h2 : isM (l.take 2)
    · rw [h2, if_neg (by simp)] at h
      cases h1 : isM (l.take 1)
      · rw [h1, if_neg (by simp)] at h; cases h
      · rw [h1, if_pos rfl] at h
        simp only [Option.some.injEq, Prod.mk.injEq] at h
        obtain ⟨rfl, rfl⟩ := h
        have hl := len _ h1
        rw [tk]
        refine ⟨rfl, h1, hl, by rw [List.length_take]; omega, by rw [List.length_take]; omega, fun j hj hj3 => ?_⟩
        have : j = 2 ∨ j = 3 := by rw [List.length_take] at hj hl; omega
        rcases this with rfl | rfl
        · exact .inl h2
        · exact .inl h3
    · rw [h2, if_pos rfl] at h
      simp only [Option.some.injEq, Prod.mk.injEq] at h
      obtain ⟨rfl, rfl⟩ := h
      have hl := len _ h2
      rw [tk]
      refine ⟨rfl, h2, hl, by rw [List.length_take]; omega, by rw [List.length_take]; omega, fun j hj hj3 => ?_⟩
      by_cases h4 : l.length ≤ (l.take 2).length
      · exact .inr h4
      · have : j = 3 := by rw [List.length_take] at hj hl h4; omega
        subst this
        exact .inl h3
  · rw [h3, if_pos rfl] at h
    simp only [Option.some.injEq, Prod.mk.injEq] at h
    obtain ⟨rfl, rfl⟩ := h
    have hl := len _ h3
    rw [tk]
    refine ⟨rfl, h3, hl, by rw [List.length_take]; omega, by rw [List.length_take]; omega, fun j hj hj3 => ?_⟩
    exact .inr (by rw [List.length_take] at hj ⊢; omega)
theorem markF_behind (h : Behind E E') (hk : k ≠ []) {t : Tok} (hr : markF (k ++ E) = some (t, k.length)) : markF (k ++ E') = some (t, k.length) := by
  obtain ⟨rfl, h1, h2, h3, _, h5⟩ := mark_spec hr
  have tkk : ∀ F : List UInt8, (k ++ F).take k.length = k := fun F => by rw [take_ext (Nat.le_refl _), List.take_of_length_le (Nat.le_refl _)]
  rw [tkk] at h1 ⊢
  have := mark_some (l := k ++ E') (k := k.length) h2 h3 (by simp) (by rw [tkk]; exact h1) (fun j hj hj3 hjl => by
    rcases h with rfl | ⟨c, r, rfl, hc⟩ | ⟨c, r, r', rfl, rfl⟩
    · simp at hjl; omega
    · rw [Bool.eq_false_iff]
      intro hm
      have hmem : c ∈ (k ++ c :: r).take j := by
        rw [List.take_append]
        refine List.mem_append_right _ ?_
        rw [show j - k.length = (j - k.length - 1) + 1 by omega, List.take_succ_cons]
        exact List.mem_cons_self
      have := mark_noblank _ (by unfold isM at hm; exact List.contains_iff_mem.1 hm) c hmem
      rw [hc] at this
      cases this
    · have one : ∀ q : List UInt8, (k ++ c :: q).take (k.length + 1) = k ++ [c] := fun q => by rw [List.take_append, List.take_of_length_le (by omega)]; simp
      have hf : isM (k ++ [c]) = false := by
        rcases h5 (k.length + 1) (by omega) (by omega) with e | e
        · rw [one] at e; exact e
        · rw [List.length_append, List.length_cons] at e
          omega
      by_cases hj1 : j = k.length + 1
      · subst hj1; rw [one]; exact hf
      · have hk1 : k.length = 1 := by omega
        have hj3' : j = 3 := by omega
        subst hj3'
        rw [Bool.eq_false_iff]
        intro hm
        have hlen : ((k ++ c :: r').take 3).length = 3 := by rw [List.length_take]; omega
        have := mark3_two _ (List.contains_iff_mem.1 hm) hlen
        rw [List.take_take, show min 2 3 = k.length + 1 by omega, one, hf] at this
        cases this)
  rw [this, tkk]

theorem charF_behind (hk : k ≠ []) {t : Tok} (hr : charF (k ++ E) = some (t, k.length)) : charF (k ++ E') = some (t, k.length) := by
  have hpos : 1 ≤ k.length := by cases k with | nil => exact absurd rfl hk | cons a t => simp
  unfold charF at hr ⊢
  rw [drop_ext hpos] at hr ⊢
  cases hu : unitF 39 (k.drop 1 ++ E) with
  | none => rw [hu] at hr; cases hr
  | some p =>
    obtain ⟨b, n⟩ := p
    rw [hu] at hr
    dsimp only at hr
    by_cases hp : [39].isPrefixOf ((k ++ E).drop (1 + n)) = true
    · rw [if_pos hp] at hr
      simp only [Option.some.injEq, Prod.mk.injEq] at hr
      obtain ⟨rfl, hl⟩ := hr
      have hc := unit_cut hu (by rw [List.length_drop]; omega)
      rw [unit_ext hc]
      dsimp only
      have hp2 : [39].isPrefixOf (k.drop (1 + n)) = true := by
        rw [drop_ext (by omega)] at hp
        match hd : k.drop (1 + n) with
        | [] =>
          have := congrArg List.length hd
          rw [List.length_drop, List.length_nil] at this
          omega
        | x :: q => rw [hd] at hp; simpa using hp
      rw [drop_ext (by omega), if_pos (pre1_ext hp2), hl]
    · rw [if_neg hp] at hr; cases hr
theorem textF_behind (hk : k ≠ []) {t : Tok} (hr : textF (k ++ E) = some (t, k.length)) : textF (k ++ E') = some (t, k.length) := by
  have hpos : 1 ≤ k.length := by cases k with | nil => exact absurd rfl hk | cons a t => simp
  unfold textF at hr ⊢
  rw [drop_ext hpos] at hr ⊢
  by_cases hp : [34].isPrefixOf ((k ++ E).drop (1 + (units 34 (k.drop 1 ++ E)).2)) = true
  · rw [if_pos hp] at hr
    simp only [Option.some.injEq, Prod.mk.injEq] at hr
    obtain ⟨rfl, hl⟩ := hr
    have hp2 : [34].isPrefixOf ((k.drop 1 ++ E).drop (units 34 (k.drop 1 ++ E)).2) = true := by rw [← drop_ext hpos, List.drop_drop]; rw [drop_ext hpos]; exact hp
    have hc := units_cut _ (k.drop 1) (Nat.le_refl _) (by rw [List.length_drop]; omega) hp2
    rw [hc] at hl hp ⊢
    have hp3 : [34].isPrefixOf (k.drop (1 + (units 34 (k.drop 1)).2)) = true := by
      rw [drop_ext (by omega)] at hp
      match hd : k.drop (1 + (units 34 (k.drop 1)).2) with
      | [] =>
        have := congrArg List.length hd
        rw [List.length_drop, List.length_nil] at this
        omega
      | x :: q => rw [hd] at hp; simpa using hp
    have hx := units_ext (E := E') _ (k.drop 1) (Nat.le_refl _) (by rw [List.drop_drop]; exact hp3)
    rw [hx, drop_ext (by omega), if_pos (pre1_ext hp3), hl]
  · rw [if_neg hp] at hr; cases hr

theorem read_behind (h : Behind E E') (hk : k ≠ []) {t : Tok} (hr : readF (k ++ E) = some (t, k.length)) : readF (k ++ E') = some (t, k.length) := by
  match k, hk, hr with
  | a :: q, hk, hr =>
    have e : ∀ F : List UInt8, readF ((a :: q) ++ F) = if dig a then numF ((a :: q) ++ F) else if nm a then nameF ((a :: q) ++ F) else if a.toNat = 39 then charF ((a :: q) ++ F) else if a.toNat = 34 then textF ((a :: q) ++ F) else markF ((a :: q) ++ F) := fun F => rfl
    rw [e] at hr ⊢
    split
    · rename_i h1; rw [if_pos h1] at hr; exact numF_behind h hk hr
    · rename_i h1
      rw [if_neg h1] at hr
      split
      · rename_i h2; rw [if_pos h2] at hr; exact nameF_behind h hr
      · rename_i h2
        rw [if_neg h2] at hr
        split
        · rename_i h3; rw [if_pos h3] at hr; exact charF_behind hk hr
        · rename_i h3
          rw [if_neg h3] at hr
          split
          · rename_i h4; rw [if_pos h4] at hr; exact textF_behind hk hr
          · rename_i h4
            rw [if_neg h4] at hr
            exact markF_behind h hk hr
end
end Go.Proofs.Ytfnekmhhhjdeiaa
