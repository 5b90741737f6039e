/- Two sources with a newline between: plain mathematics. -/
import Derived.Test.YtfnekmhhhjdeiaaAllP
import Derived.Lib.IndexLaws
namespace Go.Proofs.Ytfnekmhhhjdeiaa
open Go.RowKit
set_option linter.unusedVariables false

theorem blank_of {c : UInt8} (h : blank c = true) : c.toNat = 32 ∨ c.toNat = 9 ∨ c.toNat = 10 ∨ c.toNat = 13 := by
  simp [blank] at h; omega
theorem blank_u8 {c : UInt8} (h : blank c = true) : c = 32 ∨ c = 9 ∨ c = 10 ∨ c = 13 := by
  rcases blank_of h with e | e | e | e
  · exact .inl (UInt8.toNat_inj.1 e)
  · exact .inr (.inl (UInt8.toNat_inj.1 e))
  · exact .inr (.inr (.inl (UInt8.toNat_inj.1 e)))
  · exact .inr (.inr (.inr (UInt8.toNat_inj.1 e)))
theorem blank_nm {c : UInt8} (h : blank c = true) : nm c = false := by rcases blank_u8 h with rfl | rfl | rfl | rfl <;> decide
theorem blank_hex {c : UInt8} (h : blank c = true) : hexv c = 16 := by rcases blank_u8 h with rfl | rfl | rfl | rfl <;> decide
theorem blank_isU {c : UInt8} (h : blank c = true) : isU c = false := by rcases blank_u8 h with rfl | rfl | rfl | rfl <;> decide
theorem mark_noblank : ∀ x ∈ marksL, ∀ b ∈ x, blank b = false := by decide +kernel

theorem drop_ext {l E : List UInt8} {n : Nat} (h : n ≤ l.length) : (l ++ E).drop n = l.drop n ++ E := List.drop_append_of_le_length h
theorem take_ext {l E : List UInt8} {n : Nat} (h : n ≤ l.length) : (l ++ E).take n = l.take n := List.take_append_of_le_length h
theorem tw_ext {p : UInt8 → Bool} {c : UInt8} {r : List UInt8} (h : p c = false) : ∀ l : List UInt8, (l ++ c :: r).takeWhile p = l.takeWhile p
  | [] => by rw [List.nil_append, List.takeWhile_cons_of_neg (by rw [h]; simp)]; rfl
  | a :: l => by
    rw [List.cons_append]
    cases ha : p a
    · rw [List.takeWhile_cons_of_neg (by rw [ha]; simp), List.takeWhile_cons_of_neg (by rw [ha]; simp)]
    · rw [List.takeWhile_cons_of_pos ha, List.takeWhile_cons_of_pos ha, tw_ext h l]
theorem pre2_ext {x y c : UInt8} {r : List UInt8} (hy : y ≠ c) : ∀ {l : List UInt8}, l ≠ [] → [x, y].isPrefixOf (l ++ c :: r) = [x, y].isPrefixOf l
  | [], h => absurd rfl h
  | [a], _ => by simp [List.isPrefixOf, hy]
  | a :: b :: t, _ => by simp [List.isPrefixOf]
theorem pre2_long {x y : UInt8} {E : List UInt8} : ∀ {l : List UInt8}, 2 ≤ l.length → [x, y].isPrefixOf (l ++ E) = [x, y].isPrefixOf l
  | [], h => by simp at h
  | [a], h => by simp at h
  | a :: b :: t, _ => by simp [List.isPrefixOf]
theorem pre1_ext {x : UInt8} {l E : List UInt8} (h : [x].isPrefixOf l = true) : [x].isPrefixOf (l ++ E) = true := by
  match l, h with
  | a :: t, h => simpa [List.isPrefixOf] using h

theorem headIs_ext {c : UInt8} {r : List UInt8} {p : UInt8 → Bool} (hp : p c = false) {l : List UInt8} {n : Nat} (hn : n ≤ l.length) : headIs p ((l ++ c :: r).drop n) = headIs p (l.drop n) := by
  rw [drop_ext hn]
  cases l.drop n with
  | nil => exact hp
  | cons a t => rfl
section
variable {c : UInt8} {r : List UInt8} (hc : blank c = true)
include hc
theorem dig_ext {base : Nat} (hb : base ≤ 16) : ∀ (v : Nat) (l : List UInt8), digG base v (l ++ c :: r) = digG base v l
  | v, [] => by
    rw [List.nil_append]
    conv => lhs; unfold digG
    rw [if_neg (by rw [blank_hex hc]; omega)]
    rfl
  | v, a :: l => by
    rw [List.cons_append]
    conv => lhs; unfold digG
    conv => rhs; unfold digG
    rw [dig_ext hb _ l]
theorem numEnd_ext {v n : Nat} {l : List UInt8} (hn : n ≤ l.length) : numEnd v n (l ++ c :: r) = numEnd v n l := by
  unfold numEnd
  rw [headIs_ext (blank_isU hc) hn]
  dsimp only
  by_cases hu : headIs isU (l.drop n) = true
  · have : n < l.length := by
      rcases Nat.lt_or_ge n l.length with h | h
      · exact h
      · rw [List.drop_eq_nil_of_le h] at hu; cases hu
    rw [if_pos hu, headIs_ext (blank_nm hc) (show n + 1 ≤ l.length by omega)]
  · rw [if_neg hu, headIs_ext (blank_nm hc) hn]
theorem numAt_ext {b f : Nat} (hb : b ≤ 16) {l : List UInt8} (hf : f ≤ l.length) (hl : l ≠ []) : numAt b f (l ++ c :: r) = numAt b f l := by
  unfold numAt
  have h0 : headIs (fun c => decide (c.toNat = 48)) (l ++ c :: r) = headIs (fun c => decide (c.toNat = 48)) l := by
    cases l with
    | nil => exact absurd rfl hl
    | cons a t => rfl
  rw [drop_ext hf, dig_ext hc hb, h0]
  dsimp only
  split
  · rfl
  · have h1 := digG_le b 0 (l.drop f)
    rw [List.length_drop] at h1
    exact numEnd_ext hc (by omega)
theorem numF_ext {l : List UInt8} (hl : l ≠ []) : numF (l ++ c :: r) = numF l := by
  have n1 : (120 : UInt8) ≠ c := by rcases blank_u8 hc with rfl | rfl | rfl | rfl <;> decide
  have n2 : (88 : UInt8) ≠ c := by rcases blank_u8 hc with rfl | rfl | rfl | rfl <;> decide
  have hx : isX (l ++ c :: r) = isX l := by unfold isX; rw [pre2_ext n1 hl, pre2_ext n2 hl]
  unfold numF
  rw [hx]
  by_cases h : isX l = true
  · rw [if_pos h, if_pos h]
    have h2 : 2 ≤ l.length := by
      unfold isX at h
      rw [Bool.or_eq_true] at h
      rcases h with h3 | h3
      · exact (List.isPrefixOf_iff_prefix.1 h3).length_le
      · exact (List.isPrefixOf_iff_prefix.1 h3).length_le
    exact numAt_ext hc (by omega) h2 hl
  · rw [if_neg h, if_neg h]
    exact numAt_ext hc (by omega) (Nat.zero_le _) hl
theorem markF_ext {l : List UInt8} {x : Tok × Nat} (hl : l ≠ []) (h : markF l = some x) : markF (l ++ c :: r) = some x := by
  have hpos : 1 ≤ l.length := by cases l with | nil => exact absurd rfl hl | cons a t => simp
  have far : ∀ j, l.length < j → isM ((l ++ c :: r).take j) = false := by
    intro j hj
    rw [Bool.eq_false_iff]
    intro hm
    have hmem : c ∈ (l ++ c :: r).take j := by
      rw [List.take_append]
      refine List.mem_append_right _ ?_
      rw [show j - l.length = (j - l.length - 1) + 1 by omega, List.take_succ_cons]
      exact List.mem_cons_self
    have := mark_noblank _ (by unfold isM at hm; exact List.contains_iff_mem.1 hm) c hmem
    rw [hc] at this
    cases this
  have go : ∀ k, 1 ≤ k → k ≤ 3 → k ≤ l.length → isM (l.take k) = true → (∀ j, k < j → j ≤ 3 → j ≤ l.length → isM (l.take j) = false) → markF (l ++ c :: r) = some x := by
    intro k h1 h3 hk hm hn
    have e := mark_some h1 h3 hk hm hn
    rw [h] at e
    have e2 := mark_some (l := l ++ c :: r) h1 h3 (by simp; omega) (by rw [take_ext hk]; exact hm) (fun j a b d => by
      by_cases hj : j ≤ l.length
      · rw [take_ext hj]; exact hn j a b hj
      · exact far j (by omega))
    rw [e2, take_ext hk, e]
  by_cases h3 : 3 ≤ l.length ∧ isM (l.take 3) = true
  · exact go 3 (by omega) (by omega) h3.1 h3.2 (fun j a b d => by omega)
  · have f3 : 3 ≤ l.length → isM (l.take 3) = false := fun a => by
      cases e : isM (l.take 3)
      · rfl
      · exact absurd ⟨a, e⟩ h3
    by_cases h2 : 2 ≤ l.length ∧ isM (l.take 2) = true
    · exact go 2 (by omega) (by omega) h2.1 h2.2 (fun j a b d => by
        obtain rfl : j = 3 := by omega
        exact f3 d)
    · have f2 : 2 ≤ l.length → isM (l.take 2) = false := fun a => by
        cases e : isM (l.take 2)
        · rfl
        · exact absurd ⟨a, e⟩ h2
      cases e1 : isM (l.take 1)
      · have := mark_none hpos (fun j a b d => by
          have : j = 1 ∨ j = 2 ∨ j = 3 := by omega
          rcases this with rfl | rfl | rfl
          · exact e1
          · exact f2 d
          · exact f3 d)
        rw [h] at this
        cases this
      · exact go 1 (by omega) (by omega) hpos e1 (fun j a b d => by
          have : j = 2 ∨ j = 3 := by omega
          rcases this with rfl | rfl
          · exact f2 d
          · exact f3 d)
end

theorem esc_ext {l E : List UInt8} {p : UInt8 × Nat} (h : escF l = some p) : escF (l ++ E) = some p := by
  match l with
  | [] => simp [escF] at h
  | [d] =>
    simp only [escF] at h
    show escF (d :: E) = some p
    simp only [escF]
    repeat' split at h
    all_goals simp_all
  | [d, e] =>
    simp only [escF] at h
    show escF (d :: e :: E) = some p
    simp only [escF]
    repeat' split at h
    all_goals simp_all
  | d :: e :: f :: q => exact h
theorem unit_ext {mk : UInt8} {l E : List UInt8} {p : UInt8 × Nat} (h : unitF mk l = some p) : unitF mk (l ++ E) = some p := by
  match l with
  | [] => simp [unitF] at h
  | c :: r =>
    show unitF mk (c :: (r ++ E)) = some p
    simp only [unitF] at h ⊢
    split
    · rename_i h1; rw [if_pos h1] at h; exact h
    · rename_i h1
      rw [if_neg h1] at h
      split
      · rename_i h2; rw [if_pos h2] at h; exact esc_ext h
      · rename_i h2; rw [if_neg h2] at h; exact h
theorem unit_mark {mk : UInt8} {E : List UInt8} : unitF mk (mk :: E) = none := by simp [unitF]
theorem units_ext {mk : UInt8} {E : List UInt8} : ∀ (N : Nat) (l : List UInt8), l.length ≤ N → [mk].isPrefixOf (l.drop (units mk l).2) = true → units mk (l ++ E) = units mk l
  | N, l, hN, hp => by
    cases hu : unitF mk l with
    | none =>
      rw [units_none hu] at hp ⊢
      rw [List.drop_zero] at hp
      match l, hp with
      | a :: t, hp =>
        have : mk = a := by simpa [List.isPrefixOf] using hp
        subst this
        exact units_none unit_mark
    | some p =>
      obtain ⟨b, n⟩ := p
      have hn := unitF_len hu
      match N, hN with
      | 0, hN => omega
      | N + 1, hN =>
        rw [units_some hu] at hp ⊢
        rw [units_some (unit_ext hu), drop_ext hn.2]
        have hp2 : [mk].isPrefixOf ((l.drop n).drop (units mk (l.drop n)).2) = true := by rw [List.drop_drop]; exact hp
        rw [units_ext N (l.drop n) (by rw [List.length_drop]; omega) hp2]

theorem read_ext {c : UInt8} {r l : List UInt8} (hc : blank c = true) {x : Tok × Nat} (hl : l ≠ []) (h : readF l = some x) : readF (l ++ c :: r) = some x := by
  match l, hl, h with
  | a :: t, hl, h =>
    have hlen : 1 ≤ (a :: t).length := by simp
    show readF (a :: (t ++ c :: r)) = some x
    simp only [readF] at h ⊢
    rw [← List.cons_append]
    split
    · rename_i h1; rw [if_pos h1] at h; rw [numF_ext hc hl]; exact h
    · rename_i h1
      rw [if_neg h1] at h
      split
      · rename_i h2; rw [if_pos h2] at h; unfold nameF at h ⊢; rw [tw_ext (blank_nm hc)]; exact h
      · rename_i h2
        rw [if_neg h2] at h
        split
        · rename_i h3
          rw [if_pos h3] at h
          unfold charF at h ⊢
          rw [drop_ext hlen]
          cases hu : unitF 39 ((a :: t).drop 1) with
          | none => rw [hu] at h; cases h
          | some p =>
            obtain ⟨b, n⟩ := p
            rw [hu] at h
            rw [unit_ext hu]
            have hn := unitF_len hu
            rw [List.length_drop] at hn
            dsimp only at h ⊢
            by_cases hp : [39].isPrefixOf ((a :: t).drop (1 + n)) = true
            · rw [if_pos hp] at h
              rw [drop_ext (by omega), if_pos (pre1_ext hp)]; exact h
            · rw [if_neg hp] at h; cases h
        · rename_i h3
          rw [if_neg h3] at h
          split
          · rename_i h4
            rw [if_pos h4] at h
            unfold textF at h ⊢
            by_cases hp : [34].isPrefixOf ((a :: t).drop (1 + (units 34 ((a :: t).drop 1)).2)) = true
            · rw [if_pos hp] at h
              have hp2 : [34].isPrefixOf (((a :: t).drop 1).drop (units 34 ((a :: t).drop 1)).2) = true := by rw [List.drop_drop]; exact hp
              have hu := units_ext (E := c :: r) _ ((a :: t).drop 1) (Nat.le_refl _) hp2
              have hul := (units_len 34 ((a :: t).drop 1)).1
              rw [List.length_drop] at hul
              rw [drop_ext hlen, hu, drop_ext (by omega), if_pos (pre1_ext hp)]; exact h
            · rw [if_neg hp] at h; cases h
          · rename_i h4
            rw [if_neg h4] at h
            exact markF_ext hc hl h

theorem index_ext {s E : List UInt8} {x y : UInt8} (h : 0 ≤ Lib.index s [x, y]) : Lib.index (s ++ E) [x, y] = Lib.index s [x, y] := by
  have hr := Lib.index_room s [x, y] h
  rcases Lib.index_spec s [x, y] with ⟨e, _⟩ | ⟨i, e, hi, ho, hn⟩
  · omega
  · rw [e]
    rw [e] at hr
    simp only [List.length_cons, List.length_nil] at hr
    refine Lib.index_hit (fun j hj => ?_) (by simp; omega) ?_
    · unfold Lib.occAt
      rw [drop_ext (by omega), pre2_long (by rw [List.length_drop]; omega)]
      exact hn j hj
    · unfold Lib.occAt
      rw [drop_ext hi, pre2_long (by rw [List.length_drop]; omega)]
      exact ho

theorem step_ext {l B : List UInt8} {x : Option Nat} (hl : l ≠ []) (h : gapStep l = some x) : gapStep (l ++ 10 :: B) = some x := by
  match l, hl, h with
  | a :: t, hl, h =>
    have e1 := pre2_ext (x := 47) (y := 47) (c := 10) (r := B) (by decide) hl
    have e2 := pre2_ext (x := 47) (y := 42) (c := 10) (r := B) (by decide) hl
    cases hb : blank a
    · cases h1 : [47, 47].isPrefixOf (a :: t)
      · cases h2 : [47, 42].isPrefixOf (a :: t)
        · rw [step_here rfl hb h1 h2] at h
          rw [← h]
          exact step_here (l := (a :: t) ++ 10 :: B) rfl hb (by rw [e1]; exact h1) (by rw [e2]; exact h2)
        · have h2l : 2 ≤ (a :: t).length := (List.isPrefixOf_iff_prefix.1 h2).length_le
          by_cases h3 : Lib.index ((a :: t).drop 2) [42, 47] < 0
          · rw [step_open rfl hb h1 h2 h3] at h; cases h
          · have hi := index_ext (s := (a :: t).drop 2) (E := 10 :: B) (x := 42) (y := 47) (by omega)
            rw [step_shut rfl hb h1 h2 h3] at h
            rw [step_shut (l := (a :: t) ++ 10 :: B) rfl hb (by rw [e1]; exact h1) (by rw [e2]; exact h2) (by rw [drop_ext h2l, hi]; exact h3), drop_ext h2l, hi]
            exact h
      · rw [step_line rfl hb h1] at h
        rw [step_line (l := (a :: t) ++ 10 :: B) rfl hb (by rw [e1]; exact h1), ← h]
        unfold lineN
        rw [tw_ext (by decide)]
    · rw [step_blank rfl hb] at h
      rw [← h]
      exact step_blank (l := (a :: t) ++ 10 :: B) rfl hb

theorem gap_ext {B : List UInt8} : ∀ (N : Nat) (l : List UInt8) (g : Nat), l.length ≤ N → gap l = (g, true) →
    (g < l.length → gap (l ++ 10 :: B) = (g, true)) ∧ (g = l.length → gap (l ++ 10 :: B) = (g + 1 + (gap B).1, (gap B).2))
  | N, [], g, hN, h => by
    have hg : g = 0 := by
      have : gap [] = (0, true) := rfl
      rw [this] at h
      exact (Prod.mk.inj h).1.symm
    subst hg
    refine ⟨fun h => absurd h (Nat.lt_irrefl _), fun _ => ?_⟩
    rw [List.nil_append, gap_more (step_blank (l := 10 :: B) rfl (by decide))]
    rfl
  | 0, a :: t, g, hN, h => by simp at hN
  | N + 1, a :: t, g, hN, h => by
    have hl : (a :: t) ≠ [] := by simp
    match hs : gapStep (a :: t) with
    | none => rw [gap_bad hs] at h; cases h
    | some none =>
      rw [gap_here hs] at h
      have hg : g = 0 := (Prod.mk.inj h).1.symm
      subst hg
      exact ⟨fun _ => gap_here (step_ext hl hs), fun e => by simp at e⟩
    | some (some n) =>
      have hn := gapStep_len hs
      rw [gap_more hs] at h
      obtain ⟨h1, h2⟩ := Prod.mk.inj h
      have ih := gap_ext (B := B) N ((a :: t).drop n) (gap ((a :: t).drop n)).1 (by rw [List.length_drop]; simp at hN ⊢; omega) (by rw [← h2])
      rw [List.length_drop] at ih
      rw [gap_more (step_ext hl hs), drop_ext hn.2]
      refine ⟨fun hlt => ?_, fun he => ?_⟩
      · rw [ih.1 (by omega)]
        simp only [Prod.mk.injEq, and_true]
        omega
      · rw [ih.2 (by omega)]
        simp only [Prod.mk.injEq, and_true]
        omega

theorem next_ext {l B : List UInt8} {t : Tok} {a b : Nat} (h : nextF l = .ok (t, a, b)) (ht : ¬ t.kind = 1) : nextF (l ++ 10 :: B) = .ok (t, a, b) := by
  obtain ⟨hg, hab, hb, hk1, hkl, hlt, hke, hr⟩ := next_ok h
  have ha : a < l.length := by
    rcases Nat.lt_or_ge a l.length with x | x
    · exact x
    · exact absurd (hkl.2 (by omega)) ht
  have hne : l.drop a ≠ [] := fun e => by
    have := congrArg List.length e
    rw [List.length_drop] at this
    simp at this
    omega
  have := next_some ((gap_ext (B := B) _ l a (Nat.le_refl _) hg).1 ha) (t := t) (n := b - a) (by rw [drop_ext (by omega)]; exact read_ext (by decide) hne hr)
  rw [this, show a + (b - a) = b by omega]
theorem next_over {l B : List UInt8} {t u : Tok} {a b x y : Nat} (h : nextF l = .ok (t, a, b)) (ht : t.kind = 1) (hB : nextF B = .ok (u, x, y)) : a = l.length ∧ nextF (l ++ 10 :: B) = .ok (u, l.length + 1 + x, l.length + 1 + y) := by
  obtain ⟨hg, hab, hb, hk1, hkl, hlt, hke, hr⟩ := next_ok h
  obtain ⟨hg2, hab2, hb2, _, _, _, _, hr2⟩ := next_ok hB
  have ha := hkl.1 ht
  have e := (gap_ext (B := B) _ l a (Nat.le_refl _) hg).2 ha
  rw [hg2] at e
  refine ⟨ha, ?_⟩
  have hd : (l ++ 10 :: B).drop (a + 1 + x) = B.drop x := by
    rw [ha, Nat.add_assoc, ← List.drop_drop, List.drop_left, Nat.add_comm, List.drop_succ_cons]
  have := next_some e (t := u) (n := y - x) (by rw [hd]; exact hr2)
  rw [this, ha, show l.length + 1 + x + (y - x) = l.length + 1 + y by omega]

def shiftT (d : Nat) (x : TT) : TT := (x.1, x.2.1 + d, x.2.2 + d)
theorem all_shift {A B : List UInt8} : ∀ (N j : Nat) (m : List TT), j ≤ B.length → B.length - j ≤ N → allAt B j = .ok m → allAt (A ++ 10 :: B) (A.length + 1 + j) = .ok (m.map (shiftT (A.length + 1)))
  | N, j, m, hj, hN, h => by
    have hd : (A ++ 10 :: B).drop (A.length + 1 + j) = B.drop j := by
      rw [Nat.add_assoc, ← List.drop_drop, List.drop_left, Nat.add_comm, List.drop_succ_cons]
    have hl : A.length + 1 + j ≤ (A ++ 10 :: B).length := by simp; omega
    match hn : nextF (B.drop j) with
    | .error p => rw [allAt_err hj hn] at h; cases h
    | .ok (t, a, b) =>
      by_cases ht : t.kind = 1
      · rw [allAt_end hj hn ht] at h
        rw [allAt_end hl (by rw [hd]; exact hn) ht, ← Except.ok.inj h]
        simp only [List.map_cons, List.map_nil, shiftT]
        rw [show A.length + 1 + j + a = j + a + (A.length + 1) by omega, show A.length + 1 + j + b = j + b + (A.length + 1) by omega]
      · rw [allAt_more hj hn ht] at h
        have hok := next_ok hn
        rw [List.length_drop] at hok
        have h2 := hok.2.2.2.2.2.1 ht
        match hr : allAt B (j + b) with
        | .error e => rw [hr] at h; cases h
        | .ok m' =>
          rw [hr] at h
          have hm : [(t, j + a, j + b)] ++ m' = m := Except.ok.inj h
          match N with
          | 0 => omega
          | N + 1 =>
            have ih := all_shift (A := A) N (j + b) m' (by omega) (by omega) hr
            rw [allAt_more hl (by rw [hd]; exact hn) ht, show A.length + 1 + j + b = A.length + 1 + (j + b) by omega, ih, ← hm]
            simp only [prep, List.map_append, List.map_cons, List.map_nil, shiftT]
            rw [show A.length + 1 + j + a = j + a + (A.length + 1) by omega, show A.length + 1 + (j + b) = j + b + (A.length + 1) by omega]
theorem all_join {A B : List UInt8} {m : List TT} (hB : allF B = .ok m) : ∀ (N k : Nat) (l : List TT), k ≤ A.length → A.length - k ≤ N → allAt A k = .ok l → allAt (A ++ 10 :: B) k = .ok (l.dropLast ++ m.map (shiftT (A.length + 1)))
  | N, k, l, hk, hN, h => by
    have hl : k ≤ (A ++ 10 :: B).length := by simp; omega
    have hd : (A ++ 10 :: B).drop k = A.drop k ++ 10 :: B := drop_ext hk
    match hn : nextF (A.drop k) with
    | .error p => rw [allAt_err hk hn] at h; cases h
    | .ok (t, a, b) =>
      have hok := next_ok hn
      rw [List.length_drop] at hok
      by_cases ht : t.kind = 1
      · rw [allAt_end hk hn ht] at h
        rw [← Except.ok.inj h]
        have hdl : [(t, k + a, k + b)].dropLast = [] := rfl
        rw [hdl, List.nil_append]
        unfold allF at hB
        match hnB : nextF (B.drop 0) with
        | .error p => rw [allAt_err (Nat.zero_le _) hnB] at hB; cases hB
        | .ok (u, x, y) =>
          obtain ⟨ha, hov⟩ := next_over hn ht (by rw [List.drop_zero] at hnB; exact hnB)
          rw [List.length_drop] at ha hov
          rw [← hd] at hov
          by_cases hu : u.kind = 1
          · rw [allAt_end (Nat.zero_le _) hnB hu] at hB
            rw [allAt_end hl hov hu, ← Except.ok.inj hB]
            simp only [List.map_cons, List.map_nil, shiftT]
            rw [show k + (A.length - k + 1 + x) = 0 + x + (A.length + 1) by omega, show k + (A.length - k + 1 + y) = 0 + y + (A.length + 1) by omega]
          · rw [allAt_more (Nat.zero_le _) hnB hu] at hB
            have hokB := next_ok hnB
            rw [List.length_drop] at hokB
            match hr : allAt B (0 + y) with
            | .error e => rw [hr] at hB; cases hB
            | .ok m' =>
              rw [hr] at hB
              have hm : [(u, 0 + x, 0 + y)] ++ m' = m := Except.ok.inj hB
              have ih := all_shift (A := A) _ (0 + y) m' (by omega) (Nat.le_refl _) hr
              rw [allAt_more hl hov hu, show k + (A.length - k + 1 + y) = A.length + 1 + (0 + y) by omega, ih, ← hm]
              simp only [prep, List.map_append, List.map_cons, List.map_nil, shiftT]
              rw [show k + (A.length - k + 1 + x) = 0 + x + (A.length + 1) by omega, show A.length + 1 + (0 + y) = 0 + y + (A.length + 1) by omega]
      · rw [allAt_more hk hn ht] at h
        have h2 := hok.2.2.2.2.2.1 ht
        match hr : allAt A (k + b) with
        | .error e => rw [hr] at h; cases h
        | .ok l' =>
          rw [hr] at h
          have hm : [(t, k + a, k + b)] ++ l' = l := Except.ok.inj h
          match N with
          | 0 => omega
          | N + 1 =>
            have ih := all_join hB N (k + b) l' (by omega) (by omega) hr
            have hne : l' ≠ [] := by
              intro e
              subst e
              unfold allAt at hr
              rw [show A.length + 1 - (k + b) = A.length - (k + b) + 1 by omega] at hr
              unfold allG at hr
              split at hr
              · cases hr
              · split at hr
                · cases hr
                · split at hr <;> cases hr
            rw [allAt_more hl (by rw [hd]; exact next_ext hn ht) ht, ih, ← hm]
            simp only [prep]
            rw [show [(t, k + a, k + b)] ++ l' = (t, k + a, k + b) :: l' from rfl, List.dropLast_cons_of_ne_nil hne]
            rfl
end Go.Proofs.Ytfnekmhhhjdeiaa
