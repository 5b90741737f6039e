/- More blanks ahead of tokens: plain mathematics. -/
import Derived.Test.YtfnekmhhhjdeiaaCut2
import Derived.Test.YtfnekmhhhjdeiaaRGap
namespace Go.Proofs.Ytfnekmhhhjdeiaa
open Go.RowKit
set_option linter.unusedVariables false

theorem mem_tw {p : UInt8 → Bool} {x : UInt8} : ∀ l : List UInt8, x ∈ l.takeWhile p → p x = true
  | [], h => by simp at h
  | a :: t, h => by
    cases ha : p a
    · rw [List.takeWhile_cons_of_neg (by rw [ha]; simp)] at h; simp at h
    · rw [List.takeWhile_cons_of_pos ha] at h
      rcases List.mem_cons.1 h with rfl | h
      · exact ha
      · exact mem_tw t h
theorem index_cut {s E : List UInt8} {x y : UInt8} {j : Nat} (h : Lib.index (s ++ E) [x, y] = (j : Nat)) (hr : j + 2 ≤ s.length) : Lib.index s [x, y] = (j : Nat) := by
  rcases Lib.index_spec (s ++ E) [x, y] with ⟨e, _⟩ | ⟨i, e, hi, ho, hn⟩
  · omega
  · have : i = j := by rw [e] at h; omega
    subst this
    refine Lib.index_hit (fun q hq => ?_) (by omega) ?_
    · have := hn q hq
      unfold Lib.occAt at this ⊢
      rw [drop_ext (by omega), pre2_long (by rw [List.length_drop]; omega)] at this
      exact this
    · unfold Lib.occAt at ho ⊢
      rw [drop_ext (by omega), pre2_long (by rw [List.length_drop]; omega)] at ho
      exact ho
theorem line_cut {p : UInt8 → Bool} {Y Z : List UInt8} : ∀ g : List UInt8, ((g ++ Y).takeWhile p).length < g.length → (g ++ Z).takeWhile p = (g ++ Y).takeWhile p
  | [], h => by simp at h
  | a :: t, h => by
    rw [List.cons_append] at h ⊢
    rw [List.cons_append]
    cases ha : p a
    · rw [List.takeWhile_cons_of_neg (by rw [ha]; simp), List.takeWhile_cons_of_neg (by rw [ha]; simp)]
    · rw [List.takeWhile_cons_of_pos ha] at h ⊢
      rw [List.takeWhile_cons_of_pos ha, line_cut t (by simpa using h)]
theorem line_all {p : UInt8 → Bool} {y : UInt8} {q : List UInt8} : ∀ g : List UInt8, ((g ++ y :: q).takeWhile p).length = g.length → p y = false
  | [], h => by
    rw [List.nil_append] at h
    cases hy : p y
    · rfl
    · rw [List.takeWhile_cons_of_pos hy] at h; simp at h
  | a :: t, h => by
    rw [List.cons_append] at h
    cases ha : p a
    · rw [List.takeWhile_cons_of_neg (by rw [ha]; simp)] at h; simp at h
    · rw [List.takeWhile_cons_of_pos ha] at h
      exact line_all t (by simpa using h)
theorem lineN_two {l : List UInt8} (h : [47, 47].isPrefixOf l = true) : 2 ≤ lineN l := by
  match l, h with
  | a :: b :: r, h =>
    have : (47 : UInt8) = a ∧ (47 : UInt8) = b := by simpa using h
    obtain ⟨rfl, rfl⟩ := this
    rw [lineN_ne (by decide), lineN_ne (by decide)]
    omega
  | [a], h => simp at h
  | [], h => simp at h

/-- A step that stays within a text is the same whatever stands behind it. -/
theorem step_cut {g Y Z : List UInt8} {n : Nat} (hn : n ≤ g.length) (h : gapStep (g ++ Y) = some (some n)) (hl : n < g.length ∨ (∀ y q, Y = y :: q → ¬ y.toNat = 10) ∧ Y ≠ []) : gapStep (g ++ Z) = some (some n) := by
  have hpos := (gapStep_len h).1
  match g, hn, h, hl with
  | a :: t, hn, h, hl =>
    cases hb : blank a
    · cases h1 : [47, 47].isPrefixOf ((a :: t) ++ Y)
      · cases h2 : [47, 42].isPrefixOf ((a :: t) ++ Y)
        · rw [step_here (l := (a :: t) ++ Y) rfl hb h1 h2] at h; cases h
        · by_cases h3 : Lib.index (((a :: t) ++ Y).drop 2) [42, 47] < 0
          · rw [step_open (l := (a :: t) ++ Y) rfl hb h1 h2 h3] at h; cases h
          · rw [step_shut (l := (a :: t) ++ Y) rfl hb h1 h2 h3] at h
            have hn4 : 2 + (Lib.index (((a :: t) ++ Y).drop 2) [42, 47]).toNat + 2 = n := by simpa using h
            have h2l : 2 ≤ (a :: t).length := by omega
            rw [drop_ext h2l] at h3 hn4
            obtain ⟨j, hj⟩ : ∃ j : Nat, Lib.index ((a :: t).drop 2 ++ Y) [42, 47] = (j : Nat) := ⟨(Lib.index ((a :: t).drop 2 ++ Y) [42, 47]).toNat, by omega⟩
            have hjn : 2 + j + 2 = n := by rw [hj] at hn4; simpa using hn4
            have hc := index_cut hj (by rw [List.length_drop]; omega)
            have hx := index_ext (E := Z) (show 0 ≤ Lib.index ((a :: t).drop 2) [42, 47] by rw [hc]; omega)
            rw [hc] at hx
            rw [pre2_long h2l] at h1 h2
            rw [step_shut (l := (a :: t) ++ Z) rfl hb (by rw [pre2_long h2l]; exact h1) (by rw [pre2_long h2l]; exact h2) (by rw [drop_ext h2l, hx]; omega), drop_ext h2l, hx]
            simp only [Int.toNat_natCast, hjn]
      · rw [step_line (l := (a :: t) ++ Y) rfl hb h1] at h
        have hln : lineN ((a :: t) ++ Y) = n := by simpa using h
        have h2 := lineN_two h1
        have h2l : 2 ≤ (a :: t).length := by omega
        have hlt : n < (a :: t).length := by
          rcases hl with hl | ⟨hl, hne⟩
          · exact hl
          · rcases Nat.lt_or_ge n (a :: t).length with q | q
            · exact q
            · match Y, hne with
              | y :: w, _ =>
                have he : lineN ((a :: t) ++ y :: w) = (a :: t).length := by omega
                unfold lineN at he
                have := line_all (a :: t) he
                simp at this
                exact absurd this (hl y w rfl)
        have hcut := line_cut (Y := Y) (Z := Z) (a :: t) (by unfold lineN at hln; rw [hln]; exact hlt)
        rw [pre2_long h2l] at h1
        rw [step_line (l := (a :: t) ++ Z) rfl hb (by rw [pre2_long h2l]; exact h1)]
        unfold lineN at hln ⊢
        rw [hcut, hln]
    · rw [step_blank (l := (a :: t) ++ Y) rfl hb] at h
      rw [step_blank (l := (a :: t) ++ Z) rfl hb, h]
  | [], hn, h, hl => simp at hn; omega

theorem gap_cut {Y Z : List UInt8} {z : Nat} {b : Bool} (hY : Y ≠ []) (hZ : gap Z = (z, b)) : ∀ (N : Nat) (g : List UInt8), g.length ≤ N → gap (g ++ Y) = (g.length, true) → gap (g ++ Z) = (g.length + z, b)
  | N, [], hN, h => by rw [List.nil_append, hZ]; simp
  | 0, a :: t, hN, h => by simp at hN
  | N + 1, a :: t, hN, h => by
    match hs : gapStep ((a :: t) ++ Y) with
    | none => rw [gap_bad hs] at h; cases h
    | some none => rw [gap_here hs] at h; simp at h
    | some (some n) =>
      have hn := gapStep_len hs
      rw [gap_more hs] at h
      obtain ⟨h1, h2⟩ := Prod.mk.inj h
      have hle : n ≤ (a :: t).length := by omega
      rw [drop_ext hle] at h1 h2
      have hl : n < (a :: t).length ∨ (∀ y q, Y = y :: q → ¬ y.toNat = 10) ∧ Y ≠ [] := by
        rcases Nat.lt_or_ge n (a :: t).length with q | q
        · exact .inl q
        · refine .inr ⟨fun y w e hy => ?_, hY⟩
          have e0 : (a :: t).drop n = [] := List.drop_eq_nil_of_le q
          rw [e0, List.nil_append, e, gap_more (step_blank (l := y :: w) rfl (by simp [blank, hy]))] at h1
          simp at h1
          simp at hle q
          omega
      have ih := gap_cut hY hZ N ((a :: t).drop n) (by rw [List.length_drop]; simp at hN ⊢; omega) (by rw [List.length_drop, ← h2, ← h1]; simp)
      rw [gap_more (step_cut hle hs hl), drop_ext hle, ih, List.length_drop]
      simp only [Prod.mk.injEq, and_true]
      omega
/-- At the end of a text. -/
theorem gap_tail : ∀ (N : Nat) (g : List UInt8), g.length ≤ N → gap g = (g.length, true) → gap (g ++ [32, 9]) = (g.length + 2, true)
  | N, [], hN, h => by decide +kernel
  | 0, a :: t, hN, h => by simp at hN
  | N + 1, a :: t, hN, h => by
    match hs : gapStep (a :: t) with
    | none => rw [gap_bad hs] at h; cases h
    | some none => rw [gap_here hs] at h; simp at h
    | some (some n) =>
      have hn := gapStep_len hs
      rw [gap_more hs] at h
      obtain ⟨h1, h2⟩ := Prod.mk.inj h
      by_cases hlt : n < (a :: t).length
      · have hs' : gapStep ((a :: t) ++ []) = some (some n) := by rw [List.append_nil]; exact hs
        have ih := gap_tail N ((a :: t).drop n) (by rw [List.length_drop]; simp at hN ⊢; omega) (by rw [List.length_drop, ← h2, ← h1]; simp)
        rw [gap_more (step_cut (by omega) hs' (.inl hlt)), drop_ext (by omega), ih, List.length_drop]
        simp only [Prod.mk.injEq, and_true]
        omega
      · have hne : n = (a :: t).length := by omega
        have fin : ∀ m, gapStep ((a :: t) ++ [32, 9]) = some (some m) → ((m = (a :: t).length) ∨ m = (a :: t).length + 2) → gap ((a :: t) ++ [32, 9]) = ((a :: t).length + 2, true) := fun m hm hm2 => by
          rw [gap_more hm]
          rcases hm2 with rfl | rfl
          · rw [List.drop_left, show gap [32, 9] = (2, true) by decide +kernel]
          · rw [List.drop_eq_nil_of_le (by simp), show gap [] = (0, true) by rfl]
            simp
        cases hb : blank a
        · cases e1 : [47, 47].isPrefixOf (a :: t)
          · cases e2 : [47, 42].isPrefixOf (a :: t)
            · rw [step_here rfl hb e1 e2] at hs; cases hs
            · by_cases h3 : Lib.index ((a :: t).drop 2) [42, 47] < 0
              · rw [step_open rfl hb e1 e2 h3] at hs; cases hs
              · have h2l : 2 ≤ (a :: t).length := (List.isPrefixOf_iff_prefix.1 e2).length_le
                have hx := index_ext (E := [32, 9]) (show 0 ≤ Lib.index ((a :: t).drop 2) [42, 47] by omega)
                rw [step_shut rfl hb e1 e2 h3] at hs
                refine fin n ?_ (.inl hne)
                rw [step_shut (l := (a :: t) ++ [32, 9]) rfl hb (by rw [pre2_long h2l]; exact e1) (by rw [pre2_long h2l]; exact e2) (by rw [drop_ext h2l, hx]; exact h3), drop_ext h2l, hx]
                exact hs
          · have h2l : 2 ≤ (a :: t).length := (List.isPrefixOf_iff_prefix.1 e1).length_le
            rw [step_line rfl hb e1] at hs
            have hln : lineN (a :: t) = n := by simpa using hs
            refine fin ((a :: t).length + 2) ?_ (.inr rfl)
            rw [step_line (l := (a :: t) ++ [32, 9]) rfl hb (by rw [pre2_long h2l]; exact e1)]
            have hall : (a :: t).takeWhile (fun c => decide (¬ c.toNat = 10)) = a :: t := by
              have hp := List.takeWhile_prefix (l := a :: t) (fun c : UInt8 => decide (¬ c.toNat = 10))
              exact hp.eq_of_length (by unfold lineN at hln; omega)
            unfold lineN
            rw [List.takeWhile_append_of_pos (fun x hx => by rw [← hall] at hx; exact mem_tw _ hx)]
            simp
        · rw [step_blank rfl hb] at hs
          exact fin n (by rw [step_blank (l := (a :: t) ++ [32, 9]) rfl hb]; exact hs) (.inl hne)

/-- The blanks ahead of a token. -/
def insE (e i : Nat) : List UInt8 := if (i + e) % 3 = 0 then [32, 9] else []
theorem insE_cases (e i : Nat) : insE e i = [] ∨ insE e i = [32, 9] := by
  unfold insE
  split
  · exact .inr rfl
  · exact .inl rfl
/-- The text with more blanks, from a place and a token on. -/
def outT (l : List UInt8) (e : Nat) : Nat → Nat → List TT → List UInt8
  | _, _, [] => []
  | at', i, x :: r => (l.drop at').take (x.2.1 - at') ++ (insE e i ++ ((l.drop x.2.1).take (x.2.2 - x.2.1) ++ outT l e x.2.2 (i + 1) r))

theorem tok_here {tok R0 R : List UInt8} (hk : tok ≠ []) (h : gap (tok ++ R0) = (0, true)) (hB : Behind R0 R) : gap (tok ++ R) = (0, true) := by
  have hs : gapStep (tok ++ R0) = some none := by
    match hq : gapStep (tok ++ R0) with
    | none => rw [gap_bad hq] at h; cases h
    | some none => rfl
    | some (some n) =>
      have := (gapStep_len hq).1
      rw [gap_more hq] at h
      have h1 := (Prod.mk.inj h).1
      omega
  match tok, hk, hs with
  | a :: t, hk, hs =>
    cases hb : blank a
    · cases h1 : [47, 47].isPrefixOf ((a :: t) ++ R0)
      · cases h2 : [47, 42].isPrefixOf ((a :: t) ++ R0)
        · have key : ∀ x y : UInt8, blank y = false → [x, y].isPrefixOf ((a :: t) ++ R0) = false → [x, y].isPrefixOf ((a :: t) ++ R) = false := fun x y hy hf => by
            match t, hf with
            | [], hf =>
              rcases hB with rfl | ⟨c, r, rfl, hc⟩ | ⟨c, r, r', rfl, rfl⟩
              · rw [Bool.eq_false_iff]
                intro hx
                have := (List.isPrefixOf_iff_prefix.1 hx).length_le
                simp at this
              · rw [Bool.eq_false_iff]
                intro hx
                have : y = c := by simp at hx; exact hx.2
                subst this
                rw [hc] at hy; cases hy
              · rw [← hf]; rfl
            | b :: q, hf => rw [pre2_long (by simp)] at hf ⊢; exact hf
          exact gap_here (step_here (l := (a :: t) ++ R) rfl hb (key 47 47 (by decide) h1) (key 47 42 (by decide) h2))
        · by_cases h3 : Lib.index (((a :: t) ++ R0).drop 2) [42, 47] < 0
          · rw [step_open (l := (a :: t) ++ R0) rfl hb h1 h2 h3] at hs; cases hs
          · rw [step_shut (l := (a :: t) ++ R0) rfl hb h1 h2 h3] at hs; cases hs
      · rw [step_line (l := (a :: t) ++ R0) rfl hb h1] at hs; cases hs
    · rw [step_blank (l := (a :: t) ++ R0) rfl hb] at hs; cases hs
theorem gap_ins {e i : Nat} {X : List UInt8} (h : gap X = (0, true)) : gap (insE e i ++ X) = ((insE e i).length, true) := by
  rcases insE_cases e i with q | q
  · rw [q]; exact h
  · rw [q]
    show gap (32 :: 9 :: X) = (2, true)
    rw [gap_more (step_blank (l := 32 :: 9 :: X) rfl (by decide))]
    show (1 + (gap (9 :: X)).1, (gap (9 :: X)).2) = _
    rw [gap_more (step_blank (l := 9 :: X) rfl (by decide))]
    show (1 + (1 + (gap X).1), (gap X).2) = _
    rw [h]
    rfl

theorem gap_at {l : List UInt8} {a : Nat} (h : gap l = (a, true)) : gap (l.drop a) = (0, true) := by
  have key : ∀ (N : Nat) (l : List UInt8) (a : Nat), l.length ≤ N → gap l = (a, true) → gap (l.drop a) = (0, true) := by
    intro N
    induction N with
    | zero =>
      intro l a hN h
      obtain rfl : l = [] := List.eq_nil_of_length_eq_zero (by omega)
      simp
      rfl
    | succ N ih =>
      intro l a hN h
      match hs : gapStep l with
      | none => rw [gap_bad hs] at h; cases h
      | some none =>
        have h2 := h
        rw [gap_here hs] at h2
        have : a = 0 := (Prod.mk.inj h2).1.symm
        subst this
        simpa using h
      | some (some n) =>
        have hn := gapStep_len hs
        rw [gap_more hs] at h
        obtain ⟨h1, h2⟩ := Prod.mk.inj h
        have := ih (l.drop n) (gap (l.drop n)).1 (by rw [List.length_drop]; omega) (by rw [← h2])
        rw [List.drop_drop, h1] at this
        exact this
  exact key _ l a (Nat.le_refl _) h

theorem all_move {A B : List UInt8} : ∀ (N j : Nat) (m : List TT), j ≤ B.length → B.length - j ≤ N → allAt B j = .ok m → allAt (A ++ B) (A.length + j) = .ok (m.map (shiftT A.length))
  | N, j, m, hj, hN, h => by
    have hd : (A ++ B).drop (A.length + j) = B.drop j := by rw [← List.drop_drop, List.drop_left]
    have hl : A.length + j ≤ (A ++ B).length := by simp; omega
    match hn : nextF (B.drop j) with
    | .error p => rw [allAt_err hj hn] at h; cases h
    | .ok (t, a, b) =>
      by_cases ht : t.kind = 1
      · rw [allAt_end hj hn ht] at h
        rw [allAt_end hl (by rw [hd]; exact hn) ht, ← Except.ok.inj h]
        simp only [List.map_cons, List.map_nil, shiftT]
        rw [show A.length + j + a = j + a + A.length by omega, show A.length + j + b = j + b + A.length by omega]
      · rw [allAt_more hj hn ht] at h
        have hok := next_ok hn
        rw [List.length_drop] at hok
        have h2 := hok.2.2.2.2.2.1 ht
        match hr : allAt B (j + b) with
        | .error e => rw [hr] at h; cases h
        | .ok m' =>
          rw [hr] at h
          have hm : [(t, j + a, j + b)] ++ m' = m := Except.ok.inj h
          match N with
          | 0 => omega
          | N + 1 =>
            have ih := all_move (A := A) N (j + b) m' (by omega) (by omega) hr
            rw [allAt_more hl (by rw [hd]; exact hn) ht, show A.length + j + b = A.length + (j + b) by omega, ih, ← hm]
            simp only [prep, List.map_append, List.map_cons, List.map_nil, shiftT]
            rw [show A.length + j + a = j + a + A.length by omega, show A.length + (j + b) = j + b + A.length by omega]

theorem behind_app {g X Y : List UInt8} (h : g ≠ []) : Behind (g ++ X) (g ++ Y) := by
  match g, h with
  | a :: t, _ => exact .inr (.inr ⟨a, t ++ X, t ++ Y, rfl, rfl⟩)

/-- With more blanks ahead of them the same tokens are read. -/
theorem stand_all {l : List UInt8} {e : Nat} : ∀ (N at' i : Nat) (ts : List TT), at' ≤ l.length → l.length - at' ≤ N → allAt l at' = .ok ts →
    (∃ ts', allF (outT l e at' i ts) = .ok ts' ∧ ts'.map Prod.fst = ts.map Prod.fst) ∧ Behind (l.drop at') (outT l e at' i ts)
  | N, at', i, ts, ha, hN, h => by
    match hn : nextF (l.drop at') with
    | .error p => rw [allAt_err ha hn] at h; cases h
    | .ok (t, a, b) =>
      obtain ⟨hg, hab, hbl, hk1, hkl, hlt, hke, hr⟩ := next_ok hn
      rw [List.length_drop] at hbl hkl
      by_cases ht : t.kind = 1
      · rw [allAt_end ha hn ht] at h
        have hts := (Except.ok.inj h).symm
        subst hts
        have hb := hke ht
        have hal := hkl.1 ht
        subst hb
        have hw : (l.drop at').take b = l.drop at' := List.take_of_length_le (by rw [List.length_drop]; omega)
        have hO : outT l e at' i [(t, at' + b, at' + b)] = l.drop at' ++ insE e i := by
          simp only [outT]
          rw [show at' + b - at' = b by omega, hw, Nat.sub_self]
          simp
        have hgl : gap (l.drop at') = ((l.drop at').length, true) := by rw [hg, List.length_drop, hal]
        have hgO : gap (l.drop at' ++ insE e i) = ((l.drop at' ++ insE e i).length, true) := by
          rcases insE_cases e i with q | q
          · rw [q, List.append_nil]; exact hgl
          · rw [q, gap_tail _ _ (Nat.le_refl _) hgl, List.length_append]; rfl
        have htk : t = ⟨1, [], 0, false⟩ := by
          have hnil : (l.drop at').drop b = [] := List.drop_eq_nil_of_le (by rw [List.length_drop]; omega)
          rw [hnil] at hr
          have : some (⟨1, [], 0, false⟩, 0) = some (t, b - b) := hr
          simp at this
          exact this.symm
        have hnO := next_some hgO (t := t) (n := 0) (by rw [List.drop_length, htk]; rfl)
        rw [hO]
        refine ⟨⟨[(t, (l.drop at' ++ insE e i).length, (l.drop at' ++ insE e i).length)], ?_, rfl⟩, ?_⟩
        · have := allAt_end (l := l.drop at' ++ insE e i) (k := 0) (Nat.zero_le _) (by rw [List.drop_zero]; exact hnO) ht
          show allAt _ 0 = _
          simpa using this
        · by_cases hnil : l.drop at' = []
          · rw [hnil, List.nil_append]
            rcases insE_cases e i with q | q
            · exact .inl q
            · exact .inr (.inl ⟨32, [9], q, by decide⟩)
          · have := behind_app (X := []) (Y := insE e i) hnil
            rw [List.append_nil] at this
            exact this
      · rw [allAt_more ha hn ht] at h
        have hablt := hlt ht
        match hr1 : allAt l (at' + b) with
        | .error e => rw [hr1] at h; cases h
        | .ok m =>
          rw [hr1] at h
          have hts : (t, at' + a, at' + b) :: m = ts := Except.ok.inj h
          subst hts
          match N with
          | 0 => omega
          | N + 1 =>
            obtain ⟨⟨ts1, hts1, hfst⟩, hB⟩ := stand_all (l := l) (e := e) N (at' + b) (i + 1) m (by omega) (by omega) hr1
            obtain ⟨R, hR⟩ : ∃ R, R = outT l e (at' + b) (i + 1) m := ⟨_, rfl⟩
            obtain ⟨g, hgd⟩ : ∃ g, g = (l.drop at').take a := ⟨_, rfl⟩
            obtain ⟨k, hkd⟩ : ∃ k, k = (l.drop (at' + a)).take (b - a) := ⟨_, rfl⟩
            have hO : outT l e at' i ((t, at' + a, at' + b) :: m) = g ++ (insE e i ++ (k ++ R)) := by
              simp only [outT]
              rw [show at' + a - at' = a by omega, show at' + b - (at' + a) = b - a by omega, hgd, hkd, hR]
            rw [← hR] at hts1 hB
            have hgl : g.length = a := by rw [hgd, List.length_take, List.length_drop]; omega
            have hkl2 : k.length = b - a := by rw [hkd, List.length_take, List.length_drop]; omega
            have hkne : k ≠ [] := fun q => by rw [q] at hkl2; simp at hkl2; omega
            have hsplit : l.drop at' = g ++ (k ++ l.drop (at' + b)) := by
              have e1 : l.drop (at' + a) = k ++ l.drop (at' + b) := by
                rw [hkd]
                conv => lhs; rw [← List.take_append_drop (b - a) (l.drop (at' + a))]
                rw [List.drop_drop, show at' + a + (b - a) = at' + b by omega]
              conv => lhs; rw [← List.take_append_drop a (l.drop at')]
              rw [List.drop_drop, e1, hgd]
            have hda : (l.drop at').drop a = k ++ l.drop (at' + b) := by rw [hsplit, ← hgl, List.drop_left]
            have hg0 := gap_at hg
            rw [hda] at hg0 hr
            have hrd := read_behind hB hkne (t := t) (by rw [hr, hkl2])
            have hgX := tok_here hkne hg0 hB
            have hgI := gap_ins (e := e) (i := i) hgX
            have hgO := gap_cut (Y := k ++ l.drop (at' + b)) (Z := insE e i ++ (k ++ R)) (by simp [hkne]) hgI _ g (Nat.le_refl _) (by rw [← hsplit, hg, hgl])
            have hdO : (g ++ (insE e i ++ (k ++ R))).drop (g.length + (insE e i).length) = k ++ R := by rw [← List.drop_drop, List.drop_left, List.drop_left]
            have hnO := next_some hgO (t := t) (n := k.length) (by rw [hdO]; exact hrd)
            have hmv := all_move (A := g ++ (insE e i ++ k)) (B := R) _ 0 ts1 (Nat.zero_le _) (Nat.le_refl _) hts1
            have hassoc : (g ++ (insE e i ++ k)) ++ R = g ++ (insE e i ++ (k ++ R)) := by simp
            rw [hassoc, Nat.add_zero] at hmv
            rw [hO]
            refine ⟨⟨(t, g.length + (insE e i).length, g.length + (insE e i).length + k.length) :: ts1.map (shiftT (g ++ (insE e i ++ k)).length), ?_, ?_⟩, ?_⟩
            · have := allAt_more (l := g ++ (insE e i ++ (k ++ R))) (k := 0) (Nat.zero_le _) (by rw [List.drop_zero]; exact hnO) ht
              rw [show 0 + (g.length + (insE e i).length + k.length) = (g ++ (insE e i ++ k)).length by simp; omega, hmv] at this
              show allAt _ 0 = _
              rw [this]
              simp [prep]
              omega
            · rw [List.map_cons, List.map_cons, List.map_map, ← hfst]
              rfl
            · rw [hsplit]
              by_cases hgn : g = []
              · rw [hgn, List.nil_append, List.nil_append]
                rcases insE_cases e i with q | q
                · rw [q, List.nil_append]; exact behind_app hkne
                · rw [q]; exact .inr (.inl ⟨32, 9 :: (k ++ R), rfl, by decide⟩)
              · exact behind_app hgn
end Go.Proofs.Ytfnekmhhhjdeiaa
