/- What the walk's machine keeps. -/
import Derived.Test.YtgkaeoieclegjaaSc
import Derived.Test.YtgkaeoieclegjaaRe
namespace Go.Proofs.Ytgkaeoieclegjaa
set_option linter.unusedVariables false
/-- The blocks that wait are a way from the first one. -/
def PathS (tos : Nat → List Int) (n : Nat) : List (Nat × Nat) → Prop
  | [] => True
  | [p] => p.1 = 0
  | p :: q :: r => some p.1 ∈ toL n (tos q.1) ∧ PathS tos n (q :: r)
theorem PathS.tail {tos : Nat → List Int} {n : Nat} {p : Nat × Nat} {r : List (Nat × Nat)} (h : PathS tos n (p :: r)) : PathS tos n r := by
  cases r with
  | nil => exact trivial
  | cons q r => exact h.2
theorem PathS.turn {tos : Nat → List Int} {n b k k' : Nat} {r : List (Nat × Nat)} (h : PathS tos n ((b, k) :: r)) : PathS tos n ((b, k') :: r) := by
  cases r with
  | nil => exact h
  | cons q r => exact ⟨h.1, h.2⟩
theorem PathS.way {tos : Nat → List Int} {n d : Nat} : ∀ {r : List (Nat × Nat)} {p : Nat × Nat}, PathS tos n (p :: r) → d ∉ (p :: r).map Prod.fst → W (fun x y => some y ∈ toL n (tos x)) (fun z => z ≠ d) 0 p.1
  | [], p, h, hd => by
    have h : p.1 = 0 := h
    rw [h]
    exact .nil fun e => hd (by simp [h, e])
  | q :: r, p, h, hd => .snoc (PathS.way h.2 (fun h2 => hd (by simp only [List.map_cons, List.mem_cons] at h2 ⊢; exact .inr h2))) h.1 (fun e => hd (by simp [e]))
structure InvS (tos : Nat → List Int) (n : Nat) (s : Sd) : Prop where
  path : PathS tos n s.2.1
  met : ∀ x, s.1 x ↔ x ∈ s.2.1.map Prod.fst ∨ x ∈ s.2.2
  nd : (s.2.1.map Prod.fst ++ s.2.2).Nodup
  lt : ∀ x, s.1 x → x < n
  clo : ∀ x, x ∈ s.2.2 → ∀ y, some y ∈ toL n (tos x) → s.1 y
  tri : ∀ p, p ∈ s.2.1 → ∀ (j y : Nat), j < p.2 → y < n → (tos p.1)[j]? = some (y : Int) → s.1 y
  dom : ∀ (i x : Nat), s.2.2[i]? = some x → ∀ d : Nat, d ≠ x → ¬ W (fun x y => some y ∈ toL n (tos x)) (fun z => z ≠ d) 0 x → ∀ j : Nat, j ≤ i → s.2.2[j]? ≠ some d
theorem InvS.begin (tos : Nat → List Int) {n : Nat} (hn : 0 < n) : InvS tos n start0 :=
  ⟨rfl, fun x => by simp [start0], by simp [start0], fun x h => by have h : x = 0 := h; omega, fun x h => by simp [start0] at h, fun p hp j y hj => by simp [start0] at hp; subst hp; simp at hj, fun i x h => by simp [start0] at h⟩
theorem InvS.step {tos : Nat → List Int} {n : Nat} : ∀ s a : Sd, InvS tos n s → stepS tos n s = some a → InvS tos n a
  | (met, [], out), a, h, e => by cases e
  | (met, (b, k) :: stk, out), a, h, e => by
    have hpath := h.path
    have hmet := h.met
    have hnd := h.nd
    dsimp only at hpath hmet hnd
    have hclo := h.clo
    have htri := h.tri
    have hdom := h.dom
    dsimp only at hclo htri hdom
    have hlt := h.lt
    dsimp only at hlt
    rw [stepS_cons] at e
    cases ht : (tos b)[k]? with
    | none =>
      rw [ht] at e
      injection e with e
      subst e
      have hlen : (tos b).length ≤ k := List.getElem?_eq_none_iff.1 ht
      refine ⟨hpath.tail, fun x => ?_, ?_, hlt, fun x hx y hy => ?_, fun p hp => htri p (List.mem_cons_of_mem _ hp), fun i x hx d hd hw j hj => ?_⟩
      · dsimp only
        rw [hmet x]
        simp only [List.map_cons, List.mem_cons, List.mem_append, List.not_mem_nil, or_false]
        constructor
        · rintro ((h1 | h1) | h1)
          · exact .inr (.inr h1)
          · exact .inl h1
          · exact .inr (.inl h1)
        · rintro (h1 | h1 | h1)
          · exact .inl (.inr h1)
          · exact .inr h1
          · exact .inl (.inl h1)
      · have h1 : (b :: (stk.map Prod.fst ++ out)).Nodup := hnd
        have h2 := List.nodup_cons.1 h1
        dsimp only
        rw [← List.append_assoc]
        refine List.nodup_append.2 ⟨h2.2, by simp, fun x hx y hy => ?_⟩
        obtain rfl := List.mem_singleton.1 hy
        exact fun e => h2.1 (e ▸ hx)
      · rcases List.mem_append.1 hx with hx | hx
        · exact hclo x hx y hy
        · obtain rfl := List.mem_singleton.1 hx
          obtain ⟨h1, h2⟩ := toL_mem.1 hy
          obtain ⟨j, hj, e⟩ := List.getElem_of_mem h2
          exact htri (x, k) (by simp) j y (by show j < k; omega) h1 (by rw [List.getElem?_eq_getElem hj, e])
      · dsimp only at hx ⊢
        rw [List.getElem?_append] at hx ⊢
        by_cases hi : i < out.length
        · rw [if_pos hi] at hx
          rw [if_pos (by omega)]
          exact hdom i x hx d hd hw j hj
        · rw [if_neg hi] at hx
          have hi0 : i - out.length = 0 := by
            have := (List.getElem?_eq_some_iff.1 hx).1
            simp at this
            omega
          rw [hi0] at hx
          injection hx with hx
          have hx : b = x := hx
          subst hx
          have hin : d ∈ stk.map Prod.fst := by
            apply Classical.byContradiction
            intro hno
            exact hw (hpath.way (fun h2 => by
              simp only [List.map_cons, List.mem_cons] at h2
              rcases h2 with h2 | h2
              · exact hd h2
              · exact hno h2))
          have h1 : (b :: (stk.map Prod.fst ++ out)).Nodup := hnd
          have h2 := List.nodup_append.1 (List.nodup_cons.1 h1).2
          by_cases hjo : j < out.length
          · rw [if_pos hjo]
            intro e
            exact h2.2.2 d hin d (List.mem_of_getElem? e) rfl
          · rw [if_neg hjo, show j - out.length = 0 by omega]
            intro e
            injection e with e
            exact hd e.symm
    | some t =>
      rw [ht] at e
      dsimp only at e
      by_cases hc : 0 ≤ t ∧ t < n ∧ ¬ met t.toNat
      · rw [if_pos hc] at e
        injection e with e
        subst e
        obtain ⟨c1, c2, c3⟩ := hc
        have hno : ¬ (t.toNat ∈ ((b, k) :: stk).map Prod.fst ∨ t.toNat ∈ out) := fun hx => c3 ((hmet _).2 hx)
        have htt : (t.toNat : Int) = t := by omega
        refine ⟨⟨toL_mem.2 ⟨by show t.toNat < n; omega, by show (t.toNat : Int) ∈ tos b; rw [htt]; exact List.mem_of_getElem? ht⟩, hpath.turn⟩, fun x => ?_, ?_, fun x hx => ?_, fun x hx y hy => .inl (hclo x hx y hy), fun p hp j y hj hy hp2 => ?_, hdom⟩
        · dsimp only
          rw [hmet x]
          simp only [List.map_cons, List.mem_cons]
          constructor
          · rintro (((h1 | h1) | h1) | h1)
            · exact .inl (.inr (.inl h1))
            · exact .inl (.inr (.inr h1))
            · exact .inr h1
            · exact .inl (.inl h1)
          · rintro ((h1 | h1 | h1) | h1)
            · exact .inr h1
            · exact .inl (.inl (.inl h1))
            · exact .inl (.inl (.inr h1))
            · exact .inl (.inr h1)
        · show (t.toNat :: (((b, k + 1) :: stk).map Prod.fst ++ out)).Nodup
          refine List.nodup_cons.2 ⟨fun hx => hno (List.mem_append.1 hx), hnd⟩
        · rcases hx with hx | hx
          · exact hlt x hx
          · have hx : x = t.toNat := hx
            omega
        · simp only [List.mem_cons] at hp
          rcases hp with rfl | rfl | hp
          · exact absurd hj (Nat.not_lt_zero j)
          · by_cases e2 : j = k
            · subst e2
              have hp2 : (tos b)[j]? = some (y : Int) := hp2
              rw [ht] at hp2
              injection hp2 with hp2
              exact .inr (by show y = t.toNat; omega)
            · have hj : j < k + 1 := hj
              exact .inl (htri (b, k) (by simp) j y (by show j < k; omega) hy hp2)
          · exact .inl (htri p (by simp [hp]) j y hj hy hp2)
      · rw [if_neg hc] at e
        injection e with e
        subst e
        refine ⟨hpath.turn, hmet, hnd, hlt, hclo, fun p hp j y hj hy hp2 => ?_, hdom⟩
        simp only [List.mem_cons] at hp
        rcases hp with rfl | hp
        · by_cases e2 : j = k
          · subst e2
            have hp2 : (tos b)[j]? = some (y : Int) := hp2
            rw [ht] at hp2
            injection hp2 with hp2
            apply Classical.byContradiction
            intro hm
            exact hc ⟨by omega, by omega, by rw [hp2, Int.toNat_natCast]; exact hm⟩
          · have hj : j < k + 1 := hj
            exact htri (b, k) (by simp) j y (by show j < k; omega) hy hp2
        · exact htri p (by simp [hp]) j y hj hy hp2
/-- What holds at the end. -/
theorem end_of {bl : List Bl} (hn : 0 < bl.length) {met : Nat → Prop} {out : List Nat} (h : RunsS (succN bl) bl.length start0 (met, [], out)) :
    out.Nodup ∧ (∀ x, x ∈ out → x < bl.length) ∧ (∀ x, x < bl.length → WayB bl x → x ∈ out) ∧ (∀ (i x : Nat), out[i]? = some x → ∀ d : Nat, d ≠ x → ¬ W (fun x y => some y ∈ toL bl.length (succN bl x)) (fun z => z ≠ d) 0 x → ∀ j : Nat, j ≤ i → out[j]? ≠ some d) := by
  have hI : InvS (succN bl) bl.length (met, [], out) := h.keep (P := InvS (succN bl) bl.length) InvS.step (InvS.begin _ hn)
  have hmet : ∀ x, met x ↔ x ∈ out := fun x => by
    have := hI.met x
    simpa using this
  have h0 : met 0 := by
    have h1 : RunsS (succN bl) bl.length start0 (met, [], out) := h
    have := h1.keep (P := fun s => s.1 0) (fun s a hs e => by
      obtain ⟨m, stk, o⟩ := s
      cases stk with
      | nil => cases e
      | cons p stk =>
        obtain ⟨b, k⟩ := p
        rw [stepS_cons] at e
        cases ht : (succN bl b)[k]? with
        | none => rw [ht] at e; injection e with e; subst e; exact hs
        | some t =>
          rw [ht] at e
          dsimp only at e
          split at e
          · injection e with e; subst e; exact .inl hs
          · injection e with e; subst e; exact hs) rfl
    exact this
  refine ⟨by simpa using hI.nd, fun x hx => hI.lt x ((hmet x).2 hx), fun x hx hw => ?_, hI.dom⟩
  rw [← hmet]
  unfold WayB at hw
  induction hw using W.ind with
  | nil _ => exact h0
  | @snoc b c hb e s ih =>
    have hbl : b < bl.length := by
      rcases hb.inv with ⟨e, _⟩ | ⟨_, _, e2, _⟩
      · omega
      · exact (toL_mem.1 e2).1
    exact hI.clo b ((hmet b).1 (ih hbl)) c e
end Go.Proofs.Ytgkaeoieclegjaa
