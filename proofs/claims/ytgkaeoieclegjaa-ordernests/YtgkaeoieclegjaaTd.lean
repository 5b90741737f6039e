/- The document's table and its nearest dominators, plainly. -/
import Derived.Test.YtgkaeoieclegjaaAb
namespace Go.Proofs.Ytgkaeoieclegjaa
set_option linter.unusedVariables false
theorem succN_set {bl : List Bl} {d y : Nat} {x : Bl} (hx : x.to = []) (hd : d < bl.length) : succN (bl.set d x) y = if y = d then [] else succN bl y := by
  unfold succN
  by_cases e : y = d
  · subst e
    rw [if_pos rfl, List.getElem?_set_self hd]
    exact hx
  · rw [if_neg e, List.getElem?_set_ne (fun e2 => e e2.symm)]
/-- With a block made empty there are the ways that miss it. -/
theorem way_without {bl : List Bl} {d b : Nat} {x : Bl} (hx : x.to = []) (hd : d < bl.length) (hd0 : d ≠ 0) : (WayB (bl.set d x) b ∧ b ≠ d) ↔ W (fun x y => some y ∈ toL bl.length (succN bl x)) (fun z => z ≠ d) 0 b := by
  constructor
  · rintro ⟨h, hb⟩
    unfold WayB at h
    rw [List.length_set] at h
    revert hb
    induction h using W.ind with
    | nil _ => exact fun hb => .nil hb
    | @snoc b c hw e _ ih =>
      intro hc
      rw [succN_set hx hd] at e
      by_cases e2 : b = d
      · rw [if_pos e2] at e
        simp [toL] at e
      · rw [if_neg e2] at e
        exact .snoc (ih e2) e hc
  · intro h
    refine ⟨?_, h.last⟩
    unfold WayB
    rw [List.length_set]
    induction h using W.ind with
    | nil _ => exact .nil trivial
    | @snoc b c hw e _ ih =>
      refine .snoc ih ?_ trivial
      rw [succN_set hx hd, if_neg hw.last]
      exact e
/-- The table's answer. -/
def TabB (bl : List Bl) (a b : Nat) : Prop := WayB bl a ∧ WayB bl b ∧ (a = b ∨ DomB bl a b)
theorem tab_dom {bl : List Bl} {a b : Nat} : TabB bl a b ↔ WayB bl a ∧ WayB bl b ∧ DomB bl a b := by
  unfold TabB
  constructor
  · rintro ⟨h1, h2, rfl | h3⟩
    · exact ⟨h1, h2, fun h => h.last rfl⟩
    · exact ⟨h1, h2, h3⟩
  · rintro ⟨h1, h2, h3⟩
    exact ⟨h1, h2, .inr h3⟩
/-- The document's nearest is the immediate dominator. -/
theorem near_dom {bl : List Bl} {D : Nat → Option Nat} (h : DomOk bl D) {t : Nat → Nat → Bool} (ht : ∀ a b, a < bl.length → b < bl.length → (t a b = true ↔ TabB bl a b)) (ht2 : ∀ a b, t a b = true → a < bl.length ∧ b < bl.length) {b : Nat} (hb : b < bl.length) : near t b bl.length = D b := by
  have htab : ∀ a b, t a b = true → WayB bl a ∧ WayB bl b ∧ DomB bl a b := fun a b e => by
    obtain ⟨h1, h2⟩ := ht2 a b e
    exact tab_dom.1 ((ht a b h1 h2).1 e)
  have hmk : ∀ a b, a < bl.length → b < bl.length → WayB bl a → WayB bl b → DomB bl a b → t a b = true := fun a b h1 h2 h3 h4 h5 => (ht a b h1 h2).2 (tab_dom.2 ⟨h3, h4, h5⟩)
  have hself : ∀ x, t x b = true → t x x = true := fun x e => by
    obtain ⟨h1, _⟩ := ht2 x b e
    obtain ⟨h2, _⟩ := htab x b e
    exact hmk x x h1 h1 h2 h2 (fun hx => hx.last rfl)
  have hline : ∀ x y, t x b = true → t y b = true → t x y = true ∨ t y x = true := fun x y ex ey => by
    obtain ⟨x1, _⟩ := ht2 x b ex
    obtain ⟨y1, _⟩ := ht2 y b ey
    obtain ⟨x2, b2, x3⟩ := htab x b ex
    obtain ⟨y2, _, y3⟩ := htab y b ey
    obtain ⟨num, hnum⟩ := h.fall
    have key : ∀ k c, num c ≤ k → c < bl.length → WayB bl c → DomB bl x c → DomB bl y c → DomB bl x y ∨ DomB bl y x := by
      intro k
      induction k with
      | zero =>
        intro c hk hc hw hxc hyc
        by_cases e1 : x = c
        · subst e1; exact .inr hyc
        · by_cases e2 : y = c
          · subst e2; exact .inl hxc
          · cases hD : D c with
            | some d => have := hnum c d hc hD; omega
            | none =>
              have hz := ((h.no c hc).1 hD).resolve_right (fun hx => hx hw)
              subst hz
              exact absurd (.nil (fun e => e1 e.symm)) hxc
      | succ k ih =>
        intro c hk hc hw hxc hyc
        by_cases e1 : x = c
        · subst e1; exact .inr hyc
        · by_cases e2 : y = c
          · subst e2; exact .inl hxc
          · cases hD : D c with
            | some d =>
              have hn := hnum c d hc hD
              obtain ⟨z1, z2, z3, z4, z5⟩ := h.yes c d hc hD
              exact ih d (by omega) z1 z2 (z5 x x1 x2 hxc e1) (z5 y y1 y2 hyc e2)
            | none =>
              have hz := ((h.no c hc).1 hD).resolve_right (fun hx => hx hw)
              subst hz
              exact absurd (.nil (fun e => e1 e.symm)) hxc
    rcases key _ b (Nat.le_refl _) hb b2 x3 y3 with hx | hx
    · exact .inl (hmk x y x1 y1 x2 y2 hx)
    · exact .inr (hmk y x y1 x1 y2 x2 hx)
  have hs := near_spec (t := t) (b := b) hself (fun x y z _ e1 e2 => by
    obtain ⟨x1, y1⟩ := ht2 x y e1
    obtain ⟨_, z1⟩ := ht2 y z e2
    obtain ⟨a1, a2, a3⟩ := htab x y e1
    obtain ⟨b1, b2, b3⟩ := htab y z e2
    exact hmk x z x1 z1 a1 b2 (domB_trans a3 b3)) hline bl.length
  cases hD : D b with
  | none =>
    cases hN : near t b bl.length with
    | none => rfl
    | some c =>
      obtain ⟨c1, c2, c3, _⟩ := hs.1 c hN
      obtain ⟨d1, d2, d3⟩ := htab c b c3
      have hz := ((h.no b hb).1 hD).resolve_right (fun hx => hx d2)
      subst hz
      exact absurd (.nil (fun e => c2 e.symm)) d3
  | some d =>
    obtain ⟨z1, z2, z3, z4, z5⟩ := h.yes b d hb hD
    have hwb : WayB bl b := Classical.byContradiction fun hx => by
      have := (h.no b hb).2 (.inr hx)
      rw [hD] at this
      cases this
    have hdb := hmk d b z1 hb z2 hwb z3
    cases hN : near t b bl.length with
    | none =>
      have := hs.2 hN d z1 z4
      rw [hdb] at this
      cases this
    | some c =>
      obtain ⟨c1, c2, c3, c4⟩ := hs.1 c hN
      obtain ⟨d1, _, d3⟩ := htab c b c3
      have e1 := (htab _ _ (c4 d z1 z4 hdb)).2.2
      have e2 := z5 c c1 d1 d3 c2
      by_cases e : c = d
      · rw [e]
      · exfalso
        obtain ⟨num, hnum⟩ := h.fall
        have ab1 := (above_dom h c1 d1 (a := (d : Int))).2 ⟨d, rfl, z1, z2, e1⟩
        have ab2 := (above_dom h z1 z2 (a := (c : Int))).2 ⟨c, rfl, c1, d1, e2⟩
        have fall : ∀ (k x y : Nat), x < bl.length → Abv D (y : Int) k x → num y ≤ num x ∧ (y ≠ x → num y < num x) := by
          intro k
          induction k with
          | zero =>
            intro x y hx hk
            have : y = x := by
              have hk : (y : Int) = x := hk
              omega
            subst this
            exact ⟨Nat.le_refl _, fun hne => absurd rfl hne⟩
          | succ k ih =>
            intro x y hx hk
            rcases hk with hk | ⟨d', hd', hk⟩
            · have : y = x := by omega
              subst this
              exact ⟨Nat.le_refl _, fun hne => absurd rfl hne⟩
            · have h1 := ih d' y (h.yes x d' hx hd').1 hk
              have h2 := hnum x d' hx hd'
              exact ⟨by omega, fun _ => by omega⟩
        obtain ⟨k1, hk1⟩ := ab1
        obtain ⟨k2, hk2⟩ := ab2
        have f1 := (fall k1 c d c1 hk1).2 (fun e3 => e e3.symm)
        have f2 := (fall k2 d c z1 hk2).2 e
        omega
end Go.Proofs.Ytgkaeoieclegjaa
