/- The walk's places and the predecessors that are reached. -/
import Derived.Test.YtgkaeoieclegjaaRe
import Derived.Test.YtgkaeoieclegjaaDn
namespace Go.Proofs.Ytgkaeoieclegjaa
set_option linter.unusedVariables false
theorem pre_ok {bl : List Bl} {m : Nat} {blk par tried : Nat → Nat} (hn : 0 < bl.length) (hbl : bl.length * 64 ≤ big) (b0 : blk 0 = 0) (hlt : ∀ j, j < m → blk j < bl.length)
    (met : Met (fun b => toL bl.length (succN bl b)) m 0 blk par tried) (ht : ((fun b => toL bl.length (succN bl b)) (blk 0)).length ≤ tried 0) : PreOk (met.dfs ht) blk (rpF bl) := by
  have hre : ∀ b, reN bl b = true ↔ ∃ v, v < m ∧ blk v = b := fun b => by
    rw [reach_way hn, met.reached ht, b0]
    exact Iff.rfl
  refine ⟨fun i hi x hx => ?_, fun i v hE => ?_, fun i hi => ?_, met.inj⟩
  · obtain ⟨mm, h1, h2, h3, h4⟩ := (rpF_mem bl (hlt i hi)).1 hx
    obtain ⟨v, hv, rfl⟩ := (hre mm).1 h4
    exact ⟨v, hv, h2, hv, hi, toL_mem.2 ⟨hlt i hi, h3⟩⟩
  · obtain ⟨hv, hi, hs⟩ := hE
    exact (rpF_mem bl (hlt i hi)).2 ⟨blk v, hlt v hv, rfl, (toL_mem.1 hs).2, (hre _).2 ⟨v, hv, rfl⟩⟩
  · have hi' := hlt i hi
    have hl : blk i < (predsF bl).length := by rw [predsF_len]; exact hi'
    have h1 := predsF_bound bl (List.getElem_mem hl)
    have e : (rpF bl).getD (blk i) [] = keepF (reN bl) ((predsF bl)[blk i]) := by unfold rpF; simp [hl]
    rw [e]
    have h2 := keepF_len (reN bl) ((predsF bl)[blk i])
    unfold big at *
    omega
/-- All ways to b lead through d. -/
def DomB (bl : List Bl) (d b : Nat) : Prop := ¬ W (fun x y => some y ∈ toL bl.length (succN bl x)) (fun z => z ≠ d) 0 b
/-- Of each block its immediate dominator, or none. -/
structure DomOk (bl : List Bl) (D : Nat → Option Nat) : Prop where
  no : ∀ b, b < bl.length → (D b = none ↔ b = 0 ∨ ¬ WayB bl b)
  yes : ∀ b d, b < bl.length → D b = some d → d < bl.length ∧ WayB bl d ∧ DomB bl d b ∧ d ≠ b ∧ ∀ c, c < bl.length → WayB bl c → DomB bl c b → c ≠ b → DomB bl c d
  fall : ∃ num : Nat → Nat, ∀ b d, b < bl.length → D b = some d → num d < num b
/-- What the places' dominators say of the blocks. -/
theorem dom_ok {bl : List Bl} {m : Nat} {blk par tried : Nat → Nat} {dom : Nat → Option Nat} {D : Nat → Option Nat} (hn : 0 < bl.length) (b0 : blk 0 = 0) (hlt : ∀ j, j < m → blk j < bl.length)
    (met : Met (fun b => toL bl.length (succN bl b)) m 0 blk par tried) (ht : ((fun b => toL bl.length (succN bl b)) (blk 0)).length ≤ tried 0) (h0 : dom 0 = none) (hd : ∀ j, 0 < j → j < m → ∃ d, dom j = some d ∧ (met.dfs ht).Idom d j)
    (hD : ∀ j, j < m → D (blk j) = (dom j).map blk) (hD2 : ∀ b, b < bl.length → (∀ j, j < m → blk j ≠ b) → D b = none) : DomOk bl D := by
  have hw : ∀ b, WayB bl b ↔ ∃ v, v < m ∧ blk v = b := fun b => by
    rw [met.reached ht, b0]
    exact Iff.rfl
  have hdom : ∀ d v, d < m → v < m → ((met.dfs ht).Dom d v ↔ DomB bl (blk d) (blk v)) := fun d v h1 h2 => by
    rw [met.dom ht h1 h2, b0]
    exact Iff.rfl
  have hnum : ∀ v (hv : v < m), (if h : ∃ u, u < m ∧ blk u = blk v then Classical.choose h else 0) = v := fun v hv => by
    have hex : ∃ u, u < m ∧ blk u = blk v := ⟨v, hv, rfl⟩
    rw [dif_pos hex]
    obtain ⟨h1, h2⟩ := Classical.choose_spec hex
    exact met.inj _ _ h1 hv h2
  refine ⟨fun b hb => ?_, fun b d hb e => ?_, fun b => if h : ∃ u, u < m ∧ blk u = b then Classical.choose h else 0, fun b d hb e => ?_⟩
  rotate_left 2
  · by_cases hr : ∃ v, v < m ∧ blk v = b
    · obtain ⟨v, hv, rfl⟩ := hr
      rw [hD v hv] at e
      by_cases hv0 : v = 0
      · subst hv0
        rw [h0] at e
        cases e
      · obtain ⟨dd, h1, h2⟩ := hd v (by omega) hv
        rw [h1] at e
        injection e with e
        subst e
        have hdl := Dfs.idom_lt (g := met.dfs ht) hv h2
        show (if h : ∃ u, u < m ∧ blk u = blk dd then Classical.choose h else 0) < (if h : ∃ u, u < m ∧ blk u = blk v then Classical.choose h else 0)
        rw [hnum v hv, hnum dd (by omega)]
        exact hdl
    · rw [hD2 b hb (fun j hj e2 => hr ⟨j, hj, e2⟩)] at e
      cases e
  · constructor
    · intro e
      by_cases hr : ∃ v, v < m ∧ blk v = b
      · obtain ⟨v, hv, rfl⟩ := hr
        rw [hD v hv] at e
        by_cases hv0 : v = 0
        · subst hv0; exact .inl b0
        · obtain ⟨d, h1, _⟩ := hd v (by omega) hv
          rw [h1] at e
          cases e
      · exact .inr (fun h => hr ((hw b).1 h))
    · rintro (rfl | h)
      · have := hD 0 met.at_
        rw [b0, h0] at this
        exact this
      · exact hD2 b hb (fun j hj e => h ((hw b).2 ⟨j, hj, e⟩))
  · by_cases hr : ∃ v, v < m ∧ blk v = b
    · obtain ⟨v, hv, rfl⟩ := hr
      rw [hD v hv] at e
      by_cases hv0 : v = 0
      · subst hv0
        rw [h0] at e
        cases e
      · obtain ⟨dd, h1, h2⟩ := hd v (by omega) hv
        rw [h1] at e
        injection e with e
        subst e
        have hdl := Dfs.idom_lt (g := met.dfs ht) hv h2
        have hdm : dd < m := by omega
        refine ⟨hlt dd hdm, (hw _).2 ⟨dd, hdm, rfl⟩, (hdom dd v hdm hv).1 h2.1, fun e => ?_, fun c hc hcw hcd hcb => ?_⟩
        · have := met.inj dd v hdm hv e
          omega
        · obtain ⟨cv, hcv, rfl⟩ := (hw c).1 hcw
          exact (hdom cv dd hcv hdm).1 (h2.2.2 cv ((hdom cv v hcv hv).2 hcd) (fun e => hcb (by rw [e])))
    · rw [hD2 b hb (fun j hj e2 => hr ⟨j, hj, e2⟩)] at e
      cases e
end Go.Proofs.Ytgkaeoieclegjaa
