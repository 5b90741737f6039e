/- Settling: turns until nothing waits. -/
import Derived.Test.YtjhndnhldhmjnaaDoorFlX
namespace Go.Proofs.YtjhndnhldhmjnaaDoor
open Go Go.RowKit Go.Maps
set_option linter.unusedVariables false
set_option linter.unusedSimpArgs false
theorem Prb.pot_st (P : Prb Wd) {i : Nat → Wd} {st st' : Nat → Bool} (h : ∀ k, k < P.n → st k = st' k) : P.pot i st = P.pot i st' :=
  Nat.le_antisymm (sum_le _ fun k hk => by rw [h k hk]; exact Nat.le_refl _) (sum_le _ fun k hk => by rw [h k hk]; exact Nat.le_refl _)
theorem Prb.slv_st (P : Prb Wd) {i o : Nat → Wd} {st st' : Nat → Bool} (h : P.Slv i o st) (e : ∀ k, k < P.n → st k = st' k) : P.Slv i o st' :=
  ⟨h.ins, h.up, fun k hk hs => h.set k hk (by rw [e k hk]; exact hs), h.low⟩
theorem Prb.slv_o (P : Prb Wd) {i o o' : Nat → Wd} {st : Nat → Bool} (h : P.Slv i o st) (e : ∀ k, o' k = o k) : P.Slv i o' st := by
  have : o' = o := funext e
  rw [this]; exact h
/-- A turn of a node that waits: what the solver knows stays true, and fewer turns are to come. -/
theorem turn_ok {c : Cn} {k : Nat} {i o qs i' o' qs' : Nat → Wd} (hk : k < c.P.n) {st : Nat → Bool} (hS : c.P.Slv i o st) (hst : st k = true) (hq : ∀ x, x < c.P.n → stF c qs x = upd st k false x)
    (hm : ∀ t, t ∈ c.tos k ↔ (k, t) ∈ c.P.edges) (h : FlR c k i o qs i' o' qs') : c.P.Slv i' o' (stF c qs') ∧ c.P.pot i' (stF c qs') < c.P.pot i st := by
  obtain ⟨rfl, h⟩ := h
  rcases h with ⟨he, rfl, rfl⟩ | ⟨he, rfl, h2⟩
  · constructor
    · refine c.P.slv_o (c.P.slv_st (hS.same c.P hk he) (fun x hx => (hq x hx).symm)) (fun x => ?_)
      unfold upd
      split
      · rename_i e; subst e; exact he
      · rfl
    · rw [c.P.pot_st (fun x hx => hq x hx)]
      exact c.P.pot_same hk hst
  · have same : ∀ x, x < c.P.n → (c.P.joinTo (c.P.flow k (i k)) (c.tos k) i (stF c qs)).2 x = (c.P.joinTo (c.P.flow k (i k)) (c.tos k) i (upd st k false)).2 x ∧ (c.P.joinTo (c.P.flow k (i k)) (c.tos k) i (stF c qs)).1 x = (c.P.joinTo (c.P.flow k (i k)) (c.tos k) i (upd st k false)).1 x := by
      have gen : ∀ (l : List Nat) (i : Nat → Wd) (s s' : Nat → Bool) (x : Nat), s x = s' x → (c.P.joinTo (c.P.flow k (i k)) l i s).1 = (c.P.joinTo (c.P.flow k (i k)) l i s').1 := fun l i s s' x h => by
        funext y
        rw [c.P.joinTo_in, c.P.joinTo_in]
      have gen2 : ∀ (v : Wd) (l : List Nat) (i : Nat → Wd) (s s' : Nat → Bool) (x : Nat), s x = s' x → (c.P.joinTo v l i s).2 x = (c.P.joinTo v l i s').2 x := by
        intro v l
        induction l with
        | nil => intro i s s' x h; exact h
        | cons t l ih =>
          intro i s s' x h
          unfold Prb.joinTo
          by_cases e : c.P.L.join (i t) v = i t
          · rw [if_pos e, if_pos e]; exact ih i s s' x h
          · rw [if_neg e, if_neg e]
            refine ih _ _ _ x ?_
            unfold upd
            split
            · rfl
            · exact h
      intro x hx
      refine ⟨gen2 _ _ _ _ _ x (hq x hx), ?_⟩
      rw [c.P.joinTo_in, c.P.joinTo_in]
    have hi : (c.P.joinTo (c.P.flow k (i k)) (c.tos k) i (stF c qs)).1 = (c.P.joinTo (c.P.flow k (i k)) (c.tos k) i (upd st k false)).1 := by
      funext y
      rw [c.P.joinTo_in, c.P.joinTo_in]
    have hs : ∀ x, x < c.P.n → stF c qs' x = (c.P.joinTo (c.P.flow k (i k)) (c.tos k) i (upd st k false)).2 x := fun x hx => (h2 x hx).trans (same x hx).1
    rw [hi]
    constructor
    · exact c.P.slv_st (hS.turn c.P hk hm) (fun x hx => (hs x hx).symm)
    · rw [c.P.pot_st hs]
      exact Nat.lt_of_le_of_lt (c.P.pot_join _ _ _ _) (c.P.pot_same hk hst)
end Go.Proofs.YtjhndnhldhmjnaaDoor
