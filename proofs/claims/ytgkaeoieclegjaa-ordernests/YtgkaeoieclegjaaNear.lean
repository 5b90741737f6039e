import Derived.Test.YtgkaeoieclegjaaDfw
/- The document's nearest dominator, plainly. Free of the seat. -/
namespace Go.Proofs.Ytgkaeoieclegjaa
/-- Of the places below k that t sets above b: the last that all before it stand above. -/
def near (t : Nat → Nat → Bool) (b : Nat) : Nat → Option Nat
  | 0 => none
  | k + 1 => if k ≠ b ∧ t k b = true ∧ (match near t b k with | none => true | some c => t c k) = true then some k else near t b k
theorem near_spec {t : Nat → Nat → Bool} {b : Nat} (hr : ∀ x, t x b = true → t x x = true) (ht : ∀ x y z, t z b = true → t x y = true → t y z = true → t x z = true)
    (hl : ∀ x y, t x b = true → t y b = true → t x y = true ∨ t y x = true) : ∀ k,
    (∀ c, near t b k = some c → c < k ∧ c ≠ b ∧ t c b = true ∧ ∀ y, y < k → y ≠ b → t y b = true → t y c = true) ∧
    (near t b k = none → ∀ y, y < k → y ≠ b → t y b = false)
  | 0 => ⟨(fun c h => by cases h), (fun _ y hy => by omega)⟩
  | k + 1 => by
    obtain ⟨h1, h2⟩ := near_spec hr ht hl k
    unfold near
    cases hn : near t b k with
    | none =>
      have h2 := h2 hn
      by_cases hk : k ≠ b ∧ t k b = true
      · rw [if_pos ⟨hk.1, hk.2, rfl⟩]
        refine ⟨fun c e => ?_, fun e => by cases e⟩
        injection e with e
        subst e
        refine ⟨by omega, hk.1, hk.2, fun y hy hyb hty => ?_⟩
        by_cases e : y = k
        · subst e; exact hr y hty
        · rw [h2 y (by omega) hyb] at hty
          cases hty
      · rw [if_neg fun h => hk ⟨h.1, h.2.1⟩]
        refine ⟨(fun c e => by cases e), fun _ y hy hyb => ?_⟩
        by_cases e : y = k
        · subst e
          cases hty : t y b with
          | false => rfl
          | true => exact absurd ⟨hyb, hty⟩ hk
        · exact h2 y (by omega) hyb
    | some c =>
      obtain ⟨c1, c2, c3, c4⟩ := h1 c hn
      dsimp only
      by_cases hk : k ≠ b ∧ t k b = true ∧ t c k = true
      · rw [if_pos hk]
        refine ⟨fun d e => ?_, fun e => by cases e⟩
        injection e with e
        subst e
        refine ⟨by omega, hk.1, hk.2.1, fun y hy hyb hty => ?_⟩
        by_cases e : y = k
        · subst e; exact hr y hty
        · exact ht y c k hk.2.1 (c4 y (by omega) hyb hty) hk.2.2
      · rw [if_neg hk]
        refine ⟨fun d e => ?_, fun e => by cases e⟩
        injection e with e
        subst e
        refine ⟨by omega, c2, c3, fun y hy hyb hty => ?_⟩
        by_cases e : y = k
        · subst e
          rcases hl c y c3 hty with h | h
          · exact absurd ⟨hyb, hty, h⟩ hk
          · exact h
        · exact c4 y (by omega) hyb hty
end Go.Proofs.Ytgkaeoieclegjaa
