/- The document's rounding up. -/
import Derived.Test.YtmcadffagnbiaaaLay2
namespace Go.Proofs.Ytmcadffagnbiaaa
open Go.RowKit Go.Maps
set_option linter.unusedVariables false
set_option linter.unusedSimpArgs false

set_option maxHeartbeats 2000000 in
theorem up37 (n u : Int) (h0 : 0 ≤ n) (h1 : n ≤ 4000000000000000000) (hu : u = 1 ∨ u = 4) (w : World) : Calls Try.prog 37 #[.int .i64 n, .int .i64 u] w fun e w' => e = .returned (.int .i64 (upF n u)) ∧ w' = w := by
  have hU := up_le h0 hu
  have HU := hid' hU
  clear hU
  go_enter Try.func37, Try.ntmps37
  go_wp2
  go_loop [0] (fun i => ∃ x : Int, i = .int .i64 x ∧ n ≤ x ∧ x ≤ upF n u) (fun i => (upF n u - intOf i).toNat)
  case atStart => exact ⟨n, rfl, Int.le_refl _, HU.out.1⟩
  case round =>
    obtain ⟨x, rfl, x0, x1⟩ := hrel
    obtain ⟨u1, u2, u3, u4⟩ := HU.out
    have HX : Hid (upF n u = upF n u) := rfl
    have hdef : upF n u = (n + u - 1) / u * u := rfl
    have HD := hid' hdef
    by_cases hx : x % u = 0
    · have he : x = upF n u := by
        have := HD.out
        rcases hu with rfl | rfl <;> omega
      have ht : Int.tmod x u = 0 := by rw [Int.tmod_eq_emod_of_nonneg (by omega)]; exact hx
      have hun : ¬ u = 0 := by omega
      have HE := hid' he
      clear he hdef u1 u2 u3 u4 hx x0 x1
      go_wp2
      go_ret
      exact ⟨by rw [← HE.out]; rfl, rfl⟩
    · have ht : ¬ Int.tmod x u = 0 := by rw [Int.tmod_eq_emod_of_nonneg (by omega)]; exact hx
      have hun : ¬ u = 0 := by omega
      have hlt : x < upF n u := by
        rcases Int.lt_or_le x (upF n u) with h | h
        · exact h
        · have : x = upF n u := by omega
          rw [this] at hx
          exact absurd u3 hx
      have hw : IntKind.i64.wrap (x + 1) = x + 1 := by simp [IntKind.wrap, IntKind.bits, IntKind.signed]; omega
      have HL := hid' hlt
      have H0 := hid' x0
      clear hlt hdef u1 u2 u3 u4 hx x0 x1
      go_wp2
      go_round
      case rel => exact ⟨x + 1, rfl, by have := H0.out; omega, by have := HL.out; omega⟩
      case measure => simp [intOf]; have := HL.out; omega
end Go.Proofs.Ytmcadffagnbiaaa
