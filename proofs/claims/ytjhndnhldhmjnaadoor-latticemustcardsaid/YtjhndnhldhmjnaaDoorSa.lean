/- Rows compared. -/
import Derived.Test.YtjhndnhldhmjnaaDoorLs
import Derived.Test.YtjhndnhldhmjnaaDoorMb
namespace Go.Proofs.YtjhndnhldhmjnaaDoor
open Go.RowKit Go.Maps
set_option linter.unusedVariables false
set_option linter.unusedSimpArgs false
set_option maxHeartbeats 1000000 in
theorem same14 {w : World} {g1 g2 n : Nat} {i i' : Nat → Wd} (h1 : RowU w g1 n i) (h2 : RowU w g2 n i') (hn : n ≤ 64) (he : ∀ k, k < n → i k = i' k) :
    Calls Tryd.prog 14 #[.slice (some ⟨g1, 0, none⟩) n n, .slice (some ⟨g2, 0, none⟩) n n] w fun e w' => e = .returned (.bool true) ∧ ∃ d, w' = w.drewN d := by
  have H1 := hid' h1
  have H2 := hid' h2
  have HE := hid' he
  clear h1 h2 he
  go_enter Tryd.func14, Tryd.ntmps14
  go_wp2
  go_loopw [5] (fun i wr => ∃ k d : Nat, k ≤ n ∧ i = .int .i64 k ∧ wr = w.drewN d) (fun i _ => n - (intOf i).toNat)
  case atStart => exact ⟨0, 0, Nat.zero_le _, rfl, rfl⟩
  case round =>
    obtain ⟨k, d, hk, rfl, rfl⟩ := hrel
    by_cases hlt : k < n
    · have c1 : (w.drewN d).cell? ⟨g1, k, none⟩ = some (uv (i k)) := H1.out.cell hlt
      have c2 : (w.drewN d).cell? ⟨g2, k, none⟩ = some (uv (i' k)) := H2.out.cell hlt
      rw [← HE.out k hlt] at c2
      generalize hW : w.drewN d = W at *
      generalize i k = x at *
      unfold uv at *
      go_wp2
      go_quiet (fail)
      go_wp2
      subst hW
      exact ⟨⟨k + 1, d + nq, by omega, by go_num, by rw [World.drewN_drewN]⟩, by simp [intOf]; omega⟩
    · have e : k = n := by omega
      subst e
      go_wp2
      go_ret
      exact ⟨rfl, d, rfl⟩
end Go.Proofs.YtjhndnhldhmjnaaDoor
