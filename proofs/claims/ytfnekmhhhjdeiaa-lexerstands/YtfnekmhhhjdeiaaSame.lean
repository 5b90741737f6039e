/- The same tokens twice, as the document holds them against one another. -/
import Derived.Test.YtfnekmhhhjdeiaaJoinW
namespace Go.Proofs.Ytfnekmhhhjdeiaa
open Go.RowKit
set_option linter.unusedVariables false

set_option maxHeartbeats 4000000 in
theorem same14 {w : World} {g1 g2 c1 c2 : Nat} {ts : List TT} (hn : ts.length ≤ 1000000) (h1 : ∀ j u, (cellsT ts)[j]? = some u → w.cell? ⟨g1, j, none⟩ = some u) (h2 : ∀ j u, (cellsT ts)[j]? = some u → w.cell? ⟨g2, j, none⟩ = some u) (hg1 : g1 < w.heap.size) (hg2 : g2 < w.heap.size) :
    Calls Try.prog 14 #[.slice (some ⟨g1, 0, none⟩) ts.length c1, .slice (some ⟨g2, 0, none⟩) ts.length c2] w fun e w' => e = .returned (.bool true) ∧ ∃ n, w' = w.drewN n := by
  obtain ⟨N, hN⟩ : ∃ N, N = ts.length := ⟨_, rfl⟩
  rw [← hN] at hn ⊢
  replace hN := hid hN
  replace h1 := hid h1
  replace h2 := hid h2
  go_enter Try.func14, Try.ntmps14
  go_wp2
  go_loopw [5] (fun i wr => ∃ k d : Nat, k ≤ N ∧ i = .int .i64 k ∧ wr = w.drewN d) (fun i _ => N - (intOf i).toNat)
  case atStart => exact ⟨0, 0, Nat.zero_le _, rfl, rfl⟩
  case round =>
    obtain ⟨k, d, hk, rfl, rfl⟩ := hrel
    by_cases hlt : k < N
    · have hkT : k < ts.length := by rw [← hN.out]; exact hlt
      obtain ⟨t0, t1, t2, t3, t4, t5⟩ := tok_at h1.out hg1 (Below.refl _ _) hkT
      obtain ⟨s0, s1, s2, s3, s4, s5⟩ := tok_at h2.out hg2 (Below.refl _ _) hkT
      generalize ts[k] = x at *
      obtain ⟨⟨kd, tx, nu, un⟩, ps, en⟩ := x
      dsimp only at s0 s1 s2 s3 s4 s5 t0 t1 t2 t3 t4 t5
      generalize strL tx = X at *
      go_wp2
      go_quiet (fail)
      go_wp2
      exact ⟨⟨k + 1, _, by omega, vi (by omega), rfl⟩, by simp [intOf]; omega⟩
    · go_wp2
      go_ret
      exact ⟨rfl, _, rfl⟩
end Go.Proofs.Ytfnekmhhhjdeiaa
