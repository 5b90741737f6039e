/- Is a bit in a row? -/
import Derived.Test.YtjhndnhldhmjnaaDoorRw
import Derived.Test.YtjhndnhldhmjnaaDoorQuiet
import Derived.BigQuiet
namespace Go.Proofs.YtjhndnhldhmjnaaDoor
open Go.RowKit Go.Maps
set_option linter.unusedVariables false
set_option linter.unusedSimpArgs false
set_option maxRecDepth 20000 in
set_option maxHeartbeats 4000000 in
theorem has38 {w : World} {g m cp : Nat} {f : Nat → Wd} (h : RowU w g m f) (n : Nat) (hm : m ≤ 1024) (hn8 : n ≤ 65536) : Calls Tryd.prog 38 #[.slice (some ⟨g, 0, none⟩) m cp, .int .i64 n] w fun e w' => e = .returned (.bool (decide (n / 64 < m ∧ (f (n / 64)).getLsbD (n % 64) = true))) ∧ Below w.heap.size w w' := by
  have w1 : IntKind.i64.wrap ((n : Int) / 64) = (n : Int) / 64 := wrap_small (by omega) (by omega)
  have w2 : (0 : Int) ≤ (n : Int) / 64 := by omega
  have w4 : ((n : Int) / 64).toNat = n / 64 := by omega
  by_cases hn : n / 64 < m
  · have w3 : (n : Int) / 64 < (m : Int) := by omega
    have c : ∀ t : After w, t.1.cell? ⟨g, n / 64, none⟩ = some (uv (f (n / 64))) := fun t => (h.on t.2).cell hn
    have T := bit_and_test (f (n / 64)) n
    have hb := b_and (f (n / 64)) (bitW n)
    have K52 : ∀ t : After w, _ := fun t => Calls.after t ((bit52 t.1 n).mono fun _ w' h => ⟨h.1, by rw [h.2]; exact Below.refl _ _⟩)
    have hne := after_some w
    clear h
    unfold uv at *
    go_enter Tryd.func38, Tryd.ntmps38
    go_wp2
    refine region_after 16 mixed (by kernel_rfl) ?_
    simp only [List.take_succ_cons, List.take_zero, List.drop_succ_cons, List.drop_zero]
    repeat (first | go_big_quiet_step (with_reducible exact K52 _) | quiet_step (with_reducible exact K52 _))
    refine wpQuiet_nil ?_
    intro w6 hb6
    clear K52 c hne
    go_wp2
    go_ret
    refine ⟨?_, hb6⟩
    rw [show decide (n / 64 < m ∧ (f (n / 64)).getLsbD (n % 64) = true) = decide ((f (n / 64)).getLsbD (n % 64) = true) by simp only [hn, true_and], ← T, BitVec.toNat_and]
    rfl
  · have w3 : (m : Int) ≤ (n : Int) / 64 := by omega
    have w5 : decide ((n : Int) / 64 < (m : Int)) = false := decide_eq_false (by omega)
    have hne := after_some w
    clear h
    go_enter Tryd.func38, Tryd.ntmps38
    go_wp2
    refine region_after 16 mixed (by kernel_rfl) ?_
    simp only [List.take_succ_cons, List.take_zero, List.drop_succ_cons, List.drop_zero]
    repeat (first | go_big_quiet_step (fail) | quiet_step (fail))
    refine wpQuiet_nil ?_
    intro w6 hb6
    clear hne
    go_wp2
    go_ret
    refine ⟨?_, hb6⟩
    rw [show decide (n / 64 < m ∧ (f (n / 64)).getLsbD (n % 64) = true) = false by simp [hn]]
    rfl
end Go.Proofs.YtjhndnhldhmjnaaDoor
