/- Is a number in a set? -/
import Derived.Test.YtjhndnhldhmjnaaDoorUs
import Derived.Test.YtjhndnhldhmjnaaDoorRh
namespace Go.Proofs.YtjhndnhldhmjnaaDoor
open Go Go.RowKit Go.Maps
set_option linter.unusedVariables false
set_option linter.unusedSimpArgs false
set_option maxRecDepth 20000 in
set_option maxHeartbeats 4000000 in
theorem has38s {w : World} {v : Value} {xs : List Wd} (h : Src ucell w v xs) (n : Nat) (hm : xs.length ≤ 1024) (hn8 : n ≤ 65536) : Calls Tryd.prog 38 #[v, .int .i64 n] w fun e w' => e = .returned (.bool (memL xs n)) ∧ Below w.heap.size w w' := by
  obtain ⟨ao, cp, rfl, hf⟩ := h.words
  have w1 : IntKind.i64.wrap ((n : Int) / 64) = (n : Int) / 64 := wrap_small (by omega) (by omega)
  have w2 : (0 : Int) ≤ (n : Int) / 64 := by omega
  have w4 : ((n : Int) / 64).toNat = n / 64 := by omega
  by_cases hn : n / 64 < xs.length
  · obtain ⟨b, off, rfl, hb1, hc1, hx⟩ := hf (n / 64) hn
    have w3 : (n : Int) / 64 < (xs.length : Int) := by omega
    have c : ∀ t : After w, t.1.cell? ⟨b, off + n / 64, none⟩ = some (uv xs[n / 64]) := fun t => hx t.1 t.2
    have T := bit_and_test xs[n / 64] n
    have hb := b_and xs[n / 64] (bitW n)
    have e0 : memL xs n = xs[n / 64].getLsbD (n % 64) := by unfold memL; rw [getD_lt hn]
    rw [e0]
    have K52 : ∀ t : After w, _ := fun t => Calls.after t ((bit52 t.1 n).mono fun _ w' h => ⟨h.1, by rw [h.2]; exact Below.refl _ _⟩)
    have hne := after_some w
    clear h hf hx e0
    generalize xs[n / 64] = x at *
    unfold uv at *
    go_enter Tryd.func38, Tryd.ntmps38
    go_wp2
    refine region_after 16 mixed (by kernel_rfl) ?_
    simp only [List.take_succ_cons, List.take_zero, List.drop_succ_cons, List.drop_zero]
    repeat (first | go_big_quiet_step (with_reducible exact K52 _) | quiet_step (with_reducible exact K52 _))
    refine wpQuiet_nil ?_
    intro w6 hb6
    clear K52 c hne
    go_wp2
    go_ret
    refine ⟨?_, hb6⟩
    have e1 : x.getLsbD (n % 64) = decide (x.getLsbD (n % 64) = true) := by simp
    rw [e1, ← T, BitVec.toNat_and]
    rfl
  · have w3 : (xs.length : Int) ≤ (n : Int) / 64 := by omega
    have w5 : decide ((n : Int) / 64 < (xs.length : Int)) = false := decide_eq_false (by omega)
    have e0 : memL xs n = false := by
      cases e : memL xs n
      · rfl
      · exact absurd (mem_lt e) hn
    rw [e0]
    have hne := after_some w
    clear h hf e0
    go_enter Tryd.func38, Tryd.ntmps38
    go_wp2
    refine region_after 16 mixed (by kernel_rfl) ?_
    simp only [List.take_succ_cons, List.take_zero, List.drop_succ_cons, List.drop_zero]
    repeat (first | go_big_quiet_step (fail) | quiet_step (fail))
    refine wpQuiet_nil ?_
    intro w6 hb6
    clear hne
    go_wp2
    go_ret
    exact ⟨rfl, hb6⟩
/-- What Has tells. -/
def hasI (xs : List Wd) (n : Int) : Bool := decide (0 ≤ n ∧ n < 65536) && memL xs n.toNat
set_option maxRecDepth 20000 in
set_option maxHeartbeats 4000000 in
theorem has19 {w : World} {v : Value} {xs : List Wd} (h : SetIs w v xs) (n : Int) : Calls Tryd.prog 19 #[v, .int .i64 n] w fun e w' => e = .returned (.bool (hasI xs n)) ∧ Below w.heap.size w w' := by
  obtain ⟨⟨rv, rfl, hs⟩, _, hle⟩ := h
  have KM := fun W => mayBeIn35 W n
  have hb := below1 w (.cells #[rv] 49)
  unfold hasI
  by_cases hin : 0 ≤ n ∧ n < 65536
  · obtain ⟨nn, rfl⟩ : ∃ nn : Nat, n = nn := ⟨n.toNat, by omega⟩
    have KH := has38s (hs.on hb) nn hle (by omega)
    rw [decide_eq_true hin] at KM ⊢
    rw [Bool.true_and, Int.toNat_natCast]
    generalize memL xs nn = r at *
    have HB := hid' hb
    obtain ⟨so, sc, erv⟩ := hs.len
    subst erv
    clear hs hb
    go_enter Tryd.func19, Tryd.ntmps19
    go_wp2_with (first
      | (go_at_call 35; refine (KM _).mono ?_; rintro e9 w9 ⟨rfl, rfl⟩)
      | (go_at_call 38; refine KH.mono ?_; rintro e8 w8 ⟨rfl, hb8⟩))
    go_ret
    exact ⟨rfl, below_up HB.out hb8⟩
  · rw [decide_eq_false hin] at KM ⊢
    rw [Bool.false_and]
    have HB := hid' hb
    clear hs hb
    go_enter Tryd.func19, Tryd.ntmps19
    go_wp2_with (first
      | (go_at_call 35; refine (KM _).mono ?_; rintro e9 w9 ⟨rfl, rfl⟩))
    go_ret
    exact ⟨rfl, HB.out⟩
end Go.Proofs.YtjhndnhldhmjnaaDoor
