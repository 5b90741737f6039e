/- Small functions of a run: spend, trap, get, told, set. -/
import Derived.Test.YtiehlkhpblldaaaRm
import Derived.Test.YtiehlkhpblldaaaQuiet
namespace Go.Proofs.Ytiehlkhpblldaaa
open Go.RowKit Go.Maps
set_option linter.unusedVariables false
set_option linter.unusedSimpArgs false
section
variable {C : Cst} {W0 W W' : World} {r : Nat} {s s' : St} {x : Vs} {t : Tp}

def spendF (s : St) (n : Int) : St := if s.fuel < n then { s with kind := 3 } else { s with fuel := s.fuel - n }
set_option maxHeartbeats 4000000 in
theorem spend28 (h : RunM C W0 r W s x t) {n : Int} (hn : 0 ≤ n) (hf : s.fuel ≤ 9223372036854775807) :
    Calls Try.prog 28 #[.pointer (some ⟨r, 0, none⟩), .int .i64 n] W fun e w' => e = .returned (.bool (decide (n ≤ s.fuel))) ∧ RunM C W0 r w' (spendF s n) x t := by
  have H := hid' h
  have c17 : W.cell? ⟨r, 17, none⟩ = some (.int .i64 s.fuel) := h.cell 17
  have c23 : W.cell? ⟨r, 23, none⟩ = some (.int .i64 s.kind) := h.cell 23
  have fr := h.fro
  clear h
  by_cases g : s.fuel < n
  · rw [decide_eq_false (by omega)]
    have HE : Hid (spendF s n = { s with kind := 3 }) := by unfold Hid spendF; rw [if_pos g]
    go_enter Try.func28, Try.ntmps28
    go_wp2
    go_ret
    exact ⟨rfl, by rw [HE.out]; exact H.out.put 23 _ rfl rfl⟩
  · rw [decide_eq_true (by omega)]
    have HE : Hid (spendF s n = { s with fuel := s.fuel - n }) := by unfold Hid spendF; rw [if_neg g]
    have hw : IntKind.i64.wrap (s.fuel - n) = s.fuel - n := by simp [IntKind.wrap, IntKind.bits, IntKind.signed]; omega
    go_enter Try.func28, Try.ntmps28
    go_wp2
    go_ret
    exact ⟨rfl, by rw [HE.out]; exact H.out.put 17 _ rfl rfl⟩

def trapF (s : St) (k : Int) : St := { s with kind := 2, trap := k }
set_option maxHeartbeats 4000000 in
theorem trap24 (h : RunM C W0 r W s x t) (k : Int) :
    Calls Try.prog 24 #[.pointer (some ⟨r, 0, none⟩), .int .i64 k] W fun e w' => e = .returned (.tuple #[]) ∧ RunM C W0 r w' (trapF s k) x t := by
  have H := hid' h
  have c25 : W.cell? ⟨r, 25, none⟩ = some (.int .i64 s.trap) := h.cell 25
  have c23 : W.cell? ⟨r, 23, none⟩ = some (.int .i64 s.kind) := h.cell 23
  have fr := h.fro
  clear h
  go_enter Try.func24, Try.ntmps24
  go_wp2
  go_end0
  have h1 := H.out.put (s' := { s with kind := 2 }) (t' := t) 23 (.int .i64 2) rfl rfl
  exact ⟨rfl, h1.put (s' := trapF s k) 25 _ rfl rfl⟩
end
end Go.Proofs.Ytiehlkhpblldaaa
