/- May a node be: its number and its flag. -/
import Derived.Test.YtnnnfabpceapcaaGreatDoorTree
import Derived.Deep.QuietTactic
import Derived.BigQuiet
namespace Go.Proofs.YtnnnfabpceapcaaGreatDoor
open Go.RowKit
set_option linter.unusedVariables false

/-- May a node have its number? -/
def numF (x : NdH) : Bool :=
  if x.kind = 1 then decide (x.num < 2147483648) || x.flag else if x.kind = 2 then decide (x.num ≤ 255) else if x.kind = 46 then decide (x.num = 0) || (decide (x.num = 1) && !x.flag) else decide (x.num = 0)
/-- May a node have its flag? -/
def flagF (x : NdH) : Bool := if x.kind = 1 ∨ x.kind = 43 ∨ x.kind = 46 then true else !x.flag

theorem flag33 {w : World} {b o : Nat} {x : NdH} {kv : Value} (h : NdAt w b o x kv) (hb : b < w.heap.size) :
    Calls Tryz.prog 25 #[.pointer (some ⟨b, o, none⟩)] w fun e w' => e = .returned (.bool (flagF x)) ∧ w' = w := by
  obtain ⟨c0, _, _, c3, _, _⟩ := h
  obtain ⟨k, s, m, f, p⟩ := x
  unfold flagF
  simp only at c0 c3 ⊢
  by_cases k1 : k = 1
  · subst k1
    go_enter Tryz.func25, Tryz.ntmps25
    go_wp2
    go_ret
    exact ⟨rfl, rfl⟩
  by_cases k2 : k = 43
  · subst k2
    go_enter Tryz.func25, Tryz.ntmps25
    go_wp2
    go_ret
    exact ⟨rfl, rfl⟩
  by_cases k3 : k = 46
  · subst k3
    go_enter Tryz.func25, Tryz.ntmps25
    go_wp2
    go_ret
    exact ⟨rfl, rfl⟩
  rw [if_neg (by omega)]
  go_enter Tryz.func25, Tryz.ntmps25
  go_wp2
  go_ret
  exact ⟨rfl, rfl⟩

theorem num32 {w : World} {b o : Nat} {x : NdH} {kv : Value} (h : NdAt w b o x kv) (hb : b < w.heap.size) :
    Calls Tryz.prog 24 #[.pointer (some ⟨b, o, none⟩)] w fun e w' => e = .returned (.bool (numF x)) ∧ w' = w := by
  obtain ⟨c0, _, c2, c3, _, _⟩ := h
  obtain ⟨k, s, m, f, p⟩ := x
  unfold numF
  simp only at c0 c2 c3 ⊢
  by_cases k1 : k = 1
  · subst k1
    rw [if_pos rfl]
    by_cases q : m < 2147483648
    · rw [decide_eq_true q, Bool.true_or]
      go_enter Tryz.func24, Tryz.ntmps24
      go_wp2
      go_ret
      exact ⟨rfl, rfl⟩
    · rw [decide_eq_false q, Bool.false_or]
      go_enter Tryz.func24, Tryz.ntmps24
      go_wp2
      go_ret
      exact ⟨rfl, rfl⟩
  by_cases k2 : k = 2
  · subst k2
    rw [if_neg (by decide), if_pos rfl]
    go_enter Tryz.func24, Tryz.ntmps24
    go_wp2
    go_ret
    exact ⟨rfl, rfl⟩
  by_cases k3 : k = 46
  · subst k3
    rw [if_neg (by decide), if_neg (by decide), if_pos rfl]
    by_cases q : m = 0
    · subst q
      go_enter Tryz.func24, Tryz.ntmps24
      go_wp2
      go_ret
      exact ⟨rfl, rfl⟩
    · rw [decide_eq_false q, Bool.false_or]
      by_cases q1 : m = 1
      · subst q1
        go_enter Tryz.func24, Tryz.ntmps24
        go_wp2
        go_ret
        exact ⟨rfl, rfl⟩
      · rw [decide_eq_false q1, Bool.false_and]
        go_enter Tryz.func24, Tryz.ntmps24
        go_wp2
        go_ret
        refine ⟨?_, rfl⟩
        show Ending.returned (Value.bool (m == 0)) = _
        rw [beq_eq_false_iff_ne.2 q]
  rw [if_neg k1, if_neg k2, if_neg k3]
  go_enter Tryz.func24, Tryz.ntmps24
  go_wp2
  go_ret
  exact ⟨rfl, rfl⟩
end Go.Proofs.YtnnnfabpceapcaaGreatDoor
