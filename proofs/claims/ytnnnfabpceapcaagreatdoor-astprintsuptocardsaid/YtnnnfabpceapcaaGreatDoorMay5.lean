/- Is a node an expression, a statement? -/
import Derived.Test.YtnnnfabpceapcaaGreatDoorTree
namespace Go.Proofs.YtnnnfabpceapcaaGreatDoor
open Go.RowKit
set_option linter.unusedVariables false

theorem expr35 {w : World} {b o : Nat} {x : NdH} {kv : Value} (h : NdAt w b o x kv) (hb : b < w.heap.size) :
    Calls Tryz.prog 44 #[.pointer (some ⟨b, o, none⟩)] w fun e w' => e = .returned (.bool (decide (1 ≤ x.kind ∧ x.kind ≤ 15))) ∧ w' = w := by
  obtain ⟨c0, _, _, _, _, _⟩ := h
  generalize x.kind = k at *
  by_cases h1 : 1 ≤ k
  · by_cases h2 : k ≤ 15
    · rw [decide_eq_true ⟨h1, h2⟩]
      go_enter Tryz.func44, Tryz.ntmps44
      go_wp2
      go_ret
      exact ⟨rfl, rfl⟩
    · rw [decide_eq_false (by omega)]
      go_enter Tryz.func44, Tryz.ntmps44
      go_wp2
      go_ret
      exact ⟨rfl, rfl⟩
  · rw [decide_eq_false (by omega)]
    go_enter Tryz.func44, Tryz.ntmps44
    go_wp2
    go_ret
    exact ⟨rfl, rfl⟩

theorem stmt37 {w : World} {b o : Nat} {x : NdH} {kv : Value} (h : NdAt w b o x kv) (hb : b < w.heap.size) :
    Calls Tryz.prog 46 #[.pointer (some ⟨b, o, none⟩)] w fun e w' => e = .returned (.bool (decide (47 ≤ x.kind ∧ x.kind ≤ 56))) ∧ w' = w := by
  obtain ⟨c0, _, _, _, _, _⟩ := h
  generalize x.kind = k at *
  by_cases h1 : 47 ≤ k
  · by_cases h2 : k ≤ 56
    · rw [decide_eq_true ⟨h1, h2⟩]
      go_enter Tryz.func46, Tryz.ntmps46
      go_wp2
      go_ret
      exact ⟨rfl, rfl⟩
    · rw [decide_eq_false (by omega)]
      go_enter Tryz.func46, Tryz.ntmps46
      go_wp2
      go_ret
      exact ⟨rfl, rfl⟩
  · rw [decide_eq_false (by omega)]
    go_enter Tryz.func46, Tryz.ntmps46
    go_wp2
    go_ret
    exact ⟨rfl, rfl⟩
end Go.Proofs.YtnnnfabpceapcaaGreatDoor
