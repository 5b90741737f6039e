/- kidsMay, by what a node is. -/
import Derived.Test.YtnnnfabpceapcaaGreatDoorAsk
namespace Go.Proofs.YtnnnfabpceapcaaGreatDoor
open Go.RowKit
set_option linter.unusedVariables false
section
variable {w : World} {b o : Nat} {x : NdH} {kv : Value} {q : Bool}
theorem kids34_expr (h : NdAt w b o x kv) (hb : b < w.heap.size) (hk : (1 ≤ x.kind ∧ x.kind ≤ 15) ∨ x.kind = 16) (H : Calls Tryz.prog 45 #[.pointer (some ⟨b, o, none⟩)] w fun e w' => e = .returned (.bool q) ∧ Below w.heap.size w w') :
    Calls Tryz.prog 26 #[.pointer (some ⟨b, o, none⟩)] w fun e w' => e = .returned (.bool q) ∧ Below w.heap.size w w' := by
  have H1 := hid' (expr35 h hb)
  obtain ⟨c0, _, _, _, _, _⟩ := h
  replace H := hid' H
  by_cases hk1 : 1 ≤ x.kind ∧ x.kind ≤ 15
  · rw [decide_eq_true hk1] at H1
    go_enter Tryz.func26, Tryz.ntmps26
    go_wp2_with (first
      | (go_at_call 44; (with_reducible refine H1.out.mono ?_); rintro e w1 ⟨rfl, rfl⟩)
      | (go_at_call 45; (with_reducible refine H.out.mono ?_); rintro e w1 ⟨rfl, s1⟩; replace s1 := hid' s1))
    go_ret
    exact ⟨rfl, s1.out⟩
  · rw [decide_eq_false hk1] at H1
    have hk2 : x.kind = 16 := by omega
    rw [hk2] at c0
    go_enter Tryz.func26, Tryz.ntmps26
    go_wp2_with (first
      | (go_at_call 44; (with_reducible refine H1.out.mono ?_); rintro e w1 ⟨rfl, rfl⟩)
      | (go_at_call 45; (with_reducible refine H.out.mono ?_); rintro e w1 ⟨rfl, s1⟩; replace s1 := hid' s1))
    go_ret
    exact ⟨rfl, s1.out⟩
theorem kids34_stmt (h : NdAt w b o x kv) (hb : b < w.heap.size) (hk : 47 ≤ x.kind ∧ x.kind ≤ 56) (H : Calls Tryz.prog 47 #[.pointer (some ⟨b, o, none⟩)] w fun e w' => e = .returned (.bool q) ∧ Below w.heap.size w w') :
    Calls Tryz.prog 26 #[.pointer (some ⟨b, o, none⟩)] w fun e w' => e = .returned (.bool q) ∧ Below w.heap.size w w' := by
  have H1 := hid' (expr35 h hb)
  have H2 := hid' (stmt37 h hb)
  obtain ⟨c0, _, _, _, _, _⟩ := h
  replace H := hid' H
  have hne : x.kind ≠ 16 := by omega
  rw [decide_eq_false (by omega)] at H1
  rw [decide_eq_true hk] at H2
  generalize x.kind = k at *
  go_enter Tryz.func26, Tryz.ntmps26
  go_wp2_with (first
    | (go_at_call 44; (with_reducible refine H1.out.mono ?_); rintro e w1 ⟨rfl, rfl⟩)
    | (go_at_call 46; (with_reducible refine H2.out.mono ?_); rintro e w1 ⟨rfl, rfl⟩)
    | (go_at_call 47; (with_reducible refine H.out.mono ?_); rintro e w1 ⟨rfl, s1⟩; replace s1 := hid' s1))
  go_ret
  exact ⟨rfl, s1.out⟩
theorem kids34_decl (h : NdAt w b o x kv) (hb : b < w.heap.size) (hk : ¬ (1 ≤ x.kind ∧ x.kind ≤ 15)) (hne : x.kind ≠ 16) (hk2 : ¬ (47 ≤ x.kind ∧ x.kind ≤ 56)) (H : Calls Tryz.prog 48 #[.pointer (some ⟨b, o, none⟩)] w fun e w' => e = .returned (.bool q) ∧ Below w.heap.size w w') :
    Calls Tryz.prog 26 #[.pointer (some ⟨b, o, none⟩)] w fun e w' => e = .returned (.bool q) ∧ Below w.heap.size w w' := by
  have H1 := hid' (expr35 h hb)
  have H2 := hid' (stmt37 h hb)
  obtain ⟨c0, _, _, _, _, _⟩ := h
  replace H := hid' H
  rw [decide_eq_false hk] at H1
  rw [decide_eq_false hk2] at H2
  generalize x.kind = k at *
  rcases Int.lt_or_gt_of_ne hne with h16 | h16
  all_goals
    go_enter Tryz.func26, Tryz.ntmps26
    go_wp2_with (first
      | (go_at_call 44; (with_reducible refine H1.out.mono ?_); rintro e w1 ⟨rfl, rfl⟩)
      | (go_at_call 46; (with_reducible refine H2.out.mono ?_); rintro e w1 ⟨rfl, rfl⟩)
      | (go_at_call 48; (with_reducible refine H.out.mono ?_); rintro e w1 ⟨rfl, s1⟩; replace s1 := hid' s1))
    go_ret
    exact ⟨rfl, s1.out⟩
end
end Go.Proofs.YtnnnfabpceapcaaGreatDoor
