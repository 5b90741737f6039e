/- A split of the law's own nodes. -/
import Derived.Test.YtnnnfabpceapcaaDoorSp2
import Derived.Test.YtnnnfabpceapcaaDoorSpell2
import Derived.Test.YtnnnfabpceapcaaDoorAsk
namespace Go.Proofs.YtnnnfabpceapcaaDoor
open Go.RowKit
set_option linter.unusedVariables false

section
variable {G : NdH → List Tr → Bool} {qt : List UInt8 → List UInt8} {A : Nat → Prop} {sb : Nat} {T : List Pc} {w w0 : World} {b o : Nat} {x : NdH} {kv : Value} {n cb : Nat} {ks : List Tr}
/-- An expression is split as one. -/
theorem split_expr (J : Job G A sb T w0 w b o x kv n cb ks) (hk : 1 ≤ x.kind ∧ x.kind ≤ 15) (H : Calls Tryd.prog 36 #[.pointer (some ⟨sb, 0, none⟩), .pointer (some ⟨b, o, none⟩)] w (Spelt G qt A sb T w0 w x ks)) : Calls Tryd.prog 26 #[.pointer (some ⟨sb, 0, none⟩), .pointer (some ⟨b, o, none⟩)] w (Spelt G qt A sb T w0 w x ks) := by
  have H1 := hid' (expr35 (J.hat.below J.hw J.hb) (Nat.lt_of_lt_of_le J.hb J.hw.size))
  rw [decide_eq_true hk] at H1
  replace H := hid' H
  go_enter Tryd.func26, Tryd.ntmps26
  go_wp2_with (first
    | (go_at_call 35; (with_reducible refine H1.out.mono ?_); rintro e w1 ⟨rfl, rfl⟩)
    | (go_at_call 36; (with_reducible refine H.out.mono ?_); rintro e w1 ⟨rfl, s1⟩; replace s1 := hid' s1))
  go_end0
  exact ⟨rfl, s1.out⟩
theorem split_stmt (J : Job G A sb T w0 w b o x kv n cb ks) (hk : 47 ≤ x.kind ∧ x.kind ≤ 56) (H : Calls Tryd.prog 38 #[.pointer (some ⟨sb, 0, none⟩), .pointer (some ⟨b, o, none⟩)] w (Spelt G qt A sb T w0 w x ks)) : Calls Tryd.prog 26 #[.pointer (some ⟨sb, 0, none⟩), .pointer (some ⟨b, o, none⟩)] w (Spelt G qt A sb T w0 w x ks) := by
  have H1 := hid' (expr35 (J.hat.below J.hw J.hb) (Nat.lt_of_lt_of_le J.hb J.hw.size))
  have H2 := hid' (stmt37 (J.hat.below J.hw J.hb) (Nat.lt_of_lt_of_le J.hb J.hw.size))
  rw [decide_eq_false (by omega)] at H1
  rw [decide_eq_true hk] at H2
  replace H := hid' H
  go_enter Tryd.func26, Tryd.ntmps26
  go_wp2_with (first
    | (go_at_call 35; (with_reducible refine H1.out.mono ?_); rintro e w1 ⟨rfl, rfl⟩)
    | (go_at_call 37; (with_reducible refine H2.out.mono ?_); rintro e w1 ⟨rfl, rfl⟩)
    | (go_at_call 38; (with_reducible refine H.out.mono ?_); rintro e w1 ⟨rfl, s1⟩; replace s1 := hid' s1))
  go_end0
  exact ⟨rfl, s1.out⟩
theorem split_decl (J : Job G A sb T w0 w b o x kv n cb ks) (hk : ¬ (1 ≤ x.kind ∧ x.kind ≤ 15)) (hk2 : ¬ (47 ≤ x.kind ∧ x.kind ≤ 56)) (H : Calls Tryd.prog 39 #[.pointer (some ⟨sb, 0, none⟩), .pointer (some ⟨b, o, none⟩)] w (Spelt G qt A sb T w0 w x ks)) : Calls Tryd.prog 26 #[.pointer (some ⟨sb, 0, none⟩), .pointer (some ⟨b, o, none⟩)] w (Spelt G qt A sb T w0 w x ks) := by
  have H1 := hid' (expr35 (J.hat.below J.hw J.hb) (Nat.lt_of_lt_of_le J.hb J.hw.size))
  have H2 := hid' (stmt37 (J.hat.below J.hw J.hb) (Nat.lt_of_lt_of_le J.hb J.hw.size))
  rw [decide_eq_false hk] at H1
  rw [decide_eq_false hk2] at H2
  replace H := hid' H
  go_enter Tryd.func26, Tryd.ntmps26
  go_wp2_with (first
    | (go_at_call 35; (with_reducible refine H1.out.mono ?_); rintro e w1 ⟨rfl, rfl⟩)
    | (go_at_call 37; (with_reducible refine H2.out.mono ?_); rintro e w1 ⟨rfl, rfl⟩)
    | (go_at_call 39; (with_reducible refine H.out.mono ?_); rintro e w1 ⟨rfl, s1⟩; replace s1 := hid' s1))
  go_end0
  exact ⟨rfl, s1.out⟩
end

/-- The law's own nodes. -/
def ownG (x : NdH) (ks : List Tr) : Bool :=
  if x.kind = 1 then decide (x.num = 1) && (!x.flag && (ks.isEmpty && decide (x.str.size = 0)))
  else if x.kind = 16 then decide (x.num = 0) && (!x.flag && (ks.isEmpty && decide (lst x.str = [105, 110, 116])))
  else if x.kind = 40 then decide (x.num = 0) && (!x.flag && (decide (x.str.size = 0) && allK (ofK [41, 42, 45]) ks))
  else if x.kind = 42 then decide (x.num = 0) && (!x.flag && (decide (x.str.size = 0) && (decide (2 ≤ ks.length) && (onT (ofK [16]) (ks.getD 0 noT) && allK (ofK [43]) (ks.drop 1)))))
  else if x.kind = 43 then decide (x.num = 0) && (!x.flag && (decide (lst x.str = [120]) && (areK [] ks || areK [isExpr] ks)))
  else false
theorem own_split (qt : List UInt8 → List UInt8) : SplitIs ownG qt := fun A sb T w0 w b o x kv n cb ks J hG => by
  unfold ownG at hG
  by_cases k1 : x.kind = 1
  · rw [if_pos k1] at hG
    simp at hG
    exact split_expr J (by omega) (num36 (k := 1) (fmt_small 1 (by decide)) hG.1 (by decide) J k1)
  rw [if_neg k1] at hG
  by_cases k2 : x.kind = 16
  · exact split_decl J (by omega) (by omega) (type39 J k2)
  rw [if_neg k2] at hG
  by_cases k3 : x.kind = 40
  · exact split_decl J (by omega) (by omega) (prog39 J k3)
  rw [if_neg k3] at hG
  by_cases k4 : x.kind = 42
  · rw [if_pos k4] at hG
    simp at hG
    match ks, J, hG with
    | [], _, hG => exact absurd hG.2.2.2.1 (by simp)
    | [t], _, hG => exact absurd hG.2.2.2.1 (by simp)
    | t0 :: t1 :: r, J, hG => exact split_decl J (by omega) (by omega) (vars39 J (by simp) k4)
  rw [if_neg k4] at hG
  by_cases k5 : x.kind = 43
  · rw [if_pos k5] at hG
    simp at hG
    exact split_decl J (by omega) (by omega) (var39 J k5 hG.2.1)
  · rw [if_neg k5] at hG
    cases hG
end Go.Proofs.YtnnnfabpceapcaaDoor
