/- Proved: whatever instruction is handed in, Reads tells just the registers that the document says it reads, in order, and Writes the one that it writes, or -1 (the law IsaUses returns true at every input), and no argument is changed. No condition. -/
import Derived.Test.YtjipahjhaeidhaaUsesWalks
import Derived.Test.YtjipahjhaeidhaaFrame
import Derived.WalkKit
import Derived.ProofKit
import Derived.OpenShut
namespace Go.Proofs.Ytjipahjhaeidhaa.isaUses
open Go.ChangeShapes Go.WideShapes Go.ChangeAt Go.RowKit
set_option linter.unusedVariables false

theorem walk_yes {op p lo hi n d a b i : Int} {D A B sg is : Bool} (R : Row p lo hi D A B n sg is) (hp : partsF op = p) (i0 : -2147483648 ≤ i) (i1 : i ≤ 2147483647) (hm : mayR is D A B lo hi d a b i = true) (w : World) :
    Calls Try.prog 5 #[.agg #[.int .i64 op, .int .i64 d, .int .i64 a, .int .i64 b, .int .i32 i]] w fun e w' => e = .returned (.bool true) ∧ Below w.heap.size w w' := by
  have h14 := fun w => reads14_yes R hp hm w
  have h15 := fun w => reads15_yes R hp i0 i1 hm w
  have h16 := fun w => writes16_yes R hp hm w
  have h17 := fun w => writes17_yes R hp i0 i1 hm w
  rcases reads_forms p d a b with h | ⟨x, h⟩ | ⟨x, y, h⟩
  · rw [h] at h14 h15
    exact uses_nil h14 h15 h16 h17 w
  · rw [h] at h14 h15
    exact uses_one h14 h15 h16 h17 w
  · rw [h] at h14 h15
    exact uses_two h14 h15 h16 h17 w

theorem walk_no {op p lo hi n d a b i : Int} {D A B sg is : Bool} (R : Row p lo hi D A B n sg is) (hp : partsF op = p) (i0 : -2147483648 ≤ i) (i1 : i ≤ 2147483647) (hm : mayR is D A B lo hi d a b i = false) (w : World) :
    Calls Try.prog 5 #[.agg #[.int .i64 op, .int .i64 d, .int .i64 a, .int .i64 b, .int .i32 i]] w fun e w' => e = .returned (.bool true) ∧ Below w.heap.size w w' :=
  uses_nil (k := -1) (fun w => reads14_no R hp hm w) (fun w => reads15_no R hp i0 i1 hm w) (fun w => writes16_no R hp hm w) (fun w => writes17_no R hp i0 i1 hm w) w

theorem walk (x0 x1 x2 x3 x4 : Int) (w4 : (Lit.int .i32 x4).wf = true) (w : World) :
    Calls Try.prog 5 #[.agg #[.int .i64 x0, .int .i64 x1, .int .i64 x2, .int .i64 x3, .int .i32 x4]] w fun e w' => e = .returned (.bool true) ∧ Below w.heap.size w w' := by
  have R := row_of x0
  obtain ⟨i0, i1⟩ := bounds_i32 w4
  cases hm : mayR (isF (partsF x0)) (hasD (partsF x0)) (hasA (partsF x0)) (hasB (partsF x0)) (loF (partsF x0)) (hiF (partsF x0)) x1 x2 x3 x4
  · exact walk_no R rfl i0 i1 hm w
  · exact walk_yes R rfl i0 i1 hm w

set_option maxRecDepth 100000 in
theorem lifted (os : Os) (started : os.Started) (H : Type) (enc : TypeId × Value → H) :
    ReturnsInHanded {} Try.checked os 5 .any (Rows.isaUsesSpec.pre6 enc Try.prog Try.f5 Rows.isaUsesRow.domain false) (Rows.isaUsesSpec.post enc Try.prog Try.f5 false true false false) := by
  refine returnsInHanded_of_change (C := Try.checked) own started (by kernel_rfl) Try.func5
    (ChangeSpec.witness6 (enc := enc) (C := Try.checked) false ⟨#[], #[.agg #[.int .i64 0, .int .i64 0, .int .i64 0, .int .i64 0, .int .i32 0]], []⟩ 8 (by kernel_rfl) (by kernel_rfl) (by kernel_rfl) (by kernel_rfl)) ?_
  intro W base args ds gs before hval0 hW hcnd _
  have hval : ∀ (j : Nat) t v, Try.f5.params[j]? = some t → args[j]? = some v → Value.okWide Try.prog W .any base t v := hval0
  have hW' := hW
  obtain ⟨p, q, hA0, hV, rfl, hfz, hnd⟩ := hW
  have hA : DataW.TrodAll enc Try.prog W 0 (fun _ => true) true Try.f5.params.toList args.toList ds p := hA0
  rw [Try.params5] at hA hval
  obtain ⟨v0, vs0, d0, ds0, p0, q0, hargs, rfl, rfl, h0, r0⟩ := trodAll_cons hA
  obtain ⟨rfl, rfl, rfl⟩ := trodAll_nil r0
  obtain rfl : args = #[v0] := by cases args; simp_all
  obtain ⟨rfl, rfl⟩ := trodVars_none hV
  obtain ⟨x0, x1, x2, x3, x4, rfl, rfl, rfl, w0, w1, w2, w3, w4⟩ := open_ins (hval 0 23 v0 rfl rfl) h0
  clear hA0 hval0
  simp only [List.append_nil] at hW'
  refine (walk x0 x1 x2 x3 x4 w4 W).mono fun e W' ⟨he, hb⟩ => ?_
  subst he
  exact ⟨_, rfl, post_plain hW' (fun _ _ _ => (trodAll_cons_mk (shut_bool Try.underlying4 _) trodAll_mk0)) (fun sp => (trodAll_cons_mk (shut_ins w0 w1 w2 w3 w4) trodAll_mk0)) (fun _ => rfl)
    hb (ok_one (by kernel_rfl) rfl (okWide_bool_mk Try.underlying4 _))⟩

theorem over : Rows.isaUsesRow.holds Try.pinned (OpenSpec.ofChange Rows.isaUsesSpec) :=
  OpenClaim.holds_of_wide 5 Try.f5 rfl rfl rfl rfl rfl rfl rfl ⟨rfl, rfl, rfl, rfl, rfl⟩ rfl rfl rfl rfl rfl (by kernel_rfl) Try.func5 (by kernel_rfl)
    (of_decide_eq_true (by kernel_rfl)) (by unfold Func.isWrapper; first | (rw [if_pos (by decide +kernel)]; kernel_rfl) | (rw [if_neg (by decide +kernel)]; exact ⟨rfl, rfl⟩))
    (fun os started H enc _ => lifted os started H enc)

theorem proved : Rows.IsaUsesSaid :=
  over
end Go.Proofs.Ytjipahjhaeidhaa.isaUses
namespace Go.Proofs.Ytjipahjhaeidhaa
theorem isaUses_holds : Rows.IsaUsesSaid := isaUses.proved
#print axioms isaUses_holds
end Go.Proofs.Ytjipahjhaeidhaa
