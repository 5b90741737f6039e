/- Proved: whatever act is handed in, a scope that nobody made (none, or a struct of nothing) knows nothing, and every call on it answers that the argument is wrong (the law ScopeNobody returns true at every input), and no argument is changed. No condition. -/
import Derived.Test.YthdphldagfeepaaFrame
import Derived.Test.YthdphldagfeepaaNobody
namespace Go.Proofs.Ythdphldagfeepaa.scopeNobody
open Go.ChangeShapes Go.WideShapes Go.ChangeAt Go.RowKit
open Go.ChangeMaps (open_string shut_string)
set_option linter.unusedVariables false
set_option linter.unusedSimpArgs false

set_option maxRecDepth 100000 in
theorem lifted (os : Os) (started : os.Started) (H : Type) (enc : TypeId × Value → H) :
    ReturnsInHanded {} Try.checked os 5 .any (Rows.scopeNobodySpec.pre6 enc Try.prog Try.f5 Rows.scopeNobodyRow.domain false) (Rows.scopeNobodySpec.post enc Try.prog Try.f5 false true false false) := by
  refine returnsInHanded_of_change_shaped (C := Try.checked) own started (by kernel_rfl) Try.func5
    (ChangeSpec.witness6 (enc := enc) (C := Try.checked) false ⟨#[], #[.agg #[.int .i64 0, .string ⟨#[]⟩, .int .i64 0]], []⟩ 8 (by kernel_rfl) (by kernel_rfl) (by kernel_rfl) (by kernel_rfl)) ?_
  intro W base args ds gs before hval0 hW hcnd hwt0 hsh _
  have hval : ∀ (j : Nat) t v, Try.f5.params[j]? = some t → args[j]? = some v → Value.okWide Try.prog W .any base t v := hval0
  have hW' := hW
  obtain ⟨p, q, hA0, hV, rfl, hfz, hnd⟩ := hW
  have hA : DataW.TrodAll enc Try.prog W 0 (fun _ => true) true Try.f5.params.toList args.toList ds p := hA0
  rw [Try.params5] at hA hval
  obtain ⟨v0, vs0, d0, ds0, p0, q0, hargs, rfl, rfl, h0, r0⟩ := trodAll_cons hA
  obtain ⟨rfl, rfl, rfl⟩ := trodAll_nil r0
  obtain rfl : args = #[v0] := by cases args; simp_all
  obtain ⟨rfl, rfl⟩ := trodVars_none hV
  have hwt : ∀ m ∈ DataW.weightsEach Try.prog [29] [d0], m ≤ reachBytes := fun m hm => of_decide_eq_true (List.all_eq_true.1 hwt0 m hm)
  obtain ⟨a0, rfl, o0, rfl, rfl, z0⟩ := open_act (hval 0 29 v0 rfl rfl) h0 (fun m hm => hwt m (DataW.weights_mem_each (j := 0) (t := 29) (d := d0) rfl rfl m hm))
  clear hA0 hval0
  simp only [List.append_nil, List.nil_append] at hW'
  refine (nobody5 a0.d a0.x a0.nm W).mono fun e W' ⟨he, hb'⟩ => ?_
  subst he
  exact ⟨_, rfl, post_kept hW' (fun _ _ _ => trodAll_cons_mk (shut_bool Try.underlying4 _) trodAll_mk0)
    (trodAll_cons_mk (shut_act z0 (by have := o0.1; unfold maxLen; omega) o0.2) trodAll_mk0) (fun _ => rfl) hb'⟩

theorem proved : Rows.ScopeNobodySaid :=
  OpenClaim.holds_of_wide 5 Try.f5 rfl rfl rfl rfl rfl rfl rfl ⟨rfl, rfl, rfl, rfl, rfl⟩ rfl rfl rfl rfl rfl (by kernel_rfl) Try.func5 (by kernel_rfl)
    (of_decide_eq_true (by kernel_rfl)) (by unfold Func.isWrapper; first | (rw [if_pos (by decide +kernel)]; kernel_rfl) | (rw [if_neg (by decide +kernel)]; exact ⟨rfl, rfl⟩))
    (fun os started H enc _ => lifted os started H enc)
end Go.Proofs.Ythdphldagfeepaa.scopeNobody
namespace Go.Proofs.Ythdphldagfeepaa
theorem scopeNobody_holds : Rows.ScopeNobodySaid := scopeNobody.proved
#print axioms scopeNobody_holds
end Go.Proofs.Ythdphldagfeepaa
