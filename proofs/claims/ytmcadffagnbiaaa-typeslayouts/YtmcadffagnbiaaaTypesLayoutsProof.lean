/- Proved: whatever name, members and second name are handed in, Layout and Find tell what the document tells (the law TypesLayouts returns true at every input), and no argument is changed. No condition. -/
import Derived.Test.YtmcadffagnbiaaaFrame
import Derived.Test.YtmcadffagnbiaaaLays
namespace Go.Proofs.Ytmcadffagnbiaaa.typesLayouts
open Go.ChangeShapes Go.WideShapes Go.ChangeAt Go.RowKit
open Go.ChangeMaps (open_string shut_string)
set_option linter.unusedVariables false

set_option maxRecDepth 100000 in
theorem lifted (os : Os) (started : os.Started) (H : Type) (enc : TypeId × Value → H) :
    ReturnsInHanded {} Try.checked os 4 .any (Rows.typesLayoutsSpec.pre6 enc Try.prog Try.f4 Rows.typesLayoutsRow.domain false) (Rows.typesLayoutsSpec.post enc Try.prog Try.f4 false true false false) := by
  refine returnsInHanded_of_change_shaped (C := Try.checked) own started (by kernel_rfl) Try.func4
    (ChangeSpec.witness6 (enc := enc) (C := Try.checked) false ⟨#[], #[.string ⟨#[]⟩, .slice none 0 0, .string ⟨#[]⟩], []⟩ 8 (by kernel_rfl) (by kernel_rfl) (by kernel_rfl) (by kernel_rfl)) ?_
  intro W base args ds gs before hval0 hW hcnd hwt0 hsh _
  have hval : ∀ (j : Nat) t v, Try.f4.params[j]? = some t → args[j]? = some v → Value.okWide Try.prog W .any base t v := hval0
  have hW' := hW
  obtain ⟨p, q, hA0, hV, rfl, hfz, hnd⟩ := hW
  have hA : DataW.TrodAll enc Try.prog W 0 (fun _ => true) true Try.f4.params.toList args.toList ds p := hA0
  rw [Try.params4] at hA hval
  obtain ⟨v0, vs0, d0, ds0, p0, q0, hargs, rfl, rfl, h0, r0⟩ := trodAll_cons hA
  obtain ⟨v1, vs1, d1, ds1, p1, q1, rfl, rfl, rfl, h1, r1⟩ := trodAll_cons r0
  obtain ⟨v2, vs2, d2, ds2, p2, q2, rfl, rfl, rfl, h2, r2⟩ := trodAll_cons r1
  obtain ⟨rfl, rfl, rfl⟩ := trodAll_nil r2
  obtain rfl : args = #[v0, v1, v2] := by cases args; simp_all
  obtain ⟨rfl, rfl⟩ := trodVars_none hV
  have hwt : ∀ m ∈ DataW.weightsEach Try.prog [9, 35, 9] [d0, d1, d2], m ≤ reachBytes := fun m hm => of_decide_eq_true (List.all_eq_true.1 hwt0 m hm)
  obtain ⟨x0, rfl, rfl, rfl, ws0⟩ := open_string Try.underlying9 (hval 0 9 v0 rfl rfl) h0
  have b0 : x0.size ≤ 140737488351232 := hwt _ (DataW.weights_mem_each (j := 0) (t := 9) (d := .lit (.string x0.data.toList)) rfl rfl _ (by simp [DataW.weights]))
  obtain ⟨l1, s1, n1, b1⟩ := open_mbs (hval 1 35 v1 rfl rfl) h1 (fun m hm => hwt m (DataW.weights_mem_each (j := 1) (t := 35) (d := d1) rfl rfl m hm))
  obtain ⟨x2, rfl, rfl, rfl, ws2⟩ := open_string Try.underlying9 (hval 2 9 v2 rfl rfl) h2
  have b2 : x2.size ≤ 140737488351232 := hwt _ (DataW.weights_mem_each (j := 2) (t := 9) (d := .lit (.string x2.data.toList)) rfl rfl _ (by simp [DataW.weights]))
  clear hA0 hval0
  simp only [List.append_nil, List.nil_append] at hW'
  have hlt1 : ∀ x ∈ p1, x.block < W.heap.size := fun x hx => hW'.lt x (by simp [hx])
  refine (layouts4 s1 b0 n1 (by omega)).mono fun e W' ⟨he, hb'⟩ => ?_
  subst he
  exact ⟨_, rfl, post_kept hW' (fun _ _ _ => trodAll_cons_mk (shut_bool Try.underlying4 _) trodAll_mk0)
    (trodAll_cons_mk (shut_string Try.underlying9 ws0) (trodAll_cons_mk (Below.trod laidOut (by kernel_rfl) (of_decide_eq_true (by kernel_rfl)) h1 hb' hlt1) (trodAll_cons_mk (shut_string Try.underlying9 ws2) trodAll_mk0))) (fun _ => rfl) hb'⟩

theorem proved : Rows.TypesLayoutsSaid :=
  OpenClaim.holds_of_wide 4 Try.f4 rfl rfl rfl rfl rfl rfl rfl ⟨rfl, rfl, rfl, rfl, rfl⟩ rfl rfl rfl rfl rfl (by kernel_rfl) Try.func4 (by kernel_rfl)
    (of_decide_eq_true (by kernel_rfl)) (by unfold Func.isWrapper; first | (rw [if_pos (by decide +kernel)]; kernel_rfl) | (rw [if_neg (by decide +kernel)]; exact ⟨rfl, rfl⟩))
    (fun os started H enc _ => lifted os started H enc)
end Go.Proofs.Ytmcadffagnbiaaa.typesLayouts
namespace Go.Proofs.Ytmcadffagnbiaaa
theorem typesLayouts_holds : Rows.TypesLayoutsSaid := typesLayouts.proved
#print axioms typesLayouts_holds
end Go.Proofs.Ytmcadffagnbiaaa
