/- Proved: whatever instruction is handed in, Encode tells its word if it may be, and ErrArg if it may not, and Check tells which, just as the document's answer does (the law IsaEncodes returns true at every input), and no argument is changed. No condition. -/
import Derived.Test.YtjipahjhaeidhaaEncode
import Derived.Test.YtjipahjhaeidhaaFrame
import Derived.WalkKit
import Derived.ProofKit
import Derived.OpenShut
import Derived.Deep.RegionWith
namespace Go.Proofs.Ytjipahjhaeidhaa.isaEncodes
open Go.ChangeShapes Go.WideShapes Go.ChangeAt Go.RowKit
set_option linter.unusedVariables false

theorem undrew {w w3 : World} (h : Below w.drew.heap.size w.drew w3) : Below w.heap.size w w3 := ⟨h.os, h.tape, h.output, h.size, h.block⟩

set_option maxHeartbeats 4000000 in
theorem walk_yes {op p lo hi n d a b i : Int} {D A B sg is : Bool} (R : Row p lo hi D A B n sg is) (hp : partsF op = p) (i0 : -2147483648 ≤ i) (i1 : i ≤ 2147483647) (hm : mayR is D A B lo hi d a b i = true) (w : World) :
    Calls Try.prog 3 #[.agg #[.int .i64 op, .int .i64 d, .int .i64 a, .int .i64 b, .int .i32 i]] w fun e w' => e = .returned (.bool true) ∧ Below w.heap.size w w' := by
  go_enter Try.func3, Try.ntmps3
  go_wp2_with (first
    | (go_at_call 7; refine (encode7_yes R hp hm _).mono ?_; rintro e w1 ⟨rfl, hb1⟩; obtain ⟨hc1, hf1⟩ := bcell hb1; have hs1 : w.heap.size < w1.heap.size := by have hq := hb1.size; simp at hq; omega)
    | (go_at_call 8; refine (encode8_yes R hp i0 i1 hm _).mono ?_; rintro e w2 ⟨rfl, hb2⟩; obtain ⟨hc2, hf2⟩ := bcell hb2; have hs2 : w.heap.size < w2.heap.size := by have hq := hb2.size; omega))
  go_region_with (first
    | (go_at_call 9; refine (check9_yes R hp hm _).mono ?_; rintro e w3 ⟨rfl, hb3'⟩; have hb3 := undrew hb3'; clear hb3'; obtain ⟨hc3, hf3⟩ := bcell hb3; have hs3 : w.heap.size < w3.heap.size := Nat.lt_of_lt_of_le hs2 hb3.size)
    | (go_at_call 10; refine (check10_yes R hp i0 i1 hm _).mono ?_; rintro e w4 ⟨rfl, hb4⟩; obtain ⟨hc4, hf4⟩ := bcell hb4)
    | (go_at_call 11; refine (awake11 _).mono ?_; rintro e w5 ⟨rfl, hb5⟩))
  all_goals
    go_wp2
    go_ret
    exact ⟨rfl, below_on (below_on (below_on (below_on (below_call hb1) hb2) hb3) hb4) hb5⟩

set_option maxHeartbeats 4000000 in
theorem walk_no {op p lo hi n d a b i : Int} {D A B sg is : Bool} (R : Row p lo hi D A B n sg is) (hp : partsF op = p) (i0 : -2147483648 ≤ i) (i1 : i ≤ 2147483647) (hm : mayR is D A B lo hi d a b i = false) (w : World) :
    Calls Try.prog 3 #[.agg #[.int .i64 op, .int .i64 d, .int .i64 a, .int .i64 b, .int .i32 i]] w fun e w' => e = .returned (.bool true) ∧ Below w.heap.size w w' := by
  go_enter Try.func3, Try.ntmps3
  go_wp2_with (first
    | (go_at_call 7; refine (encode7_no R hp hm _).mono ?_; rintro e w1 ⟨rfl, hb1⟩; obtain ⟨hc1, hf1⟩ := bcell hb1; have hs1 : w.heap.size < w1.heap.size := by have hq := hb1.size; simp at hq; omega)
    | (go_at_call 8; refine (encode8_no R hp i0 i1 hm _).mono ?_; rintro e w2 ⟨rfl, hb2⟩; obtain ⟨hc2, hf2⟩ := bcell hb2; have hs2 : w.heap.size < w2.heap.size := by have hq := hb2.size; omega))
  go_region_with (first
    | (go_at_call 9; refine (check9_no R hp hm _).mono ?_; rintro e w3 ⟨rfl, hb3'⟩; have hb3 := undrew hb3'; clear hb3'; obtain ⟨hc3, hf3⟩ := bcell hb3; have hs3 : w.heap.size < w3.heap.size := Nat.lt_of_lt_of_le hs2 hb3.size)
    | (go_at_call 10; refine (check10_no R hp i0 i1 hm _).mono ?_; rintro e w4 ⟨rfl, hb4⟩; obtain ⟨hc4, hf4⟩ := bcell hb4)
    | (go_at_call 11; refine (awake11 _).mono ?_; rintro e w5 ⟨rfl, hb5⟩))
  all_goals
    go_wp2
    go_ret
    exact ⟨rfl, below_on (below_on (below_on (below_on (below_call hb1) hb2) hb3) hb4) hb5⟩

theorem walk (x0 x1 x2 x3 x4 : Int) (w4 : (Lit.int .i32 x4).wf = true) (w : World) :
    Calls Try.prog 3 #[.agg #[.int .i64 x0, .int .i64 x1, .int .i64 x2, .int .i64 x3, .int .i32 x4]] w fun e w' => e = .returned (.bool true) ∧ Below w.heap.size w w' := by
  have R := row_of x0
  obtain ⟨i0, i1⟩ := bounds_i32 w4
  cases hm : mayR (isF (partsF x0)) (hasD (partsF x0)) (hasA (partsF x0)) (hasB (partsF x0)) (loF (partsF x0)) (hiF (partsF x0)) x1 x2 x3 x4
  · exact walk_no R rfl i0 i1 hm w
  · exact walk_yes R rfl i0 i1 hm w

set_option maxRecDepth 100000 in
theorem lifted (os : Os) (started : os.Started) (H : Type) (enc : TypeId × Value → H) :
    ReturnsInHanded {} Try.checked os 3 .any (Rows.isaEncodesSpec.pre6 enc Try.prog Try.f3 Rows.isaEncodesRow.domain false) (Rows.isaEncodesSpec.post enc Try.prog Try.f3 false true false false) := by
  refine returnsInHanded_of_change (C := Try.checked) own started (by kernel_rfl) Try.func3
    (ChangeSpec.witness6 (enc := enc) (C := Try.checked) false ⟨#[], #[.agg #[.int .i64 0, .int .i64 0, .int .i64 0, .int .i64 0, .int .i32 0]], []⟩ 8 (by kernel_rfl) (by kernel_rfl) (by kernel_rfl) (by kernel_rfl)) ?_
  intro W base args ds gs before hval0 hW hcnd _
  have hval : ∀ (j : Nat) t v, Try.f3.params[j]? = some t → args[j]? = some v → Value.okWide Try.prog W .any base t v := hval0
  have hW' := hW
  obtain ⟨p, q, hA0, hV, rfl, hfz, hnd⟩ := hW
  have hA : DataW.TrodAll enc Try.prog W 0 (fun _ => true) true Try.f3.params.toList args.toList ds p := hA0
  rw [Try.params3] at hA hval
  obtain ⟨v0, vs0, d0, ds0, p0, q0, hargs, rfl, rfl, h0, r0⟩ := trodAll_cons hA
  obtain ⟨rfl, rfl, rfl⟩ := trodAll_nil r0
  obtain rfl : args = #[v0] := by cases args; simp_all
  obtain ⟨rfl, rfl⟩ := trodVars_none hV
  obtain ⟨x0, x1, x2, x3, x4, rfl, rfl, rfl, w0, w1, w2, w3, w4⟩ := open_ins (hval 0 23 v0 rfl rfl) h0
  clear hA0 hval0
  simp only [List.append_nil] at hW'
  refine (walk x0 x1 x2 x3 x4 w4 W).mono fun e W' ⟨he, hb⟩ => ?_
  subst he
  exact ⟨_, rfl, post_plain hW' (fun _ _ _ => (trodAll_cons_mk (shut_bool Try.underlying4 _) trodAll_mk0)) (fun sp => (trodAll_cons_mk (shut_ins w0 w1 w2 w3 w4) trodAll_mk0)) (fun _ => rfl)
    hb (ok_one (by kernel_rfl) rfl (okWide_bool_mk Try.underlying4 _))⟩

theorem over : Rows.isaEncodesRow.holds Try.pinned (OpenSpec.ofChange Rows.isaEncodesSpec) :=
  OpenClaim.holds_of_wide 3 Try.f3 rfl rfl rfl rfl rfl rfl rfl ⟨rfl, rfl, rfl, rfl, rfl⟩ rfl rfl rfl rfl rfl (by kernel_rfl) Try.func3 (by kernel_rfl)
    (of_decide_eq_true (by kernel_rfl)) (by unfold Func.isWrapper; first | (rw [if_pos (by decide +kernel)]; kernel_rfl) | (rw [if_neg (by decide +kernel)]; exact ⟨rfl, rfl⟩))
    (fun os started H enc _ => lifted os started H enc)

theorem proved : Rows.IsaEncodesSaid :=
  over
end Go.Proofs.Ytjipahjhaeidhaa.isaEncodes
namespace Go.Proofs.Ytjipahjhaeidhaa
theorem isaEncodes_holds : Rows.IsaEncodesSaid := isaEncodes.proved
#print axioms isaEncodes_holds
end Go.Proofs.Ytjipahjhaeidhaa
