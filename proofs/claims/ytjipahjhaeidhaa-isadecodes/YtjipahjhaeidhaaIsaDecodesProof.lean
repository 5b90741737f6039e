/- Proved: whatever word is handed in, Decode tells just its instruction, or ErrArg and no instruction, as the document's answer does (the law IsaDecodes returns true at every input), and no argument is changed. No condition. -/
import Derived.Test.YtjipahjhaeidhaaDecode
import Derived.Test.YtjipahjhaeidhaaDec13Yes
import Derived.Test.YtjipahjhaeidhaaDec13Other
import Derived.Test.YtjipahjhaeidhaaDec13No
import Derived.Test.YtjipahjhaeidhaaFrame
import Derived.WalkKit
import Derived.ProofKit
import Derived.OpenShut
namespace Go.Proofs.Ytjipahjhaeidhaa.isaDecodes
open Go.ChangeShapes Go.WideShapes Go.ChangeAt Go.RowKit
set_option linter.unusedVariables false

set_option maxHeartbeats 1000000 in
theorem walk_yes {u op p lo hi n d a b i : Int} {D A B sg is : Bool} (R : Row p lo hi D A B n sg is) (hp : partsF op = p) (u0 : 0 ≤ u) (u1 : u < 4294967296)
    (ho : u / 16777216 = op) (hd : regF (u / 1048576) D = d) (ha : regF (u / 65536) A = a) (hb : regF (u / 4096) B = b) (hI : immF n sg u = i)
    (hm : mayR is D A B lo hi d a b i = true) (he : wordF n op d a b i = u) (w : World) :
    Calls Try.prog 4 #[.int .u32 u] w fun e w' => e = .returned (.bool true) ∧ Below w.heap.size w w' := by
  go_enter Try.func4, Try.ntmps4
  go_wp2_with (first
    | (go_at_call 12; refine (decode12_yes R hp u0 u1 ho hd ha hb hI hm he _).mono ?_; rintro e w1 ⟨rfl, hb1⟩)
    | (go_at_call 13; refine (decode13_yes R hp u0 u1 ho hd ha hb hI hm he _).mono ?_; rintro e w2 ⟨rfl, hb2⟩; obtain ⟨hc2, hf2⟩ := bcell hb2; have hs2 : w1.heap.size < w2.heap.size := by have hq := hb2.size; simp at hq; omega)
    | (go_at_call 11; refine (awake11 _).mono ?_; rintro e w3 ⟨rfl, hb3⟩))
  go_ret
  exact ⟨rfl, below_next (below_next hb1 hb2) hb3⟩

set_option maxHeartbeats 1000000 in
theorem walk_other {u op p lo hi n d a b i : Int} {D A B sg is : Bool} (R : Row p lo hi D A B n sg is) (hp : partsF op = p) (u0 : 0 ≤ u) (u1 : u < 4294967296)
    (ho : u / 16777216 = op) (hd : regF (u / 1048576) D = d) (ha : regF (u / 65536) A = a) (hb : regF (u / 4096) B = b) (hI : immF n sg u = i)
    (hm : mayR is D A B lo hi d a b i = true) (he : ¬ wordF n op d a b i = u) (w : World) :
    Calls Try.prog 4 #[.int .u32 u] w fun e w' => e = .returned (.bool true) ∧ Below w.heap.size w w' := by
  go_enter Try.func4, Try.ntmps4
  go_wp2_with (first
    | (go_at_call 12; refine (decode12_other R hp u0 u1 ho hd ha hb hI hm he _).mono ?_; rintro e w1 ⟨rfl, hb1⟩)
    | (go_at_call 13; refine (decode13_other R hp u0 u1 ho hd ha hb hI hm he _).mono ?_; rintro e w2 ⟨rfl, hb2⟩; obtain ⟨hc2, hf2⟩ := bcell hb2; have hs2 : w1.heap.size < w2.heap.size := by have hq := hb2.size; simp at hq; omega)
    | (go_at_call 11; refine (awake11 _).mono ?_; rintro e w3 ⟨rfl, hb3⟩))
  go_ret
  exact ⟨rfl, below_next (below_next hb1 hb2) hb3⟩

set_option maxHeartbeats 1000000 in
theorem walk_no {u op p lo hi n d a b i : Int} {D A B sg is : Bool} (R : Row p lo hi D A B n sg is) (hp : partsF op = p) (u0 : 0 ≤ u) (u1 : u < 4294967296)
    (ho : u / 16777216 = op) (hd : regF (u / 1048576) D = d) (ha : regF (u / 65536) A = a) (hb : regF (u / 4096) B = b) (hI : immF n sg u = i)
    (hm : mayR is D A B lo hi d a b i = false) (w : World) :
    Calls Try.prog 4 #[.int .u32 u] w fun e w' => e = .returned (.bool true) ∧ Below w.heap.size w w' := by
  go_enter Try.func4, Try.ntmps4
  go_wp2_with (first
    | (go_at_call 12; refine (decode12_no R hp u0 u1 ho hd ha hb hI hm _).mono ?_; rintro e w1 ⟨rfl, hb1⟩)
    | (go_at_call 13; refine (decode13_no R hp u0 u1 ho hd ha hb hI hm _).mono ?_; rintro e w2 ⟨rfl, hb2⟩; obtain ⟨hc2, hf2⟩ := bcell hb2; have hs2 : w1.heap.size < w2.heap.size := by have hq := hb2.size; simp at hq; omega)
    | (go_at_call 11; refine (awake11 _).mono ?_; rintro e w3 ⟨rfl, hb3⟩))
  go_ret
  exact ⟨rfl, below_next (below_next hb1 hb2) hb3⟩

theorem walk (u : Int) (wu : (Lit.int .u32 u).wf = true) (w : World) :
    Calls Try.prog 4 #[.int .u32 u] w fun e w' => e = .returned (.bool true) ∧ Below w.heap.size w w' := by
  have R := row_of (u / 16777216)
  obtain ⟨u0, u1'⟩ := bounds_u32 wu
  have u1 : u < 4294967296 := by omega
  generalize hp : partsF (u / 16777216) = p at R
  cases hm : mayR (isF p) (hasD p) (hasA p) (hasB p) (loF p) (hiF p) (regF (u / 1048576) (hasD p)) (regF (u / 65536) (hasA p)) (regF (u / 4096) (hasB p)) (immF (nF p) (sgF p) u)
  · exact walk_no R hp u0 u1 rfl rfl rfl rfl rfl hm w
  · by_cases he : wordF (nF p) (u / 16777216) (regF (u / 1048576) (hasD p)) (regF (u / 65536) (hasA p)) (regF (u / 4096) (hasB p)) (immF (nF p) (sgF p) u) = u
    · exact walk_yes R hp u0 u1 rfl rfl rfl rfl rfl hm he w
    · exact walk_other R hp u0 u1 rfl rfl rfl rfl rfl hm he w

set_option maxRecDepth 100000 in
theorem lifted (os : Os) (started : os.Started) (H : Type) (enc : TypeId × Value → H) :
    ReturnsInHanded {} Try.checked os 4 .any (Rows.isaDecodesSpec.pre6 enc Try.prog Try.f4 Rows.isaDecodesRow.domain false) (Rows.isaDecodesSpec.post enc Try.prog Try.f4 false true false false) := by
  refine returnsInHanded_of_change (C := Try.checked) own started (by kernel_rfl) Try.func4
    (ChangeSpec.witness6 (enc := enc) (C := Try.checked) false ⟨#[], #[.int .u32 0], []⟩ 8 (by kernel_rfl) (by kernel_rfl) (by kernel_rfl) (by kernel_rfl)) ?_
  intro W base args ds gs before hval0 hW hcnd _
  have hval : ∀ (j : Nat) t v, Try.f4.params[j]? = some t → args[j]? = some v → Value.okWide Try.prog W .any base t v := hval0
  have hW' := hW
  obtain ⟨p, q, hA0, hV, rfl, hfz, hnd⟩ := hW
  have hA : DataW.TrodAll enc Try.prog W 0 (fun _ => true) true Try.f4.params.toList args.toList ds p := hA0
  rw [Try.params4] at hA hval
  obtain ⟨v0, vs0, d0, ds0, p0, q0, hargs, rfl, rfl, h0, r0⟩ := trodAll_cons hA
  obtain ⟨rfl, rfl, rfl⟩ := trodAll_nil r0
  obtain rfl : args = #[v0] := by cases args; simp_all
  obtain ⟨rfl, rfl⟩ := trodVars_none hV
  obtain ⟨u, rfl, rfl, rfl, wu⟩ := open_int Try.underlying24 (hval 0 24 v0 rfl rfl) h0
  clear hA0 hval0
  simp only [List.append_nil] at hW'
  refine (walk u wu W).mono fun e W' ⟨he, hb⟩ => ?_
  subst he
  exact ⟨_, rfl, post_plain hW' (fun _ _ _ => (trodAll_cons_mk (shut_bool Try.underlying4 _) trodAll_mk0)) (fun sp => (trodAll_cons_mk (shut_int Try.underlying24 wu) trodAll_mk0)) (fun _ => rfl)
    hb (ok_one (by kernel_rfl) rfl (okWide_bool_mk Try.underlying4 _))⟩

theorem over : Rows.isaDecodesRow.holds Try.pinned (OpenSpec.ofChange Rows.isaDecodesSpec) :=
  OpenClaim.holds_of_wide 4 Try.f4 rfl rfl rfl rfl rfl rfl rfl ⟨rfl, rfl, rfl, rfl, rfl⟩ rfl rfl rfl rfl rfl (by kernel_rfl) Try.func4 (by kernel_rfl)
    (of_decide_eq_true (by kernel_rfl)) (by unfold Func.isWrapper; first | (rw [if_pos (by decide +kernel)]; kernel_rfl) | (rw [if_neg (by decide +kernel)]; exact ⟨rfl, rfl⟩))
    (fun os started H enc _ => lifted os started H enc)

theorem proved : Rows.IsaDecodesSaid :=
  over
end Go.Proofs.Ytjipahjhaeidhaa.isaDecodes
namespace Go.Proofs.Ytjipahjhaeidhaa
theorem isaDecodes_holds : Rows.IsaDecodesSaid := isaDecodes.proved
#print axioms isaDecodes_holds
end Go.Proofs.Ytjipahjhaeidhaa
