/- Proved: whatever two instructions and word are handed in, an instruction that may be is told back by its word, instructions that are unlike have unlike words, and a word that is an instruction's is told back by it (the law IsaBack returns true at every input), and no argument is changed. No condition. -/
import Derived.Test.YtjipahjhaeidhaaBack
import Derived.Test.YtjipahjhaeidhaaBackA
import Derived.Test.YtjipahjhaeidhaaBackB
import Derived.Test.YtjipahjhaeidhaaBackC
import Derived.Test.YtjipahjhaeidhaaFrame
import Derived.WalkKit
import Derived.ProofKit
import Derived.OpenShut
namespace Go.Proofs.Ytjipahjhaeidhaa.isaBack
open Go.ChangeShapes Go.WideShapes Go.ChangeAt Go.RowKit
set_option linter.unusedVariables false

theorem walk (x0 x1 x2 x3 x4 y0 y1 y2 y3 y4 u : Int) (wu : (Lit.int .u32 u).wf = true) (w : World) :
    Calls Try.prog 6 #[.agg #[.int .i64 x0, .int .i64 x1, .int .i64 x2, .int .i64 x3, .int .i32 x4], .agg #[.int .i64 y0, .int .i64 y1, .int .i64 y2, .int .i64 y3, .int .i32 y4], .int .u32 u] w fun e w' => e = .returned (.bool true) ∧ Below w.heap.size w w' := by
  have wb := bounds_u32 wu
  obtain ⟨u0, u1'⟩ := wb
  have u1 : u < 4294967296 := by omega
  have R3 := row_of (u / 16777216)
  generalize hp3 : partsF (u / 16777216) = p3 at R3
  cases hm : mayO x0 x1 x2 x3 x4
  · cases hm2 : mayO y0 y1 y2 y3 y4
    · cases hm3 : mayR (isF p3) (hasD p3) (hasA p3) (hasB p3) (loF p3) (hiF p3) (regF (u / 1048576) (hasD p3)) (regF (u / 65536) (hasA p3)) (regF (u / 4096) (hasB p3)) (immF (nF p3) (sgF p3) u)
      · exact back_no_no_no (row_of x0) rfl hm (row_of y0) rfl hm2 R3 hp3 u0 u1 rfl rfl rfl rfl rfl hm3 w
      · by_cases he : wordF (nF p3) (u / 16777216) (regF (u / 1048576) (hasD p3)) (regF (u / 65536) (hasA p3)) (regF (u / 4096) (hasB p3)) (immF (nF p3) (sgF p3) u) = u
        · exact back_no_no_yes (row_of x0) rfl hm (row_of y0) rfl hm2 R3 hp3 u0 u1 rfl rfl rfl rfl rfl hm3 he w
        · exact back_no_no_other (row_of x0) rfl hm (row_of y0) rfl hm2 R3 hp3 u0 u1 rfl rfl rfl rfl rfl hm3 he w
    · cases hm3 : mayR (isF p3) (hasD p3) (hasA p3) (hasB p3) (loF p3) (hiF p3) (regF (u / 1048576) (hasD p3)) (regF (u / 65536) (hasA p3)) (regF (u / 4096) (hasB p3)) (immF (nF p3) (sgF p3) u)
      · exact back_no_yes_no (row_of x0) rfl hm (row_of y0) rfl hm2 R3 hp3 u0 u1 rfl rfl rfl rfl rfl hm3 w
      · by_cases he : wordF (nF p3) (u / 16777216) (regF (u / 1048576) (hasD p3)) (regF (u / 65536) (hasA p3)) (regF (u / 4096) (hasB p3)) (immF (nF p3) (sgF p3) u) = u
        · exact back_no_yes_yes (row_of x0) rfl hm (row_of y0) rfl hm2 R3 hp3 u0 u1 rfl rfl rfl rfl rfl hm3 he w
        · exact back_no_yes_other (row_of x0) rfl hm (row_of y0) rfl hm2 R3 hp3 u0 u1 rfl rfl rfl rfl rfl hm3 he w
  · cases hm2 : mayO y0 y1 y2 y3 y4
    · cases hm3 : mayR (isF p3) (hasD p3) (hasA p3) (hasB p3) (loF p3) (hiF p3) (regF (u / 1048576) (hasD p3)) (regF (u / 65536) (hasA p3)) (regF (u / 4096) (hasB p3)) (immF (nF p3) (sgF p3) u)
      · exact back_yes_no_no (row_of x0) rfl hm (row_of y0) rfl hm2 R3 hp3 u0 u1 rfl rfl rfl rfl rfl hm3 w
      · by_cases he : wordF (nF p3) (u / 16777216) (regF (u / 1048576) (hasD p3)) (regF (u / 65536) (hasA p3)) (regF (u / 4096) (hasB p3)) (immF (nF p3) (sgF p3) u) = u
        · exact back_yes_no_yes (row_of x0) rfl hm (row_of y0) rfl hm2 R3 hp3 u0 u1 rfl rfl rfl rfl rfl hm3 he w
        · exact back_yes_no_other (row_of x0) rfl hm (row_of y0) rfl hm2 R3 hp3 u0 u1 rfl rfl rfl rfl rfl hm3 he w
    · cases hm3 : mayR (isF p3) (hasD p3) (hasA p3) (hasB p3) (loF p3) (hiF p3) (regF (u / 1048576) (hasD p3)) (regF (u / 65536) (hasA p3)) (regF (u / 4096) (hasB p3)) (immF (nF p3) (sgF p3) u)
      · exact back_yes_yes_no (row_of x0) rfl hm (row_of y0) rfl hm2 (word_inj hm hm2) R3 hp3 u0 u1 rfl rfl rfl rfl rfl hm3 w
      · by_cases he : wordF (nF p3) (u / 16777216) (regF (u / 1048576) (hasD p3)) (regF (u / 65536) (hasA p3)) (regF (u / 4096) (hasB p3)) (immF (nF p3) (sgF p3) u) = u
        · exact back_yes_yes_yes (row_of x0) rfl hm (row_of y0) rfl hm2 (word_inj hm hm2) R3 hp3 u0 u1 rfl rfl rfl rfl rfl hm3 he w
        · exact back_yes_yes_other (row_of x0) rfl hm (row_of y0) rfl hm2 (word_inj hm hm2) R3 hp3 u0 u1 rfl rfl rfl rfl rfl hm3 he w

set_option maxRecDepth 100000 in
theorem lifted (os : Os) (started : os.Started) (H : Type) (enc : TypeId × Value → H) :
    ReturnsInHanded {} Try.checked os 6 .any (Rows.isaBackSpec.pre6 enc Try.prog Try.f6 Rows.isaBackRow.domain false) (Rows.isaBackSpec.post enc Try.prog Try.f6 false true false false) := by
  refine returnsInHanded_of_change (C := Try.checked) own started (by kernel_rfl) Try.func6
    (ChangeSpec.witness6 (enc := enc) (C := Try.checked) false ⟨#[], #[.agg #[.int .i64 0, .int .i64 0, .int .i64 0, .int .i64 0, .int .i32 0], .agg #[.int .i64 0, .int .i64 0, .int .i64 0, .int .i64 0, .int .i32 0], .int .u32 0], []⟩ 8 (by kernel_rfl) (by kernel_rfl) (by kernel_rfl) (by kernel_rfl)) ?_
  intro W base args ds gs before hval0 hW hcnd _
  have hval : ∀ (j : Nat) t v, Try.f6.params[j]? = some t → args[j]? = some v → Value.okWide Try.prog W .any base t v := hval0
  have hW' := hW
  obtain ⟨p, q, hA0, hV, rfl, hfz, hnd⟩ := hW
  have hA : DataW.TrodAll enc Try.prog W 0 (fun _ => true) true Try.f6.params.toList args.toList ds p := hA0
  rw [Try.params6] at hA hval
  obtain ⟨v0, vs0, d0, ds0, p0, q0, hargs, rfl, rfl, h0, r0⟩ := trodAll_cons hA
  obtain ⟨v1, vs1, d1, ds1, p1, q1, rfl, rfl, rfl, h1, r1⟩ := trodAll_cons r0
  obtain ⟨v2, vs2, d2, ds2, p2, q2, rfl, rfl, rfl, h2, r2⟩ := trodAll_cons r1
  obtain ⟨rfl, rfl, rfl⟩ := trodAll_nil r2
  obtain rfl : args = #[v0, v1, v2] := by cases args; simp_all
  obtain ⟨rfl, rfl⟩ := trodVars_none hV
  obtain ⟨x0, x1, x2, x3, x4, rfl, rfl, rfl, w0, w1, w2, w3, w4⟩ := open_ins (hval 0 23 v0 rfl rfl) h0
  obtain ⟨y0, y1, y2, y3, y4, rfl, rfl, rfl, z0, z1, z2, z3, z4⟩ := open_ins (hval 1 23 v1 rfl rfl) h1
  obtain ⟨u, rfl, rfl, rfl, wu⟩ := open_int Try.underlying24 (hval 2 24 v2 rfl rfl) h2
  clear hA0 hval0
  simp only [List.append_nil] at hW'
  refine (walk x0 x1 x2 x3 x4 y0 y1 y2 y3 y4 u wu W).mono fun e W' ⟨he, hb⟩ => ?_
  subst he
  exact ⟨_, rfl, post_plain hW' (fun _ _ _ => (trodAll_cons_mk (shut_bool Try.underlying4 _) trodAll_mk0)) (fun sp => (trodAll_cons_mk (shut_ins w0 w1 w2 w3 w4) (trodAll_cons_mk (shut_ins z0 z1 z2 z3 z4) (trodAll_cons_mk (shut_int Try.underlying24 wu) trodAll_mk0)))) (fun _ => rfl)
    hb (ok_one (by kernel_rfl) rfl (okWide_bool_mk Try.underlying4 _))⟩

theorem over : Rows.isaBackRow.holds Try.pinned (OpenSpec.ofChange Rows.isaBackSpec) :=
  OpenClaim.holds_of_wide 6 Try.f6 rfl rfl rfl rfl rfl rfl rfl ⟨rfl, rfl, rfl, rfl, rfl⟩ rfl rfl rfl rfl rfl (by kernel_rfl) Try.func6 (by kernel_rfl)
    (of_decide_eq_true (by kernel_rfl)) (by unfold Func.isWrapper; first | (rw [if_pos (by decide +kernel)]; kernel_rfl) | (rw [if_neg (by decide +kernel)]; exact ⟨rfl, rfl⟩))
    (fun os started H enc _ => lifted os started H enc)

theorem proved : Rows.IsaBackSaid :=
  over
end Go.Proofs.Ytjipahjhaeidhaa.isaBack
namespace Go.Proofs.Ytjipahjhaeidhaa
theorem isaBack_holds : Rows.IsaBackSaid := isaBack.proved
#print axioms isaBack_holds
end Go.Proofs.Ytjipahjhaeidhaa
