/- Proved: whatever lines are handed in, of bulk at most 1048576, what Assemble tells leads from line to line as the document says (the law AsmLeads returns true), and no argument is changed. -/
import Derived.Test.YtgnlplddppheiaaLLaw
import Derived.Test.YtgnlplddppheiaaLawsAP
import Derived.Test.YtgnlplddppheiaaFrame
namespace Go.Proofs.Ytgnlplddppheiaa
open Go.RowKit
set_option linter.unusedVariables false

set_option maxHeartbeats 4000000 in
theorem leads5_no {w : World} {hv tv : Value} {ls : List Ln} {o d a b i N er : Int} (hlen : ls.length ≤ 1400000) (hw : ∀ x ∈ ls, x.wf) (hA : AsmIs ls ⟨#[]⟩ er) (her : er ≠ 0)
    (hL : ∀ W, Below w.heap.size w W → Calls Try.prog 7 #[.agg #[hv, .int .i64 o, .int .i64 d, .int .i64 a, .int .i64 b, .int .i32 i, .int .i64 N, tv]] W fun e w' => ∃ v', e = .returned v' ∧ LnOwn w' W.heap.size v' ls ∧ Below W.heap.size W w') :
    Calls Try.prog 5 #[.agg #[hv, .int .i64 o, .int .i64 d, .int .i64 a, .int .i64 b, .int .i32 i, .int .i64 N, tv]] w fun e w' => e = .returned (.bool true) ∧ Below w.heap.size w w' := by
  replace hL := hid' hL
  go_enter Try.func5, Try.ntmps5
  go_wp2_with (first
    | (go_at_call 7; (with_reducible refine (hL.out _ (below1 _ _)).mono ?_); rintro e w1 ⟨vl, rfl, hol, hb1⟩; have hl1 := hid' (hol.lns (by omega) hw); have hs1 := hid' hol.src; replace hb1 := hid' (below_call hb1))
    | (go_at_call 9; (with_reducible refine (own9 hs1.out (by omega)).mono ?_); rintro e w2 ⟨vm, rfl, hom, hb2⟩; have hl2 := hid' (hom.lns (by omega) hw); replace hb2 := hid' hb2)
    | (go_at_call 8; (with_reducible refine (asm8_is hl2.out hA).mono ?_); rintro e w3 ⟨rfl, hb3⟩; replace hb3 := hid' hb3)
    | (go_at_call 13; (with_reducible refine (awake13 _).mono ?_); rintro e w8 ⟨rfl, hb8⟩; replace hb8 := hid' hb8))
  go_ret
  exact ⟨rfl, below_on (below_on (below_on hb1.out hb2.out) hb3.out) hb8.out⟩

theorem leads5 {w : World} {hv tv : Value} {hd tl : List Ln} {o d a b i N : Int} (hh : Src7 w hv hd) (ht : Src7 w tv tl) (hl : hd.length + tl.length ≤ 1100000) (hN : N ≤ 9223372036854775807) (hw : ∀ x ∈ linesL hd tl o d a b i N, x.wf) :
    Calls Try.prog 5 #[.agg #[hv, .int .i64 o, .int .i64 d, .int .i64 a, .int .i64 b, .int .i32 i, .int .i64 N, tv]] w fun e w' => e = .returned (.bool true) ∧ Below w.heap.size w w' := by
  have hlen := lines_len (o := o) (d := d) (a := a) (b := b) (i := i) (N := N) hl
  have hL : ∀ W, Below w.heap.size w W → Calls Try.prog 7 #[.agg #[hv, .int .i64 o, .int .i64 d, .int .i64 a, .int .i64 b, .int .i32 i, .int .i64 N, tv]] W fun e w' => ∃ v', e = .returned v' ∧ LnOwn w' W.heap.size v' (linesL hd tl o d a b i N) ∧ Below W.heap.size W w' := fun W hW => lines7 (hh.below hW) (ht.below hW) hl hN
  obtain ⟨er, hE⟩ := ErrIs.ex (linesL hd tl o d a b i N)
  by_cases h0 : er = 0
  · subst h0
    obtain ⟨S, hS⟩ := least_ls (linesL hd tl o d a b i N)
    by_cases h4 : 1048576 < 4 * atF S (insN (linesL hd tl o d a b i N))
    · exact leads5_no hlen hw (.inr ⟨hE, S, hS, .inl ⟨h4, rfl, rfl⟩⟩) (by decide) hL
    · exact leads5_ok hh ht rfl hlen hw hE hS (by omega) hL
  · exact leads5_no hlen hw (.inl ⟨hE, h0, rfl⟩) h0 hL
end Go.Proofs.Ytgnlplddppheiaa

namespace Go.Proofs.Ytgnlplddppheiaa.asmLeads
open Go.ChangeShapes Go.WideShapes Go.ChangeAt Go.RowKit
set_option linter.unusedVariables false

set_option maxRecDepth 20000 in
theorem contract (H : Type) (enc : TypeId × Value → H) (W : World) (base : Nat) (args : Array Value) (ds gs : List (DataW H)) (before : List MemPlace)
    (hval : ∀ (j : Nat) t v, Try.f5.params[j]? = some t → args[j]? = some v → Value.okWide Try.prog W .any base t v)
    (hW : DataW.Whole enc Try.prog Try.f5.params.toList Rows.asmLeadsSpec.vars false W args.toList ds gs before) (hk : Rows.uptoSmall H (ds ++ gs) = true) :
    Calls Try.prog 5 args W fun e W' => ∃ v, e = .returned v ∧ Rows.asmLeadsSpec.post enc Try.prog Try.f5 false true false false W args v W' := by
  have hW' := hW
  obtain ⟨p, q, hA0, hV, rfl, hfz, hnd⟩ := hW
  have hA : DataW.TrodAll enc Try.prog W 0 (fun _ => true) true Try.f5.params.toList args.toList ds p := hA0
  rw [Try.params5] at hA hval
  obtain ⟨v0, vs0, d0, ds0, p0, q0, hargs, rfl, rfl, h0, r0⟩ := trodAll_cons hA
  obtain ⟨rfl, rfl, rfl⟩ := trodAll_nil r0
  obtain rfl : args = #[v0] := by cases args; simp_all
  obtain ⟨rfl, rfl⟩ := trodVars_none hV
  obtain ⟨hv, tv, o, e, a, b, i, N, hd, tl, rfl, s0, s1, hw, hN, hlen⟩ := open_far (hval 0 26 v0 rfl rfl) h0
  clear hA0
  simp only [List.append_nil] at hW' hk
  have hb : Rows.uptoBulkAll [d0] ≤ 1048576 := of_decide_eq_true hk
  simp only [Rows.uptoBulkAll] at hb
  have hlt : ∀ x ∈ p0, x.block < W.heap.size := fun x hx => hW'.lt x hx
  refine (leads5 s0 s1 (by omega) hN hw).mono fun e W' ⟨he, hb'⟩ => ?_
  subst he
  exact ⟨_, rfl, post_kept hW' (fun _ _ _ => trodAll_cons_mk (shut_bool Try.underlying4 _) trodAll_mk0)
    (trodAll_cons_mk (Below.trod laidOut (by kernel_rfl) (of_decide_eq_true (by kernel_rfl)) h0 hb' hlt) trodAll_mk0) (fun _ => rfl) hb'⟩

set_option maxRecDepth 100000 in
theorem lifted (os : Os) (started : os.Started) (H : Type) (enc : TypeId × Value → H) (F : Stop.Interp) :
    ReturnsInHanded {} Try.checked os 5 .any ((Rows.OpenSpec.upto Rows.asmLeadsSpec).pre6 enc Try.prog Try.f5 Rows.asmLeadsUptoRow.domain false) (((Rows.OpenSpec.upto Rows.asmLeadsSpec).at F).post enc Try.prog Try.f5 false true false false) := by
  refine returnsInHanded_of_cond (C := Try.checked) (s := Rows.OpenSpec.upto Rows.asmLeadsSpec) (k := Rows.uptoSmall) rfl own started (by kernel_rfl) Try.func5
    (OpenSpec.witness (enc := enc) (C := Try.checked) (s := Rows.OpenSpec.upto Rows.asmLeadsSpec) (k := Rows.uptoSmall) rfl false ⟨#[], #[.agg #[.slice none 0 0, .int .i64 0, .int .i64 0, .int .i64 0, .int .i64 0, .int .i32 0, .int .i64 0, .slice none 0 0]], []⟩ 8 (by kernel_rfl) (by kernel_rfl) (by kernel_rfl)
      (x := ([.agg [.nil, .agg [.lit (.int .i64 0), .lit (.int .i64 0), .lit (.int .i64 0), .lit (.int .i64 0), .lit (.int .i32 0)], .lit (.int .i64 0), .nil]], [], [])) (by kernel_rfl) rfl (by kernel_rfl)) ?_
  intro W base args ds gs before hval hW _ hk _
  exact contract H enc W base args ds gs before hval hW hk

theorem proved : Rows.AsmLeadsUptoSaid :=
  OpenClaim.holds_of_cond 5 Try.f5 rfl rfl rfl rfl rfl rfl rfl ⟨rfl, rfl, rfl, rfl, rfl⟩ rfl rfl rfl rfl rfl (by kernel_rfl) Try.func5 (by kernel_rfl)
    (of_decide_eq_true (by kernel_rfl)) (by unfold Func.isWrapper; first | (rw [if_pos (by decide +kernel)]; kernel_rfl) | (rw [if_neg (by decide +kernel)]; exact ⟨rfl, rfl⟩))
    (fun os started H enc _ F => lifted os started H enc F)
end Go.Proofs.Ytgnlplddppheiaa.asmLeads
namespace Go.Proofs.Ytgnlplddppheiaa
theorem asmLeadsUpto_holds : Rows.AsmLeadsUptoSaid := asmLeads.proved
#print axioms asmLeadsUpto_holds
end Go.Proofs.Ytgnlplddppheiaa
