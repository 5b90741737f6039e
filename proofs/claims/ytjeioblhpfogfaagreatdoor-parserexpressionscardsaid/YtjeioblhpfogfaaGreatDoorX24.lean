/- What a law must show behind its call; the laid table of operators; the world's shape. -/
import Derived.Test.YtjeioblhpfogfaaGreatDoorX08
import Derived.Test.YtjeioblhpfogfaaGreatDoorX23
import Derived.Test.YtjeioblhpfogfaaGreatDoorRows
import Derived.ProofKit
import Derived.OpenShut
import Derived.LaidMore
import Derived.Stop.Joined
import Derived.WalkKit
import Derived.Handed
import Derived.HandedShaped
import Derived.Lib.LaidTab
import Derived.ChangeSame
set_option linter.unusedVariables false
set_option linter.unusedSimpArgs false
set_option maxRecDepth 20000
set_option maxHeartbeats 8000000
namespace Go.Proofs.YtjeioblhpfogfaaGreatDoor
open Go.ChangeShapes Go.WideShapes Go.ChangeAt Go.RowKit
open Go.Proofs.YtjeioblhpfogfaaGreatDoorLx (HM)

theorem own : ownKnob Tryz.prog.godebug = none := by kernel_rfl
theorem some_max (W : World) (h : W.ShapedOpen Tryz.prog) : ∃ m, HM m W := Tryz.laysM143.s1_3 W h
abbrev laidV {H : Type} : List (String × DataW H) := [("crucible/parser.operators", Rows.laid_crucible_parser_operators)]
/-- The door's own heap meets the condition. -/
theorem door_met (os : Os) (args : Array Value) : laidMetH Tryz.prog laidV ((World.doorLaid Tryz.prog 4000 os).forCall (fun _ _ => 0) ⟨#[], args, []⟩).memory :=
  laidMetH_of_parts3 (fuel := 8) (laidMet_of_run' 8 (by kernel_rfl) (by kernel_rfl)) (by kernel_rfl) (by kernel_rfl)
theorem gT : Tryz.prog.globalNamed "crucible/parser.operators" = some 0 := by kernel_rfl
theorem gTType : (Tryz.prog.globals[0]?).map (·.type) = some 157 := by kernel_rfl
theorem opT_len : opTab.length = 18 := rfl
theorem laid_eq : (Rows.laid_crucible_parser_operators : DataW Unit) = .agg (opTab.map fun x => .agg [.lit (.string x.1.data.toList), .lit (.int .i64 x.2)]) := rfl
/-- The table of operators stands. -/
theorem op_ok {W : World} (h : laidMetH Tryz.prog laidV W) : OpT W := by
  have h' : laidMet Tryz.prog laidV W := h
  obtain ⟨ps, h1, _⟩ := h'
  obtain ⟨g', t', cs, fuel, p, q, hg', ht', hvar, hd, _⟩ := h1
  obtain rfl := Option.some.inj (gT.symm.trans hg')
  obtain rfl := Option.some.inj (gTType.symm.trans ht')
  have hd' : DataW.trod (fun _ => ()) Tryz.prog W 0 (fun _ => true) false fuel 157 cs.toList = some (.agg (opTab.map fun x => .agg [.lit (.string x.1.data.toList), .lit (.int .i64 x.2)]), p) := by rw [← laid_eq]; exact hd
  clear hd
  unfold World.var? at hvar
  rw [gT] at hvar
  simp only [Option.bind_some] at hvar
  have hcell : ∀ k u, cs.toList[k]? = some u → W.cell? ⟨0, k, none⟩ = some u := by
    intro k u hu
    split at hvar
    · rename_i c T f hh
      injection hvar with hvar
      subst hvar
      simp [World.cell?, hh]
      simpa using hu
    · cases hvar
  cases fuel with
  | zero => simp [DataW.trod] at hd'
  | succ fuel =>
    have hc2 : Tryz.prog.cellsOf 156 = 2 := by kernel_rfl
    have hc36 : Tryz.prog.cellsOf 157 = 36 := by kernel_rfl
    simp only [DataW.trod, Tryz.underlying157, hc2, hc36] at hd'
    split at hd'
    · rename_i hl
      obtain ⟨xs, hm, hx⟩ := Option.map_eq_some_iff.1 hd'
      have hxs : xs.map (·.1) = opTab.map fun x => (DataW.agg [.lit (.string x.1.data.toList), .lit (.int .i64 x.2)] : DataW Unit) := by
        have := congrArg Prod.fst hx
        simpa using this
      intro k hk
      rw [opT_len] at hk
      obtain ⟨b, hb, hf⟩ := Lib.mapM_at hm k k (by simp [hk])
      have hb1 : b.1 = .agg [.lit (.string (opTab[k]'(by rw [opT_len]; exact hk)).1.data.toList), .lit (.int .i64 (opTab[k]'(by rw [opT_len]; exact hk)).2)] := by
        have h2 : (xs.map (·.1))[k]? = some b.1 := by rw [List.getElem?_map, hb]; rfl
        rw [hxs, List.getElem?_map, List.getElem?_eq_getElem (by rw [opT_len]; exact hk)] at h2
        exact (Option.some.inj h2).symm
      obtain ⟨y0, y1, n, e1, _, h0, h1⟩ := trod_struct2 Tryz.underlying156 hf
      rw [show Tryz.prog.cellsOf 9 = 1 by kernel_rfl] at h0
      rw [show Tryz.prog.cellsOf 3 = 1 by kernel_rfl] at h1
      obtain ⟨s, hs, rfl, _⟩ := DataW.trod_string Tryz.underlying9 h0
      obtain ⟨z, hz, rfl, _⟩ := DataW.trod_int Tryz.underlying3 h1
      rw [e1] at hb1
      simp only [DataW.agg.injEq, List.cons.injEq, and_true, DataW.lit.injEq, Lit.string.injEq, Lit.int.injEq, true_and] at hb1
      obtain ⟨hb1, hb2⟩ := hb1
      have hs' : s = (opTab[k]'(by rw [opT_len]; exact hk)).1 := by
        cases s
        generalize (opTab[k]'(by rw [opT_len]; exact hk)).1 = o at hb1 ⊢
        cases o
        simp at hb1
        simp [hb1]
      refine ⟨hcell _ _ ?_, hcell _ _ ?_⟩
      · rw [← hs']
        have := congrArg (·[0]?) hs
        simpa [List.getElem?_take, List.getElem?_drop] using this
      · rw [← hb2]
        have := congrArg (·[0]?) hz
        simpa [List.getElem?_take, List.getElem?_drop] using this
    · cases hd'

section
variable {H : Type} {enc : TypeId × Value → H}
/-- What is to be shown behind the call of a law: it answered what it must, the arguments read as they did, and old memory is as it was. -/
theorem post_kept {P : Program} {f : Func} {s : ChangeSpec} {W W' : World} {args : Array Value} {v : Value} {ds gs : List (DataW H)} {ps pa : List MemPlace}
    (hW : DataW.Whole enc P f.params.toList s.vars false W args.toList ds gs ps)
    (hres : ∀ (b : Nat) (sp : Nat → Bool) (hd : Bool), DataW.TrodAll enc P W' b sp hd f.resultTypes.toList (v.resultList f.resultTypes.size) (s.fn H (ds ++ gs)).results [])
    (hargs : DataW.TrodAll enc P W' 0 (fun b => decide (b < W.heap.size)) true f.params.toList args.toList (s.fn H (ds ++ gs)).args pa)
    (hvars : ∀ sp : Nat → Bool, DataW.TrodVars enc P W' sp s.vars (s.fn H (ds ++ gs)).vars [])
    (hb : Below W.heap.size W W') :
    s.post enc P f false true false false W args v W' :=
  ⟨_, _, _, [], pa, [], hW, hres _ _ _, hargs, hvars _, hb.frame _, fun h => by cases h⟩
/-- The wrap of a statement over laid variables, the world's shape kept. -/
theorem handed_and_shaped {a : Assume} {C : Checked} {os : Os} {f : FuncId} {fn : Func} {s : ChangeSpec} {conds : List PathCond} {apart fresh handsOn again : Bool} {X : World → Array Value → Prop}
    (hX : ∀ (w w' : World) (args : Array Value), w.heap = w'.heap → X w args → X w' args)
    (own : ownKnob C.prog.godebug = none) (started : os.Started) (noInit : C.prog.inits.idxOf? f = none) (hfn : C.prog.funcs[f]? = some fn)
    (witness : ∃ (w : World) (tape : Tape) (i : Input), w.os = os ∧ (w.forCall tape i).Shaped C.prog ∧ i.vars = [] ∧ Input.okWide C.prog (w.forCall tape i) .any w.heap.size f i ∧
      ((s.pre enc C.prog fn conds apart (w.forCall tape i).memory i.args ∧ X (w.forCall tape i).memory i.args) ∧ sizedMet enc C.prog fn (OpenSpec.ofChange s) apart (w.forCall tape i).memory i.args) ∧ a.holds C.prog (lone (Frame.enter C.prog f i.args .normal) [] (w.forCall tape i)))
    (contract : ∀ (W : World) (base : Nat) (args : Array Value) (ds gs : List (DataW H)) (before : List MemPlace),
      (∀ (j : Nat) t v, fn.params[j]? = some t → args[j]? = some v → Value.okWide C.prog W .any base t v) →
      DataW.Whole enc C.prog fn.params.toList s.vars apart W args.toList ds gs before →
      conds.all (PathCond.test C.prog ⟨fn.params.toList, ds, s.plain.varTypes C.prog, gs⟩) = true →
      (DataW.weightsEach C.prog (fn.params.toList ++ s.plain.varTypes C.prog) (ds ++ gs)).all (· ≤ reachBytes) = true → X W args → W.ShapedOpen C.prog →
      Calls C.prog f args W fun e W' => ∃ v, e = .returned v ∧ s.post enc C.prog fn apart fresh handsOn again W args v W') :
    ReturnsInHanded a C os f .any (fun w args => (s.pre enc C.prog fn conds apart w args ∧ X w args) ∧ sizedMet enc C.prog fn (OpenSpec.ofChange s) apart w args) (s.post enc C.prog fn apart fresh handsOn again) := by
  refine returnsInHanded_of_calls own started noInit witness ?_
  intro w tape i _ hsh _ hok hpre hholds
  obtain ⟨_, _, _, fn', hfn', _, _, _, _, hval⟩ := hok
  have e : fn' = fn := Option.some.inj (hfn'.symm.trans hfn)
  subst e
  obtain ⟨⟨⟨ds, gs, before, hw, hc⟩, hx⟩, hz⟩ := hpre
  have hw' := DataW.Whole.of_heap (w' := w.forCall tape i) (by rfl) hw
  refine (contract (w.forCall tape i) w.heap.size i.args ds gs before hval hw' hc (hz.weights hw) (hX _ _ _ (by rfl) hx) hsh).mono fun e W' ⟨v, he, hp⟩ => ?_
  subst he
  exact ChangeSpec.post_blind hp
end
end Go.Proofs.YtjeioblhpfogfaaGreatDoor
