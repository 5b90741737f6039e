/-
  No cell of these rows narrows 'for every input' (looked for: loops, veiled, ifaces, maps, wideKeys, modest, calm, conditions, laid).
  DERIVED. THE GIVEN ROWS OF THIS SEAT. 4 by the template 'for every input the law returns true; each argument reads behind the call as it read before'; 0 by the template 'total and deterministic' (their statements: YtiehlkhpblldaaaTotals.lean).
  GIVEN WITH THE SEED: the statements are not yours to turn. If you find one false, say at which input.
  Laid BY PROGRAM, IN A SANDBOX (cutbox-rows.mjs): the forced cells as the released guide's own fill.sh prints them over the translation 5c3b256f5dc74dbc… (all of the seat's roots in one cut). By AI agents, Wed Nov 11 2026. No macro, syntax, notation, axiom, sorry.
-/
import Derived.Test.YtiehlkhpblldaaaChecked
import GoSem.Claim
import GoSem.ClaimJoined
import GoSem.ClaimMapViews
import Derived.JoinedTies
import Derived.KernelRfl
namespace Go.Proofs.Ytiehlkhpblldaaa
/- THE CELL 'sum', in the pinned program and in every row, IS THE sha256 OF THE DUMP (.gsa) THAT YtiehlkhpblldaaaProg.lean LOADS. Nothing in Lean hashes anything: it is a label: what it is worth is what the hold of that sum in a sandbox is worth. -/
noncomputable def Try.pinned : Pinned := { name := "ytiehlkhpblldaaa", sum := "5c3b256f5dc74dbc3ac185e4cb882801331ec692ad07b1dc6ae798dd47fa31af", checked := Try.checked }
namespace Rows
def none {H : Type} : Left H := { results := [], args := [] }

/-- 'cruciblelaw15.IrrunRuns': WHATEVER THE INPUT: true; the input reads as it did. -/
def irrunRunsSpec : ChangeSpec := { name := "irrunRuns", fn := fun _ => fun
  | [d1, d2, d3] => { results := [.lit (.bool true)], args := [d1, d2, d3] }
  | _ => none }
def irrunRunsRow : OpenClaim := { program := "ytiehlkhpblldaaa", sum := "5c3b256f5dc74dbc3ac185e4cb882801331ec692ad07b1dc6ae798dd47fa31af", func := "crucible/cruciblelaw15.IrrunRuns", spec := "irrunRuns", recurses := true, apart := false }
def IrrunRunsSaid : Prop := irrunRunsRow.holds Try.pinned (OpenSpec.ofChange irrunRunsSpec)

/-- ITS FALSE NEIGHBOUR: 'it returns false'. Refute it at one input. -/
def irrunRunsWrong : ChangeSpec := { name := "irrunRuns", fn := fun _ => fun
  | [d1, d2, d3] => { results := [.lit (.bool false)], args := [d1, d2, d3] }
  | _ => none }
def IrrunRunsWrongFalsely : Prop := irrunRunsRow.holds Try.pinned (OpenSpec.ofChange irrunRunsWrong)

/-- 'cruciblelaw15.IrrunCounts': WHATEVER THE INPUT: true; the input reads as it did. -/
def irrunCountsSpec : ChangeSpec := { name := "irrunCounts", fn := fun _ => fun
  | [d1, d2, d3] => { results := [.lit (.bool true)], args := [d1, d2, d3] }
  | _ => none }
def irrunCountsRow : OpenClaim := { program := "ytiehlkhpblldaaa", sum := "5c3b256f5dc74dbc3ac185e4cb882801331ec692ad07b1dc6ae798dd47fa31af", func := "crucible/cruciblelaw15.IrrunCounts", spec := "irrunCounts", recurses := true, apart := false }
def IrrunCountsSaid : Prop := irrunCountsRow.holds Try.pinned (OpenSpec.ofChange irrunCountsSpec)

/-- ITS FALSE NEIGHBOUR: 'it returns false'. Refute it at one input. -/
def irrunCountsWrong : ChangeSpec := { name := "irrunCounts", fn := fun _ => fun
  | [d1, d2, d3] => { results := [.lit (.bool false)], args := [d1, d2, d3] }
  | _ => none }
def IrrunCountsWrongFalsely : Prop := irrunCountsRow.holds Try.pinned (OpenSpec.ofChange irrunCountsWrong)

/-- 'cruciblelaw15.IrrunMore': WHATEVER THE INPUT: true; the input reads as it did. -/
def irrunMoreSpec : ChangeSpec := { name := "irrunMore", fn := fun _ => fun
  | [d1, d2, d3] => { results := [.lit (.bool true)], args := [d1, d2, d3] }
  | _ => none }
def irrunMoreRow : OpenClaim := { program := "ytiehlkhpblldaaa", sum := "5c3b256f5dc74dbc3ac185e4cb882801331ec692ad07b1dc6ae798dd47fa31af", func := "crucible/cruciblelaw15.IrrunMore", spec := "irrunMore", apart := false }
def IrrunMoreSaid : Prop := irrunMoreRow.holds Try.pinned (OpenSpec.ofChange irrunMoreSpec)

/-- ITS FALSE NEIGHBOUR: 'it returns false'. Refute it at one input. -/
def irrunMoreWrong : ChangeSpec := { name := "irrunMore", fn := fun _ => fun
  | [d1, d2, d3] => { results := [.lit (.bool false)], args := [d1, d2, d3] }
  | _ => none }
def IrrunMoreWrongFalsely : Prop := irrunMoreRow.holds Try.pinned (OpenSpec.ofChange irrunMoreWrong)

/-- 'cruciblelaw15.IrrunInputs': WHATEVER THE INPUT: true; the input reads as it did. -/
def irrunInputsSpec : ChangeSpec := { name := "irrunInputs", fn := fun _ => fun
  | [d1, d2, d3] => { results := [.lit (.bool true)], args := [d1, d2, d3] }
  | _ => none }
def irrunInputsRow : OpenClaim := { program := "ytiehlkhpblldaaa", sum := "5c3b256f5dc74dbc3ac185e4cb882801331ec692ad07b1dc6ae798dd47fa31af", func := "crucible/cruciblelaw15.IrrunInputs", spec := "irrunInputs", apart := false }
def IrrunInputsSaid : Prop := irrunInputsRow.holds Try.pinned (OpenSpec.ofChange irrunInputsSpec)

/-- ITS FALSE NEIGHBOUR: 'it returns false'. Refute it at one input. -/
def irrunInputsWrong : ChangeSpec := { name := "irrunInputs", fn := fun _ => fun
  | [d1, d2, d3] => { results := [.lit (.bool false)], args := [d1, d2, d3] }
  | _ => none }
def IrrunInputsWrongFalsely : Prop := irrunInputsRow.holds Try.pinned (OpenSpec.ofChange irrunInputsWrong)

/- THE SECOND FORM. 'bulk': how many values and letters a reading holds, each counted each time it is reached (what is shared counts as often as it is met; a slice's spare places count too). A statement '..UptoSaid' is the law's where the arguments, and the package variables that the reading takes, are together of bulk at most 1048576: NARROWER than '..Said'. Prove '..Said' where nothing that the law and all that it calls make is longer than what came in: it says more and counts as full. Else prove '..UptoSaid'. A law counts once. -/
mutual
def uptoBulk {H : Type} : DataW H → Nat
  | .lit (.string bytes) => bytes.length + 1
  | .lit _ => 1
  | .nil => 1
  | .ptr d => uptoBulk d + 1
  | .slice elems spare => uptoBulkAll elems + uptoBulkAll spare + 1
  | .agg parts => uptoBulkAll parts + 1
  | .iface _ d => uptoBulk d + 1
  | .map entries => uptoBulkEntries entries + 1
  | .held _ => 1
def uptoBulkAll {H : Type} : List (DataW H) → Nat
  | [] => 0
  | d :: r => uptoBulk d + uptoBulkAll r
def uptoBulkEntries {H : Type} : List (Lit × DataW H) → Nat
  | [] => 0
  | x :: r => uptoBulkEntry x + uptoBulkEntries r
def uptoBulkEntry {H : Type} : Lit × DataW H → Nat
  | (.string bytes, d) => bytes.length + uptoBulk d + 1
  | (_, d) => uptoBulk d + 1
 end
def uptoSmall : (H : Type) → List (DataW H) → Bool := fun _ ds => decide (uptoBulkAll ds ≤ 1048576)
def OpenSpec.upto (s : _root_.Go.ChangeSpec) : _root_.Go.OpenSpec := { _root_.Go.OpenSpec.ofChange s with cond := some uptoSmall }

/-- 'cruciblelaw15.IrrunRuns', WHERE WHAT IT READS IS OF BULK AT MOST 1048576: true; the input reads as it did. -/
def irrunRunsUptoRow : OpenClaim := { program := "ytiehlkhpblldaaa", sum := "5c3b256f5dc74dbc3ac185e4cb882801331ec692ad07b1dc6ae798dd47fa31af", func := "crucible/cruciblelaw15.IrrunRuns", spec := "irrunRuns", recurses := true, apart := false, narrowed := true }
def IrrunRunsUptoSaid : Prop := irrunRunsUptoRow.holds Try.pinned (OpenSpec.upto irrunRunsSpec)

/-- 'cruciblelaw15.IrrunCounts', WHERE WHAT IT READS IS OF BULK AT MOST 1048576: true; the input reads as it did. -/
def irrunCountsUptoRow : OpenClaim := { program := "ytiehlkhpblldaaa", sum := "5c3b256f5dc74dbc3ac185e4cb882801331ec692ad07b1dc6ae798dd47fa31af", func := "crucible/cruciblelaw15.IrrunCounts", spec := "irrunCounts", recurses := true, apart := false, narrowed := true }
def IrrunCountsUptoSaid : Prop := irrunCountsUptoRow.holds Try.pinned (OpenSpec.upto irrunCountsSpec)

/-- 'cruciblelaw15.IrrunMore', WHERE WHAT IT READS IS OF BULK AT MOST 1048576: true; the input reads as it did. -/
def irrunMoreUptoRow : OpenClaim := { program := "ytiehlkhpblldaaa", sum := "5c3b256f5dc74dbc3ac185e4cb882801331ec692ad07b1dc6ae798dd47fa31af", func := "crucible/cruciblelaw15.IrrunMore", spec := "irrunMore", apart := false, narrowed := true }
def IrrunMoreUptoSaid : Prop := irrunMoreUptoRow.holds Try.pinned (OpenSpec.upto irrunMoreSpec)

/-- 'cruciblelaw15.IrrunInputs', WHERE WHAT IT READS IS OF BULK AT MOST 1048576: true; the input reads as it did. -/
def irrunInputsUptoRow : OpenClaim := { program := "ytiehlkhpblldaaa", sum := "5c3b256f5dc74dbc3ac185e4cb882801331ec692ad07b1dc6ae798dd47fa31af", func := "crucible/cruciblelaw15.IrrunInputs", spec := "irrunInputs", apart := false, narrowed := true }
def IrrunInputsUptoSaid : Prop := irrunInputsUptoRow.holds Try.pinned (OpenSpec.upto irrunInputsSpec)

end Rows
end Go.Proofs.Ytiehlkhpblldaaa
