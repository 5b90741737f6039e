/-
  NARROWER THAN 'FOR EVERY INPUT', by the rows' own cells (each row's printed sentence says how): LatticeSolves: laid · LatticeMust: laid · LatticeFixed: laid · LatticeOrder: laid · LatticeRefuses: laid · LatticeSets: laid.
  DERIVED. THE GIVEN ROWS OF THIS SEAT. 6 by the template 'for every input the law returns true; each argument reads behind the call as it read before'; 0 by the template 'total and deterministic' (their statements: YtjhndnhldhmjnaaDoorTotals.lean).
  GIVEN WITH THE SEED: the statements are not yours to turn. If you find one false, say at which input.
  Laid BY PROGRAM, IN A SANDBOX (cutbox-rows.mjs): the forced cells as the released guide's own fill.sh prints them over the translation 28c3c6cf4d21f4ac… (all of the seat's roots in one cut). By AI agents, Wed Nov 11 2026. No macro, syntax, notation, axiom, sorry.
-/
import Derived.Test.YtjhndnhldhmjnaaDoorChecked
import GoSem.Claim
import GoSem.ClaimJoined
import GoSem.ClaimMapViews
import Derived.JoinedTies
import Derived.KernelRfl
namespace Go.Proofs.YtjhndnhldhmjnaaDoor
/- THE CELL 'sum', in the pinned program and in every row, IS THE sha256 OF THE DUMP (.gsa) THAT YtjhndnhldhmjnaaDoorProg.lean LOADS. Nothing in Lean hashes anything: it is a label: what it is worth is what the hold of that sum in a sandbox is worth. -/
noncomputable def Tryd.pinned : Pinned := { name := "ytjhndnhldhmjnaadoor", sum := "28c3c6cf4d21f4acf22d5724b5c5a547431fbd8cb9bde267d1979a30ddef80ae", checked := Tryd.checked }
namespace Rows
def none {H : Type} : Left H := { results := [], args := [] }

/- WHAT THE LISTED PACKAGE-LEVEL VARIABLES READ AS WHEN THE CALL BEGINS. Each datum BY PROGRAM (the guide's laid-datum.mjs) off the statement by which the dump's own 'gosem.cut.vars' lays the variable. In a bare row this is a premise. The card (YtjhndnhldhmjnaaDoorCards.lean) ties it to the program's text. -/
def laid_math_bits_deBruijn64tab {H : Type} : DataW H := .agg [.lit (.int .u8 0), .lit (.int .u8 1), .lit (.int .u8 56), .lit (.int .u8 2), .lit (.int .u8 57), .lit (.int .u8 49), .lit (.int .u8 28), .lit (.int .u8 3), .lit (.int .u8 61), .lit (.int .u8 58), .lit (.int .u8 42), .lit (.int .u8 50), .lit (.int .u8 38), .lit (.int .u8 29), .lit (.int .u8 17), .lit (.int .u8 4), .lit (.int .u8 62), .lit (.int .u8 47), .lit (.int .u8 59), .lit (.int .u8 36), .lit (.int .u8 45), .lit (.int .u8 43), .lit (.int .u8 51), .lit (.int .u8 22), .lit (.int .u8 53), .lit (.int .u8 39), .lit (.int .u8 33), .lit (.int .u8 30), .lit (.int .u8 24), .lit (.int .u8 18), .lit (.int .u8 12), .lit (.int .u8 5), .lit (.int .u8 63), .lit (.int .u8 55), .lit (.int .u8 48), .lit (.int .u8 27), .lit (.int .u8 60), .lit (.int .u8 41), .lit (.int .u8 37), .lit (.int .u8 16), .lit (.int .u8 46), .lit (.int .u8 35), .lit (.int .u8 44), .lit (.int .u8 21), .lit (.int .u8 52), .lit (.int .u8 32), .lit (.int .u8 23), .lit (.int .u8 11), .lit (.int .u8 54), .lit (.int .u8 26), .lit (.int .u8 40), .lit (.int .u8 15), .lit (.int .u8 34), .lit (.int .u8 20), .lit (.int .u8 31), .lit (.int .u8 10), .lit (.int .u8 25), .lit (.int .u8 14), .lit (.int .u8 19), .lit (.int .u8 9), .lit (.int .u8 13), .lit (.int .u8 8), .lit (.int .u8 7), .lit (.int .u8 6)]

/-- 'cruciblelaw19.LatticeSolves': WHATEVER THE INPUT: true; the input reads as it did. -/
def latticeSolvesSpec : ChangeSpec := { name := "latticeSolves", fn := fun _ => fun
  | [d1, d2] => { results := [.lit (.bool true)], args := [d1, d2] }
  | _ => none }
def latticeSolvesRow : OpenClaim := { program := "ytjhndnhldhmjnaadoor", sum := "28c3c6cf4d21f4acf22d5724b5c5a547431fbd8cb9bde267d1979a30ddef80ae", func := "crucible/cruciblelaw19.LatticeSolves", spec := "latticeSolves", unfollowed := true, recurses := true, named := ["math/bits.deBruijn64tab"], apart := false, laid := [("math/bits.deBruijn64tab", laid_math_bits_deBruijn64tab)] }
def LatticeSolvesSaid : Prop := latticeSolvesRow.holds Tryd.pinned (OpenSpec.ofChange latticeSolvesSpec)

/-- ITS FALSE NEIGHBOUR: 'it returns false'. Refute it at one input. -/
def latticeSolvesWrong : ChangeSpec := { name := "latticeSolves", fn := fun _ => fun
  | [d1, d2] => { results := [.lit (.bool false)], args := [d1, d2] }
  | _ => none }
def LatticeSolvesWrongFalsely : Prop := latticeSolvesRow.holds Tryd.pinned (OpenSpec.ofChange latticeSolvesWrong)

/-- 'cruciblelaw19.LatticeMust': WHATEVER THE INPUT: true; the input reads as it did. -/
def latticeMustSpec : ChangeSpec := { name := "latticeMust", fn := fun _ => fun
  | [d1, d2] => { results := [.lit (.bool true)], args := [d1, d2] }
  | _ => none }
def latticeMustRow : OpenClaim := { program := "ytjhndnhldhmjnaadoor", sum := "28c3c6cf4d21f4acf22d5724b5c5a547431fbd8cb9bde267d1979a30ddef80ae", func := "crucible/cruciblelaw19.LatticeMust", spec := "latticeMust", unfollowed := true, recurses := true, named := ["math/bits.deBruijn64tab"], apart := false, laid := [("math/bits.deBruijn64tab", laid_math_bits_deBruijn64tab)] }
def LatticeMustSaid : Prop := latticeMustRow.holds Tryd.pinned (OpenSpec.ofChange latticeMustSpec)

/-- ITS FALSE NEIGHBOUR: 'it returns false'. Refute it at one input. -/
def latticeMustWrong : ChangeSpec := { name := "latticeMust", fn := fun _ => fun
  | [d1, d2] => { results := [.lit (.bool false)], args := [d1, d2] }
  | _ => none }
def LatticeMustWrongFalsely : Prop := latticeMustRow.holds Tryd.pinned (OpenSpec.ofChange latticeMustWrong)

/-- 'cruciblelaw19.LatticeFixed': WHATEVER THE INPUT: true; the input reads as it did. -/
def latticeFixedSpec : ChangeSpec := { name := "latticeFixed", fn := fun _ => fun
  | [d1, d2] => { results := [.lit (.bool true)], args := [d1, d2] }
  | _ => none }
def latticeFixedRow : OpenClaim := { program := "ytjhndnhldhmjnaadoor", sum := "28c3c6cf4d21f4acf22d5724b5c5a547431fbd8cb9bde267d1979a30ddef80ae", func := "crucible/cruciblelaw19.LatticeFixed", spec := "latticeFixed", unfollowed := true, recurses := true, named := ["math/bits.deBruijn64tab"], apart := false, laid := [("math/bits.deBruijn64tab", laid_math_bits_deBruijn64tab)] }
def LatticeFixedSaid : Prop := latticeFixedRow.holds Tryd.pinned (OpenSpec.ofChange latticeFixedSpec)

/-- ITS FALSE NEIGHBOUR: 'it returns false'. Refute it at one input. -/
def latticeFixedWrong : ChangeSpec := { name := "latticeFixed", fn := fun _ => fun
  | [d1, d2] => { results := [.lit (.bool false)], args := [d1, d2] }
  | _ => none }
def LatticeFixedWrongFalsely : Prop := latticeFixedRow.holds Tryd.pinned (OpenSpec.ofChange latticeFixedWrong)

/-- 'cruciblelaw19.LatticeOrder': WHATEVER THE INPUT: true; the input reads as it did. -/
def latticeOrderSpec : ChangeSpec := { name := "latticeOrder", fn := fun _ => fun
  | [d1, d2] => { results := [.lit (.bool true)], args := [d1, d2] }
  | _ => none }
def latticeOrderRow : OpenClaim := { program := "ytjhndnhldhmjnaadoor", sum := "28c3c6cf4d21f4acf22d5724b5c5a547431fbd8cb9bde267d1979a30ddef80ae", func := "crucible/cruciblelaw19.LatticeOrder", spec := "latticeOrder", unfollowed := true, recurses := true, named := ["math/bits.deBruijn64tab"], apart := false, laid := [("math/bits.deBruijn64tab", laid_math_bits_deBruijn64tab)] }
def LatticeOrderSaid : Prop := latticeOrderRow.holds Tryd.pinned (OpenSpec.ofChange latticeOrderSpec)

/-- ITS FALSE NEIGHBOUR: 'it returns false'. Refute it at one input. -/
def latticeOrderWrong : ChangeSpec := { name := "latticeOrder", fn := fun _ => fun
  | [d1, d2] => { results := [.lit (.bool false)], args := [d1, d2] }
  | _ => none }
def LatticeOrderWrongFalsely : Prop := latticeOrderRow.holds Tryd.pinned (OpenSpec.ofChange latticeOrderWrong)

/-- 'cruciblelaw19.LatticeRefuses': WHATEVER THE INPUT: true; the input reads as it did. -/
def latticeRefusesSpec : ChangeSpec := { name := "latticeRefuses", fn := fun _ => fun
  | [d1, d2, d3] => { results := [.lit (.bool true)], args := [d1, d2, d3] }
  | _ => none }
def latticeRefusesRow : OpenClaim := { program := "ytjhndnhldhmjnaadoor", sum := "28c3c6cf4d21f4acf22d5724b5c5a547431fbd8cb9bde267d1979a30ddef80ae", func := "crucible/cruciblelaw19.LatticeRefuses", spec := "latticeRefuses", unfollowed := true, recurses := true, named := ["math/bits.deBruijn64tab"], apart := false, laid := [("math/bits.deBruijn64tab", laid_math_bits_deBruijn64tab)] }
def LatticeRefusesSaid : Prop := latticeRefusesRow.holds Tryd.pinned (OpenSpec.ofChange latticeRefusesSpec)

/-- ITS FALSE NEIGHBOUR: 'it returns false'. Refute it at one input. -/
def latticeRefusesWrong : ChangeSpec := { name := "latticeRefuses", fn := fun _ => fun
  | [d1, d2, d3] => { results := [.lit (.bool false)], args := [d1, d2, d3] }
  | _ => none }
def LatticeRefusesWrongFalsely : Prop := latticeRefusesRow.holds Tryd.pinned (OpenSpec.ofChange latticeRefusesWrong)

/-- 'cruciblelaw19.LatticeSets': WHATEVER THE INPUT: true; the input reads as it did. -/
def latticeSetsSpec : ChangeSpec := { name := "latticeSets", fn := fun _ => fun
  | [d1, d2, d3] => { results := [.lit (.bool true)], args := [d1, d2, d3] }
  | _ => none }
def latticeSetsRow : OpenClaim := { program := "ytjhndnhldhmjnaadoor", sum := "28c3c6cf4d21f4acf22d5724b5c5a547431fbd8cb9bde267d1979a30ddef80ae", func := "crucible/cruciblelaw19.LatticeSets", spec := "latticeSets", unfollowed := true, recurses := true, named := ["math/bits.deBruijn64tab"], apart := false, laid := [("math/bits.deBruijn64tab", laid_math_bits_deBruijn64tab)] }
def LatticeSetsSaid : Prop := latticeSetsRow.holds Tryd.pinned (OpenSpec.ofChange latticeSetsSpec)

/-- ITS FALSE NEIGHBOUR: 'it returns false'. Refute it at one input. -/
def latticeSetsWrong : ChangeSpec := { name := "latticeSets", fn := fun _ => fun
  | [d1, d2, d3] => { results := [.lit (.bool false)], args := [d1, d2, d3] }
  | _ => none }
def LatticeSetsWrongFalsely : Prop := latticeSetsRow.holds Tryd.pinned (OpenSpec.ofChange latticeSetsWrong)

/- THE SECOND FORM. 'bulk': how many values and letters a reading holds, each counted each time it is reached (what is shared counts as often as it is met; a slice's spare places count too). A statement '..UptoSaid' is the law's where the arguments, and the package variables that the reading takes, are together of bulk at most 1048576: NARROWER than '..Said'. Prove '..Said' where nothing that the law and all that it calls make is longer than what came in: it says more and counts as full. Else prove '..UptoSaid'. A law counts once. -/
mutual
def uptoBulk {H : Type} : DataW H → Nat
  | .lit (.string bytes) => bytes.length + 1
  | .lit _ => 1
  | .nil => 1
  | .ptr d => uptoBulk d + 1
  | .slice elems spare => uptoBulkAll elems + uptoBulkAll spare + 1
  | .agg parts => uptoBulkAll parts + 1
  | .iface _ d => uptoBulk d + 1
  | .map entries => uptoBulkEntries entries + 1
  | .held _ => 1
def uptoBulkAll {H : Type} : List (DataW H) → Nat
  | [] => 0
  | d :: r => uptoBulk d + uptoBulkAll r
def uptoBulkEntries {H : Type} : List (Lit × DataW H) → Nat
  | [] => 0
  | x :: r => uptoBulkEntry x + uptoBulkEntries r
def uptoBulkEntry {H : Type} : Lit × DataW H → Nat
  | (.string bytes, d) => bytes.length + uptoBulk d + 1
  | (_, d) => uptoBulk d + 1
 end
def uptoSmall : (H : Type) → List (DataW H) → Bool := fun _ ds => decide (uptoBulkAll ds ≤ 1048576)
def OpenSpec.upto (s : _root_.Go.ChangeSpec) : _root_.Go.OpenSpec := { _root_.Go.OpenSpec.ofChange s with cond := some uptoSmall }

/-- 'cruciblelaw19.LatticeSolves', WHERE WHAT IT READS IS OF BULK AT MOST 1048576: true; the input reads as it did. -/
def latticeSolvesUptoRow : OpenClaim := { program := "ytjhndnhldhmjnaadoor", sum := "28c3c6cf4d21f4acf22d5724b5c5a547431fbd8cb9bde267d1979a30ddef80ae", func := "crucible/cruciblelaw19.LatticeSolves", spec := "latticeSolves", unfollowed := true, recurses := true, named := ["math/bits.deBruijn64tab"], apart := false, laid := [("math/bits.deBruijn64tab", laid_math_bits_deBruijn64tab)], narrowed := true }
def LatticeSolvesUptoSaid : Prop := latticeSolvesUptoRow.holds Tryd.pinned (OpenSpec.upto latticeSolvesSpec)

/-- 'cruciblelaw19.LatticeMust', WHERE WHAT IT READS IS OF BULK AT MOST 1048576: true; the input reads as it did. -/
def latticeMustUptoRow : OpenClaim := { program := "ytjhndnhldhmjnaadoor", sum := "28c3c6cf4d21f4acf22d5724b5c5a547431fbd8cb9bde267d1979a30ddef80ae", func := "crucible/cruciblelaw19.LatticeMust", spec := "latticeMust", unfollowed := true, recurses := true, named := ["math/bits.deBruijn64tab"], apart := false, laid := [("math/bits.deBruijn64tab", laid_math_bits_deBruijn64tab)], narrowed := true }
def LatticeMustUptoSaid : Prop := latticeMustUptoRow.holds Tryd.pinned (OpenSpec.upto latticeMustSpec)

/-- 'cruciblelaw19.LatticeFixed', WHERE WHAT IT READS IS OF BULK AT MOST 1048576: true; the input reads as it did. -/
def latticeFixedUptoRow : OpenClaim := { program := "ytjhndnhldhmjnaadoor", sum := "28c3c6cf4d21f4acf22d5724b5c5a547431fbd8cb9bde267d1979a30ddef80ae", func := "crucible/cruciblelaw19.LatticeFixed", spec := "latticeFixed", unfollowed := true, recurses := true, named := ["math/bits.deBruijn64tab"], apart := false, laid := [("math/bits.deBruijn64tab", laid_math_bits_deBruijn64tab)], narrowed := true }
def LatticeFixedUptoSaid : Prop := latticeFixedUptoRow.holds Tryd.pinned (OpenSpec.upto latticeFixedSpec)

/-- 'cruciblelaw19.LatticeOrder', WHERE WHAT IT READS IS OF BULK AT MOST 1048576: true; the input reads as it did. -/
def latticeOrderUptoRow : OpenClaim := { program := "ytjhndnhldhmjnaadoor", sum := "28c3c6cf4d21f4acf22d5724b5c5a547431fbd8cb9bde267d1979a30ddef80ae", func := "crucible/cruciblelaw19.LatticeOrder", spec := "latticeOrder", unfollowed := true, recurses := true, named := ["math/bits.deBruijn64tab"], apart := false, laid := [("math/bits.deBruijn64tab", laid_math_bits_deBruijn64tab)], narrowed := true }
def LatticeOrderUptoSaid : Prop := latticeOrderUptoRow.holds Tryd.pinned (OpenSpec.upto latticeOrderSpec)

/-- 'cruciblelaw19.LatticeRefuses', WHERE WHAT IT READS IS OF BULK AT MOST 1048576: true; the input reads as it did. -/
def latticeRefusesUptoRow : OpenClaim := { program := "ytjhndnhldhmjnaadoor", sum := "28c3c6cf4d21f4acf22d5724b5c5a547431fbd8cb9bde267d1979a30ddef80ae", func := "crucible/cruciblelaw19.LatticeRefuses", spec := "latticeRefuses", unfollowed := true, recurses := true, named := ["math/bits.deBruijn64tab"], apart := false, laid := [("math/bits.deBruijn64tab", laid_math_bits_deBruijn64tab)], narrowed := true }
def LatticeRefusesUptoSaid : Prop := latticeRefusesUptoRow.holds Tryd.pinned (OpenSpec.upto latticeRefusesSpec)

/-- 'cruciblelaw19.LatticeSets', WHERE WHAT IT READS IS OF BULK AT MOST 1048576: true; the input reads as it did. -/
def latticeSetsUptoRow : OpenClaim := { program := "ytjhndnhldhmjnaadoor", sum := "28c3c6cf4d21f4acf22d5724b5c5a547431fbd8cb9bde267d1979a30ddef80ae", func := "crucible/cruciblelaw19.LatticeSets", spec := "latticeSets", unfollowed := true, recurses := true, named := ["math/bits.deBruijn64tab"], apart := false, laid := [("math/bits.deBruijn64tab", laid_math_bits_deBruijn64tab)], narrowed := true }
def LatticeSetsUptoSaid : Prop := latticeSetsUptoRow.holds Tryd.pinned (OpenSpec.upto latticeSetsSpec)

end Rows
end Go.Proofs.YtjhndnhldhmjnaaDoor
