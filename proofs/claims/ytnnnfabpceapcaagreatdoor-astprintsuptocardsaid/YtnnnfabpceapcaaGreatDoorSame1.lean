/- Are nodes alike? -/
import Derived.Test.YtnnnfabpceapcaaGreatDoorTree
import Derived.Deep.QuietTactic
import Derived.BigQuiet
namespace Go.Proofs.YtnnnfabpceapcaaGreatDoor
open Go.RowKit
set_option linter.unusedVariables false
/-- Are two nodes alike, but for places and kids? -/
def eqN (x y : NdH) : Bool := decide (x.kind = y.kind) && ((x.str.toList == y.str.toList) && (decide (x.num = y.num) && (x.flag == y.flag)))
theorem below_dr (w : World) (n : Nat) : Below w.heap.size w (w.drewN n) := ⟨rfl, rfl, rfl, Nat.le_refl _, fun _ _ => rfl⟩
end Go.Proofs.YtnnnfabpceapcaaGreatDoor
