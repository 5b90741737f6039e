/- The law of sizes, where awake is so. -/
import Derived.Test.YtnnnfabpceapcaaGreatDoorSizes
import Derived.Test.YtnnnfabpceapcaaGreatDoorQuiet
import Derived.Deep.QuietTactic
namespace Go.Proofs.YtnnnfabpceapcaaGreatDoor
open Go.RowKit
set_option linter.unusedVariables false

theorem mixed : Tryz.prog.follows .mixedOrders = true := by kernel_rfl

end Go.Proofs.YtnnnfabpceapcaaGreatDoor
