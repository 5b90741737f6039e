/- What the program's walks see: Size's and Depth's closures. -/
import Derived.Test.YtnnnfabpceapcaaGreatDoorTree
import Derived.Deep.QuietTactic
import Derived.BigQuiet
namespace Go.Proofs.YtnnnfabpceapcaaGreatDoor
open Go.RowKit
set_option linter.unusedVariables false

theorem see17 {w : World} {p : Value} {d c : Int} {cb : Nat} (hc : w.cell? ⟨cb, 0, none⟩ = some (.int .i64 c)) (hf : w.frozen? ⟨cb, 0, none⟩ = false) (hl : cb < w.heap.size) (h0 : 0 ≤ c) (h1 : c ≤ 1000000) :
    Calls Tryz.prog 22 #[p, .int .i64 d, .pointer (some ⟨cb, 0, none⟩)] w fun e w' => e = .returned (.bool true) ∧ w' = w.setCell ⟨cb, 0, none⟩ (.int .i64 (c + 1)) := by
  go_enter Tryz.func22, Tryz.ntmps22
  go_wp2
  go_ret
  exact ⟨rfl, rfl⟩

end Go.Proofs.YtnnnfabpceapcaaGreatDoor
