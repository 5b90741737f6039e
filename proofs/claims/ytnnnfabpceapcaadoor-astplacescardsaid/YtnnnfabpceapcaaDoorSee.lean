/- What the program's walks see: Size's and Depth's closures. -/
import Derived.Test.YtnnnfabpceapcaaDoorTree
import Derived.Deep.QuietTactic
import Derived.BigQuiet
namespace Go.Proofs.YtnnnfabpceapcaaDoor
open Go.RowKit
set_option linter.unusedVariables false

theorem see17 {w : World} {p : Value} {d c : Int} {cb : Nat} (hc : w.cell? ⟨cb, 0, none⟩ = some (.int .i64 c)) (hf : w.frozen? ⟨cb, 0, none⟩ = false) (hl : cb < w.heap.size) (h0 : 0 ≤ c) (h1 : c ≤ 1000000) :
    Calls Tryd.prog 17 #[p, .int .i64 d, .pointer (some ⟨cb, 0, none⟩)] w fun e w' => e = .returned (.bool true) ∧ w' = w.setCell ⟨cb, 0, none⟩ (.int .i64 (c + 1)) := by
  go_enter Tryd.func17, Tryd.ntmps17
  go_wp2
  go_ret
  exact ⟨rfl, rfl⟩

theorem see19 {w : World} {p : Value} {d c : Int} {cb : Nat} (hc : w.cell? ⟨cb, 0, none⟩ = some (.int .i64 c)) (hf : w.frozen? ⟨cb, 0, none⟩ = false) (hl : cb < w.heap.size) (h0 : 0 ≤ c) (h1 : c ≤ 1000000) (h2 : 0 ≤ d) (h3 : d ≤ 1000000) :
    Calls Tryd.prog 19 #[p, .int .i64 d, .pointer (some ⟨cb, 0, none⟩)] w fun e w' => e = .returned (.bool true) ∧ w' = w.setCell ⟨cb, 0, none⟩ (.int .i64 (max c d)) := by
  go_enter Tryd.func19, Tryd.ntmps19
  go_wp2
  all_goals
    go_ret
    refine ⟨rfl, ?_⟩
    congr 2
    omega
end Go.Proofs.YtnnnfabpceapcaaDoor
