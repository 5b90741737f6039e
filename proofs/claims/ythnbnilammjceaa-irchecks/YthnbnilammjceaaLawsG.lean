/- The law IrChecks. -/
import Derived.Test.YthnbnilammjceaaPg10
import Derived.Test.YthnbnilammjceaaFn13
namespace Go.Proofs.Ythnbnilammjceaa
open Go.RowKit Go.Maps

theorem checks3 {w : World} {p : Pg} (hp : Pg.ok w p) : Calls Try.prog 3 #[p.val] w fun e w' => e = .returned (.bool true) ∧ Below w.heap.size w w' :=
  checks3_of hp (fun _ hW _ hW' _ hk => func13 ((hp.on hW).on hW') (((hp.fns _ (List.getElem_mem hk)).on hW).on hW'))
end Go.Proofs.Ythnbnilammjceaa
