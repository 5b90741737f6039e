/- The law IrFuncs. -/
import Derived.Test.YthnbnilammjceaaLawE
import Derived.Test.YthnbnilammjceaaFn13
namespace Go.Proofs.Ythnbnilammjceaa
open Go.RowKit Go.Maps

theorem funcs4 {w : World} {p : Pg} {f : Fn} (hp : Pg.ok w p) (hf : Fn.ok w f) :
    Calls Try.prog 4 #[p.val, f.val] w fun e w' => e = .returned (.bool true) ∧ Below w.heap.size w w' :=
  funcs4_of hp hf (fun _ h1 h2 => func13 h1 h2)
end Go.Proofs.Ythnbnilammjceaa
