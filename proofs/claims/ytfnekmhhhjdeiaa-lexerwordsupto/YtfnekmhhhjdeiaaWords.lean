/- The law of names, words and literals. -/
import Derived.Test.YtfnekmhhhjdeiaaRResv
import Derived.Test.YtfnekmhhhjdeiaaWord
import Derived.Test.YtfnekmhhhjdeiaaBuild
import Derived.Test.YtfnekmhhhjdeiaaWake
namespace Go.Proofs.Ytfnekmhhhjdeiaa
open Go.RowKit
set_option linter.unusedVariables false

set_option maxHeartbeats 4000000 in
theorem words5 (s : ByteArray) (hs : s.size ≤ 1048576) (hQ : ∀ w, Calls Try.prog 20 #[.string s] w fun e w' => e = .returned (.string (strL (quoteL (lst s)))) ∧ Below w.heap.size w w') (m : Int) (w : World) (hm : HM m w) :
    Calls Try.prog 5 #[.string s] w fun e w' => e = .returned (.bool true) ∧ Below w.heap.size w w' := by
  have h15 := reserved15 s
  have h16 := reserved16 s (by omega)
  have h17 := named17 s (by omega)
  have h18 := named18 s (by omega)
  have h19 := quote19 s hs
  generalize resv (lst s) = R at *
  generalize namedB (lst s) = N at *
  generalize strL (quoteL (lst s)) = Q at *
  replace hm := hid hm
  go_enter Try.func5, Try.ntmps5
  go_wp2_with (first
    | (go_at_call 15; (with_reducible refine (h15 _).mono ?_); rintro e w1 ⟨rfl, rfl⟩)
    | (go_at_call 16; (with_reducible refine (h16 _).mono ?_); rintro e w1 ⟨rfl, rfl⟩)
    | (go_at_call 17; (with_reducible refine (h17 _).mono ?_); rintro e w1 ⟨rfl, rfl⟩)
    | (go_at_call 18; (with_reducible refine (h18 _).mono ?_); rintro e w1 ⟨rfl, rfl⟩)
    | (go_at_call 19; (with_reducible refine (h19 _).mono ?_); rintro e w2 ⟨rfl, hb2⟩; have hm2 := hid (hm.out.below hb2); replace hb2 := hid hb2)
    | (go_at_call 20; (with_reducible refine (hQ _).mono ?_); rintro e w3 ⟨rfl, hb3⟩; have hm3 := hid (hm2.out.below hb3); replace hb3 := hid hb3)
    | (go_at_call 11; (with_reducible refine (awake11 m _ hm3.out).mono ?_); rintro e w4 ⟨rfl, hb4⟩; replace hb4 := hid hb4))
  go_ret
  exact ⟨rfl, below_then (below_then hb2.out hb3.out) hb4.out⟩
end Go.Proofs.Ytfnekmhhhjdeiaa
