/- ScopeNobody's walk: two rounds over a scope that nobody made. -/
import Derived.Test.YthdphldagfeepaaAwake
namespace Go.Proofs.Ythdphldagfeepaa
open Go.RowKit
set_option linter.unusedVariables false
set_option linter.unusedSimpArgs false

set_option maxHeartbeats 2000000 in
theorem nobody5 (d x : Int) (s : ByteArray) (w : World) :
    Calls Try.prog 5 #[.agg #[.int .i64 d, .string s, .int .i64 x]] w fun e w' => e = .returned (.bool true) ∧ Below w.heap.size w w' := by
  have h1 := bare_nil (w.alloc (.cells #[.int .i64 d, .string s, .int .i64 x] 29))
  have h2 : Bare ((w.alloc (.cells #[.int .i64 d, .string s, .int .i64 x] 29)).alloc (.cells #[.slice none 0 0] 44)) (.pointer (some ⟨w.heap.size + 1, 0, none⟩)) := bare_at (by simp)
  go_enter Try.func5, Try.ntmps5
  go_wp2
  refine wp_loop_rounds 3 ?_
  rw [rounds_succ]
  go_wp2_with (first
    | (go_at_call 10; with_reducible refine (find10_bare h1 s).mono ?_; rintro e w' ⟨rfl, hw⟩; have hv := hw.symm; clear hw; subst hv)
    | (go_at_call 9; with_reducible refine (depth9_bare h1).mono ?_; rintro e w' ⟨rfl, hw⟩; have hv := hw.symm; clear hw; subst hv)
    | (go_at_call 13; with_reducible refine (enter13_bare h1).mono ?_; rintro e w' ⟨rfl, hw⟩; have hv := hw.symm; clear hw; subst hv)
    | (go_at_call 14; with_reducible refine (leave14_bare h1).mono ?_; rintro e w' ⟨rfl, hw⟩; have hv := hw.symm; clear hw; subst hv)
    | (go_at_call 15; with_reducible refine (declare15_bare h1 s x).mono ?_; rintro e w' ⟨rfl, hw⟩; have hv := hw.symm; clear hw; subst hv))
  rw [rounds_succ]
  go_wp2_with (first
    | (go_at_call 10; with_reducible refine (find10_bare h2 s).mono ?_; rintro e w' ⟨rfl, hw⟩; have hv := hw.symm; clear hw; subst hv)
    | (go_at_call 9; with_reducible refine (depth9_bare h2).mono ?_; rintro e w' ⟨rfl, hw⟩; have hv := hw.symm; clear hw; subst hv)
    | (go_at_call 13; with_reducible refine (enter13_bare h2).mono ?_; rintro e w' ⟨rfl, hw⟩; have hv := hw.symm; clear hw; subst hv)
    | (go_at_call 14; with_reducible refine (leave14_bare h2).mono ?_; rintro e w' ⟨rfl, hw⟩; have hv := hw.symm; clear hw; subst hv)
    | (go_at_call 15; with_reducible refine (declare15_bare h2 s x).mono ?_; rintro e w' ⟨rfl, hw⟩; have hv := hw.symm; clear hw; subst hv))
  rw [rounds_succ]
  go_wp2_with (go_at_call 12; refine (awake12 _).mono ?_; rintro e w3 ⟨rfl, hb3⟩)
  go_ret
  have hb3 := (by assumption : Below _ ((w.alloc (.cells #[.int .i64 d, .string s, .int .i64 x] 29)).alloc (.cells #[.slice none 0 0] 44)) _)
  exact ⟨rfl, (((Below.refl _ _).alloc (Nat.le_refl _) _).alloc (by simp) _).trans (hb3.mono (by simp; omega))⟩
end Go.Proofs.Ythdphldagfeepaa
