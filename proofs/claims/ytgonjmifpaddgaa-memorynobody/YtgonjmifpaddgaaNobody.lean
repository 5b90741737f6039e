/- MemoryNobody's walk: two rounds over a memory that nobody made. -/
import Derived.Test.YtgonjmifpaddgaaNone
import Derived.Test.YtgonjmifpaddgaaAwake
namespace Go.Proofs.Ytgonjmifpaddgaa
open Go.RowKit

theorem bare_nil (w : World) : Bare w (.pointer none) := Or.inl rfl
theorem bare_at {w : World} {p : Nat} (h : w.cell? ⟨p, 0, none⟩ = some (.slice none 0 0)) : Bare w (.pointer (some ⟨p, 0, none⟩)) := Or.inr ⟨p, rfl, h⟩

set_option maxHeartbeats 2000000 in
theorem nobody5 (d a x : Int) (s : ByteArray) (w : World) (a0 : 0 ≤ a) (a1 : a < 4294967296) :
    Calls Try.prog 5 #[.agg #[.int .i64 d, .int .u32 a, .int .u32 x, .string s]] w fun e w' => e = .returned (.bool true) ∧ Below w.heap.size w w' := by
  have h1 := bare_nil (w.alloc (.cells #[.int .i64 d, .int .u32 a, .int .u32 x, .string s] 44))
  have h2 : Bare ((w.alloc (.cells #[.int .i64 d, .int .u32 a, .int .u32 x, .string s] 44)).alloc (.cells #[.slice none 0 0] 46)) (.pointer (some ⟨w.heap.size + 1, 0, none⟩)) := bare_at (by simp)
  go_enter Try.func5, Try.ntmps5
  go_wp2
  refine wp_loop_rounds 3 ?_
  rw [rounds_succ]
  go_wp2_with (first
    | (go_at_call 10; with_reducible refine (load4_none h1 a0 a1).mono ?_; rintro e w' ⟨rfl, hw⟩; have hv := hw.symm; clear hw; subst hv)
    | (go_at_call 12; with_reducible refine (load1_none h1).mono ?_; rintro e w' ⟨rfl, hw⟩; have hv := hw.symm; clear hw; subst hv)
    | (go_at_call 8; with_reducible refine (bytes_none h1).mono ?_; rintro e w' ⟨rfl, hw⟩; have hv := hw.symm; clear hw; subst hv)
    | (go_at_call 9; with_reducible refine (size9_none h1).mono ?_; rintro e w' ⟨rfl, hw⟩; have hv := hw.symm; clear hw; subst hv)
    | (go_at_call 15; with_reducible refine (store4_none h1 a0 a1).mono ?_; rintro e w' ⟨rfl, hw⟩; have hv := hw.symm; clear hw; subst hv)
    | (go_at_call 16; with_reducible refine (store1_none h1).mono ?_; rintro e w' ⟨rfl, hw⟩; have hv := hw.symm; clear hw; subst hv)
    | (go_at_call 17; with_reducible refine (fill_none h1).mono ?_; rintro e w' ⟨rfl, hw⟩; have hv := hw.symm; clear hw; subst hv))
  rw [rounds_succ]
  go_wp2_with (first
    | (go_at_call 10; with_reducible refine (load4_none h2 a0 a1).mono ?_; rintro e w' ⟨rfl, hw⟩; have hv := hw.symm; clear hw; subst hv)
    | (go_at_call 12; with_reducible refine (load1_none h2).mono ?_; rintro e w' ⟨rfl, hw⟩; have hv := hw.symm; clear hw; subst hv)
    | (go_at_call 8; with_reducible refine (bytes_none h2).mono ?_; rintro e w' ⟨rfl, hw⟩; have hv := hw.symm; clear hw; subst hv)
    | (go_at_call 9; with_reducible refine (size9_none h2).mono ?_; rintro e w' ⟨rfl, hw⟩; have hv := hw.symm; clear hw; subst hv)
    | (go_at_call 15; with_reducible refine (store4_none h2 a0 a1).mono ?_; rintro e w' ⟨rfl, hw⟩; have hv := hw.symm; clear hw; subst hv)
    | (go_at_call 16; with_reducible refine (store1_none h2).mono ?_; rintro e w' ⟨rfl, hw⟩; have hv := hw.symm; clear hw; subst hv)
    | (go_at_call 17; with_reducible refine (fill_none h2).mono ?_; rintro e w' ⟨rfl, hw⟩; have hv := hw.symm; clear hw; subst hv))
  rw [rounds_succ]
  go_wp2_with (go_at_call 7; refine (awake7 _).mono ?_; rintro e w3 ⟨rfl, hb3⟩)
  go_ret
  have hb3 := (by assumption : Below _ ((w.alloc (.cells #[.int .i64 d, .int .u32 a, .int .u32 x, .string s] 44)).alloc (.cells #[.slice none 0 0] 46)) _)
  exact ⟨rfl, (((Below.refl _ _).alloc (Nat.le_refl _) _).alloc (by simp) _).trans (hb3.mono (by simp; omega))⟩
end Go.Proofs.Ytgonjmifpaddgaa
