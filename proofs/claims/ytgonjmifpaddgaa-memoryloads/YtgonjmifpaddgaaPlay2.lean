/- Play: bytes laid in both memories. -/
import Derived.Test.YtgonjmifpaddgaaBoth
import Derived.Deep.RegionWith
namespace Go.Proofs.Ytgonjmifpaddgaa
open Go.RowKit

set_option maxHeartbeats 8000000 in
theorem play_2 {B p r q t n a : Nat} {x : Int} {s : ByteArray} {g : Nat → UInt8} {w : World} (h : Pair w B p r q t n g) (ha : a < 4294967296) (hs : s.size ≤ maxLen) :
    Calls Try.prog 20 #[.pointer (some ⟨p, 0, none⟩), .pointer (some ⟨q, 0, none⟩), .agg #[.int .i64 2, .int .u32 a, .int .u32 x, .string s]] w fun e w' => e = .returned (.bool true) ∧ (∃ g', Pair w' B p r q t n g') ∧ Below B w w' := by
  have hz : w.heap.size ≠ r := by have := h.m.rlt; omega
  have h46 := (h.m.alloc (.cells #[.int .i64 2, .int .u32 a, .int .u32 x, .string s] 44)).drew
  have h35 := (h.d.alloc (.cells #[.int .i64 2, .int .u32 a, .int .u32 x, .string s] 44)).drew
  have hb0 := ((Below.refl w.heap.size w).alloc (Nat.le_refl _) (.cells #[.int .i64 2, .int .u32 a, .int .u32 x, .string s] 44)).drew
  go_enter Try.func20, Try.ntmps20
  go_wp2
  go_region_with (first
    | (go_at_call 17; with_reducible refine (fill_any h46 ha hs).mono ?_; rintro e w1 ⟨rfl, hM1, hO1⟩; have hk1 := keeps hO1 (by simp) hz; have hR1 := h35.other hO1 h.qr (Ne.symm h.rt))
    | (go_at_call 26; with_reducible refine (rfill_any hR1 ha).mono ?_; rintro e w2 ⟨rfl, hM2, hO2⟩; obtain ⟨hP2, hB2⟩ := h.step hb0 hM1 hO1 hM2 hO2; clear hk1))
  all_goals (go_wp2; go_ret; exact ⟨by first | rfl | simp, ⟨_, by assumption⟩, by assumption⟩)
end Go.Proofs.Ytgonjmifpaddgaa
