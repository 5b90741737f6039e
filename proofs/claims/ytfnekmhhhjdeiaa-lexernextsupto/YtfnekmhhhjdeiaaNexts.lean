/- The law of Next. -/
import Derived.Test.YtfnekmhhhjdeiaaRNext
import Derived.Test.YtfnekmhhhjdeiaaWake
namespace Go.Proofs.Ytfnekmhhhjdeiaa
open Go.RowKit
set_option linter.unusedVariables false

set_option maxHeartbeats 4000000 in
/-- Both answer the same. -/
theorem nexts3_of (s : ByteArray) (i : Int) (k : Int) (t : ByteArray) (n : Int) (u : Bool) (a b c d : Int) (m : Int)
    (h9 : ∀ w, HM m w → Calls Try.prog 9 #[.string s, .int .i64 i] w fun e w' => e = .returned (.tuple #[.agg #[.int .i64 k, .string t, .int .u32 n, .bool u, .int .i64 a, .int .i64 b], .int .i64 c, .int .i64 d]) ∧ Below w.heap.size w w')
    (h10 : ∀ w, HM m w → Calls Try.prog 10 #[.string s, .int .i64 i] w fun e w' => e = .returned (.tuple #[.agg #[.int .i64 k, .string t, .int .u32 n, .bool u, .int .i64 a, .int .i64 b], .int .i64 c, .int .i64 d]) ∧ Below w.heap.size w w')
    (w : World) (hm : HM m w) : Calls Try.prog 3 #[.string s, .int .i64 i] w fun e w' => e = .returned (.bool true) ∧ Below w.heap.size w w' := by
  replace hm := hid hm
  go_enter Try.func3, Try.ntmps3
  go_wp2_with (first
    | (go_at_call 9; (with_reducible refine (h9 _ hm.out).mono ?_); rintro e w1 ⟨rfl, hb1⟩; have hm1 := hid ((hm.out.below hb1).alloc (.cells #[.int .i64 k, .string t, .int .u32 n, .bool u, .int .i64 a, .int .i64 b] 24)); replace hb1 := hid hb1)
    | (go_at_call 10; (with_reducible refine (h10 _ hm1.out).mono ?_); rintro e w2 ⟨rfl, hb2⟩; have hm2 := hid ((hm1.out.below hb2).alloc (.cells #[.int .i64 k, .string t, .int .u32 n, .bool u, .int .i64 a, .int .i64 b] 24)); obtain ⟨hc2, hf2⟩ := bcell hb2; have hl2 : w1.heap.size < w2.heap.size := Nat.lt_of_lt_of_le (by simp) hb2.size; replace hb2 := hid hb2)
    | (go_at_call 11; (with_reducible refine (awake11 m _ hm2.out).mono ?_); rintro e w4 ⟨rfl, hb4⟩; replace hb4 := hid hb4))
  go_ret
  exact ⟨rfl, below_then (below_more (below_then (below_more hb1.out _) hb2.out) _) hb4.out⟩
theorem nexts3 (s : ByteArray) (hs : s.size < 4294967281) (i : Int) (m : Int) (w : World) (hm : HM m w) : Calls Try.prog 3 #[.string s, .int .i64 i] w fun e w' => e = .returned (.bool true) ∧ Below w.heap.size w w' := by
  by_cases hi : i < 0 ∨ (s.size : Int) < i
  · exact nexts3_of s i _ _ _ _ _ _ _ _ m (fun w _ => next9_arg s i hi w) (fun w _ => next10_arg s i hi w) w hm
  · obtain ⟨k, rfl⟩ : ∃ k : Nat, i = k := ⟨i.toNat, by omega⟩
    have h9 := fun w hm => next9 s k (by omega) hs m w hm
    have h10 := fun w hm => next10 s k (by omega) hs m w hm
    match hn : nextF ((lst s).drop k) with
    | .error p =>
      rw [hn] at h9 h10
      exact nexts3_of s k _ _ _ _ _ _ _ _ m h9 h10 w hm
    | .ok (t, a, b) =>
      rw [hn] at h9 h10
      exact nexts3_of s k _ _ _ _ _ _ _ _ m h9 h10 w hm
end Go.Proofs.Ytfnekmhhhjdeiaa
