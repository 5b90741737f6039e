/- The walks of the law IsaUses: Reads and the document's answer tell one list (of none, one or two registers), Writes and the document's answer one number. -/
import Derived.Test.YtjipahjhaeidhaaUses
import Derived.WalkKit
import Derived.Deep.RegionWith
import Derived.Deep.QuietTactic
import Derived.BigQuiet
namespace Go.Proofs.Ytjipahjhaeidhaa
open Go.RowKit

theorem undrew1 {B : Nat} {w w3 : World} (h : Below B w.drew w3) : Below B w w3 := ⟨h.os, h.tape, h.output, h.size, h.block⟩
theorem undrewN1 {B n : Nat} {w w3 : World} (h : Below (w.drewN n).heap.size (w.drewN n) w3) (hB : w.heap.size = B) : Below B w w3 := by
  subst hB
  exact ⟨h.os, h.tape, h.output, h.size, h.block⟩
theorem held_one {w : World} {base : Nat} {v : Value} {x : Int} (h : Held w base v [x]) : ∃ g cap, v = .slice (some ⟨g, 0, none⟩) 1 cap ∧ g < w.heap.size ∧ w.cell? ⟨g, 0, none⟩ = some (.int .i64 x) := by
  obtain ⟨g, cap, rfl⟩ := form1 h.1
  exact ⟨g, cap, rfl, (h.1.lt g rfl).2, h.1.cellAt 0 (by simp)⟩
theorem held_two {w : World} {base : Nat} {v : Value} {x y : Int} (h : Held w base v [x, y]) : ∃ g cap, v = .slice (some ⟨g, 0, none⟩) 2 cap ∧ g < w.heap.size ∧ w.cell? ⟨g, 0, none⟩ = some (.int .i64 x) ∧ w.cell? ⟨g, 1, none⟩ = some (.int .i64 y) := by
  rcases h.1.2 with ⟨_, h0⟩ | ⟨g, cap, cur, rfl, _⟩
  · simp at h0
  · exact ⟨g, cap, rfl, (h.1.lt g rfl).2, h.1.cellAt 0 (by simp), h.1.cellAt 1 (by simp)⟩

set_option maxHeartbeats 4000000 in
theorem uses_nil {op d a b i k : Int} (h14 : Hid (∀ w, Calls Try.prog 14 #[.agg #[.int .i64 op, .int .i64 d, .int .i64 a, .int .i64 b, .int .i32 i]] w fun e w' => ∃ v, e = .returned v ∧ Held w' w.heap.size v [] ∧ Below w.heap.size w w'))
    (h15 : Hid (∀ w, Calls Try.prog 15 #[.agg #[.int .i64 op, .int .i64 d, .int .i64 a, .int .i64 b, .int .i32 i]] w fun e w' => ∃ v, e = .returned v ∧ Held w' w.heap.size v [] ∧ Below w.heap.size w w'))
    (h16 : Hid (∀ w, Calls Try.prog 16 #[.agg #[.int .i64 op, .int .i64 d, .int .i64 a, .int .i64 b, .int .i32 i]] w fun e w' => e = .returned (.int .i64 k) ∧ Below w.heap.size w w'))
    (h17 : Hid (∀ w, Calls Try.prog 17 #[.agg #[.int .i64 op, .int .i64 d, .int .i64 a, .int .i64 b, .int .i32 i]] w fun e w' => e = .returned (.int .i64 k) ∧ Below w.heap.size w w')) (w : World) :
    Calls Try.prog 5 #[.agg #[.int .i64 op, .int .i64 d, .int .i64 a, .int .i64 b, .int .i32 i]] w fun e w' => e = .returned (.bool true) ∧ Below w.heap.size w w' := by
  go_enter Try.func5, Try.ntmps5
  go_wp2_with (first
    | (go_at_call 14; refine (h14.out _).mono ?_; rintro e w1 ⟨v1, rfl, hh1, hb1⟩; obtain rfl := hh1.2 rfl; obtain ⟨hc1, hf1⟩ := bcell hb1; have hs1 : w.heap.size < w1.heap.size := by have hq := hb1.size; simp at hq; omega)
    | (go_at_call 15; refine (h15.out _).mono ?_; rintro e w2 ⟨v2, rfl, hh2, hb2⟩; obtain rfl := hh2.2 rfl; obtain ⟨hc2, hf2⟩ := bcell hb2; have hs2 : w.heap.size < w2.heap.size := Nat.lt_of_lt_of_le hs1 hb2.size))
  go_region_with (first
    | (go_at_call 16; refine (h16.out _).mono ?_; rintro e w3 ⟨rfl, hbk⟩; have hb3 : Below w2.heap.size w2 w3 := undrew1 hbk; clear hbk; obtain ⟨hc3, hf3⟩ := bcell hb3; have hs3 : w.heap.size < w3.heap.size := Nat.lt_of_lt_of_le hs2 hb3.size)
    | (go_at_call 17; refine (h17.out _).mono ?_; rintro e w4 ⟨rfl, hb4⟩; obtain ⟨hc4, hf4⟩ := bcell hb4))
  all_goals
    go_wp2
    refine wp_loop_rounds 1 ?_
    rw [rounds_succ]
    go_wp2_with (go_at_call 11; refine (awake11 _).mono ?_; rintro e w5 ⟨rfl, hb5⟩)
    go_ret
    exact ⟨rfl, below_on (below_on (below_on (below_on (below_call hb1) hb2) hb3) hb4) hb5⟩

set_option maxHeartbeats 4000000 in
theorem uses_one {op d a b i k x : Int} (h14 : Hid (∀ w, Calls Try.prog 14 #[.agg #[.int .i64 op, .int .i64 d, .int .i64 a, .int .i64 b, .int .i32 i]] w fun e w' => ∃ v, e = .returned v ∧ Held w' w.heap.size v [x] ∧ Below w.heap.size w w'))
    (h15 : Hid (∀ w, Calls Try.prog 15 #[.agg #[.int .i64 op, .int .i64 d, .int .i64 a, .int .i64 b, .int .i32 i]] w fun e w' => ∃ v, e = .returned v ∧ Held w' w.heap.size v [x] ∧ Below w.heap.size w w'))
    (h16 : Hid (∀ w, Calls Try.prog 16 #[.agg #[.int .i64 op, .int .i64 d, .int .i64 a, .int .i64 b, .int .i32 i]] w fun e w' => e = .returned (.int .i64 k) ∧ Below w.heap.size w w'))
    (h17 : Hid (∀ w, Calls Try.prog 17 #[.agg #[.int .i64 op, .int .i64 d, .int .i64 a, .int .i64 b, .int .i32 i]] w fun e w' => e = .returned (.int .i64 k) ∧ Below w.heap.size w w')) (w : World) :
    Calls Try.prog 5 #[.agg #[.int .i64 op, .int .i64 d, .int .i64 a, .int .i64 b, .int .i32 i]] w fun e w' => e = .returned (.bool true) ∧ Below w.heap.size w w' := by
  go_enter Try.func5, Try.ntmps5
  go_wp2_with (first
    | (go_at_call 14; refine (h14.out _).mono ?_; rintro e w1 ⟨v1, rfl, hh1, hb1⟩; obtain ⟨g1, c1, rfl, l1, k10⟩ := held_one hh1; clear hh1; obtain ⟨hc1, hf1⟩ := bcell hb1; have hs1 : w.heap.size < w1.heap.size := by have hq := hb1.size; simp at hq; omega)
    | (go_at_call 15; refine (h15.out _).mono ?_; rintro e w2 ⟨v2, rfl, hh2, hb2⟩; obtain ⟨g2, c2, rfl, l2, k20⟩ := held_one hh2; clear hh2; have m2 : g1 < w2.heap.size := Nat.lt_of_lt_of_le l1 hb2.size; obtain ⟨hc2, hf2⟩ := bcell hb2; have hs2 : w.heap.size < w2.heap.size := Nat.lt_of_lt_of_le hs1 hb2.size))
  go_region_with (first
    | (go_at_call 16; refine (h16.out _).mono ?_; rintro e w3 ⟨rfl, hbk⟩; have hb3 : Below w2.heap.size w2 w3 := undrew1 hbk; clear hbk; obtain ⟨hc3, hf3⟩ := bcell hb3; have hs3 : w.heap.size < w3.heap.size := Nat.lt_of_lt_of_le hs2 hb3.size; have m3 : g1 < w3.heap.size := Nat.lt_of_lt_of_le m2 hb3.size; have l3 : g2 < w3.heap.size := Nat.lt_of_lt_of_le l2 hb3.size)
    | (go_at_call 17; refine (h17.out _).mono ?_; rintro e w4 ⟨rfl, hb4⟩; obtain ⟨hc4, hf4⟩ := bcell hb4; have m4 : g1 < w4.heap.size := Nat.lt_of_lt_of_le m3 hb4.size; have l4 : g2 < w4.heap.size := Nat.lt_of_lt_of_le l3 hb4.size))
  all_goals
    go_wp2
    refine wp_loop_rounds 2 ?_
    rw [rounds_succ]
    go_wp2
    go_quiet (fail)
    go_wp2
    rw [rounds_succ]
    go_wp2_with (go_at_call 11; refine (awake11 _).mono ?_; rintro e w5 ⟨rfl, hb5⟩)
    go_ret
    exact ⟨rfl, below_on (below_on (below_on (below_on (below_call hb1) hb2) hb3) hb4) (by first | exact undrewN1 hb5 rfl | exact undrewN1 (undrewN1 hb5 rfl) rfl)⟩

set_option maxHeartbeats 4000000 in
theorem uses_two {op d a b i k x y : Int} (h14 : Hid (∀ w, Calls Try.prog 14 #[.agg #[.int .i64 op, .int .i64 d, .int .i64 a, .int .i64 b, .int .i32 i]] w fun e w' => ∃ v, e = .returned v ∧ Held w' w.heap.size v [x, y] ∧ Below w.heap.size w w'))
    (h15 : Hid (∀ w, Calls Try.prog 15 #[.agg #[.int .i64 op, .int .i64 d, .int .i64 a, .int .i64 b, .int .i32 i]] w fun e w' => ∃ v, e = .returned v ∧ Held w' w.heap.size v [x, y] ∧ Below w.heap.size w w'))
    (h16 : Hid (∀ w, Calls Try.prog 16 #[.agg #[.int .i64 op, .int .i64 d, .int .i64 a, .int .i64 b, .int .i32 i]] w fun e w' => e = .returned (.int .i64 k) ∧ Below w.heap.size w w'))
    (h17 : Hid (∀ w, Calls Try.prog 17 #[.agg #[.int .i64 op, .int .i64 d, .int .i64 a, .int .i64 b, .int .i32 i]] w fun e w' => e = .returned (.int .i64 k) ∧ Below w.heap.size w w')) (w : World) :
    Calls Try.prog 5 #[.agg #[.int .i64 op, .int .i64 d, .int .i64 a, .int .i64 b, .int .i32 i]] w fun e w' => e = .returned (.bool true) ∧ Below w.heap.size w w' := by
  go_enter Try.func5, Try.ntmps5
  go_wp2_with (first
    | (go_at_call 14; refine (h14.out _).mono ?_; rintro e w1 ⟨v1, rfl, hh1, hb1⟩; obtain ⟨g1, c1, rfl, l1, k10, k11⟩ := held_two hh1; clear hh1; obtain ⟨hc1, hf1⟩ := bcell hb1; have hs1 : w.heap.size < w1.heap.size := by have hq := hb1.size; simp at hq; omega)
    | (go_at_call 15; refine (h15.out _).mono ?_; rintro e w2 ⟨v2, rfl, hh2, hb2⟩; obtain ⟨g2, c2, rfl, l2, k20, k21⟩ := held_two hh2; clear hh2; have m2 : g1 < w2.heap.size := Nat.lt_of_lt_of_le l1 hb2.size; obtain ⟨hc2, hf2⟩ := bcell hb2; have hs2 : w.heap.size < w2.heap.size := Nat.lt_of_lt_of_le hs1 hb2.size))
  go_region_with (first
    | (go_at_call 16; refine (h16.out _).mono ?_; rintro e w3 ⟨rfl, hbk⟩; have hb3 : Below w2.heap.size w2 w3 := undrew1 hbk; clear hbk; obtain ⟨hc3, hf3⟩ := bcell hb3; have hs3 : w.heap.size < w3.heap.size := Nat.lt_of_lt_of_le hs2 hb3.size; have m3 : g1 < w3.heap.size := Nat.lt_of_lt_of_le m2 hb3.size; have l3 : g2 < w3.heap.size := Nat.lt_of_lt_of_le l2 hb3.size)
    | (go_at_call 17; refine (h17.out _).mono ?_; rintro e w4 ⟨rfl, hb4⟩; obtain ⟨hc4, hf4⟩ := bcell hb4; have m4 : g1 < w4.heap.size := Nat.lt_of_lt_of_le m3 hb4.size; have l4 : g2 < w4.heap.size := Nat.lt_of_lt_of_le l3 hb4.size))
  all_goals
    go_wp2
    refine wp_loop_rounds 3 ?_
    rw [rounds_succ]
    go_wp2
    go_quiet (fail)
    go_wp2
    rw [rounds_succ]
    go_wp2
    go_quiet (fail)
    go_wp2
    rw [rounds_succ]
    go_wp2_with (go_at_call 11; refine (awake11 _).mono ?_; rintro e w5 ⟨rfl, hb5⟩)
    go_ret
    exact ⟨rfl, below_on (below_on (below_on (below_on (below_call hb1) hb2) hb3) hb4) (by first | exact undrewN1 (undrewN1 hb5 rfl) rfl | exact undrewN1 hb5 rfl)⟩

end Go.Proofs.Ytjipahjhaeidhaa
