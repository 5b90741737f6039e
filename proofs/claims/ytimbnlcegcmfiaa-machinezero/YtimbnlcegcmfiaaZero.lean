/- Register 0 is 0, whatever is done. -/
import Derived.Test.YtimbnlcegcmfiaaAwake
import Derived.Test.YtimbnlcegcmfiaaRMay
namespace Go.Proofs.Ytimbnlcegcmfiaa
open Go.RowKit
set_option linter.unusedVariables false

set_option maxHeartbeats 1000000 in
theorem zero6_arg (m : Im) (input : ByteArray) (h : m.may = false) (w : World) :
    Calls Try.prog 6 #[m.val, .string input] w fun e w' => e = .returned (.bool true) ∧ Below w.heap.size w w' := by
  have h12 : ∀ w, Calls Try.prog 12 #[m.val] w fun e w' => e = .returned (.int .i64 1) ∧ Below w.heap.size w w' := fun w => by
    have := check12 m w
    rw [h] at this
    exact this
  go_enter Try.func6, Try.ntmps6
  go_wp2_with (first
    | (go_at_call 9; refine (new9_arg m input h _).mono ?_; rintro e w1 ⟨rfl, hb1⟩; obtain ⟨hc1, hf1⟩ := bcell hb1; have hs1 : w.heap.size < w1.heap.size := by (have hq := hb1.size; simp at hq; omega))
    | (go_at_call 12; refine (h12 _).mono ?_; rintro e w2 ⟨rfl, hb2⟩)
    | (go_at_call 13; refine (awake13 _).mono ?_; rintro e w3 ⟨rfl, hb3⟩))
  go_ret
  exact ⟨rfl, below_then (below_then (below_box2 hb1) hb2) hb3⟩

set_option maxHeartbeats 1000000 in
theorem zero6_long (m : Im) (input : ByteArray) (h : m.may = true) (hi : ¬ input.size ≤ 1048576) (w : World) :
    Calls Try.prog 6 #[m.val, .string input] w fun e w' => e = .returned (.bool true) ∧ Below w.heap.size w w' := by
  have h12 : ∀ w, Calls Try.prog 12 #[m.val] w fun e w' => e = .returned (.int .i64 0) ∧ Below w.heap.size w w' := fun w => by
    have := check12 m w
    rw [h] at this
    exact this
  have hi' : (1048576 : Int) < input.size := by omega
  go_enter Try.func6, Try.ntmps6
  go_wp2_with (first
    | (go_at_call 9; refine (new9_long m input h hi _).mono ?_; rintro e w1 ⟨rfl, hb1⟩; obtain ⟨hc1, hf1⟩ := bcell hb1; have hs1 : w.heap.size < w1.heap.size := by (have hq := hb1.size; simp at hq; omega))
    | (go_at_call 12; refine (h12 _).mono ?_; rintro e w2 ⟨rfl, hb2⟩)
    | (go_at_call 13; refine (awake13 _).mono ?_; rintro e w3 ⟨rfl, hb3⟩))
  go_ret
  exact ⟨rfl, below_then (below_then (below_box2 hb1) hb2) hb3⟩

set_option maxRecDepth 100000 in
set_option maxHeartbeats 2000000 in
theorem zero6_ok (m : Im) (input : ByteArray) (h : m.may = true) (hi : input.size ≤ 1048576) (w : World) :
    Calls Try.prog 6 #[m.val, .string input] w fun e w' => e = .returned (.bool true) ∧ Below w.heap.size w w' := by
  have hO : Hid (∀ k, Ok (stepN k (initS m input))) := stepN_ok (initS_ok h hi)
  have hl : Hid (∀ k, (stepN k (initS m input)).out.length ≤ k) := stepN_out rfl
  generalize hs0 : initS m input = s0 at *
  go_enter Try.func6, Try.ntmps6
  go_wp2_with (first
    | (go_at_call 9; refine (new9_yes m input h hi _).mono ?_; rintro e w1 ⟨p, rfl, q, r, hM, hp, hq, hr, hb1⟩))
  go_loopw [7] (fun i wr => ∃ k : Nat, k ≤ 3000 ∧ i = .int .i64 k ∧ (∃ sl, IsM wr w1.heap.size p q r sl (stepN k s0)) ∧ Below w.heap.size w wr) (fun i _ => 3000 - (intOf i).toNat)
  case atStart => exact ⟨0, Nat.zero_le _, rfl, ⟨_, by rw [hs0] at hM; exact hM⟩, below_box2 hb1⟩
  case round =>
    obtain ⟨k, hk, rfl, ⟨sl, hMk⟩, hbk⟩ := hrel
    have hs1 := below_box2 hb1
    have hmine := hid (mine_ge (B := w.heap.size) hMk (by simp at hp; omega) (by simp at hr; omega) hs1.size)
    have hst := step17 hMk (hO.out k) (Nat.le_trans (hl.out k) (Nat.le_trans hk (by omega)))
    have hsz := hid hbk.size
    clear hb1 hM hs1 hp hq hr
    by_cases hlt : k < 3000
    · by_cases hk3 : (stepN k s0).kind = 3
      · rw [decide_eq_true hk3] at hst
        unfold Steps at hst
        have hz := hid (hO.out (k + 1)).zero
        clear hMk
        have hrg : ∀ w2 sl', IsM w2 w1.heap.size p q r sl' (stepF (stepN k s0)) → Calls Try.prog 16 #[.pointer (some ⟨p, 0, none⟩), .int .i64 0] w2 fun e w' => e = .returned (.int .u32 0) ∧ w' = w2 := fun w2 sl' h2 => by
          have := reg16_in h2 0 (by omega)
          rw [show (stepF (stepN k s0)).reg 0 = 0 from hz.out] at this
          exact this
        go_wp2_with (first
          | (go_at_call 17; refine hst.mono ?_; rintro e w2 ⟨rfl, sl', hM2, hK2, _⟩)
          | (go_at_call 16; refine (hrg _ _ hM2).mono ?_; rintro e w3 ⟨rfl, rfl⟩))
        go_roundw
        case rel => exact ⟨k + 1, by omega, by go_num, ⟨_, by assumption⟩, hbk.trans (Kept.below (by assumption) hsz.out hmine.out)⟩
        case measure => simp [intOf]; omega
      · rw [decide_eq_false hk3, stepF_over hk3] at hst
        unfold Steps at hst
        clear hMk
        go_wp2_with (first
          | (go_at_call 17; refine hst.mono ?_; rintro e w2 ⟨rfl, sl', hM2, hK2, _⟩)
          | (go_at_call 13; refine (awake13 _).mono ?_; rintro e w3 ⟨rfl, hb3⟩))
        go_ret
        exact ⟨rfl, below_then (hbk.trans (hK2.below hsz.out hmine.out)) hb3⟩
    · obtain rfl : k = 3000 := by omega
      clear hst
      go_wp2_with (first
        | (go_at_call 13; refine (awake13 _).mono ?_; rintro e w3 ⟨rfl, hb3⟩))
      go_ret
      exact ⟨rfl, below_then hbk hb3⟩

theorem zero6 (m : Im) (input : ByteArray) (w : World) :
    Calls Try.prog 6 #[m.val, .string input] w fun e w' => e = .returned (.bool true) ∧ Below w.heap.size w w' := by
  cases h : m.may
  · exact zero6_arg m input h w
  · by_cases hi : input.size ≤ 1048576
    · exact zero6_ok m input h hi w
    · exact zero6_long m input h hi w
end Go.Proofs.Ytimbnlcegcmfiaa
