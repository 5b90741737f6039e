/- The document's machine: a new one, how it ends. -/
import Derived.Test.YtimbnlcegcmfiaaNew
import Derived.Test.YtimbnlcegcmfiaaRMach
import Derived.Test.YtimbnlcegcmfiaaMRefStores
import Derived.Test.YtimbnlcegcmfiaaRun
namespace Go.Proofs.Ytimbnlcegcmfiaa
open Go.RowKit
set_option linter.unusedVariables false

section
variable {w : World} {N p q r : Nat} {sl : Value} {s : St}
theorem reg16_in (h : IsM w N p q r sl s) (k : Nat) (hk : k < 16) : Calls Try.prog 16 #[.pointer (some ⟨p, 0, none⟩), .int .i64 (k : Int)] w fun e w' => e = .returned (.int .u32 (s.reg k)) ∧ w' = w := by
  have hc := h.reg k hk
  go_enter Try.func16, Try.ntmps16
  go_wp2
  go_ret
  exact ⟨rfl, rfl⟩
end

set_option maxHeartbeats 2000000 in
theorem may27_yes (m : Im) (h : m.may = true) (w : World) :
    Calls Try.prog 27 #[m.val] w fun e w' => e = .returned (.bool true) ∧ Below w.heap.size w w' := by
  obtain ⟨h1, h2, h3, h4, h5, h6, h7, h8⟩ := Im.may_true h
  obtain ⟨b0, b1, b2⟩ := place_bounds h3
  have h2' : (m.code.size : Int) % 4 = 0 := by omega
  have h1' : (m.code.size : Int) ≤ 1048576 := by omega
  have h1'' : (4 : Int) ≤ m.code.size := by omega
  clear h h3
  go_enter Try.func27, Try.ntmps27
  go_wp2
  go_ret
  exact ⟨rfl, below_box _ _⟩

theorem Im.may_false2 {m : Im} (h : m.may = false) : ¬ m.code.size ≤ 1048576 ∨ ¬ m.code.size % 4 = 0 ∨ ¬ 0 ≤ m.entry ∨ ¬ m.entry < m.code.size ∨ ¬ m.entry % 4 = 0 ∨ ¬ 0 ≤ m.global ∨ ¬ m.global ≤ 65536 ∨ ¬ (m.data.size : Int) ≤ m.global ∨ ¬ 0 ≤ m.frame ∨ ¬ m.frame ≤ 65536 := by
  rcases Im.may_false h with h | h | h | h | h | h | h | h
  · exact .inl h
  · exact .inr (.inl h)
  · unfold placeB at h
    simp only [Bool.and_eq_false_iff, decide_eq_false_iff_not] at h
    omega
  all_goals omega

set_option maxHeartbeats 4000000 in
theorem may27_no (m : Im) (h : m.may = false) (w : World) :
    Calls Try.prog 27 #[m.val] w fun e w' => e = .returned (.bool false) ∧ Below w.heap.size w w' := by
  have h' := Im.may_false2 h
  clear h
  go_enter Try.func27, Try.ntmps27
  go_wp2
  all_goals go_ret
  all_goals first
    | exact ⟨rfl, below_box _ _⟩
    | exact ⟨ret_b (decide_eq_false (by omega)), below_box _ _⟩
    | (exfalso; simp_all; omega)

theorem check12 (m : Im) (w : World) :
    Calls Try.prog 12 #[m.val] w fun e w' => e = .returned (.int .i64 (if m.may then 0 else 1)) ∧ Below w.heap.size w w' := by
  cases h : m.may
  · go_enter Try.func12, Try.ntmps12
    go_wp2_with (first | (go_at_call 27; refine (may27_no m h _).mono ?_; rintro e w1 ⟨rfl, hb1⟩))
    go_ret
    exact ⟨rfl, below_box2 hb1⟩
  · go_enter Try.func12, Try.ntmps12
    go_wp2_with (first | (go_at_call 27; refine (may27_yes m h _).mono ?_; rintro e w1 ⟨rfl, hb1⟩))
    go_ret
    exact ⟨rfl, below_box2 hb1⟩

theorem below_then {w w1 w2 : World} (h1 : Below w.heap.size w w1) (h2 : Below w1.heap.size w1 w2) : Below w.heap.size w w2 := h1.trans (h2.mono h1.size)

end Go.Proofs.Ytimbnlcegcmfiaa

namespace Go.Proofs.Ytimbnlcegcmfiaa
open Go.RowKit
set_option linter.unusedVariables false

theorem rnew10_arg (m : Im) (input : ByteArray) (h : m.may = false) (w : World) :
    Calls Try.prog 10 #[m.val, .string input] w fun e w' => e = .returned (.tuple #[.pointer none, .int .i64 1]) ∧ Below w.heap.size w w' := by
  go_enter Try.func10, Try.ntmps10
  go_wp2_with (first
    | (go_at_call 27; refine (may27_no m h _).mono ?_; rintro e w1 ⟨rfl, hb1⟩))
  go_ret2
  exact ⟨rfl, below_box2 hb1⟩

theorem rnew10_long (m : Im) (input : ByteArray) (h : m.may = true) (hi : ¬ input.size ≤ 1048576) (w : World) :
    Calls Try.prog 10 #[m.val, .string input] w fun e w' => e = .returned (.tuple #[.pointer none, .int .i64 3]) ∧ Below w.heap.size w w' := by
  have hi' : (1048576 : Int) < input.size := by omega
  go_enter Try.func10, Try.ntmps10
  go_wp2_with (first
    | (go_at_call 27; refine (may27_yes m h _).mono ?_; rintro e w1 ⟨rfl, hb1⟩))
  go_ret2
  exact ⟨rfl, below_box2 hb1⟩

/-- What New leaves. -/
def RMade (w : World) (w' : World) (m : Im) (p : Nat) (s : St) : Prop :=
  ∃ q r, IsR w' m w'.heap.size p q r (.slice none 0 0) s ∧ w.heap.size ≤ p ∧ w.heap.size ≤ q ∧ w.heap.size ≤ r ∧ Below w.heap.size w w'

/-- The cells of a new machine. -/
theorem rinit_cells (m : Im) (input : ByteArray) (q : Nat) : ∀ i, i < 32 → (#[.string m.code, .string m.data, .int .i64 m.global, .int .i64 m.entry, .int .i64 m.frame, .string input, .pointer (some ⟨q, 0, none⟩), .int .u32 0, .int .u32 0, .int .u32 0, .int .u32 0, .int .u32 0, .int .u32 0, .int .u32 0, .int .u32 0, .int .u32 0, .int .u32 0, .int .u32 0, .int .u32 0, .int .u32 0, .int .u32 0, .int .u32 0, .int .u32 262144, .int .i64 m.entry, .bool false, .int .i64 0, .int .i32 0, .int .i64 0, .string ⟨#[]⟩, .int .i64 0, .slice none 0 0, .int .i64 0] : Array Value)[i]? = some (rcells m q (.slice none 0 0) (initS m input) i) := by
  intro i hi
  match i, hi with
  | 0, _ => rfl
  | 1, _ => rfl
  | 2, _ => rfl
  | 3, _ => rfl
  | 4, _ => rfl
  | 5, _ => rfl
  | 6, _ => rfl
  | 7, _ => rfl
  | 8, _ => rfl
  | 9, _ => rfl
  | 10, _ => rfl
  | 11, _ => rfl
  | 12, _ => rfl
  | 13, _ => rfl
  | 14, _ => rfl
  | 15, _ => rfl
  | 16, _ => rfl
  | 17, _ => rfl
  | 18, _ => rfl
  | 19, _ => rfl
  | 20, _ => rfl
  | 21, _ => rfl
  | 22, _ => rfl
  | 23, _ => rfl
  | 24, _ => rfl
  | 25, _ => rfl
  | 26, _ => rfl
  | 27, _ => rfl
  | 28, _ => rfl
  | 29, _ => rfl
  | 30, _ => rfl
  | 31, _ => rfl
  | n + 32, h => exact absurd h (by omega)

set_option maxHeartbeats 1000000 in
theorem rnew10_yes (m : Im) (input : ByteArray) (h : m.may = true) (hi : input.size ≤ 1048576) (w : World) :
    Calls Try.prog 10 #[m.val, .string input] w fun e w' => ∃ p, e = .returned (.tuple #[.pointer (some ⟨p, 0, none⟩), .int .i64 0]) ∧ RMade w w' m p (initS m input) := by
  have hi' : (input.size : Int) ≤ 1048576 := by omega
  obtain ⟨h1, h2, h3, h4, h5, h6, h7, h8⟩ := Im.may_true h
  have hd : m.data.size ≤ 65536 := by omega
  have hnew := fun W => new19_yes 262144 (by omega) (by omega) W
  clear h1 h2 h3 h4 h5 h6 h7 h8
  go_enter Try.func10, Try.ntmps10
  go_wp2_with (first
    | (go_at_call 27; refine (may27_yes m h _).mono ?_; rintro e w1 ⟨rfl, hb1⟩; obtain ⟨hc1, hf1⟩ := bcell hb1; have hs1 : w.heap.size < w1.heap.size := by (have hq := hb1.size; simp at hq; omega))
    | (go_at_call 28; refine (hnew _).mono ?_; rintro e w2 ⟨rfl, hw2⟩; have hI2 := newW_is w1 50 262144 (by omega) (by omega); rw [← hw2] at hI2; have hb2 := newW_below w1 50 262144; rw [← hw2] at hb2; have hz2 := newW_size w1 50 262144; rw [← hw2] at hz2; clear hw2; obtain ⟨hc2, hf2⟩ := bcell hb2; have hs2 : w.heap.size < w2.heap.size := by omega)
    | (go_at_call 29; refine (rfill_yes (a := 0) hI2 (by omega)).mono ?_; rintro e w3 ⟨rfl, hM3, hO3⟩; have hb3 : Below w1.heap.size w2 w3 := ⟨hO3.os, hO3.tape, hO3.output, hO3.size, fun k hk => hO3.block k (by omega) (by simp; omega)⟩; have hbb := hid (hb2.trans hb3); have hc3 : ∀ b o, b < w1.heap.size → w3.cell? ⟨b, o, none⟩ = w1.cell? ⟨b, o, none⟩ := fun b o hb => hbb.out.cell (p := ⟨b, o, none⟩) hb; have hs3 : w.heap.size < w3.heap.size := Nat.lt_of_lt_of_le hs2 hO3.size))
  go_ret2
  refine ⟨_, rfl, w1.heap.size + 1, w1.heap.size, ⟨?_, hM3.alloc _, World.ownsRow_nil _ _ _ _, ?_, ?_, ?_, Nat.le_refl _, ?_, ?_⟩, ?_, ?_, ?_, ?_⟩
  · exact World.rowIs_alloc w3 _ 41 _ (rinit_cells m input (w1.heap.size + 1))
  · simp
  · have := hM3.plt
    simp
    omega
  · have := hM3.rlt
    simp
    omega
  · have := hM3.plt
    omega
  · have := hM3.rlt
    omega
  · omega
  · omega
  · omega
  · exact ((below_box2 hb1).trans (hbb.out.mono (by omega))).alloc (by omega) _

section
variable {w : World} {m : Im} {N p q r : Nat} {sl : Value} {s : St}
set_option maxHeartbeats 1000000 in
theorem rend22 (h : IsR w m N p q r sl s) :
    Calls Try.prog 22 #[.pointer (some ⟨p, 0, none⟩)] w fun e w' => e = .returned (endV s) ∧ Below w.heap.size w w' := by
  have hp := h.plt
  have hc24 := h.c24
  have hc25 := h.c25
  have hc26 := h.c26
  have hc27 := h.c27
  have hc28 := h.c28
  have hc29 := h.c29
  have hc30 := h.c30
  have hc31 := h.c31
  by_cases hk : s.kind = 3
  · rw [decide_eq_true hk] at hc24
    rw [if_pos hk] at hc25
    have hcv := conv_own ((h.alloc (.cells #[.int .i64 0, .int .i32 0, .int .i64 0, .string ⟨#[]⟩, .int .i64 0] 38)).alloc (.cells #[.int .i64 3, .int .i32 s.exit, .int .i64 s.trap, .string ⟨#[]⟩, .int .i64 0] 38)).own
    go_enter Try.func22, Try.ntmps22
    go_wp2
    refine bodyPost_ret (v := endV s) (by simp [results, Try.results22, go_sem, endV, hk]) rfl ⟨rfl, ?_⟩
    exact ((Below.refl _ _).alloc (Nat.le_refl _) _).alloc (by simp) _
  · rw [decide_eq_false hk] at hc24
    rw [if_neg hk] at hc25
    have hcv := conv_own ((h.alloc (.cells #[.int .i64 0, .int .i32 0, .int .i64 0, .string ⟨#[]⟩, .int .i64 0] 38)).alloc (.cells #[.int .i64 s.kind, .int .i32 s.exit, .int .i64 s.trap, .string ⟨#[]⟩, .int .i64 0] 38)).own
    go_enter Try.func22, Try.ntmps22
    go_wp2
    refine bodyPost_ret (v := endV s) (by simp [results, Try.results22, go_sem, endV]) rfl ⟨rfl, ?_⟩
    exact ((Below.refl _ _).alloc (Nat.le_refl _) _).alloc (by simp) _
end
end Go.Proofs.Ytimbnlcegcmfiaa
