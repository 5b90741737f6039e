/- The images that may be; a new machine. -/
import Derived.Test.YtimbnlcegcmfiaaStep
import Derived.Test.YtimbnlcegcmfiaaMNew
namespace Go.Proofs.Ytimbnlcegcmfiaa
open Go.RowKit
set_option linter.unusedVariables false

/-- An image. -/
structure Im where
  code : ByteArray
  data : ByteArray
  global : Int
  entry : Int
  frame : Int

abbrev Im.val (m : Im) : Value := .agg #[.string m.code, .string m.data, .int .i64 m.global, .int .i64 m.entry, .int .i64 m.frame]
/-- May it be? -/
def Im.may (m : Im) : Bool :=
  decide (m.code.size ≤ 1048576) && decide (m.code.size % 4 = 0) && placeB m.code m.entry && decide (0 ≤ m.global) && decide (m.global ≤ 65536) && decide ((m.data.size : Int) ≤ m.global) && decide (0 ≤ m.frame) && decide (m.frame ≤ 65536)

theorem Im.may_true {m : Im} (h : m.may = true) : m.code.size ≤ 1048576 ∧ m.code.size % 4 = 0 ∧ placeB m.code m.entry = true ∧ 0 ≤ m.global ∧ m.global ≤ 65536 ∧ (m.data.size : Int) ≤ m.global ∧ 0 ≤ m.frame ∧ m.frame ≤ 65536 := by
  unfold Im.may at h
  simp only [Bool.and_eq_true, decide_eq_true_eq] at h
  obtain ⟨⟨⟨⟨⟨⟨⟨h1, h2⟩, h3⟩, h4⟩, h5⟩, h6⟩, h7⟩, h8⟩ := h
  exact ⟨h1, h2, h3, h4, h5, h6, h7, h8⟩

set_option maxHeartbeats 1000000 in
theorem check11_yes (m : Im) (h : m.may = true) (w : World) :
    Calls Try.prog 11 #[m.val] w fun e w' => e = .returned (.int .i64 0) ∧ Below w.heap.size w w' := by
  obtain ⟨h1, h2, h3, h4, h5, h6, h7, h8⟩ := Im.may_true h
  have h2' : (m.code.size : Int) % 4 = 0 := by omega
  have h1' : (m.code.size : Int) ≤ 1048576 := by omega
  clear h
  go_enter Try.func11, Try.ntmps11
  go_wp2_with (first | (go_at_call 30; refine (isPlace30 _ _ _).mono ?_; rintro e w' ⟨rfl, rfl⟩))
  go_ret
  exact ⟨rfl, below_box _ _⟩

theorem Im.may_false {m : Im} (h : m.may = false) : ¬ m.code.size ≤ 1048576 ∨ ¬ m.code.size % 4 = 0 ∨ placeB m.code m.entry = false ∨ ¬ 0 ≤ m.global ∨ ¬ m.global ≤ 65536 ∨ ¬ (m.data.size : Int) ≤ m.global ∨ ¬ 0 ≤ m.frame ∨ ¬ m.frame ≤ 65536 := by
  unfold Im.may at h
  simp only [Bool.and_eq_false_iff, decide_eq_false_iff_not] at h
  cases hp : placeB m.code m.entry
  · exact .inr (.inr (.inl rfl))
  · rw [hp] at h
    simp at h
    omega

set_option maxHeartbeats 2000000 in
theorem check11_no (m : Im) (h : m.may = false) (w : World) :
    Calls Try.prog 11 #[m.val] w fun e w' => e = .returned (.int .i64 1) ∧ Below w.heap.size w w' := by
  have h' := Im.may_false h
  clear h
  cases hp : placeB m.code m.entry
  · clear h'
    go_enter Try.func11, Try.ntmps11
    go_wp2_with (first | (go_at_call 30; refine (isPlace30 _ _ _).mono ?_; rintro e w' ⟨rfl, rfl⟩))
    all_goals go_ret
    all_goals exact ⟨rfl, below_box _ _⟩
  · have h2 : ¬ m.code.size ≤ 1048576 ∨ ¬ m.code.size % 4 = 0 ∨ ¬ 0 ≤ m.global ∨ ¬ m.global ≤ 65536 ∨ ¬ (m.data.size : Int) ≤ m.global ∨ ¬ 0 ≤ m.frame ∨ ¬ m.frame ≤ 65536 := by
      rw [hp] at h'
      simpa using h'
    clear h'
    go_enter Try.func11, Try.ntmps11
    go_wp2_with (first | (go_at_call 30; refine (isPlace30 _ _ _).mono ?_; rintro e w' ⟨rfl, rfl⟩))
    all_goals go_ret
    all_goals first
      | exact ⟨rfl, below_box _ _⟩
      | (exfalso; simp_all; omega)

/-- What filled makes. -/
theorem filled26 (d : ByteArray) (hd : d.size ≤ 65536) (w : World) :
    Calls Try.prog 26 #[.string d] w fun e w' => e = .returned (.tuple #[.pointer (some ⟨w.heap.size + 1, 0, none⟩), .int .i64 0]) ∧ IsMem w' 92 (w.heap.size + 1) w.heap.size 262144 (lay (fun _ => 0) 0 d.data.toList) ∧ Below w.heap.size w w' := by
  have hN := new18_yes 262144 (by omega) (by omega) w
  have hI := newW_is w 92 262144 (by omega) (by omega)
  have hf := fill_yes (a := 0) (s := d) hI (by omega)
  go_enter Try.func26, Try.ntmps26
  go_wp2_with (first
    | (go_at_call 44; refine hN.mono ?_; rintro e w1 ⟨rfl, rfl⟩)
    | (go_at_call 45; refine hf.mono ?_; rintro e w2 ⟨rfl, hM2, hO2⟩))
  go_ret2
  refine ⟨rfl, hM2, (newW_below w 92 262144).trans ?_⟩
  exact ⟨hO2.os, hO2.tape, hO2.output, hO2.size, fun k hk => hO2.block k (by rw [newW_size]; omega) (by simp; omega)⟩

/-- A machine's beginning. -/
def initS (m : Im) (input : ByteArray) : St :=
  { code := m.code, input := input, pc := m.entry, reg := fun i => if i = 15 then 262144 else 0, mem := lay (fun _ => 0) 0 m.data.data.toList, out := [], kind := 3, exit := 0, trap := 0, used := 0 }

theorem initS_ok {m : Im} {input : ByteArray} (h : m.may = true) (hi : input.size ≤ 1048576) : Ok (initS m input) := by
  obtain ⟨h1, h2, h3, h4, h5, h6, h7, h8⟩ := Im.may_true h
  obtain ⟨b0, b1, _⟩ := place_bounds h3
  refine ⟨fun i _ => ?_, rfl, Nat.zero_le _, h1, hi, h2, fun _ => ⟨rfl, rfl⟩, ?_, ?_⟩
  · show 0 ≤ (if i = 15 then (262144 : Int) else 0) ∧ (if i = 15 then (262144 : Int) else 0) < 4294967296
    split <;> omega
  · show -4294967296 ≤ m.entry
    omega
  · show m.entry ≤ 4294967296
    omega

theorem new9_arg (m : Im) (input : ByteArray) (h : m.may = false) (w : World) :
    Calls Try.prog 9 #[m.val, .string input] w fun e w' => e = .returned (.tuple #[.pointer none, .int .i64 1]) ∧ Below w.heap.size w w' := by
  go_enter Try.func9, Try.ntmps9
  go_wp2_with (first
    | (go_at_call 11; refine (check11_no m h _).mono ?_; rintro e w1 ⟨rfl, hb1⟩))
  go_ret2
  exact ⟨rfl, below_box2 hb1⟩

theorem new9_long (m : Im) (input : ByteArray) (h : m.may = true) (hi : ¬ input.size ≤ 1048576) (w : World) :
    Calls Try.prog 9 #[m.val, .string input] w fun e w' => e = .returned (.tuple #[.pointer none, .int .i64 3]) ∧ Below w.heap.size w w' := by
  have hi' : (1048576 : Int) < input.size := by omega
  go_enter Try.func9, Try.ntmps9
  go_wp2_with (first
    | (go_at_call 11; refine (check11_yes m h _).mono ?_; rintro e w1 ⟨rfl, hb1⟩))
  go_ret2
  exact ⟨rfl, below_box2 hb1⟩

/-- What New leaves. -/
def Made (w : World) (w' : World) (p : Nat) (s : St) : Prop :=
  ∃ q r, IsM w' w'.heap.size p q r (.slice none 0 0) s ∧ w.heap.size ≤ p ∧ w.heap.size ≤ q ∧ w.heap.size ≤ r ∧ Below w.heap.size w w'

/-- The cells of a new machine. -/
theorem init_cells (m : Im) (input : ByteArray) (q : Nat) : ∀ i, i < 26 → (#[.string m.code, .string input, .int .i64 m.entry, .int .u32 0, .int .u32 0, .int .u32 0, .int .u32 0, .int .u32 0, .int .u32 0, .int .u32 0, .int .u32 0, .int .u32 0, .int .u32 0, .int .u32 0, .int .u32 0, .int .u32 0, .int .u32 0, .int .u32 0, .int .u32 262144, .pointer (some ⟨q, 0, none⟩), .slice none 0 0, .int .i64 3, .int .i32 0, .int .i64 0, .string ⟨#[]⟩, .int .i64 0] : Array Value)[i]? = some (mcells q (.slice none 0 0) (initS m input) i) := by
  intro i hi
  match i, hi with
  | 0, _ => rfl
  | 1, _ => rfl
  | 2, _ => rfl
  | 3, _ => rfl
  | 4, _ => rfl
  | 5, _ => rfl
  | 6, _ => rfl
  | 7, _ => rfl
  | 8, _ => rfl
  | 9, _ => rfl
  | 10, _ => rfl
  | 11, _ => rfl
  | 12, _ => rfl
  | 13, _ => rfl
  | 14, _ => rfl
  | 15, _ => rfl
  | 16, _ => rfl
  | 17, _ => rfl
  | 18, _ => rfl
  | 19, _ => rfl
  | 20, _ => rfl
  | 21, _ => rfl
  | 22, _ => rfl
  | 23, _ => rfl
  | 24, _ => rfl
  | 25, _ => rfl
  | n + 26, h => exact absurd h (by omega)

set_option maxHeartbeats 1000000 in
theorem new9_yes (m : Im) (input : ByteArray) (h : m.may = true) (hi : input.size ≤ 1048576) (w : World) :
    Calls Try.prog 9 #[m.val, .string input] w fun e w' => ∃ p, e = .returned (.tuple #[.pointer (some ⟨p, 0, none⟩), .int .i64 0]) ∧ Made w w' p (initS m input) := by
  have hi' : (input.size : Int) ≤ 1048576 := by omega
  obtain ⟨h1, h2, h3, h4, h5, h6, h7, h8⟩ := Im.may_true h
  have hd : m.data.size ≤ 65536 := by omega
  clear h1 h2 h3 h4 h5 h6 h7 h8
  go_enter Try.func9, Try.ntmps9
  go_wp2_with (first
    | (go_at_call 11; refine (check11_yes m h _).mono ?_; rintro e w1 ⟨rfl, hb1⟩; obtain ⟨hc1, hf1⟩ := bcell hb1; have hs1 : w.heap.size < w1.heap.size := by (have hq := hb1.size; simp at hq; omega))
    | (go_at_call 26; refine (filled26 _ hd _).mono ?_; rintro e w2 ⟨rfl, hM2, hb2⟩; obtain ⟨hc2, hf2⟩ := bcell hb2; have hs2 : w1.heap.size < w2.heap.size := by (have hq := hM2.rlt; omega)))
  go_ret2
  refine ⟨_, rfl, w1.heap.size + 1, w1.heap.size, ⟨?_, hM2.alloc _, World.ownsRow_nil _ _ _ _, ?_, ?_, ?_, Nat.le_refl _, ?_, ?_⟩, ?_, ?_, ?_, ?_⟩
  · exact World.rowIs_alloc w2 _ 64 _ (init_cells m input (w1.heap.size + 1))
  · simp
  · have := hM2.plt
    simp
    omega
  · have := hM2.rlt
    simp
    omega
  · have := hM2.plt
    omega
  · omega
  · omega
  · omega
  · omega
  · exact ((below_box2 hb1).trans (hb2.mono (by omega))).alloc (by omega) _
end Go.Proofs.Ytimbnlcegcmfiaa
