/- Small contracts: which images may be, sums, words. -/
import Derived.Test.YtlgeajcncmlngaaRows
import Derived.Test.YtlgeajcncmlngaaPure
import Derived.Test.YtlgeajcncmlngaaQuiet
import Derived.WalkKit
import Derived.Deep.QuietTactic
import Derived.BigQuiet
import Derived.Lib.UnsafeStr
import Derived.Lib.BufferWrite
import Derived.Laws.MakeOwn
import Derived.Laws.DeepStrings4
namespace Go.Proofs.Ytlgeajcncmlngaa
open Go.RowKit
set_option linter.unusedVariables false

abbrev Im.val (m : Im) : Value := .agg #[.string m.code, .string m.data, .int .i64 m.global, .int .i64 m.entry, .int .i64 m.frame]

theorem mixed : Try.prog.follows .mixedOrders = true := by kernel_rfl
theorem hid {x : Prop} (h : x) : Hid x := h
theorem ret_b {a b : Bool} (h : a = b) : Ending.returned (.bool a) = .returned (.bool b) := by rw [h]
theorem ret_int {k : IntKind} {a b : Int} (h : a = b) : Ending.returned (.int k a) = .returned (.int k b) := by rw [h]
theorem ret_str {a b : ByteArray} (h : a = b) : Ending.returned (.string a) = .returned (.string b) := by rw [h]
theorem bcell {W w1 : World} (hb : Below W.heap.size W w1) : (∀ b o, b < W.heap.size → w1.cell? ⟨b, o, none⟩ = W.cell? ⟨b, o, none⟩) ∧ (∀ b o, b < W.heap.size → w1.frozen? ⟨b, o, none⟩ = W.frozen? ⟨b, o, none⟩) :=
  ⟨fun b o h => hb.cell (p := ⟨b, o, none⟩) h, fun b o h => hb.frozen (p := ⟨b, o, none⟩) h⟩
theorem below_box (w : World) (o : Obj) : Below w.heap.size w (w.alloc o) := (Below.refl _ _).alloc (Nat.le_refl _) _
theorem below_box2 {w w1 : World} {o : Obj} (h : Below (w.alloc o).heap.size (w.alloc o) w1) : Below w.heap.size w w1 := (below_box w o).trans (h.mono (by simp))
theorem below_drewN (w : World) (n : Nat) : Below w.heap.size w (w.drewN n) := ⟨rfl, rfl, rfl, Nat.le_refl _, fun _ _ => rfl⟩

theorem isPlace22 (k : Int) (c : ByteArray) (w : World) :
    Calls Try.prog 22 #[.int .i64 k, .string c] w fun e w' => e = .returned (.bool (placeB c k)) ∧ w' = w := by
  by_cases h1 : 0 ≤ k
  · by_cases h2 : k < c.size
    · go_enter Try.func22, Try.ntmps22
      go_wp2
      go_ret
      exact ⟨ret_b (by unfold placeB; simp [h1, h2]; by_cases h3 : k % 4 = 0 <;> simp [h3]), rfl⟩
    · go_enter Try.func22, Try.ntmps22
      go_wp2
      go_ret
      exact ⟨ret_b (by unfold placeB; rw [show decide (k < (c.size : Int)) = false from decide_eq_false (by omega)]; simp), rfl⟩
  · go_enter Try.func22, Try.ntmps22
    go_wp2
    go_ret
    exact ⟨ret_b (by unfold placeB; rw [show decide (0 ≤ k) = false from decide_eq_false (by omega)]; simp), rfl⟩

set_option maxHeartbeats 1000000 in
theorem check11_yes (m : Im) (h : m.may = true) (w : World) :
    Calls Try.prog 11 #[m.val] w fun e w' => e = .returned (.int .i64 0) ∧ Below w.heap.size w w' := by
  obtain ⟨h1, h2, h3, h4, h5, h6, h7, h8⟩ := Im.may_true h
  have h2' : (m.code.size : Int) % 4 = 0 := by omega
  have h1' : (m.code.size : Int) ≤ 1048576 := by omega
  clear h
  go_enter Try.func11, Try.ntmps11
  go_wp2_with (first | (go_at_call 22; refine (isPlace22 _ _ _).mono ?_; rintro e w' ⟨rfl, rfl⟩))
  go_ret
  exact ⟨rfl, below_box _ _⟩

set_option maxHeartbeats 2000000 in
theorem check11_no (m : Im) (h : m.may = false) (w : World) :
    Calls Try.prog 11 #[m.val] w fun e w' => e = .returned (.int .i64 1) ∧ Below w.heap.size w w' := by
  have h' := Im.may_false h
  clear h
  cases hp : placeB m.code m.entry
  · clear h'
    go_enter Try.func11, Try.ntmps11
    go_wp2_with (first | (go_at_call 22; refine (isPlace22 _ _ _).mono ?_; rintro e w' ⟨rfl, rfl⟩))
    all_goals go_ret
    all_goals exact ⟨rfl, below_box _ _⟩
  · have h2 : ¬ m.code.size ≤ 1048576 ∨ ¬ m.code.size % 4 = 0 ∨ ¬ 0 ≤ m.global ∨ ¬ m.global ≤ 65536 ∨ ¬ (m.data.size : Int) ≤ m.global ∨ ¬ 0 ≤ m.frame ∨ ¬ m.frame ≤ 65536 := by
      rw [hp] at h'
      simpa using h'
    clear h'
    go_enter Try.func11, Try.ntmps11
    go_wp2_with (first | (go_at_call 22; refine (isPlace22 _ _ _).mono ?_; rintro e w' ⟨rfl, rfl⟩))
    all_goals go_ret
    all_goals first
      | exact ⟨rfl, below_box _ _⟩
      | (exfalso; simp_all; omega)

set_option maxHeartbeats 2000000 in
theorem may14_yes (m : Im) (h : m.may = true) (w : World) :
    Calls Try.prog 14 #[m.val] w fun e w' => e = .returned (.bool true) ∧ Below w.heap.size w w' := by
  obtain ⟨h1, h2, h3, h4, h5, h6, h7, h8⟩ := Im.may_true h
  obtain ⟨b0, b1, b2⟩ := place_bounds h3
  have h2' : (m.code.size : Int) % 4 = 0 := by omega
  have h1' : (m.code.size : Int) ≤ 1048576 := by omega
  have h1'' : (4 : Int) ≤ m.code.size := by omega
  clear h h3
  go_enter Try.func14, Try.ntmps14
  go_wp2
  go_ret
  exact ⟨rfl, below_box _ _⟩

set_option maxHeartbeats 4000000 in
theorem may14_no (m : Im) (h : m.may = false) (w : World) :
    Calls Try.prog 14 #[m.val] w fun e w' => e = .returned (.bool false) ∧ Below w.heap.size w w' := by
  have h' := Im.may_false2 h
  clear h
  go_enter Try.func14, Try.ntmps14
  go_wp2
  all_goals go_ret
  all_goals first
    | exact ⟨rfl, below_box _ _⟩
    | exact ⟨ret_b (decide_eq_false (by omega)), below_box _ _⟩
    | (exfalso; simp_all; omega)
end Go.Proofs.Ytlgeajcncmlngaa
