/- An image's bytes, by the document. -/
import Derived.Test.YtlgeajcncmlngaaWrite
namespace Go.Proofs.Ytlgeajcncmlngaa
open Go.RowKit
set_option linter.unusedVariables false

theorem write7_no (m : Im) (h : m.may = false) (w : World) :
    Calls Try.prog 7 #[m.val] w fun e w' => e = .returned (.tuple #[.string ⟨#[]⟩, .int .i64 1]) ∧ Below w.heap.size w w' := by
  go_enter Try.func7, Try.ntmps7
  go_wp2_with (first
    | (go_at_call 14; refine (may14_no m h _).mono ?_; rintro e w1 ⟨rfl, hb1⟩))
  go_ret2
  exact ⟨rfl, below_box2 hb1⟩

set_option maxHeartbeats 1000000 in
theorem write7_long (m : Im) (h : m.may = true) (hf : m.fits = false) (w : World) :
    Calls Try.prog 7 #[m.val] w fun e w' => e = .returned (.tuple #[.string ⟨#[]⟩, .int .i64 3]) ∧ Below w.heap.size w w' := by
  have hf' := fits_false hf
  obtain ⟨h1, _, _, _, h5, h6, _, _⟩ := Im.may_true h
  have g1 : (m.code.size : Int) ≤ 1048576 := by omega
  have g2 : (m.data.size : Int) ≤ 65536 := by omega
  have g3 : (1048576 : Int) < 28 + m.code.size + m.data.size := by omega
  go_enter Try.func7, Try.ntmps7
  go_wp2_with (first
    | (go_at_call 14; refine (may14_yes m h _).mono ?_; rintro e w1 ⟨rfl, hb1⟩; obtain ⟨hc1, hf1⟩ := bcell hb1))
  go_ret2
  exact ⟨rfl, below_box2 hb1⟩

theorem word15i {x : Int} (h0 : 0 ≤ x) (h1 : x < 4294967296) (w : World) :
    Calls Try.prog 15 #[.int .u32 x] w fun e w' => e = .returned (.string (strL (wdL x.toNat))) ∧ Below w.heap.size w w' := by
  have e : x = (x.toNat : Int) := by omega
  have h := word15 x.toNat (by omega) w
  rw [← e] at h
  exact h

theorem wrap_u32 {x : Int} (h0 : 0 ≤ x) (h1 : x < 4294967296) : IntKind.u32.wrap x = x := by
  simp [IntKind.wrap, IntKind.bits, IntKind.signed]
  omega
theorem wrap_sum (a b : Nat) : IntKind.u32.wrap ((a : Int) + b) = (((a + b) % 4294967296 : Nat) : Int) := by
  simp [IntKind.wrap, IntKind.bits, IntKind.signed]
theorem strL_append (a b : List UInt8) : strL a ++ strL b = strL (a ++ b) := by
  apply ext_list
  simp [strL, ByteArray.data_append]

theorem write_parts (m : Im) :
    ({ data := #[82, 51, 50, 10] } ++ strL (wdL m.code.size) ++ strL (wdL m.data.size) ++ strL (wdL m.global.toNat) ++ strL (wdL m.entry.toNat) ++ strL (wdL m.frame.toNat) ++ strL (wdL ((sumL m.code.data.toList + sumL m.data.data.toList) % 4294967296)) ++ m.code ++ m.data : ByteArray) = writeS m := by
  have e : (⟨#[82, 51, 50, 10]⟩ : ByteArray) = strL markL := rfl
  rw [e, strL_append, strL_append, strL_append, strL_append, strL_append, strL_append]
  rw [← strL_data m.code, strL_append, ← strL_data m.data, strL_append, strL_data, strL_data]
  rfl
theorem ret_two {a b : ByteArray} {x : Value} (h : a = b) : Ending.returned (.tuple #[.string a, x]) = .returned (.tuple #[.string b, x]) := by rw [h]

set_option maxRecDepth 20000 in
set_option maxHeartbeats 4000000 in
theorem write7_ok (m : Im) (h : m.may = true) (hf : m.fits = true) (w : World) :
    Calls Try.prog 7 #[m.val] w fun e w' => e = .returned (.tuple #[.string (writeS m), .int .i64 0]) ∧ Below w.heap.size w w' := by
  have hf' := fits_true hf
  obtain ⟨h1, _, h3, h4, h5, h6, h7, h8⟩ := Im.may_true h
  obtain ⟨b0, b1, _⟩ := place_bounds h3
  have g1 : (m.code.size : Int) ≤ 1048576 := by omega
  have g2 : (m.data.size : Int) ≤ 65536 := by omega
  have g3 : (28 : Int) + m.code.size + m.data.size ≤ 1048576 := by omega
  have g4 : m.entry ≤ 1048576 := by omega
  have s1 : m.code.size ≤ 1048576 := by omega
  have s2 : m.data.size ≤ 1048576 := by omega
  clear hf'
  have u1 := sumL_lt m.code.data.toList
  have u2 := sumL_lt m.data.data.toList
  have e1 := wrap_u32 (x := (m.code.size : Int)) (by omega) (by omega)
  have e2 := wrap_u32 (x := (m.data.size : Int)) (by omega) (by omega)
  have e3 := wrap_u32 (x := m.global) (by omega) (by omega)
  have e4 := wrap_u32 (x := m.entry) (by omega) (by omega)
  have e5 := wrap_u32 (x := m.frame) (by omega) (by omega)
  have e6 := wrap_sum (sumL m.code.data.toList) (sumL m.data.data.toList)
  have z : ∀ n, (strL (wdL n)).size = 4 := fun n => strL_size _
  haveI := after_some
  go_enter Try.func7, Try.ntmps7
  go_wp2_with (first
    | (go_at_call 14; refine (may14_yes m h _).mono ?_; rintro e w1 ⟨rfl, hb1⟩; obtain ⟨hc1, hf1⟩ := bcell hb1))
  have hlt : w.heap.size < w1.heap.size := by have := hb1.size; simp at this; omega
  have k : ∀ (i : Nat) (u : Value), (#[Value.string m.code, Value.string m.data, Value.int .i64 m.global, Value.int .i64 m.entry, Value.int .i64 m.frame] : Array Value)[i]? = some u → ∀ t : After w1, t.1.cell? ⟨w.heap.size, i, none⟩ = some u := fun i u hu t => by
    rw [t.2.cell (p := ⟨w.heap.size, i, none⟩) hlt, hc1 _ _ (by simp)]
    simpa [go_sem] using hu
  have k0 := k 0 _ rfl
  have k1 := k 1 _ rfl
  have k2 := k 2 _ rfl
  have k3 := k 3 _ rfl
  have k4 := k 4 _ rfl
  clear k
  refine region_after 36 mixed (by kernel_rfl) ?_
  simp only [List.take_succ_cons, List.take_zero, List.drop_succ_cons, List.drop_zero]
  repeat quiet_step (first
    | exact Calls.after _ ((sum16 _ _ (by assumption)).mono fun _ _ hx => ⟨hx.1, hx.2 ▸ Below.refl _ _⟩)
    | exact Calls.after _ (word15i (by omega) (by omega) _))
  refine wpQuiet_nil ?_
  intro w2 hb2
  have q0 := k0 ⟨w2, hb2⟩
  have q1 := k1 ⟨w2, hb2⟩
  simp at q0 q1
  have hB := hid ((below_box2 hb1).trans (hb2.mono (Nat.le_of_lt hlt)))
  clear k0 k1 k2 k3 k4 hb1 hb2 hc1 hf1
  go_wp2
  go_ret2
  exact ⟨ret_two (write_parts m), hB.out⟩
end Go.Proofs.Ytlgeajcncmlngaa
