/- The image of a text, by the document. -/
import Derived.Test.YtlgeajcncmlngaaRead
import Derived.Test.YtlgeajcncmlngaaFree
namespace Go.Proofs.Ytlgeajcncmlngaa
open Go.RowKit
set_option linter.unusedVariables false

theorem read10_long (s : ByteArray) (h : ¬ s.size ≤ 1048576) (w : World) :
    Calls Try.prog 10 #[.string s] w fun e w' => e = .returned (.tuple #[zeroV, .int .i64 3]) ∧ Below w.heap.size w w' := by
  have h' : (1048576 : Int) < s.size := by omega
  go_enter Try.func10, Try.ntmps10
  go_wp2
  exact bodyPost_ret (v := .tuple #[zeroV, .int .i64 3]) (by simp [results, Try.results10, go_sem]) rfl ⟨rfl, below_box _ _⟩

theorem read10_short (s : ByteArray) (h : s.size < 28) (w : World) :
    Calls Try.prog 10 #[.string s] w fun e w' => e = .returned (.tuple #[zeroV, .int .i64 5]) ∧ Below w.heap.size w w' := by
  have h' : (s.size : Int) < 28 := by omega
  go_enter Try.func10, Try.ntmps10
  go_wp2
  exact bodyPost_ret (v := .tuple #[zeroV, .int .i64 5]) (by simp [results, Try.results10, go_sem]) rfl ⟨rfl, below_box _ _⟩

theorem nAt4 (s : ByteArray) (h : 28 ≤ s.size) (w : World) : Calls Try.prog 21 #[.string s, .int .i64 4] w fun e w' => e = .returned (.int .i64 (numAt s 4 : Nat)) ∧ w' = w := number21 s 4 (.inl rfl) h w
theorem nAt12 (s : ByteArray) (h : 28 ≤ s.size) (w : World) : Calls Try.prog 21 #[.string s, .int .i64 12] w fun e w' => e = .returned (.int .i64 (numAt s 12 : Nat)) ∧ w' = w := number21 s 12 (.inr (.inr (.inl rfl))) h w
theorem nAt16 (s : ByteArray) (h : 28 ≤ s.size) (w : World) : Calls Try.prog 21 #[.string s, .int .i64 16] w fun e w' => e = .returned (.int .i64 (numAt s 16 : Nat)) ∧ w' = w := number21 s 16 (.inr (.inr (.inr (.inl rfl)))) h w
theorem nAt20 (s : ByteArray) (h : 28 ≤ s.size) (w : World) : Calls Try.prog 21 #[.string s, .int .i64 20] w fun e w' => e = .returned (.int .i64 (numAt s 20 : Nat)) ∧ w' = w := number21 s 20 (.inr (.inr (.inr (.inr (.inl rfl))))) h w

set_option maxHeartbeats 1000000 in
theorem read10_beyond (s : ByteArray) (h : 28 ≤ s.size) (hs : s.size ≤ 1048576) (hn : ¬ 28 + numAt s 4 ≤ s.size) (w : World) :
    Calls Try.prog 10 #[.string s] w fun e w' => e = .returned (.tuple #[zeroV, .int .i64 5]) ∧ Below w.heap.size w w' := by
  have h1 : (28 : Int) ≤ s.size := by omega
  have h2 : (s.size : Int) ≤ 1048576 := by omega
  have h3 : (s.size : Int) - 28 < (numAt s 4 : Nat) := by omega
  have h4 := nAt4 s h
  go_enter Try.func10, Try.ntmps10
  go_wp2_with (go_at_call 21; refine (h4 _).mono ?_; rintro e w1 ⟨rfl, rfl⟩)
  exact bodyPost_ret (v := .tuple #[zeroV, .int .i64 5]) (by simp [results, Try.results10, go_sem]) rfl ⟨rfl, below_box _ _⟩

theorem below_drew2 {w w1 : World} {o : Obj} (h : Below ((w.alloc o).drew).heap.size ((w.alloc o).drew) w1) : Below w.heap.size w w1 := below_box2 (o := o) ⟨h.os, h.tape, h.output, h.size, h.block⟩

/-- The image that is read, as a value. -/
abbrev readX (s : ByteArray) : Value := .agg #[.string (s.extract 28 (28 + numAt s 4)), .string (s.extract (28 + numAt s 4) s.size), .int .i64 (numAt s 12 : Nat), .int .i64 (numAt s 16 : Nat), .int .i64 (numAt s 20 : Nat)]

end Go.Proofs.Ytlgeajcncmlngaa
