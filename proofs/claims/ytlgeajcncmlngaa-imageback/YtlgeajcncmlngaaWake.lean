/- Write, whole, by both; the question that each law asks besides; the law of Write. -/
import Derived.Test.YtlgeajcncmlngaaRWrite
namespace Go.Proofs.Ytlgeajcncmlngaa
open Go.RowKit
set_option linter.unusedVariables false

theorem text_no {m : Im} (h : m.may = false) : m.text = ⟨#[]⟩ ∧ m.err = 1 := by
  constructor
  · unfold Im.text; rw [h]; rfl
  · unfold Im.err; rw [h]; rfl
theorem text_long {m : Im} (h : m.may = true) (hf : m.fits = false) : m.text = ⟨#[]⟩ ∧ m.err = 3 := by
  constructor
  · unfold Im.text; rw [h, hf]; rfl
  · unfold Im.err; rw [h, hf]; rfl
theorem text_ok {m : Im} (h : m.may = true) (hf : m.fits = true) : m.text = writeS m ∧ m.err = 0 := by
  constructor
  · unfold Im.text; rw [h, hf]; rfl
  · unfold Im.err; rw [h, hf]; rfl

theorem write6 (m : Im) (w : World) : Calls Try.prog 6 #[m.val] w fun e w' => e = .returned (.tuple #[.string m.text, .int .i64 m.err]) ∧ Below w.heap.size w w' := by
  cases h : m.may
  · rw [(text_no h).1, (text_no h).2]; exact write6_no m h w
  · cases hf : m.fits
    · rw [(text_long h hf).1, (text_long h hf).2]; exact write6_long m h hf w
    · rw [(text_ok h hf).1, (text_ok h hf).2]; exact write6_ok m h hf w
theorem write7 (m : Im) (w : World) : Calls Try.prog 7 #[m.val] w fun e w' => e = .returned (.tuple #[.string m.text, .int .i64 m.err]) ∧ Below w.heap.size w w' := by
  cases h : m.may
  · rw [(text_no h).1, (text_no h).2]; exact write7_no m h w
  · cases hf : m.fits
    · rw [(text_long h hf).1, (text_long h hf).2]; exact write7_long m h hf w
    · rw [(text_ok h hf).1, (text_ok h hf).2]; exact write7_ok m h hf w

theorem wake_text : writeS ⟨⟨#[0, 0, 0, 0]⟩, ⟨#[]⟩, 0, 0, 7⟩ = ⟨#[82, 51, 50, 10, 4, 0, 0, 0, 0, 0, 0, 0, 0, 0, 0, 0, 0, 0, 0, 0, 7, 0, 0, 0, 0, 0, 0, 0, 0, 0, 0, 0]⟩ := by rfl

theorem wake6 (w : World) : Calls Try.prog 6 #[.agg #[.string ⟨#[0, 0, 0, 0]⟩, .string ⟨#[]⟩, .int .i64 0, .int .i64 0, .int .i64 7]] w fun e w' => e = .returned (.tuple #[.string ⟨#[82, 51, 50, 10, 4, 0, 0, 0, 0, 0, 0, 0, 0, 0, 0, 0, 0, 0, 0, 0, 7, 0, 0, 0, 0, 0, 0, 0, 0, 0, 0, 0]⟩, .int .i64 0]) ∧ Below w.heap.size w w' := by
  have h := write6_ok ⟨⟨#[0, 0, 0, 0]⟩, ⟨#[]⟩, 0, 0, 7⟩ (by decide) (by decide) w
  rw [wake_text] at h
  exact h

set_option maxHeartbeats 1000000 in
theorem awake8 (w : World) : Calls Try.prog 8 #[] w fun e w' => e = .returned (.bool true) ∧ Below w.heap.size w w' := by
  have hx : (⟨#[82, 51, 50, 10, 4, 0, 0, 0, 0, 0, 0, 0, 0, 0, 0, 0, 0, 0, 0, 0, 7, 0, 0, 0, 0, 0, 0, 0, 0, 0, 0, 0]⟩ : ByteArray).extract 0 4 = ⟨#[82, 51, 50, 10]⟩ := by decide
  go_enter Try.func8, Try.ntmps8
  go_wp2_with (first
    | (go_at_call 6; refine (wake6 _).mono ?_; rintro e w1 ⟨rfl, hb1⟩))
  go_ret
  exact ⟨rfl, hb1⟩

theorem below_then {w w1 w2 : World} (h1 : Below w.heap.size w w1) (h2 : Below w1.heap.size w1 w2) : Below w.heap.size w w2 := h1.trans (h2.mono h1.size)

set_option maxHeartbeats 1000000 in
theorem writes3 (m : Im) (w : World) : Calls Try.prog 3 #[m.val] w fun e w' => e = .returned (.bool true) ∧ Below w.heap.size w w' := by
  go_enter Try.func3, Try.ntmps3
  go_wp2_with (first
    | (go_at_call 6; refine (write6 m _).mono ?_; rintro e w1 ⟨rfl, hb1⟩; obtain ⟨hc1, hf1⟩ := bcell hb1)
    | (go_at_call 7; refine (write7 m _).mono ?_; rintro e w2 ⟨rfl, hb2⟩)
    | (go_at_call 8; refine (awake8 _).mono ?_; rintro e w3 ⟨rfl, hb3⟩))
  go_ret
  exact ⟨rfl, below_then (below_then (below_box2 hb1) hb2) hb3⟩
end Go.Proofs.Ytlgeajcncmlngaa
