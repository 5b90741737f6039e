/- Read, whole, by both; the law of Read. -/
import Derived.Test.YtlgeajcncmlngaaReadSum
import Derived.Test.YtlgeajcncmlngaaReadMay
import Derived.Test.YtlgeajcncmlngaaReadOk
import Derived.Test.YtlgeajcncmlngaaRReadErr
import Derived.Test.YtlgeajcncmlngaaRReadOther
import Derived.Test.YtlgeajcncmlngaaRReadOk
namespace Go.Proofs.Ytlgeajcncmlngaa
open Go.RowKit
set_option linter.unusedVariables false

/-- What a call of Read tells. -/
def Tells (f : FuncId) (s : ByteArray) (v : Value) (x : Int) : Prop := ∀ w, Calls Try.prog f #[.string s] w fun e w' => e = .returned (.tuple #[v, .int .i64 x]) ∧ Below w.heap.size w w'

theorem read9_yes {s : ByteArray} (hs : s.size ≤ 1048576) (h : readB s = true) : Tells 9 s (readV s) 0 := by
  obtain ⟨h1, h2, h3, h4⟩ := readB_true h
  obtain ⟨e1, e2, e3⟩ := (write_iff h2 hs).1 h4
  exact fun w => read9_ok s h1 hs e1 e2 e3 h3 w
theorem read9_no {s : ByteArray} (hs : s.size ≤ 1048576) (h : readB s = false) : Tells 9 s zeroV 5 := by
  intro w
  by_cases h1 : 28 ≤ s.size
  · by_cases hm : s.data.toList.take 4 = markL
    · by_cases hn : numAt s 4 + numAt s 8 = s.size - 28
      · have h2 : 28 + numAt s 4 ≤ s.size := by omega
        by_cases hq : (imOf s).sum = numAt s 24
        · cases hy : (imOf s).may
          · exact read9_may s h1 hs hm hn hq hy w
          · exfalso
            have hw := (write_iff h2 hs).2 ⟨hm, hn, hq⟩
            unfold readB at h
            rw [hy, decide_eq_true h1, decide_eq_true h2, decide_eq_true hw] at h
            cases h
        · exact read9_sum s h1 hs hm hn hq w
      · exact read9_split s h1 hs hm hn w
    · exact read9_mark s h1 hs hm w
  · exact read9_short s (by omega) w
theorem write7_im (s : ByteArray) (w : World) : Calls Try.prog 7 #[readX s] w fun e w' => e = .returned (.tuple #[.string (imOf s).text, .int .i64 (imOf s).err]) ∧ Below w.heap.size w w' := write7 (imOf s) w
theorem fits_im {s : ByteArray} (h : 28 + numAt s 4 ≤ s.size) (hs : s.size ≤ 1048576) : (imOf s).fits = true := by
  unfold Im.fits
  rw [code_size h, data_size h]
  exact decide_eq_true (by omega)
theorem read10_yes {s : ByteArray} (hs : s.size ≤ 1048576) (h : readB s = true) : Tells 10 s (readV s) 0 := by
  obtain ⟨h1, h2, h3, h4⟩ := readB_true h
  have h7 := write7_im s
  obtain ⟨e1, e2⟩ := text_ok h3 (fits_im h2 hs)
  rw [e1, e2, h4] at h7
  exact fun w => read10_ok s h1 hs h2 h7 w
theorem read10_no {s : ByteArray} (hs : s.size ≤ 1048576) (h : readB s = false) : Tells 10 s zeroV 5 := by
  intro w
  by_cases h1 : 28 ≤ s.size
  · by_cases h2 : 28 + numAt s 4 ≤ s.size
    · have h7 := write7_im s
      cases hy : (imOf s).may
      · obtain ⟨e1, e2⟩ := text_no hy
        rw [e1, e2] at h7
        exact read10_err s h1 hs h2 _ 1 (by decide) h7 w
      · obtain ⟨e1, e2⟩ := text_ok hy (fits_im h2 hs)
        rw [e1, e2] at h7
        refine read10_other s h1 hs h2 _ (fun hw => ?_) h7 w
        unfold readB at h
        rw [hy, decide_eq_true h1, decide_eq_true h2, decide_eq_true hw] at h
        cases h
    · exact read10_beyond s h1 hs h2 w
  · exact read10_short s (by omega) w

theorem boxed5 {w w1 : World} {c0 c1 c2 c3 c4 : Value} (hb : Below (w.alloc (.cells #[c0, c1, c2, c3, c4] 23)).heap.size (w.alloc (.cells #[c0, c1, c2, c3, c4] 23)) w1) :
    (w1.cell? ⟨w.heap.size, 0, none⟩ = some c0 ∧ w1.cell? ⟨w.heap.size, 1, none⟩ = some c1 ∧ w1.cell? ⟨w.heap.size, 2, none⟩ = some c2 ∧ w1.cell? ⟨w.heap.size, 3, none⟩ = some c3 ∧ w1.cell? ⟨w.heap.size, 4, none⟩ = some c4) ∧ Below w.heap.size w w1 ∧ w.heap.size < w1.heap.size := by
  obtain ⟨hc, hf⟩ := bcell hb
  have hl : w.heap.size < (w.alloc (.cells #[c0, c1, c2, c3, c4] 23)).heap.size := by simp
  refine ⟨⟨?_, ?_, ?_, ?_, ?_⟩, below_box2 hb, Nat.lt_of_lt_of_le hl hb.size⟩
  all_goals (rw [hc _ _ hl]; simp [go_sem])

set_option maxHeartbeats 2000000 in
theorem reads4_same (s c d : ByteArray) (g e f x : Int) (h9 : Tells 9 s (.agg #[.string c, .string d, .int .i64 g, .int .i64 e, .int .i64 f]) x) (h10 : Tells 10 s (.agg #[.string c, .string d, .int .i64 g, .int .i64 e, .int .i64 f]) x) (w : World) :
    Calls Try.prog 4 #[.string s] w fun e w' => e = .returned (.bool true) ∧ Below w.heap.size w w' := by
  go_enter Try.func4, Try.ntmps4
  go_wp2_with (first
    | (go_at_call 9; refine (h9 _).mono ?_; rintro e w1 ⟨rfl, hb1⟩)
    | (go_at_call 10; refine (h10 _).mono ?_; rintro e w2 ⟨rfl, hb2⟩; obtain ⟨⟨k0, k1, k2, k3, k4⟩, hB, hlt⟩ := boxed5 hb2)
    | (go_at_call 8; refine (awake8 _).mono ?_; rintro e w3 ⟨rfl, hb3⟩))
  go_ret
  exact ⟨rfl, below_then (below_then hb1 hB) (below_box2 hb3)⟩

theorem reads4 (s : ByteArray) (w : World) : Calls Try.prog 4 #[.string s] w fun e w' => e = .returned (.bool true) ∧ Below w.heap.size w w' := by
  by_cases hs : s.size ≤ 1048576
  · cases h : readB s
    · exact reads4_same s _ _ _ _ _ _ (read9_no hs h) (read10_no hs h) w
    · exact reads4_same s _ _ _ _ _ _ (read9_yes hs h) (read10_yes hs h) w
  · exact reads4_same s _ _ _ _ _ _ (fun w => read9_long s hs w) (fun w => read10_long s hs w) w
end Go.Proofs.Ytlgeajcncmlngaa
