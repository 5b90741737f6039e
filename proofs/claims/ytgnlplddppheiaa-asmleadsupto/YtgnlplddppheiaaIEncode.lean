/- The contracts of Encode, of the document's answers to Check and Encode, and of the law's own question to the program. -/
import Derived.Test.YtgnlplddppheiaaIWord
import Derived.WalkKit
namespace Go.Proofs.Ytgnlplddppheiaa
open Go.RowKit
set_option linter.unusedVariables false

theorem ret_2 {k l : IntKind} {a b c : Int} (h : a = b) : Ending.returned (.tuple #[.int k a, .int l c]) = .returned (.tuple #[.int k b, .int l c]) := by rw [h]

set_option maxHeartbeats 4000000 in
theorem encode7_yes {op p lo hi n d a b i : Int} {D A B sg is : Bool} (R : Row p lo hi D A B n sg is) (hp : partsF op = p) (hm : mayR is D A B lo hi d a b i = true) (w : World) :
    Calls Try.prog 44 #[.agg #[.int .i64 op, .int .i64 d, .int .i64 a, .int .i64 b, .int .i32 i]] w fun e w' => e = .returned (.tuple #[.int .u32 (wordF n op d a b i), .int .i64 0]) ∧ Below w.heap.size w w' := by
  obtain ⟨o1, o2, d0, d1, a0, a1, b0, b1, i0, i1, hk⟩ := may_bounds R hp hm
  have hb0 := base_or op d a b o1 o2 d0 d1 a0 a1 b0 b1
  have h32 := bit32 R
  by_cases hn : n = 24
  · subst hn
    have hx : d = 0 ∧ a = 0 ∧ b = 0 := by omega
    have hw := word_long op d a b i o1 o2 hx.1 hx.2.1 hx.2.2
    have HX : Hid (d = 0 ∧ a = 0 ∧ b = 0) := hx
    clear hx hk
    have h32' : (bits BinOp.and IntKind.i64 p 32 != 0) = true := by rw [h32]; rfl
    clear h32
    go_enter Try.func44, Try.ntmps44
    go_wp2_with (first
      | (go_at_call 54; refine (parts18 op _).mono ?_; rintro e w' ⟨rfl, rfl⟩)
      | (go_at_call 47; refine (check9_yes R hp hm _).mono ?_; rintro e w' ⟨rfl, hb⟩; obtain ⟨hc, hf⟩ := bcell hb))
    go_ret2
    exact ⟨rfl, below_call hb⟩
  · have hw := word_short n op d a b i hn o1 o2 d0 d1 a0 a1 b0 b1 (by omega)
    clear hk
    have h32' : (bits BinOp.and IntKind.i64 p 32 != 0) = false := by rw [h32]; simp [hn]
    clear h32
    go_enter Try.func44, Try.ntmps44
    go_wp2_with (first
      | (go_at_call 54; refine (parts18 op _).mono ?_; rintro e w' ⟨rfl, rfl⟩)
      | (go_at_call 47; refine (check9_yes R hp hm _).mono ?_; rintro e w' ⟨rfl, hb⟩; obtain ⟨hc, hf⟩ := bcell hb))
    go_ret2
    exact ⟨rfl, below_call hb⟩

set_option maxHeartbeats 4000000 in
theorem encode7_no {op p lo hi n d a b i : Int} {D A B sg is : Bool} (R : Row p lo hi D A B n sg is) (hp : partsF op = p) (hm : mayR is D A B lo hi d a b i = false) (w : World) :
    Calls Try.prog 44 #[.agg #[.int .i64 op, .int .i64 d, .int .i64 a, .int .i64 b, .int .i32 i]] w fun e w' => e = .returned (.tuple #[.int .u32 0, .int .i64 1]) ∧ Below w.heap.size w w' := by
  go_enter Try.func44, Try.ntmps44
  go_wp2_with (first
    | (go_at_call 47; refine (check9_no R hp hm _).mono ?_; rintro e w' ⟨rfl, hb⟩; obtain ⟨hc, hf⟩ := bcell hb))
  go_ret2
  exact ⟨rfl, below_call hb⟩


set_option maxHeartbeats 4000000 in
theorem encode8_no {op p lo hi n d a b i : Int} {D A B sg is : Bool} (R : Row p lo hi D A B n sg is) (hp : partsF op = p) (j0 : -2147483648 ≤ i) (j1 : i ≤ 2147483647) (hm : mayR is D A B lo hi d a b i = false) (w : World) :
    Calls Try.prog 34 #[.agg #[.int .i64 op, .int .i64 d, .int .i64 a, .int .i64 b, .int .i32 i]] w fun e w' => e = .returned (.tuple #[.int .u32 0, .int .i64 1]) ∧ Below w.heap.size w w' := by
  go_enter Try.func34, Try.ntmps34
  go_wp2_with (first
    | (go_at_call 38; refine (may19_no R hp j0 j1 hm _).mono ?_; rintro e w' ⟨rfl, hb⟩; obtain ⟨hc, hf⟩ := bcell hb))
  go_ret2
  exact ⟨rfl, below_call hb⟩

set_option maxHeartbeats 4000000 in
theorem encode8_yes {op p lo hi n d a b i : Int} {D A B sg is : Bool} (R : Row p lo hi D A B n sg is) (hp : partsF op = p) (j0 : -2147483648 ≤ i) (j1 : i ≤ 2147483647) (hm : mayR is D A B lo hi d a b i = true) (w : World) :
    Calls Try.prog 34 #[.agg #[.int .i64 op, .int .i64 d, .int .i64 a, .int .i64 b, .int .i32 i]] w fun e w' => e = .returned (.tuple #[.int .u32 (wordF n op d a b i), .int .i64 0]) ∧ Below w.heap.size w w' := by
  obtain ⟨o1, o2, d0, d1, a0, a1, b0, b1, i0, i1, hk⟩ := may_bounds R hp hm
  have hb0 := base_or op d a b o1 o2 d0 d1 a0 a1 b0 b1
  by_cases hn : n = 24
  · subst hn
    have hx : d = 0 ∧ a = 0 ∧ b = 0 := by omega
    have hw := word_long op d a b i o1 o2 hx.1 hx.2.1 hx.2.2
    clear hx hk
    go_enter Try.func34, Try.ntmps34
    go_wp2_with (first
      | (go_at_call 45; refine (shaped20 R hp _).mono ?_; rintro e w2 ⟨rfl, hb2⟩; obtain ⟨hc2, hf2⟩ := bcell hb2; have hs2 : w.heap.size < w2.heap.size := by have hq := hb2.size; omega)
      | (go_at_call 38; refine (may19_yes R hp j0 j1 hm _).mono ?_; rintro e w' ⟨rfl, hb⟩; obtain ⟨hc, hf⟩ := bcell hb; have hs : w.heap.size < w'.heap.size := by have hq := hb.size; simp at hq; omega))
    go_ret2
    exact ⟨rfl, (below_on (below_call hb) hb2).alloc (below_on (below_call hb) hb2).size _⟩
  · by_cases hn2 : n = 16
    · subst hn2
      have hw := word_short 16 op d a b i hn o1 o2 d0 d1 a0 a1 b0 b1 (by omega)
      clear hk
      go_enter Try.func34, Try.ntmps34
      go_wp2_with (first
        | (go_at_call 45; refine (shaped20 R hp _).mono ?_; rintro e w2 ⟨rfl, hb2⟩; obtain ⟨hc2, hf2⟩ := bcell hb2; have hs2 : w.heap.size < w2.heap.size := by have hq := hb2.size; omega)
        | (go_at_call 38; refine (may19_yes R hp j0 j1 hm _).mono ?_; rintro e w' ⟨rfl, hb⟩; obtain ⟨hc, hf⟩ := bcell hb; have hs : w.heap.size < w'.heap.size := by have hq := hb.size; simp at hq; omega))
      go_ret2
      exact ⟨rfl, (below_on (below_call hb) hb2).alloc (below_on (below_call hb) hb2).size _⟩
    · have hn0 : n = 0 ∧ i = 0 := by omega
      obtain ⟨rfl, rfl⟩ := hn0
      have hw : wordF 0 op d a b 0 = baseF op d a b := by unfold wordF; simp
      clear hk
      go_enter Try.func34, Try.ntmps34
      go_wp2_with (first
        | (go_at_call 45; refine (shaped20 R hp _).mono ?_; rintro e w2 ⟨rfl, hb2⟩; obtain ⟨hc2, hf2⟩ := bcell hb2; have hs2 : w.heap.size < w2.heap.size := by have hq := hb2.size; omega)
        | (go_at_call 38; refine (may19_yes R hp j0 j1 hm _).mono ?_; rintro e w' ⟨rfl, hb⟩; obtain ⟨hc, hf⟩ := bcell hb; have hs : w.heap.size < w'.heap.size := by have hq := hb.size; simp at hq; omega))
      go_ret2
      exact ⟨ret_2 hw.symm, (below_on (below_call hb) hb2).alloc (below_on (below_call hb) hb2).size _⟩

theorem row263 : Row 263 0 0 true true true 0 false true := ⟨by simp⟩
end Go.Proofs.Ytgnlplddppheiaa
