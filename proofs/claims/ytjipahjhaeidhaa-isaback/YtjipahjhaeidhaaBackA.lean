/- The walks of the law IsaBack: whether the first instruction may be, whether the second may be, and what the word is. -/
import Derived.Test.YtjipahjhaeidhaaBack
import Derived.WalkKit
namespace Go.Proofs.Ytjipahjhaeidhaa
open Go.RowKit
set_option linter.unusedVariables false

set_option maxHeartbeats 2000000 in
theorem back_yes_yes_yes {op p lo hi n d a b i : Int} {D A B sg is : Bool} (R : Row p lo hi D A B n sg is) (hp : partsF op = p) (hm : mayR is D A B lo hi d a b i = true)
    {op2 p2 lo2 hi2 n2 d2 a2 b2 i2 : Int} {D2 A2 B2 sg2 is2 : Bool} (R2 : Row p2 lo2 hi2 D2 A2 B2 n2 sg2 is2) (hp2 : partsF op2 = p2) (hm2 : mayR is2 D2 A2 B2 lo2 hi2 d2 a2 b2 i2 = true) (hne : Hid (wordF n op d a b i = wordF n2 op2 d2 a2 b2 i2 → op = op2 ∧ d = d2 ∧ a = a2 ∧ b = b2 ∧ i = i2))
    {u op3 p3 lo3 hi3 n3 d3 a3 b3 i3 : Int} {D3 A3 B3 sg3 is3 : Bool} (R3 : Row p3 lo3 hi3 D3 A3 B3 n3 sg3 is3) (hp3 : partsF op3 = p3) (u0 : 0 ≤ u) (u1 : u < 4294967296) (ho3 : u / 16777216 = op3) (hd3 : regF (u / 1048576) D3 = d3) (ha3 : regF (u / 65536) A3 = a3) (hb3 : regF (u / 4096) B3 = b3) (hI3 : immF n3 sg3 u = i3) (hm3 : mayR is3 D3 A3 B3 lo3 hi3 d3 a3 b3 i3 = true) (he3 : wordF n3 op3 d3 a3 b3 i3 = u) (w : World) :
    Calls Try.prog 6 #[.agg #[.int .i64 op, .int .i64 d, .int .i64 a, .int .i64 b, .int .i32 i], .agg #[.int .i64 op2, .int .i64 d2, .int .i64 a2, .int .i64 b2, .int .i32 i2], .int .u32 u] w fun e w' => e = .returned (.bool true) ∧ Below w.heap.size w w' := by
  go_enter Try.func6, Try.ntmps6
  go_wp2_with (first
    | (go_at_call 7; with_reducible refine (encode7_yes R hp hm _).mono ?_; rintro e w1 ⟨rfl, hb1⟩; obtain ⟨hc1, hf1⟩ := bcell hb1; have hs1 : w.heap.size + 1 < w1.heap.size := (by have hq := hb1.size; simp at hq; omega); have ht1 : w.heap.size < w1.heap.size := by omega)
    | (go_at_call 7; with_reducible refine (encode7_yes R2 hp2 hm2 _).mono ?_; rintro e w2 ⟨rfl, hb2⟩; obtain ⟨hc2, hf2⟩ := bcell hb2; have hs2 : w.heap.size + 1 < w2.heap.size := (by have hq := hb2.size; omega); have ht2 : w.heap.size < w2.heap.size := by omega)
    | (go_at_call 12; with_reducible refine (decode12_word R hp hm _).mono ?_; rintro e w3 ⟨rfl, hbk⟩; obtain ⟨hc3, hf3⟩ := bcell hbk; have hs3 : w.heap.size + 1 < w3.heap.size := (by have hq := hbk.size; omega); have ht3 : w.heap.size < w3.heap.size := by omega)
    | (go_at_call 12; with_reducible refine (decode12_yes R3 hp3 u0 u1 ho3 hd3 ha3 hb3 hI3 hm3 he3 _).mono ?_; rintro e w4 ⟨rfl, hb4⟩; obtain ⟨hc4, hf4⟩ := bcell hb4)
    | (go_at_call 7; with_reducible refine (encode7_yes R3 hp3 hm3 _).mono ?_; rintro e w5 ⟨rfl, hb5⟩)
    | (go_at_call 11; refine (awake11 _).mono ?_; rintro e w6 ⟨rfl, hb6⟩))
  all_goals first
    | (exfalso; subst_vars; have hq := hne.out (eq_of_beq ‹(wordF _ _ _ _ _ _ == wordF _ _ _ _ _ _) = true›); omega)
    | (go_ret; exact ⟨rfl, below_on (below_next (below_next (below_on (below_on (below_call2 hb1) hb2) hbk) hb4) hb5) hb6⟩)

set_option maxHeartbeats 2000000 in
theorem back_yes_yes_other {op p lo hi n d a b i : Int} {D A B sg is : Bool} (R : Row p lo hi D A B n sg is) (hp : partsF op = p) (hm : mayR is D A B lo hi d a b i = true)
    {op2 p2 lo2 hi2 n2 d2 a2 b2 i2 : Int} {D2 A2 B2 sg2 is2 : Bool} (R2 : Row p2 lo2 hi2 D2 A2 B2 n2 sg2 is2) (hp2 : partsF op2 = p2) (hm2 : mayR is2 D2 A2 B2 lo2 hi2 d2 a2 b2 i2 = true) (hne : Hid (wordF n op d a b i = wordF n2 op2 d2 a2 b2 i2 → op = op2 ∧ d = d2 ∧ a = a2 ∧ b = b2 ∧ i = i2))
    {u op3 p3 lo3 hi3 n3 d3 a3 b3 i3 : Int} {D3 A3 B3 sg3 is3 : Bool} (R3 : Row p3 lo3 hi3 D3 A3 B3 n3 sg3 is3) (hp3 : partsF op3 = p3) (u0 : 0 ≤ u) (u1 : u < 4294967296) (ho3 : u / 16777216 = op3) (hd3 : regF (u / 1048576) D3 = d3) (ha3 : regF (u / 65536) A3 = a3) (hb3 : regF (u / 4096) B3 = b3) (hI3 : immF n3 sg3 u = i3) (hm3 : mayR is3 D3 A3 B3 lo3 hi3 d3 a3 b3 i3 = true) (he3 : ¬ wordF n3 op3 d3 a3 b3 i3 = u) (w : World) :
    Calls Try.prog 6 #[.agg #[.int .i64 op, .int .i64 d, .int .i64 a, .int .i64 b, .int .i32 i], .agg #[.int .i64 op2, .int .i64 d2, .int .i64 a2, .int .i64 b2, .int .i32 i2], .int .u32 u] w fun e w' => e = .returned (.bool true) ∧ Below w.heap.size w w' := by
  go_enter Try.func6, Try.ntmps6
  go_wp2_with (first
    | (go_at_call 7; with_reducible refine (encode7_yes R hp hm _).mono ?_; rintro e w1 ⟨rfl, hb1⟩; obtain ⟨hc1, hf1⟩ := bcell hb1; have hs1 : w.heap.size + 1 < w1.heap.size := (by have hq := hb1.size; simp at hq; omega); have ht1 : w.heap.size < w1.heap.size := by omega)
    | (go_at_call 7; with_reducible refine (encode7_yes R2 hp2 hm2 _).mono ?_; rintro e w2 ⟨rfl, hb2⟩; obtain ⟨hc2, hf2⟩ := bcell hb2; have hs2 : w.heap.size + 1 < w2.heap.size := (by have hq := hb2.size; omega); have ht2 : w.heap.size < w2.heap.size := by omega)
    | (go_at_call 12; with_reducible refine (decode12_word R hp hm _).mono ?_; rintro e w3 ⟨rfl, hbk⟩; obtain ⟨hc3, hf3⟩ := bcell hbk; have hs3 : w.heap.size + 1 < w3.heap.size := (by have hq := hbk.size; omega); have ht3 : w.heap.size < w3.heap.size := by omega)
    | (go_at_call 12; with_reducible refine (decode12_other R3 hp3 u0 u1 ho3 hd3 ha3 hb3 hI3 hm3 he3 _).mono ?_; rintro e w4 ⟨rfl, hb4⟩; obtain ⟨hc4, hf4⟩ := bcell hb4)
    | (go_at_call 11; refine (awake11 _).mono ?_; rintro e w6 ⟨rfl, hb6⟩))
  all_goals first
    | (exfalso; subst_vars; have hq := hne.out (eq_of_beq ‹(wordF _ _ _ _ _ _ == wordF _ _ _ _ _ _) = true›); omega)
    | (go_ret; exact ⟨rfl, below_next (below_next (below_on (below_on (below_call2 hb1) hb2) hbk) hb4) hb6⟩)

end Go.Proofs.Ytjipahjhaeidhaa
