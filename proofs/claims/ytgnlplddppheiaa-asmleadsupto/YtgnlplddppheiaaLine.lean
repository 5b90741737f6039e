/- Lines, one by one. -/
import Derived.Test.YtgnlplddppheiaaIEncode
import Derived.Test.YtgnlplddppheiaaProg
import Derived.Test.YtgnlplddppheiaaTake
import Derived.Laws.StructEq
namespace Go.Proofs.Ytgnlplddppheiaa
open Go.RowKit
set_option linter.unusedVariables false

/-- A line. -/
structure Ln where
  label : Int
  op : Int
  d : Int
  a : Int
  b : Int
  imm : Int
  to : Int
def Ln.val (x : Ln) : Value := .agg #[.int .i64 x.label, .int .i64 x.op, .int .i64 x.d, .int .i64 x.a, .int .i64 x.b, .int .i32 x.imm, .int .i64 x.to]

/-- An instruction that may be. -/
def mayI (op d a b i : Int) : Bool := mayR (isF (partsF op)) (hasD (partsF op)) (hasA (partsF op)) (hasB (partsF op)) (loF (partsF op)) (hiF (partsF op)) d a b i
def askF (op : Int) : Bool := op == 39 || op == 40
def leadF (op : Int) : Bool := askF op || op == 41 || op == 42
/-- Is this a line? -/
def Ln.ok (x : Ln) : Bool := if x.label = 0 then mayI x.op x.d x.a x.b x.imm && decide (0 ≤ x.to) && (x.to == 0 || (leadF x.op && x.imm == 0))
  else decide (0 < x.label) && x.op == 0 && x.d == 0 && x.a == 0 && x.b == 0 && x.imm == 0 && x.to == 0

theorem isLabel19 (l o d a b i t : Int) (w : World) :
    Calls Try.prog 19 #[.agg #[.int .i64 l, .int .i64 o, .int .i64 d, .int .i64 a, .int .i64 b, .int .i32 i, .int .i64 t]] w fun e w' => e = .returned (.bool (l != 0)) ∧ Below w.heap.size w w' := by
  go_enter Try.func19, Try.ntmps19
  go_wp2
  go_ret
  exact ⟨rfl, below1 _ _⟩

theorem asks42 (op : Int) (w : World) :
    Calls Try.prog 42 #[.int .i64 op] w fun e w' => e = .returned (.bool (askF op)) ∧ w' = w := by
  unfold askF
  by_cases h1 : op = 39
  · subst h1
    go_enter Try.func42, Try.ntmps42
    go_wp2
    go_ret
    exact ⟨rfl, rfl⟩
  · have e1 : (op == 39) = false := by simp [h1]
    rw [e1]
    go_enter Try.func42, Try.ntmps42
    go_wp2
    go_ret
    exact ⟨by simp, rfl⟩

theorem leads48 (op : Int) (w : World) :
    Calls Try.prog 48 #[.int .i64 op] w fun e w' => e = .returned (.bool (leadF op)) ∧ w' = w := by
  unfold leadF
  have hA := asks42 op
  generalize askF op = q at *
  cases q
  · by_cases h1 : op = 41
    · subst h1
      go_enter Try.func48, Try.ntmps48
      go_wp2_with (go_at_call 42; refine (hA _).mono ?_; rintro e w1 ⟨rfl, rfl⟩)
      go_ret
      exact ⟨rfl, rfl⟩
    · have e1 : (op == 41) = false := by simp [h1]
      rw [e1]
      go_enter Try.func48, Try.ntmps48
      go_wp2_with (go_at_call 42; refine (hA _).mono ?_; rintro e w1 ⟨rfl, rfl⟩)
      go_ret
      exact ⟨by simp, rfl⟩
  · go_enter Try.func48, Try.ntmps48
    go_wp2_with (go_at_call 42; refine (hA _).mono ?_; rintro e w1 ⟨rfl, rfl⟩)
    go_ret
    exact ⟨by simp, rfl⟩

theorem check47 (op d a b i : Int) (w : World) :
    Calls Try.prog 47 #[.agg #[.int .i64 op, .int .i64 d, .int .i64 a, .int .i64 b, .int .i32 i]] w fun e w' => e = .returned (.int .i64 (if mayI op d a b i then 0 else 1)) ∧ Below w.heap.size w w' := by
  cases h : mayI op d a b i
  · exact check9_no (row_of op) rfl h w
  · exact check9_yes (row_of op) rfl h w

set_option maxHeartbeats 4000000 in
theorem isLine37 (x : Ln) (w : World) :
    Calls Try.prog 37 #[x.val] w fun e w' => e = .returned (.bool x.ok) ∧ Below w.heap.size w w' := by
  obtain ⟨l, o, d, a, b, i, t⟩ := x
  unfold Ln.val Ln.ok
  simp only
  by_cases hl : l = 0
  · subst hl
    rw [if_pos rfl]
    have hC := check47 o d a b i
    have hL := leads48 o
    have hI := isLabel19 0 o d a b i t
    simp only [bne_self_eq_false] at hI
    generalize mayI o d a b i = q at *
    generalize leadF o = ld at *
    cases q
    · simp only [Bool.false_eq_true, if_false] at hC
      go_enter Try.func37, Try.ntmps37
      go_wp2_with (first
        | (go_at_call 19; refine (hI _).mono ?_; rintro e w1 ⟨rfl, hb1⟩; obtain ⟨hc1, hf1⟩ := bcell hb1)
        | (go_at_call 47; refine (hC _).mono ?_; rintro e w2 ⟨rfl, hb2⟩; have hb := below_on (below_call hb1) hb2))
      go_ret
      exact ⟨by simp, hb⟩
    · simp only [if_true] at hC
      by_cases ht : t < 0
      · have h0 : ¬ 0 ≤ t := by omega
        go_enter Try.func37, Try.ntmps37
        go_wp2_with (first
          | (go_at_call 19; refine (hI _).mono ?_; rintro e w1 ⟨rfl, hb1⟩; obtain ⟨hc1, hf1⟩ := bcell hb1; have hs1 : w.heap.size < w1.heap.size := by have := hb1.size; simp at this; omega)
          | (go_at_call 47; refine (hC _).mono ?_; rintro e w2 ⟨rfl, hb2⟩; obtain ⟨hc2, hf2⟩ := bcell hb2; have hb := below_on (below_call hb1) hb2))
        go_ret
        exact ⟨by rw [show decide (0 ≤ t) = false from decide_eq_false (by omega)]; simp, hb⟩
      · have h0 : 0 ≤ t := by omega
        by_cases hz : t = 0
        · subst hz
          go_enter Try.func37, Try.ntmps37
          go_wp2_with (first
            | (go_at_call 19; refine (hI _).mono ?_; rintro e w1 ⟨rfl, hb1⟩; obtain ⟨hc1, hf1⟩ := bcell hb1; have hs1 : w.heap.size < w1.heap.size := by have := hb1.size; simp at this; omega)
            | (go_at_call 47; refine (hC _).mono ?_; rintro e w2 ⟨rfl, hb2⟩; obtain ⟨hc2, hf2⟩ := bcell hb2; have hb := below_on (below_call hb1) hb2))
          go_ret
          exact ⟨by simp, hb⟩
        · have hz' : (t == 0) = false := by simp [hz]
          cases ld
          · go_enter Try.func37, Try.ntmps37
            go_wp2_with (first
              | (go_at_call 19; refine (hI _).mono ?_; rintro e w1 ⟨rfl, hb1⟩; obtain ⟨hc1, hf1⟩ := bcell hb1; have hs1 : w.heap.size < w1.heap.size := by have := hb1.size; simp at this; omega)
              | (go_at_call 47; refine (hC _).mono ?_; rintro e w2 ⟨rfl, hb2⟩; obtain ⟨hc2, hf2⟩ := bcell hb2; have hb := below_on (below_call hb1) hb2)
              | (go_at_call 48; refine (hL _).mono ?_; rintro e w' ⟨rfl, hw⟩; have hv := hw.symm; clear hw; subst hv))
            go_ret
            exact ⟨by simp [hz'], hb⟩
          · go_enter Try.func37, Try.ntmps37
            go_wp2_with (first
              | (go_at_call 19; refine (hI _).mono ?_; rintro e w1 ⟨rfl, hb1⟩; obtain ⟨hc1, hf1⟩ := bcell hb1; have hs1 : w.heap.size < w1.heap.size := by have := hb1.size; simp at this; omega)
              | (go_at_call 47; refine (hC _).mono ?_; rintro e w2 ⟨rfl, hb2⟩; obtain ⟨hc2, hf2⟩ := bcell hb2; have hb := below_on (below_call hb1) hb2)
              | (go_at_call 48; refine (hL _).mono ?_; rintro e w' ⟨rfl, hw⟩; have hv := hw.symm; clear hw; subst hv))
            go_ret
            exact ⟨by simp [hz', h0], hb⟩
  · rw [if_neg hl]
    have e1 : (l != 0) = true := by simp [hl]
    by_cases hp : 0 < l
    · go_enter Try.func37, Try.ntmps37
      go_wp2_with (go_at_call 19; refine (isLabel19 _ _ _ _ _ _ _ _).mono ?_; rintro e w1 ⟨rfl, hb1⟩; obtain ⟨hc1, hf1⟩ := bcell hb1)
      all_goals
        go_ret
        exact ⟨ret_b (by simp [*]), below_call hb1⟩
    · have hp' : l ≤ 0 := by omega
      go_enter Try.func37, Try.ntmps37
      go_wp2_with (go_at_call 19; refine (isLabel19 _ _ _ _ _ _ _ _).mono ?_; rintro e w1 ⟨rfl, hb1⟩; obtain ⟨hc1, hf1⟩ := bcell hb1)
      go_ret
      exact ⟨by rw [show decide (0 < l) = false from decide_eq_false (by omega)]; simp, below_call hb1⟩

theorem notLine36 (x : Ln) (w : World) :
    Calls Try.prog 36 #[x.val] w fun e w' => e = .returned (.bool (!x.ok)) ∧ Below w.heap.size w w' := by
  have hI := isLine37 x
  generalize x.ok = q at *
  obtain ⟨l, o, d, a, b, i, t⟩ := x
  unfold Ln.val at *
  simp only at *
  go_enter Try.func36, Try.ntmps36
  go_wp2_with (go_at_call 37; refine (hI _).mono ?_; rintro e w1 ⟨rfl, hb1⟩)
  go_ret
  exact ⟨rfl, below_call hb1⟩
end Go.Proofs.Ytgnlplddppheiaa
