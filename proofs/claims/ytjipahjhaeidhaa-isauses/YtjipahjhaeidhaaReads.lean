/- The contracts of Reads: the registers that an instruction reads, row by row, in new memory. -/
import Derived.Test.YtjipahjhaeidhaaLists
import Derived.WalkKit
namespace Go.Proofs.Ytjipahjhaeidhaa
open Go.RowKit

/-- A slice of ints that the call itself has made (blocks from base on), or nil: its elements. -/
def Held (w : World) (base : Nat) (v : Value) (L : List Int) : Prop := w.ownsRow base 3 1 v L.length (L.map (Value.int .i64)) ∧ (L = [] → v = .slice none 0 0)

theorem bcellB {B : Nat} {W w1 : World} (hb : Below B W w1) : (∀ b o, b < B → w1.cell? ⟨b, o, none⟩ = W.cell? ⟨b, o, none⟩) ∧ (∀ b o, b < B → w1.frozen? ⟨b, o, none⟩ = W.frozen? ⟨b, o, none⟩) :=
  ⟨fun b o h => hb.cell (p := ⟨b, o, none⟩) h, fun b o h => hb.frozen (p := ⟨b, o, none⟩) h⟩
theorem held_base {w : World} {base base' n : Nat} {v : Value} {xs : List Value} (h : w.ownsRow base 3 1 v n xs) (hb : base' ≤ base) : w.ownsRow base' 3 1 v n xs :=
  ⟨h.1, h.2.elim Or.inl (fun ⟨g, cap, cur, hv, hg, r⟩ => Or.inr ⟨g, cap, cur, hv, Nat.le_trans hb hg, r⟩)⟩
theorem form1 {w : World} {base : Nat} {v : Value} {xs : List Value} (h : w.ownsRow base 3 1 v 1 xs) : ∃ g cap, v = .slice (some ⟨g, 0, none⟩) 1 cap := by
  rcases h.2 with ⟨_, h0⟩ | ⟨g, cap, _, hv, _⟩
  · omega
  · exact ⟨g, cap, hv⟩
theorem cell1 {w : World} {base g cap : Nat} {x : Value} (h : w.ownsRow base 3 1 (.slice (some ⟨g, 0, none⟩) 1 cap) 1 [x]) : w.cell? ⟨g, 0, none⟩ = some x :=
  h.cellAt 0 (by omega)
theorem below_two {B : Nat} {w w2 w3 : World} (h : Below w.heap.size w w2) (h3 : Below B w2 w3) (hB : w.heap.size ≤ B) : Below w.heap.size w w3 :=
  h.trans (h3.mono hB)

set_option maxHeartbeats 1000000 in
theorem reads14_no {op p lo hi n d a b i : Int} {D A B sg is : Bool} (R : Row p lo hi D A B n sg is) (hp : partsF op = p) (hm : mayR is D A B lo hi d a b i = false) (w : World) :
    Calls Try.prog 14 #[.agg #[.int .i64 op, .int .i64 d, .int .i64 a, .int .i64 b, .int .i32 i]] w fun e w' => ∃ v, e = .returned v ∧ Held w' w.heap.size v [] ∧ Below w.heap.size w w' := by
  go_enter Try.func14, Try.ntmps14
  go_wp2_with (first
    | (go_at_call 9; refine (check9_no R hp hm _).mono ?_; rintro e w1 ⟨rfl, hb1⟩; obtain ⟨hc1, hf1⟩ := bcell hb1; have hs1 : w.heap.size < w1.heap.size := by have hq := hb1.size; simp at hq; omega))
  go_ret
  exact ⟨_, rfl, ⟨World.ownsRow_nil _ _ _ _, fun _ => rfl⟩, below_call hb1⟩

set_option maxHeartbeats 1000000 in
theorem reads14_fff {op p lo hi n d a b i : Int} {D A B sg is : Bool} (R : Row p lo hi D A B n sg is) (hp : partsF op = p) (hm : mayR is D A B lo hi d a b i = true) (h128 : (bits BinOp.and IntKind.i64 p 128 != 0) = false) (h2 : (bits BinOp.and IntKind.i64 p 2 != 0) = false) (h4 : (bits BinOp.and IntKind.i64 p 4 != 0) = false) (w : World) :
    Calls Try.prog 14 #[.agg #[.int .i64 op, .int .i64 d, .int .i64 a, .int .i64 b, .int .i32 i]] w fun e w' => ∃ v, e = .returned v ∧ Held w' w.heap.size v [] ∧ Below w.heap.size w w' := by
  go_enter Try.func14, Try.ntmps14
  go_wp2_with (first
    | (go_at_call 9; refine (check9_yes R hp hm _).mono ?_; rintro e w1 ⟨rfl, hb1⟩; obtain ⟨hc1, hf1⟩ := bcell hb1; have hs1 : w.heap.size < w1.heap.size := by have hq := hb1.size; simp at hq; omega)
    | (go_at_call 18; refine (parts18 op _).mono ?_; rintro e w' ⟨rfl, hw⟩; have hw2 := hw.symm; clear hw; subst hw2)
    | (go_at_call 25; with_reducible refine (with25_off _ _ _ h128 _).mono ?_; rintro e w' ⟨rfl, hw⟩; have hw2 := hw.symm; clear hw; subst hw2)
    | (go_at_call 25; with_reducible refine (with25_off _ _ _ h2 _).mono ?_; rintro e w' ⟨rfl, hw⟩; have hw2 := hw.symm; clear hw; subst hw2)
    | (go_at_call 25; with_reducible refine (with25_off _ _ _ h4 _).mono ?_; rintro e w' ⟨rfl, hw⟩; have hw2 := hw.symm; clear hw; subst hw2))
  go_ret
  exact ⟨_, rfl, ⟨World.ownsRow_nil _ _ _ _, fun _ => rfl⟩, below_call hb1⟩

set_option maxHeartbeats 1000000 in
theorem reads14_tff {op p lo hi n d a b i : Int} {D A B sg is : Bool} (R : Row p lo hi D A B n sg is) (hp : partsF op = p) (hm : mayR is D A B lo hi d a b i = true) (h128 : (bits BinOp.and IntKind.i64 p 128 != 0) = true) (h2 : (bits BinOp.and IntKind.i64 p 2 != 0) = false) (h4 : (bits BinOp.and IntKind.i64 p 4 != 0) = false) (w : World) :
    Calls Try.prog 14 #[.agg #[.int .i64 op, .int .i64 d, .int .i64 a, .int .i64 b, .int .i32 i]] w fun e w' => ∃ v, e = .returned v ∧ Held w' w.heap.size v [d] ∧ Below w.heap.size w w' := by
  go_enter Try.func14, Try.ntmps14
  go_wp2_with (first
    | (go_at_call 9; refine (check9_yes R hp hm _).mono ?_; rintro e w1 ⟨rfl, hb1⟩; obtain ⟨hc1, hf1⟩ := bcell hb1; have hs1 : w.heap.size < w1.heap.size := by have hq := hb1.size; simp at hq; omega)
    | (go_at_call 18; refine (parts18 op _).mono ?_; rintro e w' ⟨rfl, hw⟩; have hw2 := hw.symm; clear hw; subst hw2)
    | (go_at_call 25; with_reducible refine (with25_nil _ _ h128 _).mono ?_; rintro e w2 ⟨v, rfl, hown, hb2⟩; obtain ⟨g, cap, rfl⟩ := form1 hown; have hcg := cell1 hown; obtain ⟨hc2, hf2⟩ := bcell hb2; have hs2 : w.heap.size < w2.heap.size := Nat.lt_of_lt_of_le hs1 hb2.size)
    | (go_at_call 25; with_reducible refine (with25_off _ _ _ h2 _).mono ?_; rintro e w' ⟨rfl, hw⟩; have hw2 := hw.symm; clear hw; subst hw2)
    | (go_at_call 25; with_reducible refine (with25_off _ _ _ h4 _).mono ?_; rintro e w' ⟨rfl, hw⟩; have hw2 := hw.symm; clear hw; subst hw2))
  go_ret
  exact ⟨_, rfl, ⟨held_base hown (Nat.le_of_lt hs1), fun hq => by cases hq⟩, below_on (below_call hb1) hb2⟩

set_option maxHeartbeats 1000000 in
theorem reads14_ftf {op p lo hi n d a b i : Int} {D A B sg is : Bool} (R : Row p lo hi D A B n sg is) (hp : partsF op = p) (hm : mayR is D A B lo hi d a b i = true) (h128 : (bits BinOp.and IntKind.i64 p 128 != 0) = false) (h2 : (bits BinOp.and IntKind.i64 p 2 != 0) = true) (h4 : (bits BinOp.and IntKind.i64 p 4 != 0) = false) (w : World) :
    Calls Try.prog 14 #[.agg #[.int .i64 op, .int .i64 d, .int .i64 a, .int .i64 b, .int .i32 i]] w fun e w' => ∃ v, e = .returned v ∧ Held w' w.heap.size v [a] ∧ Below w.heap.size w w' := by
  go_enter Try.func14, Try.ntmps14
  go_wp2_with (first
    | (go_at_call 9; refine (check9_yes R hp hm _).mono ?_; rintro e w1 ⟨rfl, hb1⟩; obtain ⟨hc1, hf1⟩ := bcell hb1; have hs1 : w.heap.size < w1.heap.size := by have hq := hb1.size; simp at hq; omega)
    | (go_at_call 18; refine (parts18 op _).mono ?_; rintro e w' ⟨rfl, hw⟩; have hw2 := hw.symm; clear hw; subst hw2)
    | (go_at_call 25; with_reducible refine (with25_off _ _ _ h128 _).mono ?_; rintro e w' ⟨rfl, hw⟩; have hw2 := hw.symm; clear hw; subst hw2)
    | (go_at_call 25; with_reducible refine (with25_nil _ _ h2 _).mono ?_; rintro e w2 ⟨v, rfl, hown, hb2⟩; obtain ⟨g, cap, rfl⟩ := form1 hown; have hcg := cell1 hown; obtain ⟨hc2, hf2⟩ := bcell hb2; have hs2 : w.heap.size < w2.heap.size := Nat.lt_of_lt_of_le hs1 hb2.size)
    | (go_at_call 25; with_reducible refine (with25_off _ _ _ h4 _).mono ?_; rintro e w' ⟨rfl, hw⟩; have hw2 := hw.symm; clear hw; subst hw2))
  go_ret
  exact ⟨_, rfl, ⟨held_base hown (Nat.le_of_lt hs1), fun hq => by cases hq⟩, below_on (below_call hb1) hb2⟩

set_option maxHeartbeats 1000000 in
theorem reads14_ttf_same {op p lo hi n d a b i : Int} {D A B sg is : Bool} (R : Row p lo hi D A B n sg is) (hp : partsF op = p) (hm : mayR is D A B lo hi d a b i = true) (h128 : (bits BinOp.and IntKind.i64 p 128 != 0) = true) (h2 : (bits BinOp.and IntKind.i64 p 2 != 0) = true) (h4 : (bits BinOp.and IntKind.i64 p 4 != 0) = false) (hx : a = d) (w : World) :
    Calls Try.prog 14 #[.agg #[.int .i64 op, .int .i64 d, .int .i64 a, .int .i64 b, .int .i32 i]] w fun e w' => ∃ v, e = .returned v ∧ Held w' w.heap.size v [d] ∧ Below w.heap.size w w' := by
  subst hx
  go_enter Try.func14, Try.ntmps14
  go_wp2_with (first
    | (go_at_call 9; refine (check9_yes R hp hm _).mono ?_; rintro e w1 ⟨rfl, hb1⟩; obtain ⟨hc1, hf1⟩ := bcell hb1; have hs1 : w.heap.size < w1.heap.size := by have hq := hb1.size; simp at hq; omega)
    | (go_at_call 18; refine (parts18 op _).mono ?_; rintro e w' ⟨rfl, hw⟩; have hw2 := hw.symm; clear hw; subst hw2)
    | (go_at_call 25; with_reducible refine (with25_nil _ _ h128 _).mono ?_; rintro e w2 ⟨v, rfl, hown, hb2⟩; obtain ⟨g, cap, rfl⟩ := form1 hown; have hcg := cell1 hown; obtain ⟨hc2, hf2⟩ := bcell hb2; have hs2 : w.heap.size < w2.heap.size := Nat.lt_of_lt_of_le hs1 hb2.size)
    | (go_at_call 25; with_reducible refine (with25_same _ _ _ _ h2 _ hcg).mono ?_; rintro e w' ⟨rfl, hw⟩; have hw2 := hw.symm; clear hw; subst hw2)
    | (go_at_call 25; with_reducible refine (with25_off _ _ _ h4 _).mono ?_; rintro e w' ⟨rfl, hw⟩; have hw2 := hw.symm; clear hw; subst hw2))
  go_ret
  exact ⟨_, rfl, ⟨held_base hown (Nat.le_of_lt hs1), fun hq => by cases hq⟩, below_on (below_call hb1) hb2⟩

set_option maxHeartbeats 1000000 in
theorem reads14_ttf_two {op p lo hi n d a b i : Int} {D A B sg is : Bool} (R : Row p lo hi D A B n sg is) (hp : partsF op = p) (hm : mayR is D A B lo hi d a b i = true) (h128 : (bits BinOp.and IntKind.i64 p 128 != 0) = true) (h2 : (bits BinOp.and IntKind.i64 p 2 != 0) = true) (h4 : (bits BinOp.and IntKind.i64 p 4 != 0) = false) (hx : ¬ a = d) (w : World) :
    Calls Try.prog 14 #[.agg #[.int .i64 op, .int .i64 d, .int .i64 a, .int .i64 b, .int .i32 i]] w fun e w' => ∃ v, e = .returned v ∧ Held w' w.heap.size v [d, a] ∧ Below w.heap.size w w' := by
  go_enter Try.func14, Try.ntmps14
  go_wp2_with (first
    | (go_at_call 9; refine (check9_yes R hp hm _).mono ?_; rintro e w1 ⟨rfl, hb1⟩; obtain ⟨hc1, hf1⟩ := bcell hb1; have hs1 : w.heap.size < w1.heap.size := by have hq := hb1.size; simp at hq; omega)
    | (go_at_call 18; refine (parts18 op _).mono ?_; rintro e w' ⟨rfl, hw⟩; have hw2 := hw.symm; clear hw; subst hw2)
    | (go_at_call 25; with_reducible refine (with25_nil _ _ h128 _).mono ?_; rintro e w2 ⟨v, rfl, hown, hb2⟩; obtain ⟨g, cap, rfl⟩ := form1 hown; have hcg := cell1 hown; obtain ⟨hc2, hf2⟩ := bcell hb2; have hs2 : w.heap.size < w2.heap.size := Nat.lt_of_lt_of_le hs1 hb2.size)
    | (go_at_call 25; with_reducible refine (with25_grow _ _ _ _ _ h2 hx _ hown hb2.size hcg).mono ?_; rintro e w3 ⟨v2, rfl, hown2, hb3⟩; obtain ⟨hc3, hf3⟩ := bcellB hb3; have hs3 : w.heap.size < w3.heap.size := Nat.lt_of_lt_of_le hs2 hb3.size)
    | (go_at_call 25; with_reducible refine (with25_off _ _ _ h4 _).mono ?_; rintro e w' ⟨rfl, hw⟩; have hw2 := hw.symm; clear hw; subst hw2))
  go_ret
  exact ⟨_, rfl, ⟨held_base hown2 (Nat.le_of_lt hs1), fun hq => by cases hq⟩, below_two (below_on (below_call hb1) hb2) hb3 (Nat.le_of_lt hs1)⟩

set_option maxHeartbeats 1000000 in
theorem reads14_ftt_same {op p lo hi n d a b i : Int} {D A B sg is : Bool} (R : Row p lo hi D A B n sg is) (hp : partsF op = p) (hm : mayR is D A B lo hi d a b i = true) (h128 : (bits BinOp.and IntKind.i64 p 128 != 0) = false) (h2 : (bits BinOp.and IntKind.i64 p 2 != 0) = true) (h4 : (bits BinOp.and IntKind.i64 p 4 != 0) = true) (hx : b = a) (w : World) :
    Calls Try.prog 14 #[.agg #[.int .i64 op, .int .i64 d, .int .i64 a, .int .i64 b, .int .i32 i]] w fun e w' => ∃ v, e = .returned v ∧ Held w' w.heap.size v [a] ∧ Below w.heap.size w w' := by
  subst hx
  go_enter Try.func14, Try.ntmps14
  go_wp2_with (first
    | (go_at_call 9; refine (check9_yes R hp hm _).mono ?_; rintro e w1 ⟨rfl, hb1⟩; obtain ⟨hc1, hf1⟩ := bcell hb1; have hs1 : w.heap.size < w1.heap.size := by have hq := hb1.size; simp at hq; omega)
    | (go_at_call 18; refine (parts18 op _).mono ?_; rintro e w' ⟨rfl, hw⟩; have hw2 := hw.symm; clear hw; subst hw2)
    | (go_at_call 25; with_reducible refine (with25_off _ _ _ h128 _).mono ?_; rintro e w' ⟨rfl, hw⟩; have hw2 := hw.symm; clear hw; subst hw2)
    | (go_at_call 25; with_reducible refine (with25_nil _ _ h2 _).mono ?_; rintro e w2 ⟨v, rfl, hown, hb2⟩; obtain ⟨g, cap, rfl⟩ := form1 hown; have hcg := cell1 hown; obtain ⟨hc2, hf2⟩ := bcell hb2; have hs2 : w.heap.size < w2.heap.size := Nat.lt_of_lt_of_le hs1 hb2.size)
    | (go_at_call 25; with_reducible refine (with25_same _ _ _ _ h4 _ hcg).mono ?_; rintro e w' ⟨rfl, hw⟩; have hw2 := hw.symm; clear hw; subst hw2))
  go_ret
  exact ⟨_, rfl, ⟨held_base hown (Nat.le_of_lt hs1), fun hq => by cases hq⟩, below_on (below_call hb1) hb2⟩

set_option maxHeartbeats 1000000 in
theorem reads14_ftt_two {op p lo hi n d a b i : Int} {D A B sg is : Bool} (R : Row p lo hi D A B n sg is) (hp : partsF op = p) (hm : mayR is D A B lo hi d a b i = true) (h128 : (bits BinOp.and IntKind.i64 p 128 != 0) = false) (h2 : (bits BinOp.and IntKind.i64 p 2 != 0) = true) (h4 : (bits BinOp.and IntKind.i64 p 4 != 0) = true) (hx : ¬ b = a) (w : World) :
    Calls Try.prog 14 #[.agg #[.int .i64 op, .int .i64 d, .int .i64 a, .int .i64 b, .int .i32 i]] w fun e w' => ∃ v, e = .returned v ∧ Held w' w.heap.size v [a, b] ∧ Below w.heap.size w w' := by
  go_enter Try.func14, Try.ntmps14
  go_wp2_with (first
    | (go_at_call 9; refine (check9_yes R hp hm _).mono ?_; rintro e w1 ⟨rfl, hb1⟩; obtain ⟨hc1, hf1⟩ := bcell hb1; have hs1 : w.heap.size < w1.heap.size := by have hq := hb1.size; simp at hq; omega)
    | (go_at_call 18; refine (parts18 op _).mono ?_; rintro e w' ⟨rfl, hw⟩; have hw2 := hw.symm; clear hw; subst hw2)
    | (go_at_call 25; with_reducible refine (with25_off _ _ _ h128 _).mono ?_; rintro e w' ⟨rfl, hw⟩; have hw2 := hw.symm; clear hw; subst hw2)
    | (go_at_call 25; with_reducible refine (with25_nil _ _ h2 _).mono ?_; rintro e w2 ⟨v, rfl, hown, hb2⟩; obtain ⟨g, cap, rfl⟩ := form1 hown; have hcg := cell1 hown; obtain ⟨hc2, hf2⟩ := bcell hb2; have hs2 : w.heap.size < w2.heap.size := Nat.lt_of_lt_of_le hs1 hb2.size)
    | (go_at_call 25; with_reducible refine (with25_grow _ _ _ _ _ h4 hx _ hown hb2.size hcg).mono ?_; rintro e w3 ⟨v2, rfl, hown2, hb3⟩; obtain ⟨hc3, hf3⟩ := bcellB hb3; have hs3 : w.heap.size < w3.heap.size := Nat.lt_of_lt_of_le hs2 hb3.size))
  go_ret
  exact ⟨_, rfl, ⟨held_base hown2 (Nat.le_of_lt hs1), fun hq => by cases hq⟩, below_two (below_on (below_call hb1) hb2) hb3 (Nat.le_of_lt hs1)⟩

end Go.Proofs.Ytjipahjhaeidhaa
