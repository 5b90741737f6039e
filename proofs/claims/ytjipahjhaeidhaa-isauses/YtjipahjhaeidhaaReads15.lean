/- The contracts of the document's answer to Reads: the registers that an instruction reads, row by row, in new memory. -/
import Derived.Test.YtjipahjhaeidhaaReads
import Derived.Test.YtjipahjhaeidhaaShapedAt
import Derived.WalkKit
import Derived.Deep.QuietTactic
import Derived.BigQuiet
namespace Go.Proofs.Ytjipahjhaeidhaa
open Go.RowKit

theorem undrewN {B n : Nat} {w w3 : World} (h : Below B (w.drewN n) w3) : Below B w w3 := ⟨h.os, h.tape, h.output, h.size, h.block⟩
theorem drewN_below {B n : Nat} {w w2 : World} (h : Below B w w2) : Below B w (w2.drewN n) := ⟨h.os, h.tape, h.output, h.size, h.block⟩
theorem cell_new (w : World) (v : Value) : (w.alloc (.cells #[v] 3)).cell? ⟨w.heap.size, 0, none⟩ = some v := by simp
theorem below_shapes {w w1 : World} {o o2 o3 : Obj} (hb : Below (w.alloc o).heap.size (w.alloc o) w1) : Below w.heap.size w ((w1.alloc o2).alloc o3) :=
  ((below_call hb).alloc (below_call hb).size _).alloc (by have := (below_call hb).size; simp; omega) _

set_option maxHeartbeats 1000000 in
theorem reads15_no {op p lo hi n d a b i : Int} {D A B sg is : Bool} (R : Row p lo hi D A B n sg is) (hp : partsF op = p) (i0 : -2147483648 ≤ i) (i1 : i ≤ 2147483647)
    (hm : mayR is D A B lo hi d a b i = false) (w : World) :
    Calls Try.prog 15 #[.agg #[.int .i64 op, .int .i64 d, .int .i64 a, .int .i64 b, .int .i32 i]] w fun e w' => ∃ v, e = .returned v ∧ Held w' w.heap.size v [] ∧ Below w.heap.size w w' := by
  go_enter Try.func15, Try.ntmps15
  go_wp2_with (go_at_call 19; refine (may19_no R hp i0 i1 hm _).mono ?_; rintro e w1 ⟨rfl, hb1⟩; obtain ⟨hc1, hf1⟩ := bcell hb1; have hs1 : w.heap.size < w1.heap.size := by have hq := hb1.size; simp at hq; omega)
  go_ret
  exact ⟨_, rfl, ⟨World.ownsRow_nil _ _ _ _, fun _ => rfl⟩, below_call hb1⟩

set_option maxHeartbeats 1000000 in
theorem reads15_fff {op p lo hi n d a b i : Int} {D sg is : Bool} (R : Row p lo hi D false false n sg is) (hp : partsF op = p) (i0 : -2147483648 ≤ i) (i1 : i ≤ 2147483647)
    (hm : mayR is D false false lo hi d a b i = true) (h34 : (op == 34) = false) (h37 : (op == 37) = false) (h38 : (op == 38) = false) (w : World) :
    Calls Try.prog 15 #[.agg #[.int .i64 op, .int .i64 d, .int .i64 a, .int .i64 b, .int .i32 i]] w fun e w' => ∃ v, e = .returned v ∧ Held w' w.heap.size v [] ∧ Below w.heap.size w w' := by
  go_enter Try.func15, Try.ntmps15
  go_wp2_with (first
    | (go_at_call 19; refine (may19_yes R hp i0 i1 hm _).mono ?_; rintro e w1 ⟨rfl, hb1⟩; obtain ⟨hc1, hf1⟩ := bcell hb1; have hs1 : w.heap.size < w1.heap.size := by have hq := hb1.size; simp at hq; omega)
    | (go_at_call 20; refine (shapedAt20 R hp _).mono ?_; rintro e w' ⟨rfl, rfl⟩))
  go_quiet (fail)
  go_wp2
  go_ret
  exact ⟨_, rfl, ⟨World.ownsRow_nil _ _ _ _, fun _ => rfl⟩, drewN_below (below_shapes hb1)⟩

set_option maxHeartbeats 1000000 in
theorem reads15_tff {p lo hi n d a b i : Int} {D sg is : Bool} (R : Row p lo hi D false false n sg is) (hp : partsF 34 = p) (i0 : -2147483648 ≤ i) (i1 : i ≤ 2147483647)
    (hm : mayR is D false false lo hi d a b i = true) (w : World) :
    Calls Try.prog 15 #[.agg #[.int .i64 34, .int .i64 d, .int .i64 a, .int .i64 b, .int .i32 i]] w fun e w' => ∃ v, e = .returned v ∧ Held w' w.heap.size v [d] ∧ Below w.heap.size w w' := by
  obtain ⟨t0, hti, hz0, hz1, hz2⟩ := info_parts info3
  go_enter Try.func15, Try.ntmps15
  go_wp2_with (first
    | (go_at_call 19; refine (may19_yes R hp i0 i1 hm _).mono ?_; rintro e w1 ⟨rfl, hb1⟩; obtain ⟨hc1, hf1⟩ := bcell hb1; have hs1 : w.heap.size < w1.heap.size := by have hq := hb1.size; simp at hq; omega)
    | (go_at_call 20; refine (shapedAt20 R hp _).mono ?_; rintro e w' ⟨rfl, rfl⟩)
    | (at_builtin; refine wpList_append_own _ rfl _ _ 34 rfl (w1.heap.size + 1 + 1) 3 t0 (.int .i64 0) 1 8 Try.underlying34 hti hz0 hz1 hz2 rfl (by decide) _ _ _ rfl (World.ownsRow_nil _ _ 3 1) ⟨_, 0, none⟩ 1 1 [.int .i64 d] rfl rfl ?c1 ?c2 ?c3 ?c4 ?c5 ?_))
  case c1 =>
    intro j u hj
    match j, hj with
    | 0, hj => simp at hj; subst hj; simp [Addr.add, go_sem]
  case c2 => intro u hu; simp at hu; subst hu; rfl
  case c3 => unfold maxLen; omega
  case c4 => omega
  case c5 => simp
  · intro v' w2 hown hgrow _
    have hbg := below_append (base := w1.heap.size + 1 + 1) hgrow (by simp) (fun k hk => by simp [Value.ownBlock] at hk)
    have hb2 := hbg
    obtain ⟨g, cap, rfl⟩ := form1 hown
    have hcg := cell1 hown
    obtain ⟨hc2, hf2⟩ := bcellB hb2
    have hs2 : w1.heap.size + 1 < w2.heap.size := by have hq := hb2.size; simp at hq; omega
    have hs3 : w.heap.size < w2.heap.size := by omega
    have hs4 : w.heap.size < w1.heap.size + 1 + 1 := by omega
    have hg := (hown.lt g rfl).1
    clear hgrow hbg
    go_wp2
    go_quiet (fail)
    go_wp2
    go_ret
    exact ⟨_, rfl, ⟨held_base hown (by omega), fun hq => by cases hq⟩, drewN_below (below_two (below_shapes hb1) hb2 (by omega))⟩

set_option maxHeartbeats 1000000 in
theorem reads15_ttf_same37 {p lo hi n d a b i : Int} {D sg is : Bool} (R : Row p lo hi D true false n sg is) (hp : partsF 37 = p) (i0 : -2147483648 ≤ i) (i1 : i ≤ 2147483647)
    (hm : mayR is D true false lo hi d a b i = true) (hx : a = d) (w : World) :
    Calls Try.prog 15 #[.agg #[.int .i64 37, .int .i64 d, .int .i64 a, .int .i64 b, .int .i32 i]] w fun e w' => ∃ v, e = .returned v ∧ Held w' w.heap.size v [d] ∧ Below w.heap.size w w' := by
  subst hx
  obtain ⟨t0, hti, hz0, hz1, hz2⟩ := info_parts info3
  go_enter Try.func15, Try.ntmps15
  go_wp2_with (first
    | (go_at_call 19; refine (may19_yes R hp i0 i1 hm _).mono ?_; rintro e w1 ⟨rfl, hb1⟩; obtain ⟨hc1, hf1⟩ := bcell hb1; have hs1 : w.heap.size < w1.heap.size := by have hq := hb1.size; simp at hq; omega)
    | (go_at_call 20; refine (shapedAt20 R hp _).mono ?_; rintro e w' ⟨rfl, rfl⟩)
    | (at_builtin; refine wpList_append_own _ rfl _ _ 34 rfl (w1.heap.size + 1 + 1) 3 t0 (.int .i64 0) 1 8 Try.underlying34 hti hz0 hz1 hz2 rfl (by decide) _ _ _ rfl (World.ownsRow_nil _ _ 3 1) ⟨_, 0, none⟩ 1 1 [.int .i64 a] rfl rfl ?c1 ?c2 ?c3 ?c4 ?c5 ?_))
  case c1 =>
    intro j u hj
    match j, hj with
    | 0, hj => simp at hj; subst hj; simp [Addr.add, go_sem]
  case c2 => intro u hu; simp at hu; subst hu; rfl
  case c3 => unfold maxLen; omega
  case c4 => omega
  case c5 => simp
  · intro v' w2 hown hgrow _
    have hbg := below_append (base := w1.heap.size + 1 + 1) hgrow (by simp) (fun k hk => by simp [Value.ownBlock] at hk)
    have hb2 := hbg
    obtain ⟨g, cap, rfl⟩ := form1 hown
    have hcg := cell1 hown
    obtain ⟨hc2, hf2⟩ := bcellB hb2
    have hs2 : w1.heap.size + 1 < w2.heap.size := by have hq := hb2.size; simp at hq; omega
    have hs3 : w.heap.size < w2.heap.size := by omega
    have hs4 : w.heap.size < w1.heap.size + 1 + 1 := by omega
    have hg := (hown.lt g rfl).1
    clear hgrow hbg
    go_wp2
    go_quiet (fail)
    go_wp2
    go_ret
    exact ⟨_, rfl, ⟨held_base hown (by omega), fun hq => by cases hq⟩, drewN_below (below_two (below_shapes hb1) hb2 (by omega))⟩

set_option maxHeartbeats 1000000 in
theorem reads15_ttf_two37 {p lo hi n d a b i : Int} {D sg is : Bool} (R : Row p lo hi D true false n sg is) (hp : partsF 37 = p) (i0 : -2147483648 ≤ i) (i1 : i ≤ 2147483647)
    (hm : mayR is D true false lo hi d a b i = true) (hx : ¬ a = d) (w : World) :
    Calls Try.prog 15 #[.agg #[.int .i64 37, .int .i64 d, .int .i64 a, .int .i64 b, .int .i32 i]] w fun e w' => ∃ v, e = .returned v ∧ Held w' w.heap.size v [d, a] ∧ Below w.heap.size w w' := by
  have hda : (d != a) = true := by simp; exact fun h => hx h.symm
  obtain ⟨t0, hti, hz0, hz1, hz2⟩ := info_parts info3
  go_enter Try.func15, Try.ntmps15
  go_wp2_with (first
    | (go_at_call 19; refine (may19_yes R hp i0 i1 hm _).mono ?_; rintro e w1 ⟨rfl, hb1⟩; obtain ⟨hc1, hf1⟩ := bcell hb1; have hs1 : w.heap.size < w1.heap.size := by have hq := hb1.size; simp at hq; omega)
    | (go_at_call 20; refine (shapedAt20 R hp _).mono ?_; rintro e w' ⟨rfl, rfl⟩)
    | (at_builtin; refine wpList_append_own _ rfl _ _ 34 rfl (w1.heap.size + 1 + 1) 3 t0 (.int .i64 0) 1 8 Try.underlying34 hti hz0 hz1 hz2 rfl (by decide) _ _ _ rfl (World.ownsRow_nil _ _ 3 1) ⟨_, 0, none⟩ 1 1 [.int .i64 d] rfl rfl ?c1 ?c2 ?c3 ?c4 ?c5 ?_))
  case c1 =>
    intro j u hj
    match j, hj with
    | 0, hj => simp at hj; subst hj; simp [Addr.add, go_sem]
  case c2 => intro u hu; simp at hu; subst hu; rfl
  case c3 => unfold maxLen; omega
  case c4 => omega
  case c5 => simp
  · intro v' w2 hown hgrow _
    have hbg := below_append (base := w1.heap.size + 1 + 1) hgrow (by simp) (fun k hk => by simp [Value.ownBlock] at hk)
    have hb2 := hbg
    obtain ⟨g, cap, rfl⟩ := form1 hown
    have hcg := cell1 hown
    obtain ⟨hc2, hf2⟩ := bcellB hb2
    have hs2 : w1.heap.size + 1 < w2.heap.size := by have hq := hb2.size; simp at hq; omega
    have hs3 : w.heap.size < w2.heap.size := by omega
    have hs4 : w.heap.size < w1.heap.size + 1 + 1 := by omega
    have hg := (hown.lt g rfl).1
    clear hgrow hbg
    go_wp2
    go_quiet (fail)
    go_wp2_with (at_builtin; refine wpList_append_own _ rfl _ _ 34 rfl (w1.heap.size + 1 + 1) 3 t0 (.int .i64 0) 1 8 Try.underlying34 hti hz0 hz1 hz2 rfl (by decide) _ _ _ rfl (World.ownsRow.alloc (w := w2.drewN nq) hown _) ⟨_, 0, none⟩ 1 1 [.int .i64 a] rfl rfl ?d1 ?d2 ?d3 ?d4 ?d5 ?_)
    case d1 =>
      intro j u hj
      match j, hj with
      | 0, hj => simp at hj; subst hj; exact cell_new (w2.drewN nq) _
    case d2 => intro u hu; simp at hu; subst hu; rfl
    case d3 => unfold maxLen; omega
    case d4 => omega
    case d5 => have hq := hs2; simp; omega
    · intro v2 w3 hown2 hgrow2 _
      have hbg2 := below_append (base := w1.heap.size + 1 + 1) hgrow2 (by have hq := hs2; simp; omega) (fun k hk => by simp [Value.ownBlock] at hk; omega)
      have hb3 := undrewN hbg2
      obtain ⟨hc3, hf3⟩ := bcellB hb3
      have hs5 : w1.heap.size + 1 < w3.heap.size := by have hq := hb3.size; omega
      have hs6 : w.heap.size < w3.heap.size := by omega
      clear hgrow2 hbg2
      go_wp2
      go_ret
      exact ⟨_, rfl, ⟨held_base hown2 (by omega), fun hq => by cases hq⟩, below_two (below_two (below_shapes hb1) hb2 (by omega)) hb3 (by omega)⟩

set_option maxHeartbeats 1000000 in
theorem reads15_ttf_same38 {p lo hi n d a b i : Int} {D sg is : Bool} (R : Row p lo hi D true false n sg is) (hp : partsF 38 = p) (i0 : -2147483648 ≤ i) (i1 : i ≤ 2147483647)
    (hm : mayR is D true false lo hi d a b i = true) (hx : a = d) (w : World) :
    Calls Try.prog 15 #[.agg #[.int .i64 38, .int .i64 d, .int .i64 a, .int .i64 b, .int .i32 i]] w fun e w' => ∃ v, e = .returned v ∧ Held w' w.heap.size v [d] ∧ Below w.heap.size w w' := by
  subst hx
  obtain ⟨t0, hti, hz0, hz1, hz2⟩ := info_parts info3
  go_enter Try.func15, Try.ntmps15
  go_wp2_with (first
    | (go_at_call 19; refine (may19_yes R hp i0 i1 hm _).mono ?_; rintro e w1 ⟨rfl, hb1⟩; obtain ⟨hc1, hf1⟩ := bcell hb1; have hs1 : w.heap.size < w1.heap.size := by have hq := hb1.size; simp at hq; omega)
    | (go_at_call 20; refine (shapedAt20 R hp _).mono ?_; rintro e w' ⟨rfl, rfl⟩)
    | (at_builtin; refine wpList_append_own _ rfl _ _ 34 rfl (w1.heap.size + 1 + 1) 3 t0 (.int .i64 0) 1 8 Try.underlying34 hti hz0 hz1 hz2 rfl (by decide) _ _ _ rfl (World.ownsRow_nil _ _ 3 1) ⟨_, 0, none⟩ 1 1 [.int .i64 a] rfl rfl ?c1 ?c2 ?c3 ?c4 ?c5 ?_))
  case c1 =>
    intro j u hj
    match j, hj with
    | 0, hj => simp at hj; subst hj; simp [Addr.add, go_sem]
  case c2 => intro u hu; simp at hu; subst hu; rfl
  case c3 => unfold maxLen; omega
  case c4 => omega
  case c5 => simp
  · intro v' w2 hown hgrow _
    have hbg := below_append (base := w1.heap.size + 1 + 1) hgrow (by simp) (fun k hk => by simp [Value.ownBlock] at hk)
    have hb2 := hbg
    obtain ⟨g, cap, rfl⟩ := form1 hown
    have hcg := cell1 hown
    obtain ⟨hc2, hf2⟩ := bcellB hb2
    have hs2 : w1.heap.size + 1 < w2.heap.size := by have hq := hb2.size; simp at hq; omega
    have hs3 : w.heap.size < w2.heap.size := by omega
    have hs4 : w.heap.size < w1.heap.size + 1 + 1 := by omega
    have hg := (hown.lt g rfl).1
    clear hgrow hbg
    go_wp2
    go_quiet (fail)
    go_wp2
    go_ret
    exact ⟨_, rfl, ⟨held_base hown (by omega), fun hq => by cases hq⟩, drewN_below (below_two (below_shapes hb1) hb2 (by omega))⟩

set_option maxHeartbeats 1000000 in
theorem reads15_ttf_two38 {p lo hi n d a b i : Int} {D sg is : Bool} (R : Row p lo hi D true false n sg is) (hp : partsF 38 = p) (i0 : -2147483648 ≤ i) (i1 : i ≤ 2147483647)
    (hm : mayR is D true false lo hi d a b i = true) (hx : ¬ a = d) (w : World) :
    Calls Try.prog 15 #[.agg #[.int .i64 38, .int .i64 d, .int .i64 a, .int .i64 b, .int .i32 i]] w fun e w' => ∃ v, e = .returned v ∧ Held w' w.heap.size v [d, a] ∧ Below w.heap.size w w' := by
  have hda : (d != a) = true := by simp; exact fun h => hx h.symm
  obtain ⟨t0, hti, hz0, hz1, hz2⟩ := info_parts info3
  go_enter Try.func15, Try.ntmps15
  go_wp2_with (first
    | (go_at_call 19; refine (may19_yes R hp i0 i1 hm _).mono ?_; rintro e w1 ⟨rfl, hb1⟩; obtain ⟨hc1, hf1⟩ := bcell hb1; have hs1 : w.heap.size < w1.heap.size := by have hq := hb1.size; simp at hq; omega)
    | (go_at_call 20; refine (shapedAt20 R hp _).mono ?_; rintro e w' ⟨rfl, rfl⟩)
    | (at_builtin; refine wpList_append_own _ rfl _ _ 34 rfl (w1.heap.size + 1 + 1) 3 t0 (.int .i64 0) 1 8 Try.underlying34 hti hz0 hz1 hz2 rfl (by decide) _ _ _ rfl (World.ownsRow_nil _ _ 3 1) ⟨_, 0, none⟩ 1 1 [.int .i64 d] rfl rfl ?c1 ?c2 ?c3 ?c4 ?c5 ?_))
  case c1 =>
    intro j u hj
    match j, hj with
    | 0, hj => simp at hj; subst hj; simp [Addr.add, go_sem]
  case c2 => intro u hu; simp at hu; subst hu; rfl
  case c3 => unfold maxLen; omega
  case c4 => omega
  case c5 => simp
  · intro v' w2 hown hgrow _
    have hbg := below_append (base := w1.heap.size + 1 + 1) hgrow (by simp) (fun k hk => by simp [Value.ownBlock] at hk)
    have hb2 := hbg
    obtain ⟨g, cap, rfl⟩ := form1 hown
    have hcg := cell1 hown
    obtain ⟨hc2, hf2⟩ := bcellB hb2
    have hs2 : w1.heap.size + 1 < w2.heap.size := by have hq := hb2.size; simp at hq; omega
    have hs3 : w.heap.size < w2.heap.size := by omega
    have hs4 : w.heap.size < w1.heap.size + 1 + 1 := by omega
    have hg := (hown.lt g rfl).1
    clear hgrow hbg
    go_wp2
    go_quiet (fail)
    go_wp2_with (at_builtin; refine wpList_append_own _ rfl _ _ 34 rfl (w1.heap.size + 1 + 1) 3 t0 (.int .i64 0) 1 8 Try.underlying34 hti hz0 hz1 hz2 rfl (by decide) _ _ _ rfl (World.ownsRow.alloc (w := w2.drewN nq) hown _) ⟨_, 0, none⟩ 1 1 [.int .i64 a] rfl rfl ?d1 ?d2 ?d3 ?d4 ?d5 ?_)
    case d1 =>
      intro j u hj
      match j, hj with
      | 0, hj => simp at hj; subst hj; exact cell_new (w2.drewN nq) _
    case d2 => intro u hu; simp at hu; subst hu; rfl
    case d3 => unfold maxLen; omega
    case d4 => omega
    case d5 => have hq := hs2; simp; omega
    · intro v2 w3 hown2 hgrow2 _
      have hbg2 := below_append (base := w1.heap.size + 1 + 1) hgrow2 (by have hq := hs2; simp; omega) (fun k hk => by simp [Value.ownBlock] at hk; omega)
      have hb3 := undrewN hbg2
      obtain ⟨hc3, hf3⟩ := bcellB hb3
      have hs5 : w1.heap.size + 1 < w3.heap.size := by have hq := hb3.size; omega
      have hs6 : w.heap.size < w3.heap.size := by omega
      clear hgrow2 hbg2
      go_wp2
      go_ret
      exact ⟨_, rfl, ⟨held_base hown2 (by omega), fun hq => by cases hq⟩, below_two (below_two (below_shapes hb1) hb2 (by omega)) hb3 (by omega)⟩

set_option maxHeartbeats 1000000 in
theorem reads15_ftf {op p lo hi n d a b i : Int} {D sg is : Bool} (R : Row p lo hi D true false n sg is) (hp : partsF op = p) (i0 : -2147483648 ≤ i) (i1 : i ≤ 2147483647)
    (hm : mayR is D true false lo hi d a b i = true) (h34 : (op == 34) = false) (h37 : (op == 37) = false) (h38 : (op == 38) = false) (w : World) :
    Calls Try.prog 15 #[.agg #[.int .i64 op, .int .i64 d, .int .i64 a, .int .i64 b, .int .i32 i]] w fun e w' => ∃ v, e = .returned v ∧ Held w' w.heap.size v [a] ∧ Below w.heap.size w w' := by
  obtain ⟨t0, hti, hz0, hz1, hz2⟩ := info_parts info3
  go_enter Try.func15, Try.ntmps15
  go_wp2_with (first
    | (go_at_call 19; refine (may19_yes R hp i0 i1 hm _).mono ?_; rintro e w1 ⟨rfl, hb1⟩; obtain ⟨hc1, hf1⟩ := bcell hb1; have hs1 : w.heap.size < w1.heap.size := by have hq := hb1.size; simp at hq; omega)
    | (go_at_call 20; refine (shapedAt20 R hp _).mono ?_; rintro e w' ⟨rfl, rfl⟩))
  go_quiet (fail)
  go_wp2_with (at_builtin; refine wpList_append_own _ rfl _ _ 34 rfl (w1.heap.size + 1 + 1) 3 t0 (.int .i64 0) 1 8 Try.underlying34 hti hz0 hz1 hz2 rfl (by decide) _ _ _ rfl (World.ownsRow_nil _ _ 3 1) ⟨_, 0, none⟩ 1 1 [.int .i64 a] rfl rfl ?c1 ?c2 ?c3 ?c4 ?c5 ?_)
  case c1 =>
    intro j u hj
    match j, hj with
    | 0, hj => simp at hj; subst hj; simp [Addr.add, go_sem]
  case c2 => intro u hu; simp at hu; subst hu; rfl
  case c3 => unfold maxLen; omega
  case c4 => omega
  case c5 => simp
  · intro v' w2 hown hgrow _
    have hbg := below_append (base := w1.heap.size + 1 + 1) hgrow (by simp) (fun k hk => by simp [Value.ownBlock] at hk)
    have hb2 := undrewN hbg
    obtain ⟨g, cap, rfl⟩ := form1 hown
    have hcg := cell1 hown
    obtain ⟨hc2, hf2⟩ := bcellB hb2
    have hs2 : w1.heap.size + 1 < w2.heap.size := by have hq := hb2.size; simp at hq; omega
    have hs3 : w.heap.size < w2.heap.size := by omega
    have hs4 : w.heap.size < w1.heap.size + 1 + 1 := by omega
    have hg := (hown.lt g rfl).1
    clear hgrow hbg
    go_wp2
    go_ret
    exact ⟨_, rfl, ⟨held_base hown (by omega), fun hq => by cases hq⟩, below_two (below_shapes hb1) hb2 (by omega)⟩

set_option maxHeartbeats 1000000 in
theorem reads15_ftt_same {op p lo hi n d a b i : Int} {D sg is : Bool} (R : Row p lo hi D true true n sg is) (hp : partsF op = p) (i0 : -2147483648 ≤ i) (i1 : i ≤ 2147483647)
    (hm : mayR is D true true lo hi d a b i = true) (h34 : (op == 34) = false) (h37 : (op == 37) = false) (h38 : (op == 38) = false) (hx : b = a) (w : World) :
    Calls Try.prog 15 #[.agg #[.int .i64 op, .int .i64 d, .int .i64 a, .int .i64 b, .int .i32 i]] w fun e w' => ∃ v, e = .returned v ∧ Held w' w.heap.size v [a] ∧ Below w.heap.size w w' := by
  subst hx
  obtain ⟨t0, hti, hz0, hz1, hz2⟩ := info_parts info3
  go_enter Try.func15, Try.ntmps15
  go_wp2_with (first
    | (go_at_call 19; refine (may19_yes R hp i0 i1 hm _).mono ?_; rintro e w1 ⟨rfl, hb1⟩; obtain ⟨hc1, hf1⟩ := bcell hb1; have hs1 : w.heap.size < w1.heap.size := by have hq := hb1.size; simp at hq; omega)
    | (go_at_call 20; refine (shapedAt20 R hp _).mono ?_; rintro e w' ⟨rfl, rfl⟩))
  go_quiet (fail)
  go_wp2_with (at_builtin; refine wpList_append_own _ rfl _ _ 34 rfl (w1.heap.size + 1 + 1) 3 t0 (.int .i64 0) 1 8 Try.underlying34 hti hz0 hz1 hz2 rfl (by decide) _ _ _ rfl (World.ownsRow_nil _ _ 3 1) ⟨_, 0, none⟩ 1 1 [.int .i64 b] rfl rfl ?c1 ?c2 ?c3 ?c4 ?c5 ?_)
  case c1 =>
    intro j u hj
    match j, hj with
    | 0, hj => simp at hj; subst hj; simp [Addr.add, go_sem]
  case c2 => intro u hu; simp at hu; subst hu; rfl
  case c3 => unfold maxLen; omega
  case c4 => omega
  case c5 => simp
  · intro v' w2 hown hgrow _
    have hbg := below_append (base := w1.heap.size + 1 + 1) hgrow (by simp) (fun k hk => by simp [Value.ownBlock] at hk)
    have hb2 := undrewN hbg
    obtain ⟨g, cap, rfl⟩ := form1 hown
    have hcg := cell1 hown
    obtain ⟨hc2, hf2⟩ := bcellB hb2
    have hs2 : w1.heap.size + 1 < w2.heap.size := by have hq := hb2.size; simp at hq; omega
    have hs3 : w.heap.size < w2.heap.size := by omega
    have hs4 : w.heap.size < w1.heap.size + 1 + 1 := by omega
    have hg := (hown.lt g rfl).1
    clear hgrow hbg
    go_wp2
    go_ret
    exact ⟨_, rfl, ⟨held_base hown (by omega), fun hq => by cases hq⟩, below_two (below_shapes hb1) hb2 (by omega)⟩

set_option maxHeartbeats 1000000 in
theorem reads15_ftt_two {op p lo hi n d a b i : Int} {D sg is : Bool} (R : Row p lo hi D true true n sg is) (hp : partsF op = p) (i0 : -2147483648 ≤ i) (i1 : i ≤ 2147483647)
    (hm : mayR is D true true lo hi d a b i = true) (h34 : (op == 34) = false) (h37 : (op == 37) = false) (h38 : (op == 38) = false) (hx : ¬ b = a) (w : World) :
    Calls Try.prog 15 #[.agg #[.int .i64 op, .int .i64 d, .int .i64 a, .int .i64 b, .int .i32 i]] w fun e w' => ∃ v, e = .returned v ∧ Held w' w.heap.size v [a, b] ∧ Below w.heap.size w w' := by
  have hba : (b != a) = true := by simp; exact hx
  obtain ⟨t0, hti, hz0, hz1, hz2⟩ := info_parts info3
  go_enter Try.func15, Try.ntmps15
  go_wp2_with (first
    | (go_at_call 19; refine (may19_yes R hp i0 i1 hm _).mono ?_; rintro e w1 ⟨rfl, hb1⟩; obtain ⟨hc1, hf1⟩ := bcell hb1; have hs1 : w.heap.size < w1.heap.size := by have hq := hb1.size; simp at hq; omega)
    | (go_at_call 20; refine (shapedAt20 R hp _).mono ?_; rintro e w' ⟨rfl, rfl⟩))
  go_quiet (fail)
  go_wp2_with (at_builtin; refine wpList_append_own _ rfl _ _ 34 rfl (w1.heap.size + 1 + 1) 3 t0 (.int .i64 0) 1 8 Try.underlying34 hti hz0 hz1 hz2 rfl (by decide) _ _ _ rfl (World.ownsRow_nil _ _ 3 1) ⟨_, 0, none⟩ 1 1 [.int .i64 a] rfl rfl ?c1 ?c2 ?c3 ?c4 ?c5 ?_)
  case c1 =>
    intro j u hj
    match j, hj with
    | 0, hj => simp at hj; subst hj; simp [Addr.add, go_sem]
  case c2 => intro u hu; simp at hu; subst hu; rfl
  case c3 => unfold maxLen; omega
  case c4 => omega
  case c5 => simp
  · intro v' w2 hown hgrow _
    have hbg := below_append (base := w1.heap.size + 1 + 1) hgrow (by simp) (fun k hk => by simp [Value.ownBlock] at hk)
    have hb2 := undrewN hbg
    obtain ⟨g, cap, rfl⟩ := form1 hown
    have hcg := cell1 hown
    obtain ⟨hc2, hf2⟩ := bcellB hb2
    have hs2 : w1.heap.size + 1 < w2.heap.size := by have hq := hb2.size; simp at hq; omega
    have hs3 : w.heap.size < w2.heap.size := by omega
    have hs4 : w.heap.size < w1.heap.size + 1 + 1 := by omega
    have hg := (hown.lt g rfl).1
    clear hgrow hbg
    go_wp2_with (at_builtin; refine wpList_append_own _ rfl _ _ 34 rfl (w1.heap.size + 1 + 1) 3 t0 (.int .i64 0) 1 8 Try.underlying34 hti hz0 hz1 hz2 rfl (by decide) _ _ _ rfl (World.ownsRow.alloc hown _) ⟨_, 0, none⟩ 1 1 [.int .i64 b] rfl rfl ?d1 ?d2 ?d3 ?d4 ?d5 ?_)
    case d1 =>
      intro j u hj
      match j, hj with
      | 0, hj => simp at hj; subst hj; simp [Addr.add, go_sem]
    case d2 => intro u hu; simp at hu; subst hu; rfl
    case d3 => unfold maxLen; omega
    case d4 => omega
    case d5 => have hq := hs2; simp; omega
    · intro v2 w3 hown2 hgrow2 _
      have hbg2 := below_append (base := w1.heap.size + 1 + 1) hgrow2 (by have hq := hs2; simp; omega) (fun k hk => by simp [Value.ownBlock] at hk; omega)
      have hb3 := hbg2
      obtain ⟨hc3, hf3⟩ := bcellB hb3
      have hs5 : w1.heap.size + 1 < w3.heap.size := by have hq := hb3.size; omega
      have hs6 : w.heap.size < w3.heap.size := by omega
      clear hgrow2 hbg2
      go_wp2
      go_ret
      exact ⟨_, rfl, ⟨held_base hown2 (by omega), fun hq => by cases hq⟩, below_two (below_two (below_shapes hb1) hb2 (by omega)) hb3 (by omega)⟩

end Go.Proofs.Ytjipahjhaeidhaa
