/- The document's put. -/
import Derived.Test.YtgnlplddppheiaaAsm
import Derived.Test.YtgnlplddppheiaaRSetP
namespace Go.Proofs.Ytgnlplddppheiaa
open Go.RowKit Go.Maps
set_option linter.unusedVariables false

theorem encode34 (op d a b i : Int) (j0 : -2147483648 ≤ i) (j1 : i ≤ 2147483647) (w : World) :
    Calls Try.prog 34 #[.agg #[.int .i64 op, .int .i64 d, .int .i64 a, .int .i64 b, .int .i32 i]] w fun e w' => ∃ er, e = .returned (.tuple #[.int .u32 (wdI op d a b i : Int), .int .i64 er]) ∧ Below w.heap.size w w' := by
  cases h : mayI op d a b i
  · refine (encode8_no (row_of op) rfl j0 j1 h w).mono ?_
    rintro e w' ⟨rfl, hb⟩
    exact ⟨1, by simp [wdI, h], hb⟩
  · refine (encode8_yes (row_of op) rfl j0 j1 h w).mono ?_
    rintro e w' ⟨rfl, hb⟩
    have := wordF_range h
    refine ⟨0, ?_, hb⟩
    unfold wdI
    rw [if_pos h, Int.toNat_of_nonneg this.1]

set_option maxRecDepth 100000 in
set_option maxHeartbeats 2000000 in
theorem put22 {w : World} {base : Nat} {v : Value} {l : List UInt8} (op d a b i : Int) (j0 : -2147483648 ≤ i) (j1 : i ≤ 2147483647) (hown : w.ownsRow base 5 1 v l.length (vals l)) (hl : l.length ≤ 4000000) (hbase : base ≤ w.heap.size) :
    Calls Try.prog 22 #[v, .agg #[.int .i64 op, .int .i64 d, .int .i64 a, .int .i64 b, .int .i32 i]] w fun e w' => ∃ v', e = .returned v' ∧ w'.ownsRow base 5 1 v' (l ++ wdL (wdI op d a b i)).length (vals (l ++ wdL (wdI op d a b i))) ∧ Kept (fun b => v.ownBlock = some b) w w' ∧ (v'.ownBlock = v.ownBlock ∨ ∃ b, v'.ownBlock = some b ∧ w.heap.size ≤ b) := by
  obtain ⟨i0, hi, hz0, hz1, hz2⟩ := info_parts info5'
  have hE := encode34 op d a b i j0 j1
  have hn := wdI_lt op d a b i
  generalize wdI op d a b i = n at *
  have s8 : (n : Int) / 2 ^ 8 = (n : Int) / 256 := by omega
  go_enter Try.func22, Try.ntmps22
  go_wp2_with (first
    | (go_at_call 34; refine (hE _).mono ?_; rintro e w1 ⟨er, rfl, hb1⟩)
    | (at_builtin; refine of_mark ?_))
  unfold Mark
  have hO1 := (Kept.of_below (S := fun _ => False) (below_call hb1)).owns hown (fun _ _ e => e)
  have hs1 : w.heap.size ≤ w1.heap.size := (below_call hb1).size
  refine wpList_append_own_at _ rfl _ _ 50 rfl base 5 i0 (.int .u8 0) 1 1 Try.underlying50 hi hz0 hz1 hz2 rfl (by decide) v _ _ rfl (hO1.alloc _) ⟨w1.heap.size, 0, none⟩ 4 4 [.int .u8 ((n : Int) % 256), .int .u8 ((n : Int) / 256 % 256), .int .u8 ((n : Int) / 65536 % 256), .int .u8 ((n : Int) / 16777216)] rfl rfl ?c1 ?c2 ?c3 ?c4 ?c5 ?_
  case c1 => exact cell_four_at (by simp [go_sem]) (by simp [go_sem]) (by simp [go_sem]) (by simp [go_sem])
  case c2 => intro u hu; simp at hu; rcases hu with rfl | rfl | rfl | rfl <;> rfl
  case c3 => unfold maxLen; omega
  case c4 => omega
  case c5 => simp; omega
  intro v' w2 hown2 hgrow _ hloc
  have HLOC : Hid (v'.ownBlock = v.ownBlock ∨ ∃ b, v'.ownBlock = some b ∧ w.heap.size ≤ b) := hloc.imp id (fun e => ⟨_, e, by simp; omega⟩)
  have K : Hid (Kept (fun b => v.ownBlock = some b) w w2) := ((Kept.of_below (below_call hb1)).alloc _).trans (Kept.of_grown hgrow (fun k hk => hk))
  have ho2 : Hid (w2.ownsRow base 5 1 v' (l ++ wdL n).length (vals (l ++ wdL n))) := by
    rw [vals_append, vals_wd n hn, List.length_append, wdL_length]; exact hown2
  clear hown2 hgrow hO1 hb1 hloc
  go_wp2
  go_ret
  exact ⟨_, rfl, ho2.out, K.out, HLOC.out⟩

/-- A branch that asks has neither D nor B. -/
theorem ask_zero {op d a b i : Int} (h : mayI op d a b i = true) (ha : askF op = true) : d = 0 ∧ b = 0 := by
  unfold askF at ha
  rw [Bool.or_eq_true, beq_iff_eq, beq_iff_eq] at ha
  rcases ha with rfl | rfl
  · simp [mayI, partsF, hasD, hasA, hasB, mayR, fitsB] at h
    omega
  · simp [mayI, partsF, hasD, hasA, hasB, mayR, fitsB] at h
    omega
theorem other_sub {op : Int} (ha : askF op = true) : 79 - op = otherF op := by
  unfold askF at ha
  rw [Bool.or_eq_true, beq_iff_eq, beq_iff_eq] at ha
  unfold otherF
  rcases ha with rfl | rfl <;> rfl
/-- Only branches are long. -/
theorem least_ix {bs : List Br} {S : Nat → Bool} (h : Least bs S) (hw : ∀ b ∈ bs, b.low ≤ b.high) {p : Nat} (hp : S p = true) : ∃ b ∈ bs, b.ix = p := by
  have hc : Closed bs (fun p => S p && @decide (∃ b ∈ bs, b.ix = p) (Classical.propDecidable _)) := fun b hb hs => by
    have h0 : S b.ix = false := by
      cases e : S b.ix
      · rfl
      · have hd : @decide (∃ b' ∈ bs, b'.ix = b.ix) (Classical.propDecidable _) = true := @decide_eq_true _ (Classical.propDecidable _) ⟨b, hb, rfl⟩
        simp only [e, hd, Bool.and_true] at hs
        cases hs
    have h1 := h.1 b hb h0
    have h2 := range_mono (S := fun p => S p && @decide (∃ b ∈ bs, b.ix = p) (Classical.propDecidable _)) (S' := S) (fun q hq => by rw [Bool.and_eq_true] at hq; exact hq.1) (hw b hb)
    omega
  have := h.2 _ hc p hp
  rw [Bool.and_eq_true] at this
  exact @of_decide_eq_true _ (Classical.propDecidable _) this.2
theorem bs_low (ls : List Ln) : ∀ b ∈ bsOf ls, b.low ≤ b.high := fun b hb => by
  obtain ⟨y, hy, rfl⟩ := List.mem_map.1 hb
  exact (brGo_ok (labs ls) (insN ls) (fun t p hp => labs_le hp) ls 0 (by omega) y hy).1
theorem long_ask {ls : List Ln} {S : Nat → Bool} (h : Least (bsOf ls) S) {k : Nat} (hk : k < ls.length) (h0 : labAt ls k = 0) (hS : S (ixF ls k) = true) : askF ls[k].op = true := by
  obtain ⟨b, hb, e⟩ := least_ix h (bs_low ls) hS
  unfold bsOf at hb
  obtain ⟨y, hy, rfl⟩ := List.mem_map.1 hb
  rw [brGo_mem] at hy
  obtain ⟨i, hi, hl, ha, rfl⟩ := hy
  rw [(br_low _ _).2, Nat.zero_add] at e
  have : i = k := ixF_inj hi hk (by rw [labAt_get hi]; exact hl) h0 e
  subst this
  unfold asksB at ha
  rw [Bool.and_eq_true] at ha
  exact ha.2
end Go.Proofs.Ytgnlplddppheiaa
