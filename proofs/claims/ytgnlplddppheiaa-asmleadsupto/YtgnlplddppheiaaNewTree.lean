/- newTree. -/
import Derived.Test.YtgnlplddppheiaaBuildW
namespace Go.Proofs.Ytgnlplddppheiaa
open Go.RowKit Go.Sort Go.Lib
set_option linter.unusedVariables false

theorem info95' : (Try.prog.info? 95).map (fun i => (i.zero, i.size, i.bytes)) = some (some (.agg #[.int .i64 0, .int .i64 0, .int .i64 0, .int .i64 0, .int .i64 0, .int .i64 0, .int .i64 0]), 7, 56) := by kernel_rfl

def zero7 : Array Value := #[.int .i64 0, .int .i64 0, .int .i64 0, .int .i64 0, .int .i64 0, .int .i64 0, .int .i64 0]

theorem made7 (w : World) (n : Nat) : IsTree (w.alloc (.cells (madeCells zero7 (n * 7)) 95)) w.heap.size n (fun _ => 0) := by
  refine ⟨madeCells zero7 (n * 7), heap_alloc_new _ _, by rw [size_madeCells]; omega, fun i hi => ?_⟩
  unfold madeCells
  simp only [Array.getElem?_map]
  have : i % 7 < 7 := Nat.mod_lt _ (by omega)
  rw [show (Array.range (n * 7))[i]? = some i by rw [Array.getElem?_range, if_pos (by omega)]]
  simp only [Option.map_some, zero7]
  have : i % 7 = 0 ∨ i % 7 = 1 ∨ i % 7 = 2 ∨ i % 7 = 3 ∨ i % 7 = 4 ∨ i % 7 = 5 ∨ i % 7 = 6 := by omega
  rcases this with e | e | e | e | e | e | e <;> simp [e]

/-- The tree's row as make lays it, and its top. -/
theorem make95 (m n : Nat) (hn : n = 4 * m + 2) (hm : m ≤ 1000000) (W : World) :
    (Instr.makeSlice 82 (.int .i64 (4 * (m : Int) + 2)) (.int .i64 (4 * (m : Int) + 2))).run Try.prog W = .ok (.slice (some ⟨W.heap.size, 0, none⟩) n n) (W.alloc (.cells (madeCells zero7 (n * 7)) 95)) := by
  obtain ⟨i0, hi, hz0, hz1, hz2⟩ := info_parts info95'
  have h := run_make (P := Try.prog) W 82 95 i0 (.agg zero7) Try.underlying82 hi hz0 .i64 .i64 (4 * (m : Int) + 2) (4 * (m : Int) + 2) (by omega) (by omega) (by rw [hz2]; omega) (by omega)
  have e : (4 * (m : Int) + 2).toNat = n := by omega
  rw [e, hz1] at h
  exact h

def start1 : Nat → Int := fun c => if c = 7 * 1 then -1 else if c = 7 * 1 + 1 then 9223372036854775807 else if c = 7 * 1 + 2 then -9223372036854775808 else if c = 7 * 1 + 3 then 9223372036854775807 else if c = 7 * 1 + 4 then -9223372036854775808 else if c = 7 * 1 + 5 then 9223372036854775807 else if c = 7 * 1 + 6 then 0 else 0

def Mark (P : Prop) : Prop := P
theorem of_mark {P : Prop} (h : Mark P) : P := h

set_option maxRecDepth 100000 in
set_option maxHeartbeats 1000000 in
theorem newTree_none (ao : Option Addr) (cap : Nat) (w : World) :
    Calls Try.prog 40 #[.slice ao 0 cap] w fun e w' => ∃ h, e = .returned (.slice (some ⟨w.heap.size, 0, none⟩) 2 2) ∧ IsTree w' w.heap.size 2 h ∧ Inv h [] [] .leaf 1 0 ∧ Below w.heap.size w w' := by
  have hmk := make95 0 2 rfl (by omega)
  have M := made7 w 2
  simp only [Int.natCast_zero, Int.mul_zero, Int.zero_add] at hmk
  have HM := hid M
  clear M
  generalize madeCells zero7 (2 * 7) = C at *
  go_enter Try.func40, Try.ntmps40
  go_wp2_with (go_at_call 51; refine (none51 _).mono ?_; rintro e w2 ⟨rfl, hb2⟩; have T2 : IsTree w2 w.heap.size 2 (fun _ => 0) := (Kept.of_below (S := fun _ => False) hb2).row HM.out (fun e => e); have d0 := T2.cell (k := 1) (show 1 < 2 by omega) (show 0 < 7 by omega); have d1 := T2.cell (k := 1) (show 1 < 2 by omega) (show 1 < 7 by omega); have d2 := T2.cell (k := 1) (show 1 < 2 by omega) (show 2 < 7 by omega); have d3 := T2.cell (k := 1) (show 1 < 2 by omega) (show 3 < 7 by omega); have d4 := T2.cell (k := 1) (show 1 < 2 by omega) (show 4 < 7 by omega); have d5 := T2.cell (k := 1) (show 1 < 2 by omega) (show 5 < 7 by omega); have d6 := T2.cell (k := 1) (show 1 < 2 by omega) (show 6 < 7 by omega); have f := T2.free; simp only [Nat.one_mul, Nat.add_zero, Nat.reduceAdd] at d0 d1 d2 d3 d4 d5 d6; have HT2 := hid T2; clear T2)
  go_ret
  refine ⟨_, rfl, HT2.out.put 1 (-1) 9223372036854775807 (-9223372036854775808) 9223372036854775807 (-9223372036854775808) 9223372036854775807 0, ?_, ?_⟩
  · unfold Inv
    exact ⟨by decide, by decide, by decide, by decide, by decide⟩
  · exact Kept.below (S := fun b => b = w.heap.size) (Kept.put7 (S := fun b => b = w.heap.size) (((Kept.rfl _ w).alloc _).trans (Kept.of_below hb2)) rfl _ _ _ _ _ _ _ (o := 7)) (Nat.le_refl _) (fun k e => by omega)

set_option maxRecDepth 100000 in
set_option maxHeartbeats 1000000 in
theorem newTree_some (blk cap m n : Nat) (d : Array (Nat × Nat × Nat)) (w : World) (hd : d.size = m) (m1 : 1 ≤ m) (hm : m ≤ 900000) (hn : n = 4 * m + 2) (hc : m ≤ cap) (hH : HoldsK enc3 3 w blk 0 d) (hblk : blk < w.heap.size) (hg : ∀ x ∈ d.toList, Good3 x) :
    Calls Try.prog 40 #[.slice (some ⟨blk, 0, none⟩) m cap] w fun e w' => ∃ h T, e = .returned (.slice (some ⟨w.heap.size, 0, none⟩) n n) ∧ IsTree w' w.heap.size n h ∧ Inv h [] [] T 1 0 ∧ Fit n T 1 ∧ (lvs T).Perm (d.toList.map mkBr) ∧ Kept (fun b => b = blk) w w' := by
  have hmk := make95 m n hn (by omega)
  have HM := hid (made7 w n)
  generalize madeCells zero7 (n * 7) = C at *
  obtain ⟨D, hD1, hD2⟩ := two_pow_near m m1
  have B := buildOk m m (Nat.le_refl _) w.heap.size n 1 blk 0 cap D true
  have HH := hid hH
  have n1 : 1 < n := by omega
  have w4 : IntKind.i64.wrap (4 * (m : Int)) = 4 * (m : Int) := by simp [IntKind.wrap, IntKind.bits, IntKind.signed]; omega
  have w5 : IntKind.i64.wrap (4 * (m : Int) + 2) = 4 * (m : Int) + 2 := by simp [IntKind.wrap, IntKind.bits, IntKind.signed]; omega
  have HB := hid B
  have Hn := hid hn
  have n4 : n ≤ 4000000 := by omega
  have HD : Hid ((1 + 1) * 2 ^ D ≤ n) := by unfold Hid; omega
  have HD1 := hid hD1
  clear hn hD1 hD2
  have hmp : 0 < (m : Int) := by omega
  clear B hH
  go_enter Try.func40, Try.ntmps40
  go_wp2_with (first
    | (go_at_call 51; refine (none51 _).mono ?_; rintro e w2 ⟨rfl, hb2⟩; have T2 : IsTree w2 w.heap.size n (fun _ => 0) := (Kept.of_below (S := fun _ => False) hb2).row HM.out (fun e => e); have d0 := T2.cell n1 (show 0 < 7 by omega); have d1 := T2.cell n1 (show 1 < 7 by omega); have d2 := T2.cell n1 (show 2 < 7 by omega); have d3 := T2.cell n1 (show 3 < 7 by omega); have d4 := T2.cell n1 (show 4 < 7 by omega); have d5 := T2.cell n1 (show 5 < 7 by omega); have d6 := T2.cell n1 (show 6 < 7 by omega); have f := T2.free; simp only [Nat.one_mul, Nat.add_zero, Nat.reduceAdd] at d0 d1 d2 d3 d4 d5 d6; have HT2 := hid T2; clear T2)
    | (go_at_call 52; refine of_mark ?_))
  unfold Mark
  have K7 := Kept.put7 (S := fun b => b = w.heap.size) (tb := w.heap.size) (((Kept.rfl _ w).alloc (.cells C 95)).trans (Kept.of_below hb2)) rfl (.int .i64 (-1)) (.int .i64 9223372036854775807) (.int .i64 (-9223372036854775808)) (.int .i64 9223372036854775807) (.int .i64 (-9223372036854775808)) (.int .i64 9223372036854775807) (.int .i64 0) (o := 7)
  have T7 := HT2.out.put 1 (-1) 9223372036854775807 (-9223372036854775808) 9223372036854775807 (-9223372036854775808) 9223372036854775807 0
  have hH7 : HoldsK enc3 3 _ blk 0 d := holdsK_of (fun i c hi hc => by
    rw [K7.cell hblk (by omega), K7.frozen hblk (by omega)]
    exact HH.out.cell hi hc)
  refine (HB.out _ d _ hd m1 T7 hH7 (Nat.lt_of_lt_of_le hblk K7.size) (by omega) (Nat.le_refl _) HD1.out HD.out n4 (by omega) hc hg).mono ?_
  rintro e w8 ⟨rfl, h', T, T8, I8, F8, P8, far8, K8, C8⟩
  go_wp2
  go_ret
  refine ⟨h', T, rfl, T8, I8, F8, P8, ?_⟩
  exact (K7.mono (T := fun b => b = blk) (fun k hk e => by omega)).ahead K8 (fun i hi e => e.elim (fun e => by omega) id)
end Go.Proofs.Ytgnlplddppheiaa
