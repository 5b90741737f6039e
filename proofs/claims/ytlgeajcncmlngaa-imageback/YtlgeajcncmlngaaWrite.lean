/- An image's bytes, by the program. -/
import Derived.Test.YtlgeajcncmlngaaParts
import Derived.Test.YtlgeajcncmlngaaSums
import Derived.Lib.AppendStr
namespace Go.Proofs.Ytlgeajcncmlngaa
open Go.RowKit
set_option linter.unusedVariables false

theorem write6_no (m : Im) (h : m.may = false) (w : World) :
    Calls Try.prog 6 #[m.val] w fun e w' => e = .returned (.tuple #[.string ⟨#[]⟩, .int .i64 1]) ∧ Below w.heap.size w w' := by
  go_enter Try.func6, Try.ntmps6
  go_wp2_with (first
    | (go_at_call 11; refine (check11_no m h _).mono ?_; rintro e w1 ⟨rfl, hb1⟩))
  go_ret2
  exact ⟨rfl, below_box2 hb1⟩

theorem fits_true {m : Im} (h : m.fits = true) : 28 + m.code.size + m.data.size ≤ 1048576 := of_decide_eq_true h
theorem fits_false {m : Im} (h : m.fits = false) : ¬ 28 + m.code.size + m.data.size ≤ 1048576 := of_decide_eq_false h

set_option maxHeartbeats 1000000 in
theorem write6_long (m : Im) (h : m.may = true) (hf : m.fits = false) (w : World) :
    Calls Try.prog 6 #[m.val] w fun e w' => e = .returned (.tuple #[.string ⟨#[]⟩, .int .i64 3]) ∧ Below w.heap.size w w' := by
  have hf' := fits_false hf
  obtain ⟨h1, _, _, _, h5, h6, _, _⟩ := Im.may_true h
  have g1 : (m.code.size : Int) ≤ 1048576 := by omega
  have g2 : (m.data.size : Int) ≤ 65536 := by omega
  have g3 : (1048576 : Int) < 28 + m.code.size + m.data.size := by omega
  go_enter Try.func6, Try.ntmps6
  go_wp2_with (first
    | (go_at_call 11; refine (check11_yes m h _).mono ?_; rintro e w1 ⟨rfl, hb1⟩; obtain ⟨hc1, hf1⟩ := bcell hb1))
  go_ret2
  exact ⟨rfl, below_box2 hb1⟩

/-- In the midst of Write: so much has been laid. -/
structure Mid (m : Im) (bx base : Nat) (w W : World) (v : Value) (l : List UInt8) : Prop where
  own : W.ownsRow base 5 1 v l.length (vals l)
  below : Below base w W
  sz : base ≤ W.heap.size
  bxlt : bx < base
  c0 : W.cell? ⟨bx, 0, none⟩ = some (.string m.code)
  c1 : W.cell? ⟨bx, 1, none⟩ = some (.string m.data)
  c2 : W.cell? ⟨bx, 2, none⟩ = some (.int .i64 m.global)
  c3 : W.cell? ⟨bx, 3, none⟩ = some (.int .i64 m.entry)
  c4 : W.cell? ⟨bx, 4, none⟩ = some (.int .i64 m.frame)

section
variable {m : Im} {bx base : Nat} {w W W' : World} {v v' : Value} {l l' : List UInt8}
theorem Mid.next (h : Mid m bx base w W v l) (hb : Below base W W') (ho : W'.ownsRow base 5 1 v' l'.length (vals l')) : Mid m bx base w W' v' l' :=
  ⟨ho, h.below.trans hb, Nat.le_trans h.sz hb.size, h.bxlt, (hb.cell (p := ⟨bx, 0, none⟩) h.bxlt).trans h.c0, (hb.cell (p := ⟨bx, 1, none⟩) h.bxlt).trans h.c1, (hb.cell (p := ⟨bx, 2, none⟩) h.bxlt).trans h.c2, (hb.cell (p := ⟨bx, 3, none⟩) h.bxlt).trans h.c3, (hb.cell (p := ⟨bx, 4, none⟩) h.bxlt).trans h.c4⟩
theorem Mid.drewN (h : Mid m bx base w W v l) (n : Nat) : Mid m bx base w (W.drewN n) v l :=
  h.next ((below_drewN W n).mono h.sz) (h.own.kept (row := none) ⟨rfl, rfl, rfl, Nat.le_refl _, fun _ _ _ => rfl⟩ (by cases e : v.ownBlock <;> simp))
theorem Mid.str (h : Mid m bx base w W v l) (s : ByteArray) (ho : W'.ownsRow base 5 1 v' (l.length + s.size) (vals l ++ Lib.strCells s)) (hg : W.grownBy W' v.ownBlock) : Mid m bx base w W' v' (l ++ s.data.toList) := by
  refine h.next ((Below.refl base W).grown hg h.sz (fun k hk => (h.own.lt k hk).1)) ?_
  rw [vals_append, List.length_append, size_list]
  exact ho
end

set_option maxRecDepth 20000 in
set_option maxHeartbeats 4000000 in
theorem write6_ok (m : Im) (h : m.may = true) (hf : m.fits = true) (w : World) :
    Calls Try.prog 6 #[m.val] w fun e w' => e = .returned (.tuple #[.string (writeS m), .int .i64 0]) ∧ Below w.heap.size w w' := by
  have hf' := fits_true hf
  obtain ⟨h1, _, h3, h4, h5, h6, h7, h8⟩ := Im.may_true h
  obtain ⟨b0, b1, _⟩ := place_bounds h3
  have g1 : (m.code.size : Int) ≤ 1048576 := by omega
  have g2 : (m.data.size : Int) ≤ 65536 := by omega
  have g3 : (28 : Int) + m.code.size + m.data.size ≤ 1048576 := by omega
  have g4 : m.entry ≤ 1048576 := by omega
  have s1 : m.code.size ≤ 1048576 := by omega
  have s2 : m.data.size ≤ 1048576 := by omega
  obtain ⟨i0, hi, hz0, hz1, hz2⟩ := info_parts info5'
  obtain ⟨M, hM⟩ : ∃ M, M = madeCells (Value.int .u8 0).cells ((28 + m.code.size + m.data.size) * i0.size) := ⟨_, rfl⟩
  have hMs : M.size = 28 + m.code.size + m.data.size := by rw [hM, size_madeCells, hz1]; simp
  have hmk : ∀ W : World, (Instr.makeSlice 32 (.int .i64 0) (.int .i64 ((28 : Int) + m.code.size + m.data.size))).run Try.prog W = .ok (.slice (some ⟨W.heap.size, 0, none⟩) 0 (28 + m.code.size + m.data.size)) (W.alloc (.cells M 5)) := fun W => by
    have h := run_make (P := Try.prog) W 32 5 i0 (.int .u8 0) Try.underlying32 hi hz0 .i64 .i64 0 ((28 : Int) + m.code.size + m.data.size) (by omega) (by omega) (by rw [hz2]; omega) (by omega)
    have e : ((28 : Int) + m.code.size + m.data.size).toNat = 28 + m.code.size + m.data.size := by omega
    rw [e, ← hM] at h
    simpa using h
  clear hM hf'
  go_enter Try.func6, Try.ntmps6
  go_wp2_with (first
    | (go_at_call 11; refine (check11_yes m h _).mono ?_; rintro e w1 ⟨rfl, hb1⟩; obtain ⟨hc1, hf1⟩ := bcell hb1)
    | (at_builtin; refine of_mark ?_))
  unfold Mark
  have hM : Mid m w.heap.size w1.heap.size w1 (w1.alloc (.cells M 5)) (.slice (some ⟨w1.heap.size, 0, none⟩) 0 (28 + m.code.size + m.data.size)) [] := by
    have hlt : w.heap.size < w1.heap.size := by have := hb1.size; simp at this; omega
    refine ⟨World.ownsRow_made _ _ _ (Nat.le_refl _) (by unfold maxLen; omega) (by rw [hMs]; omega), below_box _ _, by simp, hlt, ?_, ?_, ?_, ?_, ?_⟩
    all_goals (rw [((below_box w1 (.cells M 5)).cell (p := ⟨w.heap.size, _, none⟩) hlt), hc1 _ _ (by simp)]; simp [go_sem])
  have hB := hid (below_box2 hb1)
  have hB1 := hid hb1.size
  clear hc1 hf1 hb1 hmk hMs
  refine Lib.wpList_append_own_string _ rfl _ _ 32 9 rfl w1.heap.size 5 i0 Try.underlying32 Try.underlying9 hi hz0 hz1 hz2 _ _ _ rfl hM.own ⟨#[82, 51, 50, 10]⟩ rfl (by unfold maxLen; decide) (by decide) hM.sz ?_
  intro v2 w2 ho2 hg2 _
  replace hM := hM.str _ ho2 hg2
  clear ho2 hg2
  have k0 := hM.c0
  have k1 := hM.c1
  have k2 := hM.c2
  have k3 := hM.c3
  have k4 := hM.c4
  go_wp2_with (first
    | (go_at_call 12; refine (append12i (by omega) (by omega) hM.own (by simp [wdL_length]) hM.sz).mono ?_; rintro e wk ⟨vk, rfl, ho, hb⟩; replace hM := hM.next hb ho; clear ho hb k0 k1 k2 k3 k4; have k0 := hM.c0; have k1 := hM.c1; have k2 := hM.c2; have k3 := hM.c3; have k4 := hM.c4))
  clear k2 k3 k4
  have u1 := sumL_lt m.code.data.toList
  have u2 := sumL_lt m.data.data.toList
  refine region_quiet_tail (C := fun w' => ∃ n, w' = wk.drewN n) 8 mixed (by kernel_rfl) ⟨1, rfl⟩ ?_
  simp only [List.take_succ_cons, List.take_zero, List.drop_succ_cons, List.drop_zero]
  repeat quiet_step (exact Calls.quiet_of_same (sum13 _ _ (by assumption)))
  refine wpQuiet_nil ?_
  rintro _ ⟨nq, rfl⟩
  replace hM := hM.drewN nq
  clear k0 k1
  go_wp2_with (first
    | (go_at_call 12; refine (append12i (by omega) (by omega) hM.own (by simp [wdL_length]) hM.sz).mono ?_; rintro e wl ⟨vl, rfl, ho, hb⟩; replace hM := hM.next hb ho; clear ho hb; have k0 := hM.c0; have k1 := hM.c1)
    | (at_builtin; refine of_mark ?_))
  unfold Mark
  have eS : (((sumL m.code.data.toList : Nat) + (sumL m.data.data.toList : Nat) : Int) % 4294967296).toNat = m.sum := by unfold Im.sum; omega
  rw [eS] at hM
  replace hM : Mid m w.heap.size w1.heap.size w1 wl vl (headL m) := hM
  clear eS u1 u2
  have hl28 := headL_length m
  refine Lib.wpList_append_own_string _ rfl _ _ 32 9 rfl w1.heap.size 5 i0 Try.underlying32 Try.underlying9 hi hz0 hz1 hz2 _ _ _ rfl hM.own m.code rfl (by unfold maxLen; omega) (by omega) hM.sz ?_
  intro va wa hoa hga _
  replace hM := hM.str _ hoa hga
  clear hoa hga k0 k1
  have k1 := hM.c1
  go_wp2_with (at_builtin; refine of_mark ?_)
  unfold Mark
  have hl2 : (headL m ++ m.code.data.toList).length = 28 + m.code.size := by rw [List.length_append, hl28, size_list]
  refine Lib.wpList_append_own_string _ rfl _ _ 32 9 rfl w1.heap.size 5 i0 Try.underlying32 Try.underlying9 hi hz0 hz1 hz2 _ _ _ rfl hM.own m.data rfl (by rw [hl2]; unfold maxLen; omega) (by rw [hl2]; omega) hM.sz ?_
  intro vb wb hob hgb _
  replace hM := hM.str _ hob hgb
  clear hob hgb k1
  have hcv := conv_own hM.own
  go_wp2
  go_ret2
  refine ⟨rfl, hB.out.trans (hM.below.mono ?_)⟩
  have := hB1.out
  simp at this
  omega
end Go.Proofs.Ytlgeajcncmlngaa
