/- The document's Same, of two records that are alike. -/
import Derived.Test.YtmcadffagnbiaaaLay3
namespace Go.Proofs.Ytmcadffagnbiaaa
open Go.RowKit Go.Maps
set_option linter.unusedVariables false
set_option linter.unusedSimpArgs false

set_option maxRecDepth 20000 in
set_option maxHeartbeats 4000000 in
theorem same21 {w : World} {v1 v2 : Value} {ms : List Mb} (h1 : Src Mb.cells w v1 ms) (h2 : Src Mb.cells w v2 ms) (hl : ms.length ≤ 1000) (nm : ByteArray) (z : Int) :
    Calls Try.prog 21 #[.agg #[.string nm, v1, .int .i64 z], .agg #[.string nm, v2, .int .i64 z]] w fun e w' => e = .returned (.bool true) ∧ Below w.heap.size w w' := by
  obtain ⟨ao1, cap1, rfl, hf1⟩ := h1.form mb6
  obtain ⟨ao2, cap2, rfl, hf2⟩ := h2.form mb6
  have HF1 := hid' hf1
  have HF2 := hid' hf2
  clear hf1 hf2 h1 h2
  go_enter Try.func21, Try.ntmps21
  go_wp2_with fail
  go_loopw [5] (fun i wr => ∃ k : Nat, k ≤ ms.length ∧ i = .int .i64 k ∧ Below ((w.alloc (.cells #[.string nm, .slice ao1 ms.length cap1, .int .i64 z] 37)).alloc (.cells #[.string nm, .slice ao2 ms.length cap2, .int .i64 z] 37)).heap.size ((w.alloc (.cells #[.string nm, .slice ao1 ms.length cap1, .int .i64 z] 37)).alloc (.cells #[.string nm, .slice ao2 ms.length cap2, .int .i64 z] 37)) wr) (fun i _ => ms.length - (intOf i).toNat)
  case atStart => exact ⟨0, Nat.zero_le _, rfl, Below.refl _ _⟩
  case round =>
    obtain ⟨k, hk, rfl, hb⟩ := hrel
    have HB := hid' hb
    have R1 : IsRec wr w.heap.size nm (.slice ao1 ms.length cap1) z := (hb.block _ (by simp; omega)).trans (old_at _ _ _ (by simp) (new_at _ _ _ rfl))
    have R2 : IsRec wr (w.heap.size + 1) nm (.slice ao2 ms.length cap2) z := (hb.block _ (by simp)).trans (new_at _ _ _ (by simp))
    have HW : Hid (Below w.heap.size w wr) := below_on (below2 _ _ _) hb (by simp; omega)
    have r1 := R1.c1
    clear hb
    by_cases hlt : k < ms.length
    · obtain ⟨b1, off1, rfl, hbl1, hcp1, hc1⟩ := HF1.out k hlt
      obtain ⟨b2, off2, rfl, hbl2, hcp2, hc2⟩ := HF2.out k hlt
      have hx := fun t : After wr => mb_cells (hc1 t.1 (below_on HW.out t.2 HW.out.size))
      have hy := fun t : After wr => mb_cells (hc2 t.1 (below_on HW.out t.2 HW.out.size))
      have y1 := fun t : After wr => keep_cell R1.c1 t.2
      have y2 := fun t : After wr => keep_cell R2.c1 t.2
      clear hc1 hc2
      generalize ms[k] = m at *
      obtain ⟨mn, ⟨tk, te, tn, ts⟩, mp⟩ := m
      dsimp only at hx hy
      have q0 := fun t => (hx t).1
      have q1 := fun t => (hx t).2.1
      have q2 := fun t => (hx t).2.2.1
      have q3 := fun t => (hx t).2.2.2.1
      have q4 := fun t => (hx t).2.2.2.2.1
      have q5 := fun t => (hx t).2.2.2.2.2
      have p0 := fun t => (hy t).1
      have p1 := fun t => (hy t).2.1
      have p2 := fun t => (hy t).2.2.1
      have p3 := fun t => (hy t).2.2.2.1
      have p4 := fun t => (hy t).2.2.2.2.1
      have p5 := fun t => (hy t).2.2.2.2.2
      clear hx hy R1 R2
      have hlt' : (k : Int) < ms.length := by omega
      have hne := after_some wr
      go_wp2_with fail
      refine region_after 10 mixed (by kernel_rfl) ?_
      simp only [List.take_succ_cons, List.take_zero, List.drop_succ_cons, List.drop_zero]
      repeat go_big_quiet_step (fail)
      refine wpQuiet_nil ?_
      intro w5 hb5
      have HB5 := hid' (below_on HB.out hb5 HB.out.size)
      clear q0 q1 q2 q3 q4 q5 p0 p1 p2 p3 p4 p5 y1 y2 hb5
      go_wp2_with fail
      go_roundw
      case rel => exact ⟨k + 1, by omega, by go_num, HB5.out⟩
      case measure => simp [intOf]; omega
    · have e : k = ms.length := by omega
      subst e
      clear HF1 HF2
      go_wp2_with fail
      go_ret
      exact ⟨rfl, HW.out⟩
end Go.Proofs.Ytmcadffagnbiaaa
