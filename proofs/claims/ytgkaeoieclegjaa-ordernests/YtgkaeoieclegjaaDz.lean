/- dominators of a walk that has come nowhere; Doms of any function. -/
import Derived.Test.YtgkaeoieclegjaaDo
namespace Go.Proofs.Ytgkaeoieclegjaa
open Go Go.RowKit Go.Maps
set_option linter.unusedVariables false
set_option linter.unusedSimpArgs false
set_option maxRecDepth 20000 in
set_option maxHeartbeats 8000000 in
theorem dominators27z {w : World} {par : Nat → Nat} {co lo : Option Addr} {cc lc gp gf pg : Nat}
    (H39 : ∀ w1, Below w.heap.size w w1 → Calls Try.prog 39 #[.agg #[.slice co 0 cc, .slice lo 0 lc, .slice (some ⟨gp, 0, none⟩) 0 0, .slice (some ⟨gf, 0, none⟩) 0 0]] w1 (NfR 0 par w1)) :
    Calls Try.prog 27 #[.agg #[.slice co 0 cc, .slice lo 0 lc, .slice (some ⟨gp, 0, none⟩) 0 0, .slice (some ⟨gf, 0, none⟩) 0 0], .slice (some ⟨pg, 0, none⟩) 0 0] w fun e w' => ∃ q, e = .returned (.slice (some ⟨q, 0, none⟩) 0 0) ∧ Below w.heap.size w w' := by
  have H39 := hid' H39
  go_enter Try.func27, Try.ntmps27
  obtain ⟨w0, ew0⟩ : ∃ w0, w0 = w.alloc (.cells #[.slice co 0 cc, .slice lo 0 lc, .slice (some ⟨gp, 0, none⟩) 0 0, .slice (some ⟨gf, 0, none⟩) 0 0] 47) := ⟨_, rfl⟩
  have hb0 : Below w.heap.size w w0 := by rw [ew0]; exact below1 _ _
  have hC : Hid (∀ W : World, Below w0.heap.size w0 W → W.cell? ⟨w.heap.size, 0, none⟩ = some (.slice co 0 cc) ∧ W.cell? ⟨w.heap.size, 1, none⟩ = some (.slice lo 0 lc) ∧ W.cell? ⟨w.heap.size, 2, none⟩ = some (.slice (some ⟨gp, 0, none⟩) 0 0) ∧ W.cell? ⟨w.heap.size, 3, none⟩ = some (.slice (some ⟨gf, 0, none⟩) 0 0)) := fun W hW => by
    rw [ew0] at hW
    have h := hW.block w.heap.size (by simp)
    rw [heap_alloc_new] at h
    have q := fun o => cell_of_row W w.heap.size o _ 47 (0, 0) h
    exact ⟨q 0, q 1, q 2, q 3⟩
  have HB0 := hid' hb0
  have h39 := hid' (H39.out w0 hb0)
  go_upto_region 1 with fail
  rw [← ew0]
  obtain ⟨k0, k1, k2, k3⟩ := hC.out w0 (Below.refl _ _)
  clear ew0 hb0
  go_upto_region 2 with (go_at_call 39; refine h39.out.mono ?_; rintro e1 w1 ⟨r, v, rfl, hF, hb1⟩; obtain ⟨k0, k1, k2, k3⟩ := hC.out w1 hb1; have HF := hid' hF; have HB1 := hid' hb1; clear hF hb1)
  go_wp2_with fail
  go_loopw [6] (fun iv wr => iv = .int .i64 (-1) ∧ wr = w1) (fun iv _ => 0)
  case atStart => exact ⟨rfl, rfl⟩
  case round =>
    obtain ⟨rfl, rfl⟩ := hrel
    go_wp2_with fail
    go_loopw [9] (fun iv wr2 => iv = .int .i64 1 ∧ wr2 = wr) (fun iv _ => 0)
    case atStart => exact ⟨rfl, rfl⟩
    case round =>
      obtain ⟨rfl, rfl⟩ := hrel
      have c2 := HF.out.c2
      obtain ⟨k0, k1, k2, k3⟩ := hC.out _ HB1.out
      go_wp2_with fail
      go_ret
      exact ⟨v.g2, rfl, below_up HB0.out HB1.out⟩
set_option maxRecDepth 20000 in
set_option maxHeartbeats 8000000 in
theorem doms10z {w : World} {f : Fn} (h : Fn.ok w f) (hn : f.blocks.length = 0) : Calls Try.prog 10 #[f.val] w (DomsR f.blocks w) := by
  have HOK := hid' h
  obtain ⟨nm, ps, rs, sl, bv, bl⟩ := f
  obtain ⟨hb, _, _, _⟩ := h
  dsimp only at *
  obtain rfl : bl = [] := List.eq_nil_of_length_eq_zero hn
  obtain ⟨ao, cap, rfl, _⟩ := hb.form bl4
  have H25 : Hid (∀ w1, Below w.heap.size w w1 → Calls Try.prog 25 #[.agg #[.string nm, .int .i64 ps, .int .i64 rs, .int .i64 sl, .slice ao 0 cap]] w1 (WdR [] w1)) := fun w1 hb => walked25 (HOK.out.on hb)
  have H28 : Hid (∀ w1, Below w.heap.size w w1 → Calls Try.prog 28 #[.agg #[.string nm, .int .i64 ps, .int .i64 rs, .int .i64 sl, .slice ao 0 cap]] w1 (RpR [] w1)) := fun w1 hb => rpreds28 (HOK.out.on hb)
  unfold Fn.val
  simp only [List.length_nil]
  clear hb hn
  go_enter Try.func10, Try.ntmps10
  obtain ⟨w0, ew0⟩ : ∃ w0, w0 = w.alloc (.cells #[.string nm, .int .i64 ps, .int .i64 rs, .int .i64 sl, .slice ao 0 cap] 24) := ⟨_, rfl⟩
  have hb0 : Below w.heap.size w w0 := by rw [ew0]; exact below1 _ _
  have hC : Hid (∀ W : World, Below w0.heap.size w0 W → W.cell? ⟨w.heap.size, 0, none⟩ = some (.string nm) ∧ W.cell? ⟨w.heap.size, 1, none⟩ = some (.int .i64 ps) ∧ W.cell? ⟨w.heap.size, 2, none⟩ = some (.int .i64 rs) ∧ W.cell? ⟨w.heap.size, 3, none⟩ = some (.int .i64 sl) ∧ W.cell? ⟨w.heap.size, 4, none⟩ = some (.slice ao 0 cap)) := fun W hW => by
    rw [ew0] at hW
    obtain ⟨_, _, m0, m1, m2, m3, m4⟩ := fbox (W := W) (w := w) (T := 24) hW
    exact ⟨m0, m1, m2, m3, m4⟩
  have HB0 := hid' hb0
  have h25 := hid' (H25.out w0 hb0)
  go_upto_region 1 with fail
  rw [← ew0]
  clear ew0 hb0
  obtain ⟨k0, k1, k2, k3, k4⟩ := hC.out w0 (Below.refl _ _)
  go_upto_region 2 with (go_at_call 25; refine h25.out.mono ?_; rintro e1 w1 ⟨cv, lv, pv, fv, m, blk, par, tried, left, rfl, hW, hb1, hz, _⟩; obtain ⟨rfl, rfl⟩ := hz rfl; obtain ⟨co, cc, ecv⟩ := hW.came.len; obtain ⟨lo, lc, elv⟩ := hW.leftS.len; simp only [List.length_map, List.length_range, ints, List.map_nil, List.length_nil] at ecv elv; subst ecv elv; obtain ⟨gp, fp, epv, hrp, hfp⟩ := hW.place; obtain ⟨gf, ff, efv, hrf, hff⟩ := hW.from_; simp only [List.length_nil] at epv efv; subst epv efv; have HW := hid' hW; have HB1 := hid' hb1; clear hW hb1 hz hrp hfp hrf hff)
  obtain ⟨w2, ew2⟩ : ∃ w2, w2 = w1.alloc (.cells #[.slice co 0 cc, .slice lo 0 lc, .slice (some ⟨gp, 0, none⟩) 0 0, .slice (some ⟨gf, 0, none⟩) 0 0] 47) := ⟨_, rfl⟩
  have hb2 : Below w1.heap.size w1 w2 := by rw [ew2]; exact below1 _ _
  have hC2 : Hid (∀ W : World, Below w2.heap.size w2 W → W.cell? ⟨w1.heap.size, 0, none⟩ = some (.slice co 0 cc) ∧ W.cell? ⟨w1.heap.size, 1, none⟩ = some (.slice lo 0 lc) ∧ W.cell? ⟨w1.heap.size, 2, none⟩ = some (.slice (some ⟨gp, 0, none⟩) 0 0) ∧ W.cell? ⟨w1.heap.size, 3, none⟩ = some (.slice (some ⟨gf, 0, none⟩) 0 0)) := fun W hW => by
    rw [ew2] at hW
    have h := hW.block w1.heap.size (by simp)
    rw [heap_alloc_new] at h
    have q := fun o => cell_of_row W w1.heap.size o _ 47 (0, 0) h
    exact ⟨q 0, q 1, q 2, q 3⟩
  have HB2 : Hid (Below w0.heap.size w0 w2) := below_up HB1.out hb2
  have HW2 := hid' (HW.out.on hb2)
  rw [← ew2]
  clear ew2 hb2 HW
  have hn8 : 0 * 8 ≤ big := by unfold big; omega
  obtain ⟨j0, j1, j2, j3, j4⟩ := hC.out w2 HB2.out
  go_upto_region 3 with (go_at_call 26; refine (nones26 0 hn8).mono ?_; rintro e2 w3 ⟨q, rfl, hq, hR3, hb3⟩; have HQ := hid' hq; have HR3 := hid' hR3; have HB3 := hid' hb3; clear hq hR3 hb3)
  have HE3 : Hid (Below w0.heap.size w0 w3) := below_up HB2.out HB3.out
  obtain ⟨y0, y1, y2, y3, y4⟩ := hC.out w3 HE3.out
  obtain ⟨x0, x1, x2, x3⟩ := hC2.out w3 HB3.out
  have H27 : ∀ (g4 : Nat) (w4 : World), Below w3.heap.size w3 w4 → Calls Try.prog 27 #[.agg #[.slice co 0 cc, .slice lo 0 lc, .slice (some ⟨gp, 0, none⟩) 0 0, .slice (some ⟨gf, 0, none⟩) 0 0], .slice (some ⟨g4, 0, none⟩) 0 0] w4 (fun e w' => ∃ q, e = .returned (.slice (some ⟨q, 0, none⟩) 0 0) ∧ Below w4.heap.size w4 w') := fun g4 w4 hB => by
    have hW4 := HW2.out.on (below_up HB3.out hB)
    exact dominators27z (par := par) (fun w5 hb5 => newFinder39 (hW4.on hb5) (by unfold big; simp) (fun j h0 hj => by omega))
  have H27 := hid' H27
  go_cut [16, 17, 18] (fun dv nv iv wx => ∃ (gd : Nat), dv = .slice (some ⟨gd, 0, none⟩) 0 0 ∧ nv = .int .i64 0 ∧ iv = .int .i64 0 ∧ Below w3.heap.size w3 wx)
  case first =>
    go_region_law (first
      | (refine step_call rfl 28 #[.tmp 14] #[24] rfl #[.agg #[.string nm, .int .i64 ps, .int .i64 rs, .int .i64 sl, .slice ao 0 cap]] (by simp [Act.eval, Act.put]) (fun W => by simp [go_sem, Try.func28]) ?_; refine (H28.out _ (below_up HB0.out (bdw' HE3.out))).mono ?_; rintro e4 w4 ⟨g4, vs4, rfl, hP4, hb4⟩; refine ⟨_, rfl, ?_⟩; simp only [List.length_nil]; have HB4 : Hid (Below w3.heap.size w3 w4) := (Below.trans (bdw' (Below.refl _ _)) hb4); obtain ⟨z0, z1, z2, z3⟩ := hC2.out w4 (below_up HB3.out HB4.out); clear hP4 hb4)
      | (refine step_call rfl 27 #[.tmp 13, .tmp 15] #[47, 35] rfl #[.agg #[.slice co 0 cc, .slice lo 0 lc, .slice (some ⟨gp, 0, none⟩) 0 0, .slice (some ⟨gf, 0, none⟩) 0 0], .slice (some ⟨g4, 0, none⟩) 0 0] (by simp [Act.eval, Act.put]) (fun W => by simp [go_sem, Try.func27]) ?_; refine (H27.out _ _ HB4.out).mono ?_; rintro e5 w5 ⟨gd, rfl, hb5⟩; refine ⟨_, rfl, ?_⟩; have HB5 := hid' hb5; clear hb5))
    all_goals go_wp2_with fail
    all_goals go_meet
    all_goals exact ⟨gd, rfl, rfl, rfl, below_up HB4.out HB5.out⟩
  case rest =>
    obtain ⟨gd, rfl, rfl, rfl, hb⟩ := hcut
    have HB := hid' hb
    have HRQ := hid' (HR3.out.on hb)
    clear hb y0 y1 y2 y3 y4 x0 x1 x2 x3 j0 j1 j2 j3 j4
    go_wp2_with fail
    go_loopw [18] (fun iv wr => iv = .int .i64 0 ∧ wr = wc) (fun iv _ => 0)
    case atStart => exact ⟨rfl, rfl⟩
    case round =>
      obtain ⟨rfl, rfl⟩ := hrel
      have hbt := hid' (below_up (below_up HB0.out HE3.out) HB.out)
      have hqw : w.heap.size ≤ q := by
        have := HB0.out.size
        have := HB2.out.size
        have := HQ.out
        omega
      go_wp2_with fail
      go_ret
      exact ⟨q, fun _ => none, rfl, hqw, HRQ.out, ⟨(fun b hb => by simp at hb), (fun b d hb => by simp at hb), fun _ => 0, (fun b d hb => by simp at hb)⟩, hbt.out⟩
/-- Doms of any function. -/
theorem doms10a {w : World} {f : Fn} (h : Fn.ok w f) : Calls Try.prog 10 #[f.val] w (DomsR f.blocks w) := by
  by_cases hn : 0 < f.blocks.length
  · exact doms10 h hn
  · exact doms10z h (by omega)
end Go.Proofs.Ytgkaeoieclegjaa
