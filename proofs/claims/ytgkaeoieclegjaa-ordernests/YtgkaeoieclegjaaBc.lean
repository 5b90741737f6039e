/- The document's Func, of a function without code. -/
import Derived.Test.YtgkaeoieclegjaaBb
import Derived.Test.YtgkaeoieclegjaaEnds
import Derived.Test.YtgkaeoieclegjaaPrd
namespace Go.Proofs.Ytgkaeoieclegjaa
open Go Go.RowKit Go.Maps
set_option linter.unusedVariables false
set_option linter.unusedSimpArgs false
theorem boxpf {w W : World} {p0 p1 p2 p3 f0 f1 f2 f3 f4 : Value} {T U : TypeId} (hb : Below ((w.alloc (.cells #[p0, p1, p2, p3] T)).alloc (.cells #[f0, f1, f2, f3, f4] U)).heap.size ((w.alloc (.cells #[p0, p1, p2, p3] T)).alloc (.cells #[f0, f1, f2, f3, f4] U)) W) :
    (w.heap.size + 1 < W.heap.size ∧ Below w.heap.size w W) ∧ (W.cell? ⟨w.heap.size, 0, none⟩ = some p0 ∧ W.cell? ⟨w.heap.size, 1, none⟩ = some p1 ∧ W.cell? ⟨w.heap.size, 2, none⟩ = some p2 ∧ W.cell? ⟨w.heap.size, 3, none⟩ = some p3) ∧
    (W.cell? ⟨w.heap.size + 1, 0, none⟩ = some f0 ∧ W.cell? ⟨w.heap.size + 1, 1, none⟩ = some f1 ∧ W.cell? ⟨w.heap.size + 1, 2, none⟩ = some f2 ∧ W.cell? ⟨w.heap.size + 1, 3, none⟩ = some f3 ∧ W.cell? ⟨w.heap.size + 1, 4, none⟩ = some f4) := by
  refine ⟨⟨by have := hb.size; simp at this; omega, (below2 _ _ _).trans (hb.mono (by simp; omega))⟩, ⟨?_, ?_, ?_, ?_⟩, ⟨?_, ?_, ?_, ?_, ?_⟩⟩ <;> (rw [hb.cell (by simp <;> omega)]; simp [go_sem])
/-- What is told of it. -/
def FnR (bl : List Bl) (w : World) (e : Ending) (w' : World) : Prop :=
  ∃ R : Bool, e = .returned (.bool R) ∧ (R = true → 1 ≤ bl.length ∧ ∀ x ∈ bl, endF bl.length 1 x = true) ∧ Below w.heap.size w w'
set_option maxRecDepth 40000 in
set_option maxHeartbeats 40000000 in
theorem func29 {w : World} {nm : ByteArray} {bv : Value} {bl : List Bl} (hf : Fn.ok w ⟨nm, 0, 1, 0, bv, bl⟩) (hcv : ∀ x ∈ bl, x.cv = .slice none 0 0) (fo dd : Option Addr) (fl fc dl dc : Nat) (gl main : Int) :
    Calls Try.prog 29 #[.agg #[.slice fo fl fc, .int .i64 gl, .slice dd dl dc, .int .i64 main], Fn.val ⟨nm, 0, 1, 0, bv, bl⟩] w (FnR bl w) := by
  have H15 : Hid (∀ W, Below w.heap.size w W → Calls Try.prog 34 #[Fn.val ⟨nm, 0, 1, 0, bv, bl⟩] W (PredR bl W)) := fun W hW => preds15 (hf.on hW)
  have H31 : Hid (∀ W, Below w.heap.size w W → ∀ k (hk : k < bl.length), Calls Try.prog 48 #[Fn.val ⟨nm, 0, 1, 0, bv, bl⟩, (bl[k]).val] W fun e w' => e = .returned (.bool (endF bl.length 1 bl[k])) ∧ Below W.heap.size W w') := fun W hW k hk => ends31 (hf.b.on hW) hf.bl ((hf.bls _ (List.getElem_mem hk)).on hW) (by show (0 : Int) ≤ 1; omega)
  have HBLS := hid' hf.bls
  have HCV := hid' hcv
  obtain ⟨bo, bc, eb, hfb⟩ := hf.b.form bl4
  have hbl := hf.bl
  dsimp only at *
  subst eb
  have HF := hid' hfb
  unfold big at hbl
  clear hf hfb hcv
  unfold Fn.val at *
  dsimp only at *
  by_cases s1 : ¬ 1 ≤ bl.length
  · have t1 : (bl.length : Int) < 1 := by omega
    clear H15 H31
    go_enter Try.func29, Try.ntmps29
    go_wp2
    go_ret
    exact ⟨false, rfl, fun h => (by cases h), below2 _ _ _⟩
  replace s1 := Classical.not_not.1 s1
  have t1 : ¬ (bl.length : Int) < 1 := by omega
  by_cases s2 : ¬ bl.length ≤ 4096
  · have t2 : (4096 : Int) < bl.length := by omega
    clear H15 H31
    go_enter Try.func29, Try.ntmps29
    go_wp2
    go_ret
    exact ⟨false, rfl, fun h => (by cases h), below2 _ _ _⟩
  replace s2 := Classical.not_not.1 s2
  have t2 : ¬ (4096 : Int) < bl.length := by omega
  obtain ⟨w0, ew0⟩ : ∃ w0, w0 = (w.alloc (.cells #[.slice fo fl fc, .int .i64 gl, .slice dd dl dc, .int .i64 main] 55)).alloc (.cells #[.string nm, .int .i64 0, .int .i64 1, .int .i64 0, .slice bo bl.length bc] 24) := ⟨_, rfl⟩
  have HW0 := hid' ew0
  have HBW0 : Hid (Below w.heap.size w w0) := by unfold Hid; rw [ew0]; exact below2 _ _ _
  have HBX : Hid (∀ W, Below w0.heap.size w0 W → _) := fun W hW => boxpf (w := w) (W := W) (by rw [← ew0]; exact hW)
  clear ew0
  go_enter Try.func29, Try.ntmps29
  go_wp2
  rw [← HW0.out]
  obtain ⟨⟨hs0, _⟩, ⟨a0, a1, a2, a3⟩, ⟨b0, b1, b2, b3, b4⟩⟩ := HBX.out w0 (Below.refl _ _)
  go_loop [5, 6] (fun n i => ∃ k : Nat, k ≤ bl.length ∧ i = .int .i64 k ∧ n = .int .i64 0) (fun _ i => bl.length - (intOf i).toNat)
  case atStart => exact ⟨0, Nat.zero_le _, rfl, rfl⟩
  case round =>
    obtain ⟨k, hk, rfl, rfl⟩ := hrel
    by_cases hlt : k < bl.length
    · obtain ⟨b, o, rfl, hb1, hc1, hx⟩ := HF.out k hlt
      obtain ⟨c0, c1, c2, c3⟩ := bl_cells (hx w0 HBW0.out)
      rw [HCV.out _ (List.getElem_mem hlt)] at c0
      clear hx H15 H31
      generalize bl[k] = x at *
      go_wp2
      go_round
      case rel => exact ⟨k + 1, by omega, by go_num, by go_num⟩
      case measure => simp [intOf]; omega
    · have e : k = bl.length := by omega
      subst e
      clear hk hlt
      go_wp2_with (go_at_call 34; refine (H15.out _ HBW0.out).mono ?_; rintro e1 w3 ⟨g, vs, rfl, hpm, hb3⟩; have HPM := hid' hpm; have HB3 := hid' hb3; refine of_mark ?_)
      unfold Mark
      have hpm := HPM.out
      have hLl : (predsF bl).length = bl.length := by unfold predsF; rw [predsN_len]
      have hvl : vs.length = bl.length := by rw [hpm.len, hLl]
      have hglt : g < w3.heap.size := hpm.g.2
      have h1 : Src icell w3 (vs[0]'(by omega)) ((predsF bl)[0]'(by omega)) := Own.src ic1 (hpm.el 0 (by omega) (by omega))
      obtain ⟨ao0, cap0, e0⟩ := h1.len
      have r0 : w3.cell? ⟨g, 0, none⟩ = some (.slice ao0 ((predsF bl)[0]'(by omega)).length cap0) := by
        have h3 := hpm.row
        rw [hLl] at h3
        rw [World.ownsRow.cellAt h3 0 (by omega), List.getElem?_eq_getElem (by omega), e0]
      have hn1' : (0 : Int) < bl.length := by omega
      have HW3 : Hid (Below w.heap.size w w3) := below_up HBW0.out HB3.out
      clear hpm a0 a1 a2 a3 b0 b1 b2 b3 b4 H15 h1 e0 HPM
      generalize ((predsF bl)[0]'(by omega)).length = z0 at *
      by_cases hz : 0 < z0
      · have hz' : (0 : Int) < z0 := by omega
        go_wp2_with fail
        go_ret
        exact ⟨false, rfl, fun h => (by cases h), HW3.out⟩
      have hz' : ¬ (0 : Int) < z0 := by omega
      go_wp2_with fail
      go_loopw [8] (fun i wr => ∃ k : Nat, k ≤ bl.length ∧ i = .int .i64 k ∧ (∀ j (hj : j < bl.length), j < k → endF bl.length 1 bl[j] = true) ∧ Below w3.heap.size w3 wr) (fun i _ => bl.length - (intOf i).toNat)
      case atStart => exact ⟨0, Nat.zero_le _, rfl, fun j _ hj => by omega, Below.refl _ _⟩
      case round =>
        obtain ⟨k, hk, rfl, hok, hbw⟩ := hrel
        have HK := hid' hok
        have HB := hid' hbw
        have hb0 : Below w0.heap.size w0 wr := below_on HB3.out hbw HB3.out.size
        obtain ⟨⟨hsz, hB0⟩, ⟨p0, p1, p2, p3⟩, ⟨f0, f1, f2, f3, f4⟩⟩ := HBX.out _ hb0
        have HB0 := hid' hB0
        have H00 := hid' hb0
        clear hok hbw hB0 hb0 r0
        by_cases hlt : k < bl.length
        · obtain ⟨b, o, rfl, hb1, hc1, hx⟩ := HF.out k hlt
          obtain ⟨c0, c1, c2, c3⟩ := bl_cells (hx wr HB0.out)
          have ho := HBLS.out _ (List.getElem_mem hlt)
          obtain ⟨tt, tc, et⟩ := ho.t.len
          have HE31 := fun W hW => H31.out W hW k hlt
          have ecv := HCV.out _ (List.getElem_mem hlt)
          have HNX : Hid (endF bl.length 1 bl[k] = true → ∀ j (hj : j < bl.length), j < k + 1 → endF bl.length 1 bl[j] = true) := fun h2 j hj hjk => by
            by_cases e : j = k
            · subst e; exact h2
            · exact HK.out j hj (by omega)
          unfold Bl.val at HE31
          rw [ecv] at c0
          rw [et] at c3
          rw [ecv, et] at HE31
          clear hx ho ecv et
          generalize endF bl.length 1 bl[k] = qe at *
          generalize bl[k] = xk at *
          obtain ⟨cv, code, en, arg, tv, to⟩ := xk
          dsimp only at *
          obtain ⟨w4, ew4⟩ : ∃ w4, w4 = wr.alloc (.cells #[.slice none 0 0, .int .i64 en, .int .i64 arg, .slice tt to.length tc] 45) := ⟨_, rfl⟩
          have HW4 := hid' ew4
          have HB4 : Hid (Below wr.heap.size wr w4) := by unfold Hid; rw [ew4]; exact below1 _ _
          have HPB : Hid (∀ W, Below w4.heap.size w4 W → _) := fun W hW => pbox (w := wr) (W := W) (by rw [← ew4]; exact hW)
          have hnw : ¬ b = wr.heap.size := by have := HB0.out.size; omega
          clear ew4
          go_wp2_with fail
          rw [← HW4.out]
          go_loopw [10, 11] (fun ph i wr' => i = .int .i64 0 ∧ ph = .bool true ∧ wr' = w4) (fun _ i _ => 0)
          case atStart => exact ⟨rfl, rfl, rfl⟩
          case round =>
            obtain ⟨rfl, rfl, rfl⟩ := hrel
            obtain ⟨hs4, hB4, d0, d1, d2, d3⟩ := HPB.out _ (Below.refl _ _)
            obtain ⟨⟨isz, iB0⟩, ⟨y0, y1, y2, y3⟩, ⟨z0, z1, z2, z3, z4⟩⟩ := HBX.out _ (below_up H00.out HB4.out)
            have IB0 := hid' iB0
            clear c0 c1 c2 c3 p0 p1 p2 p3 f0 f1 f2 f3 f4 iB0
            cases qe
            · go_wp2_with (go_at_call 48; refine (HE31 _ IB0.out).mono ?_; rintro e1 w6 ⟨rfl, hb6⟩)
              go_ret
              exact ⟨false, rfl, fun h => (by cases h), below_up IB0.out hb6⟩
            · go_wp2_with (go_at_call 48; refine (HE31 _ IB0.out).mono ?_; rintro e1 w6 ⟨rfl, hb6⟩; have HB6 := hid' (below_up (below_up HB.out HB4.out) hb6))
              go_roundw
              case rel => exact ⟨k + 1, by omega, by go_num, HNX.out (by trivial), HB6.out⟩
              case measure => simp [intOf]; omega
        · have e : k = bl.length := by omega
          subst e
          clear H31
          go_wp2_with fail
          go_ret
          refine ⟨true, rfl, fun _ => ⟨s1, fun x hx => ?_⟩, HB0.out⟩
          obtain ⟨j, hj, rfl⟩ := List.getElem_of_mem hx
          exact HK.out j hj hj
end Go.Proofs.Ytgkaeoieclegjaa
