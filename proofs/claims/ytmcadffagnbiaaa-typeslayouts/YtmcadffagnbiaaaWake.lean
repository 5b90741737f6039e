/- awake; the law TypesSizes. -/
import Derived.Test.YtmcadffagnbiaaaLay3
namespace Go.Proofs.Ytmcadffagnbiaaa
open Go.RowKit Go.Maps
set_option linter.unusedVariables false
set_option linter.unusedSimpArgs false

def aw : List Mb := [⟨⟨#[97]⟩, ⟨3, 0, 0, 0⟩, 0⟩, ⟨⟨#[98]⟩, ⟨1, 0, 0, 0⟩, 0⟩]
def awD : List Mb := [⟨⟨#[97]⟩, ⟨3, 0, 0, 0⟩, 0⟩, ⟨⟨#[98]⟩, ⟨1, 0, 0, 0⟩, 4⟩]
theorem aw_run : runL aw = ⟨awD, 8, 4⟩ := by
  have s3 : szM ⟨3, 0, 0, 0⟩ = 1 := by decide
  have s1 : szM ⟨1, 0, 0, 0⟩ = 4 := by decide
  simp [runL, aw, awD, stepL, s3, s1, alF, byF, upF]
  decide
theorem aw_good : goodL aw := by
  refine ⟨fun i hi hk => ?_, by simp [aw]⟩
  have : i = 0 ∨ i = 1 := by simp [aw] at hi; omega
  rcases this with rfl | rfl
  · exact ⟨(by decide : okM ⟨⟨#[97]⟩, ⟨3, 0, 0, 0⟩, 0⟩ = true), by simp [aw, findF]⟩
  · refine ⟨(by decide : okM ⟨⟨#[98]⟩, ⟨1, 0, 0, 0⟩, 0⟩ = true), ?_⟩
    rw [findF_lt]
    intro x hx
    simp [aw] at hx
    subst hx
    exact (by decide : (⟨#[97]⟩ : ByteArray) ≠ ⟨#[98]⟩)
theorem aw_is : LayIs ⟨#[115]⟩ aw ⟨#[115]⟩ awD 8 0 := .inr (.inr ⟨by decide, aw_good, rfl, rfl, by rw [aw_run], by rw [aw_run]; decide⟩)

set_option maxRecDepth 20000 in
set_option maxHeartbeats 2000000 in
theorem awake9 (w : World) : Calls Try.prog 9 #[] w fun e w' => e = .returned (.bool true) ∧ Below w.heap.size w w' := by
  have hA : ∀ W : World, Src Mb.cells W (.slice (some ⟨w.heap.size, 0, none⟩) 2 2) aw → Calls Try.prog 19 #[.string ⟨#[115]⟩, .slice (some ⟨w.heap.size, 0, none⟩) 2 2] W fun e w' => ∃ rv, e = .returned (.tuple #[.agg #[.string ⟨#[115]⟩, rv, .int .i64 8], .int .i64 0]) ∧ Src Mb.cells w' rv awD ∧ Below W.heap.size W w' := fun W hW => by
    refine (layout19 hW (by decide) (by intro m hm; simp [aw] at hm; rcases hm with rfl | rfl <;> decide)).mono ?_
    rintro e w' ⟨rn, rv, rz, er, ms, rfl, h, hs, hb⟩
    obtain ⟨rfl, rfl, rfl, rfl⟩ := h.unique aw_is
    exact ⟨rv, rfl, hs, hb⟩
  have HA := hid' hA
  clear hA
  go_enter Try.func9, Try.ntmps9
  go_wp2_with fail
  refine (HA.out _ ?_).mono ?_
  · refine .inr ⟨w.heap.size, 0, 2, rfl, by simp, by simp [aw], fun j u hj => ?_⟩
    rw [Nat.zero_add]
    unfold World.cell?
    rw [heap_alloc_new]
    simp [flat, Mb.cells, aw] at hj
    simpa using hj
  · rintro e w1 ⟨rv, rfl, hs, hb1⟩
    obtain ⟨ao, cap, rfl, hf⟩ := hs.form mb6
    obtain ⟨b, off, rfl, hbl, hcp, hc⟩ := hf 1 (by simp [awD])
    have c5 := hc w1 (Below.refl _ _) 5 (by omega)
    simp [awD, Mb.cells] at c5
    have HB1 : Hid (Below w.heap.size w w1) := below_on (below1 _ _) hb1 (by simp)
    have e2 : awD.length = 2 := rfl
    rw [e2]
    clear hb1 hf hc hs
    have hne : ¬ b = w1.heap.size := by omega
    go_wp2_with fail
    go_ret
    exact ⟨rfl, HB1.out.alloc HB1.out.size _⟩

set_option maxRecDepth 20000 in
set_option maxHeartbeats 4000000 in
theorem sizes3 {w : World} {v : Value} {l : List Rc} (h : Src Rc.cells w v l) (hl : l.length * 48 ≤ 140737488355328) (t : Ty) :
    Calls Try.prog 3 #[t.val, v] w fun e w' => e = .returned (.bool true) ∧ Below w.heap.size w w' := by
  have HS := hid' h
  have h8 := fun W (hW : Below w.heap.size w W) => sized8 (h.on hW) (by omega)
  have H8 := hid' h8
  obtain ⟨ao, cap, rfl⟩ := h.len
  clear h h8
  by_cases hg : ∀ x ∈ l, 0 ≤ x.sz ∧ x.sz ≤ 65536
  · have HG := hid' hg
    clear hg
    obtain ⟨k, e, n, s⟩ := t
    have H11 := fun W (hW : Below w.heap.size w W) => own11 (HS.out.on hW) hl
    have H12 := fun W (hW : Below w.heap.size w W) => size12 (HS.out.on hW) (by omega) ⟨k, e, n, s⟩
    have H10 := fun (W : World) (v' : Value) (hv : Src Rc.cells W v' l) => size10 hv (by omega) ⟨k, e, n, s⟩
    unfold Ty.val at *
    dsimp only at *
    go_enter Try.func3, Try.ntmps3
    go_wp2_with (go_at_call 8; refine (H8.out _ (below1 _ _)).mono ?_; rintro e1 w1 ⟨rfl, rfl⟩; rw [decide_eq_true HG.out])
    go_cut [5, 6] (fun a b wx => a = .int .i64 (szE ⟨k, e, n, s⟩ l).1 ∧ b = .int .i64 (szE ⟨k, e, n, s⟩ l).2 ∧ Below (w.alloc (.cells #[.int .i64 k, .int .i64 e, .int .i64 n, .int .i64 s] 23)).heap.size (w.alloc (.cells #[.int .i64 k, .int .i64 e, .int .i64 n, .int .i64 s] 23)) wx)
    case first =>
      go_region_with (first
        | (go_at_call 11; refine (H11 _ (below1 _ _).drew).mono ?_; rintro e2 w2 ⟨v2, rfl, ho2, hb2⟩; obtain ⟨hc2, hf2⟩ := bcell hb2; obtain ⟨ao2, cap2, rfl⟩ := (ho2.src rc3).len)
        | (go_at_call 10; refine (H10 _ _ (ho2.src rc3)).mono ?_; rintro e3 w3 ⟨rfl, hb3⟩))
      all_goals
        have hB : Below (w.alloc (.cells #[.int .i64 k, .int .i64 e, .int .i64 n, .int .i64 s] 23)).heap.size (w.alloc (.cells #[.int .i64 k, .int .i64 e, .int .i64 n, .int .i64 s] 23)) w3 := ((Below.refl _ _).drew).trans (hb2.trans (hb3.mono hb2.size))
        have HBB := hid' hB
        clear hB hb2 hb3 hc2 hf2 ho2
        go_wp2_with fail
        go_meet
        exact ⟨rfl, rfl, HBB.out⟩
    case rest =>
      obtain ⟨rfl, rfl, hbx⟩ := hcut
      have hx := fun t : After wc => box4 (w := w) (k := k) (e := e) (n := n) (s := s) ⟨t.1, hbx.trans (t.2.mono hbx.size)⟩
      have hbw : Below w.heap.size w wc := (below1 _ _).trans (hbx.mono (by simp))
      have HBX := hid' hbw
      have y0 : wc.cell? ⟨w.heap.size, 0, none⟩ = some (.int .i64 k) := (hx ⟨wc, Below.refl _ _⟩).1
      have y1 : wc.cell? ⟨w.heap.size, 1, none⟩ = some (.int .i64 e) := (hx ⟨wc, Below.refl _ _⟩).2.1
      have y2 : wc.cell? ⟨w.heap.size, 2, none⟩ = some (.int .i64 n) := (hx ⟨wc, Below.refl _ _⟩).2.2.1
      have y3 : wc.cell? ⟨w.heap.size, 3, none⟩ = some (.int .i64 s) := (hx ⟨wc, Below.refl _ _⟩).2.2.2
      clear hx hbx hbw H11 H10
      generalize (szE ⟨k, e, n, s⟩ l).1 = z1 at *
      generalize (szE ⟨k, e, n, s⟩ l).2 = z2 at *
      go_wp2_with (go_at_call 12; refine (H12 _ HBX.out).mono ?_; rintro e5 w5 ⟨rfl, hb5⟩)
      have q0 : ∀ t : After w5, t.1.cell? ⟨w.heap.size, 0, none⟩ = some (.int .i64 k) := fun t => keep_cell (keep_cell y0 hb5) t.2
      have q1 : ∀ t : After w5, t.1.cell? ⟨w.heap.size, 1, none⟩ = some (.int .i64 e) := fun t => keep_cell (keep_cell y1 hb5) t.2
      have q2 : ∀ t : After w5, t.1.cell? ⟨w.heap.size, 2, none⟩ = some (.int .i64 n) := fun t => keep_cell (keep_cell y2 hb5) t.2
      have q3 : ∀ t : After w5, t.1.cell? ⟨w.heap.size, 3, none⟩ = some (.int .i64 s) := fun t => keep_cell (keep_cell y3 hb5) t.2
      have HB5 : Hid (Below w.heap.size w w5) := below_on HBX.out hb5 HBX.out.size
      clear y0 y1 y2 y3 hb5
      have K13 : ∀ t : After w5, _ := fun t => Calls.after t (check13 ⟨k, e, n, s⟩ (l.length : Nat) t.1)
      have K14 : ∀ t : After w5, _ := fun t => Calls.after t (check14 ⟨k, e, n, s⟩ (l.length : Nat) t.1)
      have K15 : ∀ t : After w5, _ := fun t => Calls.after t (scal15 ⟨k, e, n, s⟩ t.1)
      have K16 : ∀ t : After w5, _ := fun t => Calls.after t (scal16 ⟨k, e, n, s⟩ t.1)
      have K17 : ∀ t : After w5, _ := fun t => Calls.after t ((pro17 k t.1).mono fun _ w' h => ⟨h.1, by rw [h.2]; exact Below.refl _ _⟩)
      have K18 : ∀ t : After w5, _ := fun t => Calls.after t ((pro18 k t.1).mono fun _ w' h => ⟨h.1, by rw [h.2]; exact Below.refl _ _⟩)
      have K9 : ∀ t : After w5, _ := fun t => Calls.after t (awake9 t.1)
      unfold Ty.val at *
      dsimp only at *
      generalize (if mayF ⟨k, e, n, s⟩ (l.length : Nat) = true then (0 : Int) else 1) = c1 at *
      generalize scalF k = c2 at *
      generalize proF k = c3 at *
      have hne := after_some w5
      refine region_after 38 mixed (by kernel_rfl) ?_
      simp only [List.take_succ_cons, List.take_zero, List.drop_succ_cons, List.drop_zero]
      repeat quiet_step (first | with_reducible exact K13 _ | with_reducible exact K14 _ | with_reducible exact K15 _ | with_reducible exact K16 _ | with_reducible exact K17 _ | with_reducible exact K18 _ | with_reducible exact K9 _)
      refine wpQuiet_nil ?_
      intro w6 hb6
      clear K13 K14 K15 K16 K17 K18 K9 q0 q1 q2 q3
      have HB6 : Hid (Below w.heap.size w w6) := below_on HB5.out hb6 HB5.out.size
      clear hb6
      go_wp2
      go_ret
      exact ⟨rfl, HB6.out⟩
  · have HG := hid' hg
    clear hg
    obtain ⟨k, e, n, s⟩ := t
    unfold Ty.val
    dsimp only
    go_enter Try.func3, Try.ntmps3
    go_wp2_with (first
      | (go_at_call 8; refine (H8.out _ (below1 _ _)).mono ?_; rintro e1 w1 ⟨rfl, rfl⟩; rw [decide_eq_false HG.out])
      | (go_at_call 9; refine (awake9 _).mono ?_; rintro e2 w2 ⟨rfl, hb2⟩))
    go_ret
    exact ⟨rfl, below_on (below1 _ _) hb2 (by simp)⟩
end Go.Proofs.Ytmcadffagnbiaaa
