/- The law OrderFrontiers. -/
import Derived.Test.YtgkaeoieclegjaaFh
import Derived.Test.YtgkaeoieclegjaaFi
namespace Go.Proofs.Ytgkaeoieclegjaa
open Go Go.RowKit Go.Maps
set_option linter.unusedVariables false
set_option linter.unusedSimpArgs false
set_option maxRecDepth 20000 in
set_option maxHeartbeats 8000000 in
theorem lists18 {w : World} {n B1 B2 g1 g2 : Nat} {vs1 vs2 : List Value} {L : List (List Int)} (h1 : PM w B1 g1 vs1 L) (h2 : PM w B2 g2 vs2 L) (hL : L.length = n) (hl : ∀ l ∈ L, l.length * 8 ≤ big) (hn : n * 64 ≤ big) :
    Calls Try.prog 18 #[.slice (some ⟨g1, 0, none⟩) n n, .slice (some ⟨g2, 0, none⟩) n n] w fun e w' => e = .returned (.bool true) ∧ Below w.heap.size w w' := by
  have H1 := hid' h1
  have H2 := hid' h2
  have HL := hid' hl
  unfold big at hn
  clear h1 h2 hl
  go_enter Try.func18, Try.ntmps18
  go_wp2_with fail
  go_loopw [5] (fun i wr => ∃ k : Nat, k ≤ n ∧ i = .int .i64 k ∧ Below w.heap.size w wr) (fun i _ => n - (intOf i).toNat)
  case atStart => exact ⟨0, Nat.zero_le _, rfl, Below.refl _ _⟩
  case round =>
    obtain ⟨k, hk, rfl, hbr⟩ := hrel
    have HB := hid' hbr
    clear hbr
    by_cases hkn : k < n
    · have hkL : k < L.length := by omega
      obtain ⟨ao1, cap1, _, hc1, hs1⟩ := (H1.out.on HB.out).read hkL
      obtain ⟨ao2, cap2, _, hc2, hs2⟩ := (H2.out.on HB.out).read hkL
      have hll := HL.out _ (List.getElem_mem hkL)
      have hne := after_some wr
      have y1 : ∀ t : After wr, t.1.cell? ⟨g1, k, none⟩ = some (.slice ao1 (L[k]).length cap1) := fun t => keep_cell hc1 t.2
      have y2 : ∀ t : After wr, t.1.cell? ⟨g2, k, none⟩ = some (.slice ao2 (L[k]).length cap2) := fun t => keep_cell hc2 t.2
      have ee : eqL L[k] L[k] = true := decide_eq_true rfl
      have KA : ∀ t : After wr, _ := fun t => Calls.after t (sameInts18 (hs1.on t.2) (hs2.on t.2) hll hll)
      simp only [ee] at KA
      clear hs1 hs2 hc1 hc2 hll ee
      generalize (L[k]).length = ll at *
      go_wp2_with fail
      refine region_after 9 mixed (by kernel_rfl) ?_
      simp only [List.take_succ_cons, List.take_zero, List.drop_succ_cons, List.drop_zero]
      repeat (first | go_big_quiet_step (with_reducible exact KA _) | quiet_step (with_reducible exact KA _))
      refine wpQuiet_nil ?_
      intro w6 hb6
      have HB6 := hid' (below_up HB.out hb6)
      clear KA y1 y2 hb6
      go_wp2_with fail
      go_roundw
      case rel => exact ⟨k + 1, by omega, by go_num, HB6.out⟩
      case measure => simp [intOf]; omega
    · have e : k = n := by omega
      subst e
      go_wp2_with fail
      go_ret
      exact ⟨rfl, HB.out⟩
theorem end_two {n : Nat} {rs : Int} {x : Bl} (h : endF n rs x = true) : x.to.length ≤ 2 := by
  unfold endF at h
  split at h
  · simp only [Bool.and_eq_true, decide_eq_true_eq] at h
    omega
  · split at h
    · simp only [Bool.and_eq_true, decide_eq_true_eq] at h
      omega
    · split at h
      · simp only [Bool.and_eq_true, decide_eq_true_eq] at h
        omega
      · cases h
theorem edges_small {n : Nat} {rs : Int} : ∀ {l : List Bl}, (∀ x ∈ l, endF n rs x = true) → edgesF l ≤ l.length * 2
  | [], _ => by simp [edgesF]
  | x :: l, h => by
    have h1 := edges_small (l := l) (fun y hy => h y (by simp [hy]))
    have h2 := end_two (h x (by simp))
    have e : edgesF (x :: l) = x.to.length + edgesF l := by simp [edgesF]
    rw [e, List.length_cons]
    omega
set_option maxRecDepth 20000 in
set_option maxHeartbeats 16000000 in
theorem frontiers4 {w : World} {f : Fn} (hf : Fn.ok w f) : Calls Try.prog 4 #[f.val] w fun e w' => e = .returned (.bool true) ∧ Below w.heap.size w w' := by
  have HOK := hid' hf
  have hb0 : Below w.heap.size w (w.alloc (.cells #[.string f.nm, .int .i64 f.params, .int .i64 f.regs, .int .i64 f.slots, f.bv] 24)) := below1 _ _
  have h9 := hid' (bare9 (hf.on hb0))
  have hbl : f.blocks.length * 64 ≤ big := hf.bl
  obtain ⟨nm, ps, rs, sl, bv, bl⟩ := f
  obtain ⟨bo, bc, eb⟩ := hf.b.len
  dsimp only at *
  subst eb
  unfold big at hbl
  unfold Fn.val at *
  dsimp only at *
  clear hf hb0
  have hs0 : (w.alloc (.cells #[.string nm, .int .i64 ps, .int .i64 rs, .int .i64 sl, .slice bo bl.length bc] 24)).heap.size = w.heap.size + 1 := by simp
  have hn0 := heap_alloc_new w (.cells #[.string nm, .int .i64 ps, .int .i64 rs, .int .i64 sl, .slice bo bl.length bc] 24)
  have HB0 := hid' (below1 w (.cells #[.string nm, .int .i64 ps, .int .i64 rs, .int .i64 sl, .slice bo bl.length bc] 24))
  go_enter Try.func4, Try.ntmps4
  go_upto_region 2 with (go_at_call 9; refine h9.out.mono ?_; rintro e1 w9 ⟨hv, rfl, hown, hb9⟩; obtain ⟨ho, hcap, ehv⟩ := (Own.src bl4 hown).len; subst ehv; have hbox := (hb9.block w.heap.size (by rw [hs0]; omega)).trans hn0; have hf0 := frozen_of_row w9 w.heap.size 0 _ 24 hbox; have hf1 := frozen_of_row w9 w.heap.size 1 _ 24 hbox; have hf2 := frozen_of_row w9 w.heap.size 2 _ 24 hbox; have hf3 := frozen_of_row w9 w.heap.size 3 _ 24 hbox; have hf4 := frozen_of_row w9 w.heap.size 4 _ 24 hbox; have hc := fun o => cell_of_row w9 w.heap.size o _ 24 (0, 0) hbox; have hc0 := hc 0; have hc1 := hc 1; have hc2 := hc 2; have hc3 := hc 3; have hc4 := hc 4; simp at hc0 hc1 hc2 hc3 hc4; rw [hs0] at hown; have HBG := hid' (bg_begin HOK.out hbox (below_up HB0.out hb9) hown); have HCV := hid' (bare_cv (bl := bl)); have HNN : Hid (bl.length * 64 ≤ big → (List.map bareB bl).length * 64 ≤ big) := (fun h => (by rw [List.length_map]; exact h)); clear hown hb9 hbox hc; dsimp only at HBG HNN; generalize List.map bareB bl = bb at *)
  have HBG2 := HBG.out
  unfold put5 at HBG2
  have hbb : bb.length * 64 ≤ big := HNN.out (by unfold big; omega)
  clear HBG hc0 hc1 hc2 hc3 hc4 hf0 hf1 hf2 hf3 hf4 hs0 hn0 HB0 h9 HNN
  generalize ((((w9.setCell ⟨w.heap.size, 0, none⟩ (.string ⟨#[]⟩)).setCell ⟨w.heap.size, 1, none⟩ (.int .i64 0)).setCell ⟨w.heap.size, 2, none⟩ (.int .i64 1)).setCell ⟨w.heap.size, 3, none⟩ (.int .i64 0)).setCell ⟨w.heap.size, 4, none⟩ (.slice ho bb.length hcap) = w2 at *
  have HBG := hid' HBG2
  obtain ⟨c0, c1, c2, c3, c4⟩ := HBG2.cells
  have hbw := HBG2.below
  clear HBG2 w9 HOK
  have H11 : Hid (∀ W, Below w2.heap.size w2 W → Calls Try.prog 11 #[.agg #[.string ⟨#[]⟩, .int .i64 0, .int .i64 1, .int .i64 0, .slice ho bb.length hcap]] W (MayR bb W)) := fun W hW => may11 (HBG.out.ok.on hW) HCV.out
  have h17 := front17 HBG.out.ok
  have H19 : Hid (∀ W, Below w2.heap.size w2 W → Calls Try.prog 19 #[.agg #[.string ⟨#[]⟩, .int .i64 0, .int .i64 1, .int .i64 0, .slice ho bb.length hcap]] W (FdR bb W)) := fun W hW => front19 (HBG.out.ok.on hW)
  unfold Fn.val at h17
  dsimp only at h17
  have H17 := hid' h17
  clear h17
  have hbb2 := hbb
  unfold big at hbb
  go_wp2_with (go_at_call 17; refine H17.out.mono ?_; rintro e1 w4 (⟨rfl, hgr, hb4⟩ | ⟨g1, B1, vs1, rfl, hP1, hb4⟩) <;> refine of_mark ?_)
  all_goals unfold Mark
  · have HB4 := hid' hb4
    obtain ⟨d0, d1, d2, d3, d4⟩ := (HBG.out.on HB4.out).cells
    clear c0 c1 c2 c3 c4 hb4
    go_wp2_with (go_at_call 11; refine (H11.out _ HB4.out).mono ?_; rintro e1 w5 ⟨R, rfl, hR, hb5⟩; refine of_mark ?_)
    unfold Mark
    have HB5 := hid' (below_up HB4.out hb5)
    cases R with
    | true =>
      exfalso
      obtain ⟨h1, _, h3⟩ := hR rfl
      have := edges_small h3
      exact hgr ⟨by omega, by omega⟩
    | false =>
      clear hR hgr hb5
      go_wp2_with (go_at_call 12; refine (awake12 _).mono ?_; rintro e1 w6 ⟨rfl, hb6⟩)
      go_ret
      exact ⟨rfl, below_up (below_up hbw HB5.out) hb6⟩
  · have HB4 := hid' hb4
    have HP1 := hid' hP1
    obtain ⟨d0, d1, d2, d3, d4⟩ := (HBG.out.on HB4.out).cells
    clear c0 c1 c2 c3 c4 hb4 hP1
    go_wp2_with (go_at_call 11; refine (H11.out _ HB4.out).mono ?_; rintro e1 w5 ⟨R, rfl, hR, hb5⟩; refine of_mark ?_)
    unfold Mark
    have HB5 := hid' (below_up HB4.out hb5)
    have HP5 := hid' (HP1.out.on hb5)
    obtain ⟨c0, c1, c2, c3, c4⟩ := (HBG.out.on HB5.out).cells
    clear d0 d1 d2 d3 d4 hR hb5 HP1
    cases R with
    | false =>
      go_wp2_with (go_at_call 12; refine (awake12 _).mono ?_; rintro e1 w6 ⟨rfl, hb6⟩)
      go_ret
      exact ⟨rfl, below_up (below_up hbw HB5.out) hb6⟩
    | true =>
      go_wp2_with (go_at_call 19; refine (H19.out _ HB5.out).mono ?_; rintro e1 w6 ⟨g2, B2, vs2, rfl, hP2, hb6⟩; have h18 := lists18 (HP5.out.on hb6) hP2 (by simp) (fun l hl => (by obtain ⟨a, _, rfl⟩ := List.mem_map.1 hl; have := inL_len (InF bb a) bb.length; unfold big; omega)) hbb2; have H18 := hid' h18; have HB6 := hid' (below_up HB5.out hb6); clear hP2 hb6 h18; refine of_mark ?_)
      unfold Mark
      go_wp2_with (go_at_call 18; refine H18.out.mono ?_; rintro e1 w7 ⟨rfl, hb7⟩; refine of_mark ?_)
      unfold Mark
      go_wp2_with (go_at_call 12; refine (awake12 _).mono ?_; rintro e1 w8 ⟨rfl, hb8⟩)
      go_ret
      exact ⟨rfl, below_up (below_up (below_up hbw HB6.out) hb7) hb8⟩
end Go.Proofs.Ytgkaeoieclegjaa
