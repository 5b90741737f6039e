/- Postorder, both. -/
import Derived.Test.YtgkaeoieclegjaaWx
import Derived.Test.YtgkaeoieclegjaaRz
namespace Go.Proofs.Ytgkaeoieclegjaa
open Go Go.RowKit Go.Maps
set_option linter.unusedVariables false
set_option linter.unusedSimpArgs false
/-- What Postorder tells. -/
def PoR (bl : List Bl) (w : World) (e : Ending) (w' : World) : Prop :=
  ∃ (v : Value) (left : List Nat) (met : Nat → Prop), e = .returned v ∧ Src icell w' v (ints left) ∧ (0 < bl.length → RunsS (succN bl) bl.length start0 (met, [], left)) ∧ Below w.heap.size w w'
set_option maxRecDepth 20000 in
set_option maxHeartbeats 8000000 in
theorem post22 {w : World} {f : Fn} (h : Fn.ok w f) : Calls Try.prog 22 #[f.val] w (PoR f.blocks w) := by
  have h25 := walked25x (h.on (below1 w (.cells #[.string f.nm, .int .i64 f.params, .int .i64 f.regs, .int .i64 f.slots, f.bv] 24)))
  obtain ⟨nm, ps, rs, sl, bv, bl⟩ := f
  obtain ⟨bo, bc, eb⟩ := h.b.len
  dsimp only at *
  subst eb
  unfold Fn.val at *
  dsimp only at *
  clear h
  have H25 := hid' h25
  clear h25
  go_enter Try.func22, Try.ntmps22
  go_wp2_with (go_at_call 25; refine H25.out.mono ?_; rintro e1 w1 ⟨cv, lv, pv, fv, m, blk, par, tried, left, rfl, hW, hb1, hz, hpos⟩; obtain ⟨co, cc, ecv⟩ := hW.came.len; obtain ⟨lo, lc, elv⟩ := hW.leftS.len; subst ecv elv; obtain ⟨gp, fp, rfl, hrp, hfp⟩ := hW.place; obtain ⟨gf, ff, rfl, hrf, hff⟩ := hW.from_; simp only [List.length_map, List.length_range] at hW ⊢; have hfd : ∀ w : World, (Instr.field 47 (.agg #[.slice co m cc, .slice lo (ints left).length lc, .slice (some ⟨gp, 0, none⟩) bl.length bl.length, .slice (some ⟨gf, 0, none⟩) bl.length bl.length]) 1).run Try.prog w = .ok (.slice lo (ints left).length lc) w := fun _ => by kernel_rfl)
  go_ret
  exact ⟨_, left, metP m blk, rfl, hW.leftS, fun hn => (hpos hn).2.2.2.2, below_up (below1 _ _) hb1⟩
/-- The classes of the document's region. -/
def PcC (w0 : World) (n : Nat) : Option Nat × Option (Value × List Nat) → World → Prop
  | (none, none), W => Below w0.heap.size w0 W
  | (some g, none), W => Below w0.heap.size w0 W ∧ w0.heap.size ≤ g ∧ RowB W g n (fun _ => false)
  | (_, some (v, l)), W => Below w0.heap.size w0 W ∧ Own 3 1 icell W w0.heap.size v (ints l)
theorem PcC.below {w0 : World} {n : Nat} : ∀ s W, PcC w0 n s W → Below w0.heap.size w0 W
  | (none, none), _, h => h
  | (some _, none), _, h => h.1
  | (none, some (_, _)), _, h => And.left h
  | (some _, some (_, _)), _, h => And.left h
theorem PcC.on {w0 : World} {n : Nat} : ∀ s W W', PcC w0 n s W → Below W.heap.size W W' → PcC w0 n s W'
  | (none, none), _, _, h, hb => below_on h hb h.size
  | (some _, none), _, _, h, hb => ⟨below_on h.1 hb h.1.size, h.2.1, h.2.2.on hb⟩
  | (none, some (_, _)), _, _, h, hb => ⟨below_on (And.left h) hb (And.left h).size, (Kept.of_below (S := fun _ => False) hb).owns (And.right h) (fun _ _ e => e)⟩
  | (some _, some (_, _)), _, _, h, hb => ⟨below_on (And.left h) hb (And.left h).size, (Kept.of_below (S := fun _ => False) hb).owns (And.right h) (fun _ _ e => e)⟩
set_option maxRecDepth 20000 in
set_option maxHeartbeats 8000000 in
theorem post23 {w : World} {f : Fn} (h : Fn.ok w f) : Calls Try.prog 23 #[f.val] w (PoR f.blocks w) := by
  have HOK := hid' h
  have hbl := h.bl
  obtain ⟨nm, ps, rs, sl, bv, bl⟩ := f
  obtain ⟨bo, bc, eb⟩ := h.b.len
  dsimp only at *
  subst eb
  unfold big at hbl
  obtain ⟨w0, ew0⟩ : ∃ w0, w0 = w.alloc (.cells #[.string nm, .int .i64 ps, .int .i64 rs, .int .i64 sl, .slice bo bl.length bc] 24) := ⟨_, rfl⟩
  have HW0 := hid' ew0
  have HB0 : Hid (Below w.heap.size w w0) := by unfold Hid; rw [ew0]; exact below1 _ _
  have HBX : Hid (∀ W, Below w0.heap.size w0 W → _) := fun W hW => fbox (w := w) (W := W) (by rw [← ew0]; exact hW)
  have HOK0 := hid' (HOK.out.on HB0.out)
  have H37 : Hid (0 < bl.length → ∀ W g, Below w0.heap.size w0 W → w0.heap.size ≤ g → RowB W g bl.length (fun _ => false) → Calls Try.prog 37 #[Fn.val ⟨nm, ps, rs, sl, .slice bo bl.length bc, bl⟩, .int .i64 ((0 : Nat) : Int), .slice (some ⟨g, 0, none⟩) bl.length bl.length, .slice none 0 0] W (WkR bl w0 g 0 (fun _ => false) (.slice none 0 0) [] W)) := fun hn W g hW hg hr =>
    walk37 HOK0.out bl.length W g 0 (fun _ => false) (.slice none 0 0) [] (by dsimp only; rw [unm_none]; exact Nat.le_refl _) hn rfl hW hg hr (World.ownsRow_nil _ _ _ _) (by dsimp only; rw [unm_none]; simp)
  unfold Fn.val at *
  dsimp only at *
  clear h ew0
  go_enter Try.func23, Try.ntmps23
  go_upto_region 1 with fail
  rw [← HW0.out]
  obtain ⟨_, _, a0, a1, a2, a3, a4⟩ := HBX.out w0 (Below.refl _ _)
  by_cases hn : bl.length = 0
  · have t1 : ((bl.length : Int) == 0) = true := by simp [hn]
    go_wp2_with fail
    go_ret
    exact ⟨_, [], fun _ => False, rfl, .inl ⟨rfl, _, _, rfl⟩, fun h => by omega, HB0.out⟩
  · have t1 : ((bl.length : Int) == 0) = false := beq_eq_false_iff_ne.2 (by omega)
    go_upto_region 3 with fail
    have hne := after_some w0
    have r0 := fun q : After w0 => (HBX.out q.1 q.2).2.2.1
    have r1 := fun q : After w0 => (HBX.out q.1 q.2).2.2.2.1
    have r2 := fun q : After w0 => (HBX.out q.1 q.2).2.2.2.2.1
    have r3 := fun q : After w0 => (HBX.out q.1 q.2).2.2.2.2.2.1
    have r4 := fun q : After w0 => (HBX.out q.1 q.2).2.2.2.2.2.2
    refine region_pick (PcC w0 bl.length) (none, none) 6 2 (fun k => decide (k ≠ 4 ∧ k ≠ 5)) [0, 1, 2, 3] mixed (by kernel_rfl) (by kernel_rfl) (by kernel_rfl) (by simp) rfl (by decide) (by kernel_rfl) (bdw' (Below.refl _ _)) PcC.below PcC.on (fun _ => ?_)
    simp only [List.filterMap_cons, List.filterMap_nil, List.getElem?_cons_zero, List.getElem?_cons_succ]
    repeat (
      refine wpFreeB_step (fun K hK => ?_)
      go_simp
      first
        | (refine hK _ ?_; clear hK K)
        | (apply Exists.intro
           refine ⟨fun _ => ?_, hK _ ?_⟩
           (with_reducible rfl)
           clear hK K))
    refine wpFreeB_nil ?_
    refine headF_step [4] (by kernel_rfl) (by simp) (fun i hi => ?_)
    obtain rfl : i = 4 := by simpa using hi
    refine ⟨by omega, .inl ⟨by decide, _, rfl, by simp [Region.wanted, yielded], fun w5 hw5 => ?_⟩⟩
    obtain ⟨w6, hr6, hR6, hb6, _⟩ := make_bools w5 (n := bl.length) (by unfold big; omega)
    have hC6 : PcC w0 bl.length (some w5.heap.size, none) w6 := ⟨below_on hw5 hb6 (PcC.below _ _ hw5).size, (PcC.below _ _ hw5).size, hR6⟩
    refine .inl ⟨.slice (some ⟨w5.heap.size, 0, none⟩) bl.length bl.length, (some w5.heap.size, none), w6, ?_, hC6, ?_⟩
    · simp [execOp, hr6, Act.eval, Act.put, Result.andThen]
    clear hw5 hr6 hb6 hR6 hC6
    generalize w5.heap.size = q5
    refine headF_step [5] (by kernel_rfl) (by simp) (fun i hi => ?_)
    obtain rfl : i = 5 := by simpa using hi
    refine ⟨by omega, .inl ⟨by decide, _, rfl, by simp [Region.wanted, yielded], fun w7 hw7 => ?_⟩⟩
    obtain ⟨hw7a, hw7b, hw7c⟩ := hw7
    refine .inr ⟨37, #[.agg #[.string nm, .int .i64 ps, .int .i64 rs, .int .i64 sl, .slice bo bl.length bc], .int .i64 0, .slice (some ⟨q5, 0, none⟩) bl.length bl.length, .slice none 0 0], ?_, (H37.out (by omega) w7 q5 hw7a hw7b hw7c).mono ?_⟩
    · simp [execOp, resolve, invoke, Act.eval, Act.put, Deferred.ofValue, go_sem, Try.func37]
    rintro e8 w8 ⟨v', F', l', rfl, hrow8, hown8, hbel8, _, _, _, _, _, hruns⟩
    have hC8 : PcC w0 bl.length (some q5, some (v', l')) w8 := ⟨hbel8, hown8⟩
    refine ⟨_, (some q5, some (v', l')), rfl, hC8, ?_⟩
    have hst : RunsS (succN bl) bl.length start0 (fun x => F' x = true, [], l') := by
      have h1 := hruns []
      have e : (fun x => (fun _ : Nat => false) x = true ∨ x = 0) = (fun x => x = 0) := by
        funext x
        simp
      rw [e] at h1
      exact h1
    have HST := hid' hst
    clear hC8 hrow8 hown8 hbel8 hruns hw7a hw7b hw7c hst
    refine ⟨by kernel_rfl, fun w9 hw9 => ?_⟩
    have hw9' : Below w0.heap.size w0 w9 ∧ Own 3 1 icell w9 w0.heap.size v' (ints l') := hw9
    have H9 := hid' hw9'
    clear hw9 hw9'
    go_wp2_with fail
    go_ret
    exact ⟨v', l', _, rfl, Own.src ic1 H9.out.2, fun _ => HST.out, below_up HB0.out H9.out.1⟩
end Go.Proofs.Ytgkaeoieclegjaa
