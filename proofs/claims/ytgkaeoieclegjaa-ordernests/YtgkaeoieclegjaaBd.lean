/- May. -/
import Derived.Test.YtgkaeoieclegjaaBc
import Derived.Test.YtgkaeoieclegjaaDm
namespace Go.Proofs.Ytgkaeoieclegjaa
open Go Go.RowKit Go.Maps
set_option linter.unusedVariables false
set_option linter.unusedSimpArgs false
theorem inf24 : (Try.prog.info? 24).map (fun i => (i.zero, i.size, i.bytes)) = some (some (.agg #[.string ⟨#[]⟩, .int .i64 0, .int .i64 0, .int .i64 0, .slice none 0 0]), 5, 64) := by kernel_rfl
theorem make_funcs (w : World) : ∃ w', (Instr.makeSlice 52 (.int .i64 256) (.int .i64 256)).run Try.prog w = .ok (.slice (some ⟨w.heap.size, 0, none⟩) 256 256) w' ∧ Below w.heap.size w w' := by
  obtain ⟨i0, hi, e0, e1, e2⟩ := info_parts inf24
  have hr := run_make (P := Try.prog) w 52 24 i0 _ Try.underlying52 hi e0 .i64 .i64 256 256 (by omega) (Int.le_refl _) (by rw [e2]; decide) (by decide)
  exact ⟨_, hr, below1 _ _⟩
/-- What May tells. -/
def MayR (bl : List Bl) (w : World) (e : Ending) (w' : World) : Prop :=
  ∃ R : Bool, e = .returned (.bool R) ∧ (R = true → bl.length ≤ 48 ∧ 1 ≤ bl.length ∧ ∀ x ∈ bl, endF bl.length 1 x = true) ∧ Below w.heap.size w w'
set_option maxRecDepth 40000 in
set_option maxHeartbeats 8000000 in
theorem may11 {w : World} {nm : ByteArray} {bv : Value} {bl : List Bl} (hf : Fn.ok w ⟨nm, 0, 1, 0, bv, bl⟩) (hcv : ∀ x ∈ bl, x.cv = .slice none 0 0) : Calls Try.prog 11 #[Fn.val ⟨nm, 0, 1, 0, bv, bl⟩] w (MayR bl w) := by
  have H29 : Hid (∀ W, Below w.heap.size w W → ∀ fo fl fc, Calls Try.prog 29 #[.agg #[.slice fo fl fc, .int .i64 65536, .slice none 0 0, .int .i64 0], Fn.val ⟨nm, 0, 1, 0, bv, bl⟩] W (FnR bl W)) := fun W hW fo fl fc => func29 (hf.on hW) hcv fo none fl fc 0 0 _ _
  obtain ⟨bo, bc, eb, _⟩ := hf.b.form bl4
  dsimp only at *
  subst eb
  clear hf hcv
  unfold Fn.val at *
  dsimp only at *
  obtain ⟨w0, ew0⟩ : ∃ w0, w0 = w.alloc (.cells #[.string nm, .int .i64 0, .int .i64 1, .int .i64 0, .slice bo bl.length bc] 24) := ⟨_, rfl⟩
  have HB0 : Hid (Below w.heap.size w w0) := by unfold Hid; rw [ew0]; exact below1 _ _
  have hX : ∀ W, Below w0.heap.size w0 W → _ := fun W hW => fbox (w := w) (W := W) (by rw [← ew0]; exact hW)
  have HW0 := hid' ew0
  clear ew0
  go_enter Try.func11, Try.ntmps11
  go_upto_region 1 with fail
  rw [← HW0.out]
  have hne : Nonempty (After w0) := ⟨⟨w0, Below.refl _ _⟩⟩
  have r0 := fun q : After w0 => (hX q.1 q.2).2.2.1
  have r1 := fun q : After w0 => (hX q.1 q.2).2.2.2.1
  have r2 := fun q : After w0 => (hX q.1 q.2).2.2.2.2.1
  have r3 := fun q : After w0 => (hX q.1 q.2).2.2.2.2.2.1
  have r4 := fun q : After w0 => (hX q.1 q.2).2.2.2.2.2.2
  by_cases hl : bl.length ≤ 48
  · have t1 : ((bl.length : Int) ≤ 48) := by omega
    refine region_pick (fun (_ : Unit) W => Below w0.heap.size w0 W) () 10 4 (fun k => decide (k ≠ 5 ∧ k ≠ 8)) [0, 1, 2, 3, 4, 7] mixed (by kernel_rfl) (by kernel_rfl) (by kernel_rfl) (by simp) rfl (by decide) (by kernel_rfl) (bdw' (Below.refl _ _)) (fun _ _ h => h) (fun _ _ _ h hb => below_on h hb h.size) (fun _ => ?_)
    simp only [List.filterMap_cons, List.filterMap_nil, List.getElem?_cons_zero, List.getElem?_cons_succ]
    repeat (
      refine wpFreeB_step (fun K hK => ?_)
      go_simp
      first
        | (refine hK _ ?_; clear hK K)
        | (apply Exists.intro
           refine ⟨fun _ => ?_, hK _ ?_⟩
           (with_reducible rfl)
           clear hK K))
    refine wpFreeB_nil ?_
    refine headF_step [5] (by kernel_rfl) (by simp) (fun i hi => ?_)
    obtain rfl : i = 5 := by simpa using hi
    refine ⟨by omega, .inl ⟨by decide, _, rfl, by simp [Region.wanted, yielded], fun w5 hw5 => ?_⟩⟩
    obtain ⟨w6, hr6, hb6⟩ := make_funcs w5
    refine .inl ⟨.slice (some ⟨w5.heap.size, 0, none⟩) 256 256, (), w6, ?_, below_on hw5 hb6 hw5.size, ?_⟩
    · simp [execOp, hr6, Act.eval, Act.put, Result.andThen]
    clear hw5 hr6 hb6
    generalize w5.heap.size = q5
    refine headF_lex (W := w0) (m := 2) (by kernel_rfl) (by kernel_rfl) (by kernel_rfl) (by simp) (fun s _ _ h => seqB_ready h.1) (fun _ _ h => h) (fun _ _ _ h hb => below_on h hb h.size) _ [6] _ _ _ (pick_ops _ [6] (by simp)) (by decide) (inv_of (by kernel_rfl)) (by kernel_rfl) ?_
    simp only [List.filterMap_cons, List.filterMap_nil, List.getElem?_cons_zero, List.getElem?_cons_succ]
    repeat (
      refine wpFreeB_step (fun K hK => ?_)
      go_simp
      first
        | (refine hK _ ?_; clear hK K)
        | (apply Exists.intro
           refine ⟨fun _ => ?_, hK _ ?_⟩
           (with_reducible rfl)
           clear hK K))
    refine wpFreeB_nil ?_
    refine headF_step [8] (by kernel_rfl) (by simp) (fun i hi => ?_)
    obtain rfl : i = 8 := by simpa using hi
    refine ⟨by omega, .inl ⟨by decide, _, rfl, by simp [Region.wanted, yielded], fun w7 hw7 => ?_⟩⟩
    refine .inr ⟨29, #[.agg #[.slice (some ⟨q5, 0, none⟩) 256 256, .int .i64 65536, .slice none 0 0, .int .i64 0], .agg #[.string nm, .int .i64 0, .int .i64 1, .int .i64 0, .slice bo bl.length bc]], ?_, (H29.out _ (below_up HB0.out hw7) _ _ _).mono ?_⟩
    · simp [execOp, resolve, invoke, Act.eval, Act.put, Deferred.ofValue, go_sem, Try.func29]
    rintro e8 w8 ⟨R, rfl, hR, hb8⟩
    refine ⟨_, (), rfl, below_on hw7 hb8 hw7.size, ?_⟩
    have HR := hid' hR
    clear hR hw7 hb8
    refine headF_lex (W := w0) (m := 0) (by kernel_rfl) (by kernel_rfl) (by kernel_rfl) (by simp) (fun s _ _ h => seqB_ready h.1) (fun _ _ h => h) (fun _ _ _ h hb => below_on h hb h.size) _ [9] _ _ _ (pick_ops _ [9] (by simp)) (by decide) (inv_of (by kernel_rfl)) (by kernel_rfl) ?_
    simp only [List.filterMap_cons, List.filterMap_nil, List.getElem?_cons_zero, List.getElem?_cons_succ]
    repeat (
      refine wpFreeB_step (fun K hK => ?_)
      go_simp
      first
        | (refine hK _ ?_; clear hK K)
        | (apply Exists.intro
           refine ⟨fun _ => ?_, hK _ ?_⟩
           (with_reducible rfl)
           clear hK K))
    refine wpFreeB_nil ?_
    refine ⟨by kernel_rfl, fun w9 hw9 => ?_⟩
    have HB9 := hid' hw9
    clear hw9
    go_wp2_with fail
    go_ret
    exact ⟨R, rfl, fun h => ⟨hl, HR.out h⟩, below_up HB0.out HB9.out⟩
  · have t1 : ¬ ((bl.length : Int) ≤ 48) := by omega
    refine region_pick (fun (_ : Unit) W => Below w0.heap.size w0 W) () 10 0 (fun k => true) [0, 1, 2, 3, 4, 5, 6, 7, 8, 9] mixed (by kernel_rfl) (by kernel_rfl) (by kernel_rfl) (by simp) rfl (by decide) (by kernel_rfl) (bdw' (Below.refl _ _)) (fun _ _ h => h) (fun _ _ _ h hb => below_on h hb h.size) (fun _ => ?_)
    simp only [List.filterMap_cons, List.filterMap_nil, List.getElem?_cons_zero, List.getElem?_cons_succ]
    repeat (
      refine wpFreeB_step (fun K hK => ?_)
      go_simp
      first
        | (refine hK _ ?_; clear hK K)
        | (apply Exists.intro
           refine ⟨fun _ => ?_, hK _ ?_⟩
           (with_reducible rfl)
           clear hK K))
    refine wpFreeB_nil ?_
    refine ⟨by kernel_rfl, fun w9 hw9 => ?_⟩
    have HB9 := hid' hw9
    clear hw9
    go_wp2_with fail
    go_ret
    exact ⟨false, rfl, fun h => (by cases h), below_up HB0.out HB9.out⟩
end Go.Proofs.Ytgkaeoieclegjaa
