/- awake: a set is joined. -/
import Derived.Test.YtjhndnhldhmjnaaDoorUa
import Derived.Test.YtjhndnhldhmjnaaDoorUb
import Derived.Test.YtjhndnhldhmjnaaDoorUc
import Derived.Test.YtjhndnhldhmjnaaDoorUd
import Derived.Test.YtjhndnhldhmjnaaDoorUe
import Derived.Test.YtjhndnhldhmjnaaDoorFreeP
namespace Go.Proofs.YtjhndnhldhmjnaaDoor
open Go Go.RowKit Go.Maps
set_option linter.unusedVariables false
set_option linter.unusedSimpArgs false
/-- A row of ints just made. -/
theorem src_new (w : World) (l : List Int) (cs : Array Value) (h : cs.toList = l.map fun n => .int .i64 n) : Src icell (w.alloc (.cells cs 3)) (.slice (some ⟨w.heap.size, 0, none⟩) l.length l.length) l := by
  have hq := heap_alloc_new w (.cells cs 3)
  refine .inr ⟨w.heap.size, 0, l.length, rfl, (Array.getElem?_eq_some_iff.1 hq).1, Nat.le_refl _, fun j u hj => ?_⟩
  rw [Nat.zero_add, cell_of_row _ w.heap.size j _ 3 (0, 0) hq]
  rw [flat_i, ← h] at hj
  simpa using hj
theorem union20 {w : World} {v v' : Value} {xs ys : List Wd} (h : SetIs w v xs) (h' : SetIs w v' ys) : Calls Tryd.prog 20 #[v, v'] w fun e w' => ∃ sv zs, e = .returned sv ∧ SetIs w' sv zs ∧ (∀ n, memL zs n = (memL xs n || memL ys n)) ∧ Below w.heap.size w w' := by
  by_cases hlt : xs.length < ys.length
  · refine (union20_b h h' hlt).mono ?_
    rintro e w' ⟨sv, rfl, hs, hb⟩
    exact ⟨sv, _, rfl, hs, fun n => by rw [orL_mem (by omega), Bool.or_comm], hb⟩
  · refine (union20_a h h' hlt).mono ?_
    rintro e w' ⟨sv, rfl, hs, hb⟩
    exact ⟨sv, _, rfl, hs, fun n => orL_mem (by omega) n, hb⟩
theorem union14 {xs ys zs : List Wd} (hx : ∀ k, memL xs k = newB [3, 1] k) (hy : ∀ k, memL ys k = newB [2] k) (hz : ∀ n, memL zs n = (memL xs n || memL ys n)) (hc : Can zs) : zs = xs14 := is14 hc fun n => by
  rw [hz, hx, hy]
  unfold newB
  rw [← Bool.decide_or]
  congr 1
  simp only [List.mem_cons, List.not_mem_nil, or_false]
  exact propext ⟨fun h => by omega, fun h => by omega⟩
theorem new14 {xs : List Wd} (hx : ∀ k, memL xs k = newB [1, 2, 3] k) (hc : Can xs) : xs = xs14 := is14 hc fun n => by
  rw [hx]
  unfold newB
  congr 1
  simp only [List.mem_cons, List.not_mem_nil, or_false]
  exact propext ⟨fun h => by omega, fun h => by omega⟩
theorem wpFreeB_wantK {P : Program} {ops : Array Oper} {W : World} {Q : Act → Prop} {a : Act} {o : Oper} {rest : List Oper} (hw : Region.wanted o (yielded ops a.tmps) = true)
    (h : ∀ K : Act → Prop, (∀ a, wpFreeB P ops W Q rest a → K a) → ∃ v, (∀ t : After W, Oper.quietUpon P (fun w' => Below t.1.heap.size t.1 w') t.1 v ((execOp a.eval o).run P t.1)) ∧ K (a.put o.dst v)) : wpFreeB P ops W Q (o :: rest) a :=
  wpFreeB_step fun K hK => by
    rw [if_pos hw]
    exact h K hK
theorem has14a : hasI xs14 2 = true := by kernel_rfl
theorem has14b : hasI xs14 4 = false := by kernel_rfl
/-- The last region's class: the row of numbers, the set of it. -/
def AwC (W0 : World) (s : Nat × Nat × Value) (W : World) : Prop := Below W0.heap.size W0 W ∧ (s.1 = 1 → Src icell W (.slice (some ⟨s.2.1, 0, none⟩) 3 3) [1, 2, 3]) ∧ (s.1 = 2 → SetIs W s.2.2 xs14)
theorem AwC.on {W0 : World} (s : Nat × Nat × Value) (W W' : World) (h : AwC W0 s W) (hb : Below W.heap.size W W') : AwC W0 s W' := ⟨below_up h.1 hb, fun e => (h.2.1 e).on hb, fun e => (h.2.2 e).on hb⟩
set_option maxRecDepth 20000 in
set_option maxHeartbeats 4000000 in
theorem awake9 (w : World) : Calls Tryd.prog 9 #[] w fun e w' => e = .returned (.bool true) ∧ Below w.heap.size w w' := by
  go_enter Tryd.func9, Tryd.ntmps9
  go_wp2_with (go_at_call 17; refine of_mark ?_)
  unfold Mark
  refine (newSet17 (l := [3, 1]) (src_new w [3, 1] #[.int .i64 3, .int .i64 1] rfl) (by decide)).mono ?_
  rintro e1 w1 ⟨sv1, xs1, rfl, hS1, hm1, hb1⟩
  have HB1 := hid' (below_up (below1 w (.cells #[.int .i64 3, .int .i64 1] 3)) hb1)
  clear hb1
  go_wp2_with (go_at_call 17; refine of_mark ?_)
  unfold Mark
  refine (newSet17 (l := [2]) (src_new w1 [2] #[.int .i64 2] rfl) (by decide)).mono ?_
  rintro e2 w2 ⟨sv2, xs2, rfl, hS2, hm2, hb2⟩
  have hb12 := below_up (below1 w1 (.cells #[.int .i64 2] 3)) hb2
  have HB2 := hid' (below_up HB1.out hb12)
  have hS12 := hS1.on hb12
  clear hb2 hb12 hS1
  go_wp2_with (go_at_call 20; refine of_mark ?_)
  unfold Mark
  refine (union20 hS12 hS2).mono ?_
  rintro e3 w3 ⟨sv3, xs3, rfl, hS3, hm3, hb3⟩
  have e14 := union14 hm1 hm2 hm3 hS3.can
  subst e14
  have HB3 := hid' (below_up HB2.out hb3)
  have HS3 := hid' hS3
  clear hb3 hS12 hS2 hm1 hm2 hm3 hS3
  obtain ⟨⟨rv, esv, hrv⟩, _, _⟩ := HS3.out
  subst esv
  obtain ⟨ro, rc, erv⟩ := hrv.len
  subst erv
  clear hrv
  have HBX : Hid (∀ W, Below (w3.alloc (.cells #[.slice ro xs14.length rc] 49)).heap.size (w3.alloc (.cells #[.slice ro xs14.length rc] 49)) W → W.cell? ⟨w3.heap.size, 0, none⟩ = some (.slice ro xs14.length rc)) := fun W hW => cell_of_row W _ 0 _ 49 (0, 0) ((hW.block _ (by simp)).trans (heap_alloc_new _ _))
  have HB4 := hid' (below_up HB3.out (below1 w3 (.cells #[.slice ro xs14.length rc] 49)))
  have HS4 := hid' (HS3.out.on (below1 w3 (.cells #[.slice ro xs14.length rc] 49)))
  clear HS3 HB1 HB2 HB3
  go_upto_region 2 with fail
  generalize w3.alloc (.cells #[.slice ro xs14.length rc] 49) = W0 at *
  have hne := after_some W0
  have q0 : ∀ t : After W0, _ := fun t => HBX.out t.1 t.2
  have K26 : ∀ t : After W0, _ := fun t => len26_14 (HS4.out.on t.2)
  have KH2 : ∀ t : After W0, Calls Tryd.prog 19 #[.agg #[.slice ro xs14.length rc], .int .i64 2] t.1 fun e w' => e = .returned (.bool true) ∧ Below t.1.heap.size t.1 w' := fun t => by
    have := has19 (HS4.out.on t.2) 2
    rw [has14a] at this
    exact this
  have KH4 : ∀ t : After W0, Calls Tryd.prog 19 #[.agg #[.slice ro xs14.length rc], .int .i64 4] t.1 fun e w' => e = .returned (.bool false) ∧ Below t.1.heap.size t.1 w' := fun t => by
    have := has19 (HS4.out.on t.2) 4
    rw [has14b] at this
    exact this
  generalize xs14.length = n14 at *
  refine region_pick (AwC W0) (0, 0, undef) 17 3 (fun k => decide (k < 14)) [0, 1, 2, 3, 4, 5, 6, 7, 8, 9, 10, 11, 12, 13] mixed (by kernel_rfl) (by kernel_rfl) (by kernel_rfl) (by simp) rfl (by decide) (by kernel_rfl) ⟨bdrew (Below.refl _ _) 1, (fun e => by cases e), (fun e => by cases e)⟩ (fun s w' h => h.1) AwC.on (fun _ => ?_)
  simp only [List.filterMap_cons, List.filterMap_nil, List.getElem?_cons_zero, List.getElem?_cons_succ]
  repeat (
    refine wpFreeB_wantK (by kernel_rfl) (fun K hK => ?_)
    go_simp
    first
      | (refine hK _ ?_; clear hK K)
      | (apply Exists.intro
         refine ⟨fun _ => ?_, hK _ ?_⟩
         (first | (with_reducible rfl) | (with_reducible exact K26 _) | (with_reducible exact KH2 _) | (with_reducible exact KH4 _))
         clear hK K))
  refine wpFreeB_nil ?_
  clear q0 K26 KH2 KH4 hne
  refine headF_step [14] (by kernel_rfl) (by simp) (fun q hq => ?_)
  obtain rfl : q = 14 := by simpa using hq
  refine ⟨by omega, .inl ⟨by decide, _, rfl, (by kernel_rfl), fun w5 hw5 => .inl ⟨.slice (some ⟨w5.heap.size, 0, none⟩) 3 3, (1, w5.heap.size, undef), w5.alloc (.cells #[.int .i64 1, .int .i64 2, .int .i64 3] 3), ?_, ⟨below_up hw5.1 (below1 _ _), (fun _ => src_new w5 [1, 2, 3] #[.int .i64 1, .int .i64 2, .int .i64 3] rfl), (fun e => by cases e)⟩, ?_⟩⟩⟩
  · simp [go_sem]
  · clear hw5
    generalize w5.heap.size = qb
    refine headF_step [15] (by kernel_rfl) (by simp) (fun q hq => ?_)
    obtain rfl : q = 15 := by simpa using hq
    refine ⟨by omega, .inl ⟨by decide, _, rfl, (by kernel_rfl), fun w6 hw6 => .inr ⟨17, #[.slice (some ⟨qb, 0, none⟩) 3 3], ?_, (newSet17 (l := [1, 2, 3]) (hw6.2.1 rfl) (by decide)).mono ?_⟩⟩⟩
    · simp [execOp, resolve, invoke, Act.eval, Act.put, Deferred.ofValue, go_sem, Tryd.func17]
    · rintro e7 w7 ⟨sv7, xs7, rfl, hS7, hm7, hb7⟩
      have e14 := new14 hm7 hS7.can
      subst e14
      refine ⟨sv7, (2, 0, sv7), rfl, ⟨below_up hw6.1 hb7, (fun e => by cases e), (fun _ => hS7)⟩, ?_⟩
      clear hw6 hS7 hm7 hb7
      refine headF_step [16] (by kernel_rfl) (by simp) (fun q hq => ?_)
      obtain rfl : q = 16 := by simpa using hq
      refine ⟨by omega, .inl ⟨by decide, _, rfl, (by kernel_rfl), fun w8 hw8 => .inr ⟨27, #[.agg #[.slice ro n14 rc], sv7], ?_, (equal27 (HS4.out.on hw8.1) (hw8.2.2 rfl)).mono ?_⟩⟩⟩
      · simp [execOp, resolve, invoke, Act.eval, Act.put, Deferred.ofValue, go_sem, Tryd.func27]
      · rintro e8 w8' ⟨rfl, hb8⟩
        rw [decide_eq_true rfl]
        refine ⟨.bool true, (3, 0, undef), rfl, ⟨below_up hw8.1 hb8, (fun e => by cases e), (fun e => by cases e)⟩, ?_⟩
        clear hw8 hb8
        refine ⟨by kernel_rfl, fun w9 hw9 => ?_⟩
        have HB9 := hid' (below_up HB4.out hw9.1)
        clear hw9
        simp only [List.drop_succ_cons, List.drop_zero, List.setIfInBounds_toArray, List.set_cons_succ, List.set_cons_zero, Act.put]
        go_wp2_with fail
        go_ret
        exact ⟨rfl, HB9.out⟩
end Go.Proofs.YtjhndnhldhmjnaaDoor
