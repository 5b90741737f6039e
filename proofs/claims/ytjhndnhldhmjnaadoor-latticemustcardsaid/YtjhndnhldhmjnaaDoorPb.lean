/- The law's problem. -/
import Derived.Test.YtjhndnhldhmjnaaDoorOw
import Derived.Test.YtjhndnhldhmjnaaDoorMb
import Derived.Test.YtjhndnhldhmjnaaDoorCl
import Derived.Test.YtjhndnhldhmjnaaDoorFreeP
import Derived.Laws.EntriesVeiled
namespace Go.Proofs.YtjhndnhldhmjnaaDoor
open Go Go.RowKit Go.Maps
set_option linter.unusedVariables false
set_option linter.unusedSimpArgs false
theorem info44 : (Tryd.prog.info? 44).map (fun i => (i.zero, i.size, i.bytes)) = some (some (.agg #[.int .i64 0, .int .i64 0]), 2, 16) := by kernel_rfl
theorem exec_append {P : Program} {o : Oper} {a : Act} {w w' : World} (s x : Operand) (t : TypeId) (hop : o.op = Op.call { callee := Callee.builtin Builtin.append, args := #[s, x], argTypes := #[t, t] }) (v xv v' : Value) (hs : a.eval s = v) (hx : a.eval x = xv)
    (hrun : (Builtin.append_ #[t, t] o.type #[v, xv]).run P w = .ok v' w') : (execOp a.eval o).run P w = .ok (.value v') w' := by
  simp [execOp, hop, resolve, invoke, builtin, hs, hx, hrun, Result.andThen]
/-- The region's class: the empty row, the row of edges. -/
def PbC (W0 : World) (l : List (Int × Int)) : Option Nat × Option Value → World → Prop
  | (none, none), W => Below W0.heap.size W0 W
  | (some b, none), W => Below W0.heap.size W0 W ∧ Own 44 2 ecell W W0.heap.size (.slice (some ⟨b, 0, none⟩) 0 0) []
  | (_, some v), W => Below W0.heap.size W0 W ∧ Own 44 2 ecell W W0.heap.size v l
theorem PbC.below {W0 : World} {l : List (Int × Int)} : ∀ s W, PbC W0 l s W → Below W0.heap.size W0 W
  | (none, none), _, h => h
  | (some _, none), _, h => h.1
  | (none, some _), _, h => h.1
  | (some _, some _), _, h => h.1
theorem own_on {α : Type} {f : α → List Value} {t : TypeId} {z B : Nat} {W W' : World} {v : Value} {l : List α} (h : Own t z f W B v l) (hb : Below W.heap.size W W') : Own t z f W' B v l := (Kept.of_below (S := fun _ => False) hb).owns h (fun _ _ e => e)
theorem PbC.on {W0 : World} {l : List (Int × Int)} : ∀ s W W', PbC W0 l s W → Below W.heap.size W W' → PbC W0 l s W'
  | (none, none), _, _, h, hb => below_up h hb
  | (some _, none), _, _, h, hb => ⟨below_up h.1 hb, own_on h.2 hb⟩
  | (none, some _), _, _, h, hb => ⟨below_up h.1 hb, own_on h.2 hb⟩
  | (some _, some _), _, _, h, hb => ⟨below_up h.1 hb, own_on h.2 hb⟩
set_option maxRecDepth 20000 in
set_option maxHeartbeats 4000000 in
theorem problem11 {w : World} {nv ev : Value} {ns : List Nd} {l : List (Int × Int)} (hn : Src Nd.cells w nv ns) (he : Src ecell w ev l) (n64 : ns.length ≤ 64) (l256 : l.length ≤ 256) :
    Calls Tryd.prog 11 #[nv, ev] w fun e w' => ∃ q ev', e = .returned (prbV ns.length ev' 0 (.func (.func 31) #[] #[.pointer (some ⟨q, 0, none⟩)]) (.func (.func 32) #[] #[]) (.func (.func 33) #[] #[]) (.func (.func 34) #[] #[.pointer (some ⟨q, 0, none⟩)])) ∧ BoxN w' q ns ∧ Src ecell w' ev' l ∧ Below w.heap.size w w' := by
  obtain ⟨ao, cap, rfl⟩ := hn.len
  obtain ⟨bo, cap2, rfl⟩ := he.len
  have hmf : ∀ (fn : Fn) (first cap : Array Value) (w : World), (Instr.makeFunc fn first cap).run Tryd.prog w = .ok (.func fn first cap) w := fun _ _ _ _ => rfl
  have HN := hid' hn
  have HE := hid' he
  obtain ⟨W0, eW0⟩ : ∃ W0, W0 = (w.alloc (.cells #[.slice ao ns.length cap] 22)).alloc (.cells #[.int .i64 0, .slice none 0 0, .int .u64 0, .nilFunc, .nilFunc, .nilFunc, .nilFunc] 35) := ⟨_, rfl⟩
  have hB0 : Below w.heap.size w W0 := by rw [eW0]; exact below2 _ _ _
  have HB0 := hid' hB0
  have hs0 : W0.heap.size = w.heap.size + 1 + 1 := by rw [eW0]; simp
  have b0 : W0.heap[w.heap.size]? = some (.cells #[.slice ao ns.length cap] 22 (0, 0)) := by
    rw [eW0]
    exact ((below1 _ _).block _ (by simp)).trans (heap_alloc_new _ _)
  have b1 : W0.heap[w.heap.size + 1]? = some (.cells #[.int .i64 0, .slice none 0 0, .int .u64 0, .nilFunc, .nilFunc, .nilFunc, .nilFunc] 35 (0, 0)) := by
    rw [eW0]
    have := heap_alloc_new (w.alloc (.cells #[.slice ao ns.length cap] 22)) (.cells #[.int .i64 0, .slice none 0 0, .int .u64 0, .nilFunc, .nilFunc, .nilFunc, .nilFunc] 35)
    simpa using this
  have HC : Hid (∀ W, Below W0.heap.size W0 W → W.heap[w.heap.size]? = some (.cells #[.slice ao ns.length cap] 22 (0, 0)) ∧ W.heap[w.heap.size + 1]? = some (.cells #[.int .i64 0, .slice none 0 0, .int .u64 0, .nilFunc, .nilFunc, .nilFunc, .nilFunc] 35 (0, 0))) := fun W hW => ⟨(hW.block _ (by omega)).trans b0, (hW.block _ (by omega)).trans b1⟩
  clear hn he hB0 b0 b1
  go_enter Tryd.func11, Tryd.ntmps11
  go_upto_region 1 with fail
  rw [← eW0]
  clear eW0
  have hne := after_some W0
  have q0 : ∀ t : After W0, t.1.cell? ⟨w.heap.size, 0, none⟩ = some (.slice ao ns.length cap) := fun t => cell_of_row t.1 _ 0 _ 22 (0, 0) (HC.out t.1 t.2).1
  refine region_pick (PbC W0 l) (none, none) 7 2 (fun k => decide (k ≠ 2 ∧ k ≠ 4)) [0, 1, 3, 5, 6] mixed (by kernel_rfl) (by kernel_rfl) (by kernel_rfl) (by simp) rfl (by decide) (by kernel_rfl) (bdrew (Below.refl _ _) 1) PbC.below PbC.on (fun _ => ?_)
  simp only [List.filterMap_cons, List.filterMap_nil, List.getElem?_cons_zero, List.getElem?_cons_succ]
  repeat (
    refine wpFreeB_step (fun K hK => ?_)
    go_simp
    first
      | (refine hK _ ?_; clear hK K)
      | (apply Exists.intro
         refine ⟨fun _ => ?_, hK _ ?_⟩
         (with_reducible rfl)
         clear hK K))
  refine wpFreeB_nil ?_
  clear q0 hne
  refine headF_step [2] (by kernel_rfl) (by simp) (fun q hq => ?_)
  obtain rfl : q = 2 := by simpa using hq
  refine ⟨by omega, .inl ⟨by decide, _, rfl, by simp [Region.wanted], fun w5 hw5 => .inl ⟨.slice (some ⟨w5.heap.size, 0, none⟩) 0 0, (some w5.heap.size, none), w5.alloc (.cells #[] 44), ?_, ⟨below_up hw5 (below1 _ _), ?_⟩, ?_⟩⟩⟩
  · simp [go_sem]
  · have h5 : Below W0.heap.size W0 w5 := hw5
    exact ⟨rfl, .inr ⟨w5.heap.size, 0, #[], rfl, h5.size, heap_alloc_new _ _, Nat.le_refl _, Nat.zero_le _, rfl, rfl⟩⟩
  · clear hw5
    generalize w5.heap.size = qb
    refine headF_step [4] (by kernel_rfl) (by simp) (fun q hq => ?_)
    obtain rfl : q = 4 := by simpa using hq
    refine ⟨by omega, .inl ⟨by decide, _, rfl, by simp [Region.wanted], fun w6 hw6 => ?_⟩⟩
    obtain ⟨hw6, hO6⟩ := hw6
    have hsrc : Src ecell w6 (.slice bo l.length cap2) l := HE.out.on (below_up HB0.out hw6)
    obtain ⟨v', w7, h1, h2, h3, h4⟩ := append_own2 (f := ecell) (st := 23) (et := 44) (bytes := 16) ec2 (base := W0.heap.size) (l := []) (m := l) (w := w6) (fun y hy u hu => by
      simp only [ecell, List.mem_cons, List.not_mem_nil, or_false] at hu
      rcases hu with rfl | rfl <;> rfl) Tryd.underlying23 info44 rfl (by decide) hO6 hsrc (by simp; omega) (by simp; unfold maxLen; omega) hw6.size 23
    rw [List.nil_append] at h2
    obtain ⟨vo, vc, rfl⟩ := (Own.src ec2 h2).len
    have K := Kept.of_grown (S := fun k => k = qb) h3 (fun k e => by injection e with e; exact e.symm)
    have hqb := (World.ownsRow.lt hO6 qb rfl).1
    have hM8 : PbC W0 l (some qb, some (.slice vo l.length vc)) w7 := ⟨hw6.trans (K.below hw6.size (fun k e => by omega)), h2⟩
    refine .inl ⟨.slice vo l.length vc, (some qb, some (.slice vo l.length vc)), w7, ?_, hM8, ?_⟩
    · refine exec_append (.tmp 7) (.tmp 8) 23 rfl (.slice (some ⟨qb, 0, none⟩) 0 0) (.slice bo l.length cap2) _ ?_ ?_ h1
      · simp [Act.eval, Act.put]
      · simp [Act.eval, Act.put]
    · clear hM8 h1 h2 h3 h4 K hO6 hsrc hw6 hqb
      refine ⟨by kernel_rfl, fun w9 hw9 => ?_⟩
      obtain ⟨hB9, hO9⟩ := hw9
      obtain ⟨b0, b1⟩ := HC.out w9 hB9
      have d := fun o => cell_of_row w9 _ o _ 35 (0, 0) b1
      have d0 : w9.cell? ⟨w.heap.size + 1, 0, none⟩ = some (.int .i64 0) := d 0
      have d1 : w9.cell? ⟨w.heap.size + 1, 1, none⟩ = some (.slice none 0 0) := d 1
      have d2 : w9.cell? ⟨w.heap.size + 1, 2, none⟩ = some (.int .u64 0) := d 2
      have d3 : w9.cell? ⟨w.heap.size + 1, 3, none⟩ = some .nilFunc := d 3
      have d4 : w9.cell? ⟨w.heap.size + 1, 4, none⟩ = some .nilFunc := d 4
      have d5 : w9.cell? ⟨w.heap.size + 1, 5, none⟩ = some .nilFunc := d 5
      have d6 : w9.cell? ⟨w.heap.size + 1, 6, none⟩ = some .nilFunc := d 6
      have z : ∀ o, w9.frozen? ⟨w.heap.size + 1, o, none⟩ = false := fun o => by simp [World.frozen?, b1]
      clear d
      simp only [List.drop_succ_cons, List.drop_zero, List.setIfInBounds_toArray, List.set_cons_succ, List.set_cons_zero, Act.put]
      go_wp2_with fail
      refine bodyPost_ret (v := prbV ns.length (.slice vo l.length vc) 0 (.func (.func 31) #[] #[.pointer (some ⟨w.heap.size, 0, none⟩)]) (.func (.func 32) #[] #[]) (.func (.func 33) #[] #[]) (.func (.func 34) #[] #[.pointer (some ⟨w.heap.size, 0, none⟩)])) (by simp [results, Tryd.results11, go_sem, prbV, d0, d1, d2, d3, d4, d5, d6]) rfl ?_
      have K := ((((((setK w9 (w.heap.size + 1) 0 (.int .i64 ns.length)).trans (setK _ _ 1 (.slice vo l.length vc))).trans (setK _ _ 2 (.int .u64 0))).trans (setK _ _ 3 (.func (.func 31) #[] #[.pointer (some ⟨w.heap.size, 0, none⟩)]))).trans (setK _ _ 4 (.func (.func 32) #[] #[]))).trans (setK _ _ 5 (.func (.func 33) #[] #[]))).trans (setK _ _ 6 (.func (.func 34) #[] #[.pointer (some ⟨w.heap.size, 0, none⟩)]))
      have hBF := (HB0.out.trans (hB9.mono HB0.out.size)).trans (K.below (B := w.heap.size) (by have := hB9.size; omega) (fun k e => by omega))
      refine ⟨w.heap.size, .slice vo l.length vc, rfl, ⟨_, ?_, HN.out.on hBF⟩, ?_, hBF⟩
      · rw [K.cell (by have := hB9.size; omega) (by omega)]
        exact cell_of_row w9 _ 0 _ 22 (0, 0) b0
      · have h2 : Own 44 2 ecell _ W0.heap.size (.slice vo l.length vc) l := K.owns hO9 (fun b hb e => by
          have := (World.ownsRow.lt hO9 b hb).1
          omega)
        exact h2.src ec2
end Go.Proofs.YtjhndnhldhmjnaaDoor
