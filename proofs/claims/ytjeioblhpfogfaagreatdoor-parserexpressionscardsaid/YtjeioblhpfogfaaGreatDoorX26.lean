/- read's deferred function. -/
import Derived.Test.YtjeioblhpfogfaaGreatDoorX23
import Derived.Defers
import Derived.Recover
import Derived.Laws.Pointers
set_option linter.unusedVariables false
set_option linter.unusedSimpArgs false
set_option maxRecDepth 20000
set_option maxHeartbeats 8000000
namespace Go.Proofs.YtjeioblhpfogfaaGreatDoor
open Go.RowKit

/-- read's three results in memory. -/
structure Out (w : World) (nb pb eb : Nat) (x : NdH) (kv : Value) (pl er : Int) : Prop where
  n : w.heap[nb]? = some (.cells #[.int .i64 x.kind, .string x.str, .int .u32 x.num, .bool x.flag, kv, .int .i64 x.pos] 25 (0, 0))
  p : w.heap[pb]? = some (.cells #[.int .i64 pl] 3 (0, 0))
  e : w.heap[eb]? = some (.cells #[.int .i64 er] 26 (0, 0))
  np : ¬ nb = pb
  ne : ¬ nb = eb
  pe : ¬ pb = eb
theorem catch_idle (nb pb eb : Nat) (w : World) :
    CallsD Tryz.prog 72 #[.pointer (some ⟨nb, 0, none⟩), .pointer (some ⟨pb, 0, none⟩), .pointer (some ⟨eb, 0, none⟩)] .returning w fun e u' w' => e = .returned (.tuple #[]) ∧ u' = .returning ∧ w' = w := by
  refine callsD_of_wpS Tryz.func72 rfl fun c₀ cs hu => ?_
  apply wpS_seq
  apply wpS_region
  simp [wpOpsS, go_sem, recoverD, hu, Tryz.ntmps72, Exit.thenS]
  apply wpS_seq
  apply wpS_seq
  apply wpS_region
  simp [wpOpsS, go_sem, Exit.thenS]
  refine wpS_cond (t := true) (by simp [Act.eval, Array.replicate]) ?_
  simp only [if_true]
  refine wpS_of_wp (wp_ret ?_)
  cases c₀
  simp_all [Exit.thenS, bodyPostS, results, Tryz.results72]
theorem out_wrong {w W : World} {nb pb eb : Nat} {x : NdH} {kv : Value} {pl er q : Int} (h : Out w nb pb eb x kv pl er)
    (hW : W = (((((((((w.setCell ⟨nb, 0, none⟩ (.int .i64 0)).setCell ⟨nb, 1, none⟩ (.string ⟨#[]⟩)).setCell ⟨nb, 2, none⟩ (.int .u32 0)).setCell ⟨nb, 3, none⟩ (.bool false)).setCell ⟨nb, 4, none⟩ (.slice none 0 0)).setCell ⟨nb, 5, none⟩ (.int .i64 0)).setCell ⟨pb, 0, none⟩ (.int .i64 q)).setCell ⟨eb, 0, none⟩ (.int .i64 90)).alloc (.cells #[.int .i64 q] 104)).drew) :
    Out W nb pb eb ⟨0, ⟨#[]⟩, 0, false, 0⟩ (.slice none 0 0) q 90 ∧ (∀ k, k < w.heap.size → ¬ k = nb → ¬ k = pb → ¬ k = eb → W.heap[k]? = w.heap[k]?) ∧ w.heap.size ≤ W.heap.size ∧ W.os = w.os ∧ W.tape = w.tape ∧ W.output = w.output := by
  have d : ∀ W : World, W.drew.heap = W.heap := fun _ => rfl
  have d1 : ∀ W : World, W.drew.os = W.os := fun _ => rfl
  have d2 : ∀ W : World, W.drew.tape = W.tape := fun _ => rfl
  have d3 : ∀ W : World, W.drew.output = W.output := fun _ => rfl
  have a1 : ∀ (W : World) (o : Obj), (W.alloc o).os = W.os := fun _ _ => rfl
  have a2 : ∀ (W : World) (o : Obj), (W.alloc o).tape = W.tape := fun _ _ => rfl
  have a3 : ∀ (W : World) (o : Obj), (W.alloc o).output = W.output := fun _ _ => rfl
  have os : ∀ (W : World) (a : Addr) (v : Value), (W.setCell a v).os = W.os := fun _ _ _ => rfl
  have tp : ∀ (W : World) (a : Addr) (v : Value), (W.setCell a v).tape = W.tape := fun _ _ _ => rfl
  have ou : ∀ (W : World) (a : Addr) (v : Value), (W.setCell a v).output = W.output := fun _ _ _ => rfl
  have st : ∀ (W : World) (b : Nat) (cs : Array Value) (T : TypeId) (o : Nat) (v : Value), W.heap[b]? = some (.cells cs T (0, 0)) → (W.setCell ⟨b, o, none⟩ v).heap[b]? = some (.cells (cs.setIfInBounds o v) T (0, 0)) := fun W b cs T o v h => by
    have := setCell_heap (o := o) h v b
    rwa [if_pos rfl] at this
  have ot : ∀ (W : World) (b k : Nat) (o : Nat) (v : Value), ¬ k = b → (W.setCell ⟨b, o, none⟩ v).heap[k]? = W.heap[k]? := fun W b k o v h => Below.heap_setCell W ⟨b, o, none⟩ v k h
  have sz : ∀ (W : World) (b : Nat) (o : Nat) (v : Value), (W.setCell ⟨b, o, none⟩ v).heap.size = W.heap.size := fun W b o v => World.size_setCell _ _ _
  have x1 := h.np
  have x2 := h.ne
  have x3 := h.pe
  have ln := lt_of_heap h.n
  have lp := lt_of_heap h.p
  have le := lt_of_heap h.e
  have al : ∀ k, k < w.heap.size → W.heap[k]? = ((((((((w.setCell ⟨nb, 0, none⟩ (.int .i64 0)).setCell ⟨nb, 1, none⟩ (.string ⟨#[]⟩)).setCell ⟨nb, 2, none⟩ (.int .u32 0)).setCell ⟨nb, 3, none⟩ (.bool false)).setCell ⟨nb, 4, none⟩ (.slice none 0 0)).setCell ⟨nb, 5, none⟩ (.int .i64 0)).setCell ⟨pb, 0, none⟩ (.int .i64 q)).setCell ⟨eb, 0, none⟩ (.int .i64 90)).heap[k]? := fun k hk => by
    rw [hW, d]
    exact Below.heap_alloc _ _ _ (by rw [sz, sz, sz, sz, sz, sz, sz, sz]; exact hk)
  refine ⟨⟨?_, ?_, ?_, x1, x2, x3⟩, fun k hk k1 k2 k3 => ?_, ?_, ?_, ?_, ?_⟩
  · rw [al nb ln, ot _ _ _ _ _ x2, ot _ _ _ _ _ x1]
    exact st _ _ _ _ _ _ (st _ _ _ _ _ _ (st _ _ _ _ _ _ (st _ _ _ _ _ _ (st _ _ _ _ _ _ (st _ _ _ _ _ _ h.n)))))
  · rw [al pb lp, ot _ _ _ _ _ x3]
    refine st _ _ #[.int .i64 pl] _ _ _ ?_
    rw [ot _ _ _ _ _ (fun e => x1 e.symm), ot _ _ _ _ _ (fun e => x1 e.symm), ot _ _ _ _ _ (fun e => x1 e.symm), ot _ _ _ _ _ (fun e => x1 e.symm), ot _ _ _ _ _ (fun e => x1 e.symm), ot _ _ _ _ _ (fun e => x1 e.symm)]
    exact h.p
  · rw [al eb le]
    refine st _ _ #[.int .i64 er] _ _ _ ?_
    rw [ot _ _ _ _ _ (fun e => x3 e.symm), ot _ _ _ _ _ (fun e => x2 e.symm), ot _ _ _ _ _ (fun e => x2 e.symm), ot _ _ _ _ _ (fun e => x2 e.symm), ot _ _ _ _ _ (fun e => x2 e.symm), ot _ _ _ _ _ (fun e => x2 e.symm), ot _ _ _ _ _ (fun e => x2 e.symm)]
    exact h.e
  · rw [al k hk, ot _ _ _ _ _ k3, ot _ _ _ _ _ k2, ot _ _ _ _ _ k1, ot _ _ _ _ _ k1, ot _ _ _ _ _ k1, ot _ _ _ _ _ k1, ot _ _ _ _ _ k1, ot _ _ _ _ _ k1]
  · rw [hW, d, World.size_alloc, sz, sz, sz, sz, sz, sz, sz, sz]
    exact Nat.le_succ _
  · rw [hW, d1, a1, os, os, os, os, os, os, os, os]
  · rw [hW, d2, a2, tp, tp, tp, tp, tp, tp, tp, tp]
  · rw [hW, d3, a3, ou, ou, ou, ou, ou, ou, ou, ou]
theorem catch_wrong (nb pb eb : Nat) (q : Int) (x : NdH) (kv : Value) (pl er : Int) (older : List PanicEntry) (w : World) (hO : Out w nb pb eb x kv pl er) :
    CallsD Tryz.prog 72 #[.pointer (some ⟨nb, 0, none⟩), .pointer (some ⟨pb, 0, none⟩), .pointer (some ⟨eb, 0, none⟩)] (.panicking ({ v := .iface 104 (.agg #[.int .i64 q]), recovered := false } :: older)) w fun e u' w' => e = .returned (.tuple #[]) ∧ u' = .panicking ({ v := .iface 104 (.agg #[.int .i64 q]), recovered := true } :: older) ∧ Out w' nb pb eb ⟨0, ⟨#[]⟩, 0, false, 0⟩ (.slice none 0 0) q 90 ∧ (∀ k, k < w.heap.size → ¬ k = nb → ¬ k = pb → ¬ k = eb → w'.heap[k]? = w.heap[k]?) ∧ w.heap.size ≤ w'.heap.size ∧ w'.os = w.os ∧ w'.tape = w.tape ∧ w'.output = w.output := by
  obtain ⟨n0, n1, n2, n3, n4, n5, nf, nl⟩ := box_six hO.n
  refine callsD_of_wpS Tryz.func72 rfl fun c₀ cs hu => ?_
  apply wpS_seq
  apply wpS_region
  simp [wpOpsS, go_sem, recoverD, hu, Tryz.ntmps72, Exit.thenS]
  apply wpS_seq
  apply wpS_seq
  apply wpS_region
  simp [wpOpsS, go_sem, Exit.thenS]
  refine wpS_cond (t := false) (by simp [Act.eval, Array.replicate]) ?_
  simp only [Bool.false_eq_true, if_false]
  refine wpS_of_wp (wp_skip ?_)
  simp only [Exit.thenS]
  have hta : ∀ W : World, (Instr.typeAssert (.iface 104 (.agg #[.int .i64 q])) 20 104 true).run Tryz.prog W = .ok (.tuple #[.agg #[.int .i64 q], .bool true]) W := fun W => by kernel_rfl
  apply wpS_seq
  apply wpS_region
  simp [wpOpsS, go_sem, Exit.thenS, hta]
  apply wpS_seq
  apply wpS_seq
  apply wpS_region
  simp [wpOpsS, go_sem, Exit.thenS]
  refine wpS_cond (t := false) (by simp [Act.eval, Array.replicate]) ?_
  simp only [Bool.false_eq_true, if_false]
  refine wpS_of_wp (wp_skip ?_)
  simp only [Exit.thenS]
  refine wpS_of_wp ?_
  have p0 : w.cell? ⟨pb, 0, none⟩ = some (.int .i64 pl) := by rw [cell_of_row w _ _ _ _ _ hO.p]; rfl
  have e0 : w.cell? ⟨eb, 0, none⟩ = some (.int .i64 er) := by rw [cell_of_row w _ _ _ _ _ hO.e]; rfl
  have pf : w.frozen? ⟨pb, 0, none⟩ = false := by simp [World.frozen?, hO.p]
  have ef : w.frozen? ⟨eb, 0, none⟩ = false := by simp [World.frozen?, hO.e]
  have nf0 := nf 0
  have nf1 := nf 1
  have nf2 := nf 2
  have nf3 := nf 3
  have nf4 := nf 4
  have nf5 := nf 5
  have pl' := lt_of_heap hO.p
  have el := lt_of_heap hO.e
  have x1 := hO.np
  have x2 := hO.ne
  have x3 := hO.pe
  have x1' : ¬ pb = nb := fun e => x1 e.symm
  have x2' : ¬ eb = nb := fun e => x2 e.symm
  have x3' : ¬ eb = pb := fun e => x3 e.symm
  have HO := hid' hO
  clear hO nf hta
  go_region
  all_goals
    have HQ := hid' (out_wrong (q := q) HO.out rfl)
    clear HO p0 e0 pf ef nf0 nf1 nf2 nf3 nf4 nf5 n0 n1 n2 n3 n4 n5 x1 x2 x3 x1' x2' x3'
    generalize (((((((((w.setCell ⟨nb, 0, none⟩ (.int .i64 0)).setCell ⟨nb, 1, none⟩ (.string ⟨#[]⟩)).setCell ⟨nb, 2, none⟩ (.int .u32 0)).setCell ⟨nb, 3, none⟩ (.bool false)).setCell ⟨nb, 4, none⟩ (.slice none 0 0)).setCell ⟨nb, 5, none⟩ (.int .i64 0)).setCell ⟨pb, 0, none⟩ (.int .i64 q)).setCell ⟨eb, 0, none⟩ (.int .i64 90)).alloc (.cells #[.int .i64 q] 104)).drew = W9 at *
    have := HQ.out
    simp [bodyPostS, results, Tryz.results72]
    exact this
end Go.Proofs.YtjeioblhpfogfaaGreatDoor
namespace Go.Proofs.YtjeioblhpfogfaaGreatDoor
open Go.RowKit

/-- A step takes a reader from a state to another one, or ends the reading at a place. -/
def Goes (toks : List Tk) (k : Nat) (s : St) (q : Except Int St) : Prop :=
  (∀ (args : Array Value) (W : World), (callFunc k args).run Tryz.prog W = .ok (.enter k args) W) ∧
  ∀ (W : World) (B p : Nat), 0 < B → OpT W → RdS W B p toks s → Calls Tryz.prog k #[.pointer (some ⟨p, 0, none⟩)] W (Res B p toks W q)
/-- All that is to be done comes, in so many steps at most, to this. -/
def RunsN (toks : List Tk) : Nat → St → Except Int St → Prop
  | 0, s, r => s.todo = [] ∧ r = .ok s
  | n + 1, s, r => (s.todo = [] ∧ r = .ok s) ∨ ∃ k rest q, s.todo = k :: rest ∧ Goes toks k { s with todo := rest } q ∧ (match q with
    | .error e => r = .error e
    | .ok s' => RunsN toks n s' r)
def Need (toks : List Tk) (B p : Nat) (r : Except Int St) (w : World) (n : Nat) : Prop := ∃ s', RdS w B p toks s' ∧ RunsN toks n s' r
/-- The least number that serves. -/
theorem least_spec {P : Nat → Prop} (h : ∃ n, P n) : P (@Classical.epsilon Nat ⟨0⟩ fun n => P n ∧ ∀ m, P m → n ≤ m) ∧ ∀ m, P m → (@Classical.epsilon Nat ⟨0⟩ fun n => P n ∧ ∀ m, P m → n ≤ m) ≤ m := by
  have hex : ∃ n, P n ∧ ∀ m, P m → n ≤ m := by
    obtain ⟨n, hn⟩ := h
    induction n using Nat.strongRecOn with
    | ind n ih =>
      by_cases hm : ∃ m, m < n ∧ P m
      · obtain ⟨m, hlt, hm⟩ := hm
        exact ih m hlt hm
      · refine ⟨n, hn, fun m hm' => ?_⟩
        apply Classical.byContradiction
        intro hlt
        exact hm ⟨m, by omega, hm'⟩
  exact Classical.epsilon_spec hex
theorem KQ.op {B p : Nat} {w w' : World} (h : KQ B p w w') (hB : 0 < B) (hp : ¬ p = 0) (h0 : 0 < w.heap.size) (hO : OpT w) : OpT w' := fun k hk => by
  have hn : ¬ SQ B p w 0 := by
    rintro (e | ⟨e, _⟩)
    · omega
    · omega
  exact ⟨(Kept.cell h h0 hn).trans (hO k hk).1, (Kept.cell h h0 hn).trans (hO k hk).2⟩
theorem Out.kq {B p nb pb eb : Nat} {w w' : World} {x : NdH} {kv : Value} {pl er : Int} (h : Out w nb pb eb x kv pl er) (hK : KQ B p w w') (hp : ∃ cs f, w.heap[p]? = some (.cells cs 65 f)) : Out w' nb pb eb x kv pl er :=
  ⟨hK.box hp h.n (by decide) (by decide) (by decide) (by decide), hK.box hp h.p (by decide) (by decide) (by decide) (by decide), hK.box hp h.e (by decide) (by decide) (by decide) (by decide), h.np, h.ne, h.pe⟩
/-- A tree's rows lie from B on. -/
theorem Kr.lift {B : Nat} {w w' : World} : ∀ {n : Nat} {v : Value} {ks : List Tr}, Kr B n w v ks → (∀ b, B ≤ b → w'.heap[b]? = w.heap[b]?) → Kr B n w' v ks
  | 0, _, _, h, _ => h
  | n + 1, v, ks, h, hb => by
    rw [Kr] at h ⊢
    obtain ⟨hl, ao, cap, rfl, h⟩ := h
    refine ⟨hl, ao, cap, rfl, fun i hi => ?_⟩
    obtain ⟨b, off, x, kv, ks', ha, ⟨cs, f, hh⟩, hk, ⟨h0, h1, h2, h3, h4, h5⟩, hr⟩ := h i hi
    have e := hb b hk.2.2
    refine ⟨b, off, x, kv, ks', ha, ⟨cs, f, e.trans hh⟩, hk, ⟨?_, ?_, ?_, ?_, ?_, ?_⟩, hr.lift hb⟩
    · exact (World.cell?_of_block (w := w) e).trans h0
    · exact (World.cell?_of_block (w := w) e).trans h1
    · exact (World.cell?_of_block (w := w) e).trans h2
    · exact (World.cell?_of_block (w := w) e).trans h3
    · exact (World.cell?_of_block (w := w) e).trans h4
    · exact (World.cell?_of_block (w := w) e).trans h5
/-- The next step, taken from the list. -/
theorem RdS.pop {w : World} {B p k : Nat} {toks : List Tk} {s : St} {rest : List Nat} (h : RdS w B p toks s) (ht : s.todo = k :: rest) :
    ∃ g cap, w.cell? ⟨p, 2, none⟩ = some (.slice (some ⟨g, 0, none⟩) (rest.length + 1) cap) ∧ rest.length + 1 ≤ cap ∧ w.cell? ⟨g, rest.length, none⟩ = some (.func (.func k) #[] #[]) ∧ w.frozen? ⟨p, 2, none⟩ = false ∧ p < w.heap.size ∧ g < w.heap.size ∧
      RdS (w.setCell ⟨p, 2, none⟩ (.slice (some ⟨g, 0, none⟩) rest.length cap)) B p toks { s with todo := rest } ∧ KQ B p w (w.setCell ⟨p, 2, none⟩ (.slice (some ⟨g, 0, none⟩) rest.length cap)) := by
  obtain ⟨tv, ov, bv, dv, kvs, h⟩ := h
  have ho := h.todo
  rw [ht, List.reverse_cons, List.map_append, List.length_cons] at ho
  obtain ⟨g, cap, rfl, hc, hg, h1, h2⟩ := own_part ho (by rw [List.length_map, List.length_reverse]; omega) (by omega)
  have h3 := h2 0 _ rfl
  rw [Nat.add_zero, Nat.mul_one] at h3
  refine ⟨g, cap, h.cells.2.2.1, hc, h3, h.frz 2, h.cells.2.2.2.2.2, hg, ⟨tv, _, bv, dv, kvs, Rd.mk' h.head h.low 2 _ rfl h.tok h1 h.begun h.done h.kids⟩, (KQ.rfl B p w).turn 2 _⟩
theorem RdS.none {w : World} {B p : Nat} {toks : List Tk} {s : St} (h : RdS w B p toks s) (ht : s.todo = []) : ∃ ao cap, w.cell? ⟨p, 2, none⟩ = some (.slice ao 0 cap) := by
  obtain ⟨tv, ov, bv, dv, kvs, h⟩ := h
  obtain ⟨ao, cap, e⟩ := own_shape h.todo
  rw [ht, List.length_nil] at e
  exact ⟨ao, cap, by rw [← e]; exact h.cells.2.2.1⟩
theorem out_set {w W : World} {nb pb eb : Nat} {x y : NdH} {kv yv : Value} {pl er pl' er' : Int} (h : Out w nb pb eb x kv pl er)
    (hW : W = (((((((w.setCell ⟨nb, 0, none⟩ (.int .i64 y.kind)).setCell ⟨nb, 1, none⟩ (.string y.str)).setCell ⟨nb, 2, none⟩ (.int .u32 y.num)).setCell ⟨nb, 3, none⟩ (.bool y.flag)).setCell ⟨nb, 4, none⟩ yv).setCell ⟨nb, 5, none⟩ (.int .i64 y.pos)).setCell ⟨pb, 0, none⟩ (.int .i64 pl')).setCell ⟨eb, 0, none⟩ (.int .i64 er')) :
    Out W nb pb eb y yv pl' er' ∧ (∀ k, ¬ k = nb → ¬ k = pb → ¬ k = eb → W.heap[k]? = w.heap[k]?) ∧ W.heap.size = w.heap.size ∧ W.os = w.os ∧ W.tape = w.tape ∧ W.output = w.output := by
  have st : ∀ (W : World) (b : Nat) (cs : Array Value) (T : TypeId) (o : Nat) (v : Value), W.heap[b]? = some (.cells cs T (0, 0)) → (W.setCell ⟨b, o, none⟩ v).heap[b]? = some (.cells (cs.setIfInBounds o v) T (0, 0)) := fun W b cs T o v h => by
    have := setCell_heap (o := o) h v b
    rwa [if_pos rfl] at this
  have ot : ∀ (W : World) (b k : Nat) (o : Nat) (v : Value), ¬ k = b → (W.setCell ⟨b, o, none⟩ v).heap[k]? = W.heap[k]? := fun W b k o v h => Below.heap_setCell W ⟨b, o, none⟩ v k h
  have sz : ∀ (W : World) (b : Nat) (o : Nat) (v : Value), (W.setCell ⟨b, o, none⟩ v).heap.size = W.heap.size := fun W b o v => World.size_setCell _ _ _
  have os : ∀ (W : World) (a : Addr) (v : Value), (W.setCell a v).os = W.os := fun _ _ _ => rfl
  have tp : ∀ (W : World) (a : Addr) (v : Value), (W.setCell a v).tape = W.tape := fun _ _ _ => rfl
  have ou : ∀ (W : World) (a : Addr) (v : Value), (W.setCell a v).output = W.output := fun _ _ _ => rfl
  have x1 := h.np
  have x2 := h.ne
  have x3 := h.pe
  subst hW
  refine ⟨⟨?_, ?_, ?_, x1, x2, x3⟩, fun k k1 k2 k3 => ?_, ?_, by rw [os, os, os, os, os, os, os, os], by rw [tp, tp, tp, tp, tp, tp, tp, tp], by rw [ou, ou, ou, ou, ou, ou, ou, ou]⟩
  · rw [ot _ _ _ _ _ x2, ot _ _ _ _ _ x1]
    have r := st _ _ _ _ 5 (.int .i64 y.pos) (st _ _ _ _ 4 yv (st _ _ _ _ 3 (.bool y.flag) (st _ _ _ _ 2 (.int .u32 y.num) (st _ _ _ _ 1 (.string y.str) (st _ _ _ _ 0 (.int .i64 y.kind) h.n)))))
    rw [r]
    rfl
  · rw [ot _ _ _ _ _ x3]
    refine st _ _ #[.int .i64 pl] _ _ _ ?_
    rw [ot _ _ _ _ _ (fun e => x1 e.symm), ot _ _ _ _ _ (fun e => x1 e.symm), ot _ _ _ _ _ (fun e => x1 e.symm), ot _ _ _ _ _ (fun e => x1 e.symm), ot _ _ _ _ _ (fun e => x1 e.symm), ot _ _ _ _ _ (fun e => x1 e.symm)]
    exact h.p
  · refine st _ _ #[.int .i64 er] _ _ _ ?_
    rw [ot _ _ _ _ _ (fun e => x3 e.symm), ot _ _ _ _ _ (fun e => x2 e.symm), ot _ _ _ _ _ (fun e => x2 e.symm), ot _ _ _ _ _ (fun e => x2 e.symm), ot _ _ _ _ _ (fun e => x2 e.symm), ot _ _ _ _ _ (fun e => x2 e.symm), ot _ _ _ _ _ (fun e => x2 e.symm)]
    exact h.e
  · rw [ot _ _ _ _ _ k3, ot _ _ _ _ _ k2, ot _ _ _ _ _ k1, ot _ _ _ _ _ k1, ot _ _ _ _ _ k1, ot _ _ _ _ _ k1, ot _ _ _ _ _ k1, ot _ _ _ _ _ k1]
  · rw [sz, sz, sz, sz, sz, sz, sz, sz]
theorem RdS.todoMax {w : World} {B p : Nat} {toks : List Tk} {s : St} (h : RdS w B p toks s) : s.todo.length ≤ maxLen := by
  obtain ⟨tv, ov, bv, dv, kvs, h⟩ := h
  rcases h.todo.2 with ⟨_, e⟩ | ⟨g, cap, cur, _, _, _, h1, h2, _⟩
  · rw [e]; exact Nat.zero_le _
  · exact Nat.le_trans h1 h2
/-- What read answers. -/
def ReadR (p : Nat) (W : World) (r : Except Int St) (e : Ending) (w' : World) : Prop :=
  Kept (fun b => b = p) W w' ∧ match r with
    | .error q => e = .returned (.tuple #[ndV ⟨0, ⟨#[]⟩, 0, false, 0⟩ (.slice none 0 0), .int .i64 q, .int .i64 90])
    | .ok s => ∃ d l kv B n, s.done = d :: l ∧ e = .returned (.tuple #[ndV d.x kv, .int .i64 0, .int .i64 0]) ∧ Kr B n w' kv d.ks ∧ W.heap.size ≤ B
theorem KQ.only {B p : Nat} {w0 w w' : World} (h : KQ B p w w') (hb : Below w0.heap.size w0 w) (hB : w0.heap.size ≤ B) : Kept (fun b => b = p) w0 w' :=
  ⟨h.os.trans hb.os, h.tape.trans hb.tape, h.output.trans hb.output, Nat.le_trans hb.size h.size, fun k hk hn => (h.block k (Nat.lt_of_lt_of_le hk hb.size) (by
    rintro (e | ⟨e, _⟩)
    · exact hn e
    · omega)).trans (hb.block k hk)⟩
/-- A reader at its beginning. -/
theorem rd_new {W : World} {p : Nat} {toks : List Tk} {tv : Value} (hh : W.heap[p]? = some (.cells #[tv, .int .i64 0, .slice none 0 0, .slice none 0 0, .slice none 0 0] 65 (0, 0))) (ht : W.ownsRow 0 42 6 tv toks.length (tksC toks)) {B : Nat} (hB : B ≤ W.heap.size) : RdS W B p toks ⟨0, [], [], []⟩ :=
  ⟨tv, _, _, _, [], hh, hB, ht, World.ownsRow_nil _ _ _ _, World.ownsRow_nil _ _ _ _, World.ownsRow_nil _ _ _ _, rfl, fun i h => by simp at h⟩
theorem read36 {W : World} {p k0 N : Nat} {toks : List Tk} {tv : Value} {r : Except Int St} (hh : W.heap[p]? = some (.cells #[tv, .int .i64 0, .slice none 0 0, .slice none 0 0, .slice none 0 0] 65 (0, 0))) (htk : W.ownsRow 0 42 6 tv toks.length (tksC toks)) (hp0 : ¬ p = 0) (hO : OpT W) (hr : RunsN toks N ⟨0, [k0, 73], [], []⟩ r) (hd : ∀ s', r = .ok s' → ∃ d l, s'.done = d :: l) :
    Calls Tryz.prog 36 #[.pointer (some ⟨p, 0, none⟩), .func (.func k0) #[] #[]] W (ReadR p W r) := by
  have hmf : ∀ (fn : Fn) (first cap : Array Value) (w : World), (Instr.makeFunc fn first cap).run Tryz.prog w = .ok (.func fn first cap) w := fun _ _ _ _ => rfl
  have HH := hid' hh
  have HTK := hid' htk
  have HO := hid' hO
  have HR := hid' hr
  have HD := hid' hd
  clear hh htk hO hr hd
  go_enter_defers Tryz.func36, Tryz.ntmps36
  go_wp2_with fail
  obtain ⟨W3, hW3⟩ : ∃ W3, W3 = ((W.alloc (.cells #[.int .i64 0, .string ⟨#[]⟩, .int .u32 0, .bool false, .slice none 0 0, .int .i64 0] 25)).alloc (.cells #[.int .i64 0] 3)).alloc (.cells #[.int .i64 0] 26) := ⟨_, rfl⟩
  rw [← hW3]
  have hs3 : W3.heap.size = W.heap.size + 1 + 1 + 1 := by rw [hW3]; simp
  have hb3 : Below W.heap.size W W3 := by rw [hW3]; exact ((below1 _ _).alloc (by simp) _).alloc (by simp; omega) _
  have hOut : Out W3 W.heap.size (W.heap.size + 1) (W.heap.size + 1 + 1) ⟨0, ⟨#[]⟩, 0, false, 0⟩ (.slice none 0 0) 0 0 := by
    have e : W3.heap = ((W.heap.push (.cells #[.int .i64 0, .string ⟨#[]⟩, .int .u32 0, .bool false, .slice none 0 0, .int .i64 0] 25)).push (.cells #[.int .i64 0] 3)).push (.cells #[.int .i64 0] 26) := by rw [hW3]; rfl
    refine ⟨?_, ?_, ?_, by omega, by omega, by omega⟩
    · rw [e, Array.getElem?_push, if_neg (by simp; omega), Array.getElem?_push, if_neg (by simp), Array.getElem?_push, if_pos (by simp)]
    · rw [e, Array.getElem?_push, if_neg (by simp), Array.getElem?_push, if_pos (by simp)]
    · rw [e, Array.getElem?_push, if_pos (by simp)]
  obtain ⟨nb, hnb⟩ : ∃ nb, nb = W.heap.size := ⟨_, rfl⟩
  obtain ⟨pb, hpb⟩ : ∃ pb, pb = W.heap.size + 1 := ⟨_, rfl⟩
  obtain ⟨eb, heb⟩ : ∃ eb, eb = W.heap.size + 1 + 1 := ⟨_, rfl⟩
  obtain ⟨B, hB⟩ : ∃ B, B = W3.heap.size := ⟨_, rfl⟩
  rw [← hs3]
  rw [← heb, ← hpb, ← hnb] at hOut ⊢
  have H3 := hid' (rd_new (B := B) ((hb3.block p (lt_of_heap HH.out)).trans HH.out) (owns_below HTK.out hb3) (Nat.le_of_eq hB))
  have HHD := hid' H3.out.head'
  have hWpos : 0 < W.heap.size := by
    have := lt_of_heap HH.out
    omega
  have O3 : Hid (OpT W3) := HO.out.below (B := 0) hb3 hWpos
  have HB3 := hid' hb3
  have HBW : Hid (W.heap.size ≤ B ∧ nb < B ∧ pb < B ∧ eb < B ∧ W.heap.size ≤ nb ∧ W.heap.size ≤ pb ∧ W.heap.size ≤ eb ∧ 0 < B ∧ p < W.heap.size) := ⟨by omega, by omega, by omega, by omega, by omega, by omega, by omega, by omega, lt_of_heap HH.out⟩
  have HOUT := hid' hOut
  clear hW3 hs3 hb3 hOut hnb hpb heb hB hWpos HH HTK HO
  refine (then_2 k0 73 H3.out (by simp)).mono ?_
  rintro e w4 ⟨hk4, rfl, hR4⟩
  have H4 := hid' hR4
  have K4 := hid' hk4
  have O4 : Hid (OpT w4) := hk4.op HBW.out.2.2.2.2.2.2.2.1 hp0 (by obtain ⟨_, _, hx⟩ := HHD.out; have := lt_of_heap hx; omega) O3.out
  have OUT4 := hid' (HOUT.out.kq hk4 HHD.out)
  clear hR4 hk4 HOUT O3 H3 HHD
  go_wp2_with fail
  go_loopw [] (fun wr => (∃ n, Need toks B p r wr n) ∧ OpT wr ∧ KQ B p W3 wr ∧ Out wr nb pb eb ⟨0, ⟨#[]⟩, 0, false, 0⟩ (.slice none 0 0) 0 0) (fun wr => @Classical.epsilon Nat ⟨0⟩ fun n => Need toks B p r wr n ∧ ∀ m, Need toks B p r wr m → n ≤ m)
  case atStart => exact ⟨⟨N, _, H4.out, HR.out⟩, O4.out, K4.out, OUT4.out⟩
  case round =>
    obtain ⟨hn, hO', hK', hOut'⟩ := hrel
    obtain ⟨hN1, hN2⟩ := least_spec hn
    obtain ⟨n, hnn⟩ : ∃ n, n = @Classical.epsilon Nat ⟨0⟩ fun n => Need toks B p r wr n ∧ ∀ m, Need toks B p r wr m → n ≤ m := ⟨_, rfl⟩
    rw [← hnn] at hN1 hN2 ⊢
    obtain ⟨s', hR', hrun⟩ := hN1
    have HR' := hid' hR'
    have HO' := hid' hO'
    have HK' := hid' hK'
    have HOUT' := hid' hOut'
    have HRUN := hid' hrun
    have HN2 := hid' hN2
    clear hn hO' hK' hOut' hrun hN2 hR' H4 O4 K4 OUT4 HR hnn
    cases htd : s'.todo with
    | nil =>
      have HRE : Hid (r = .ok s') := by
        show _ = _
        have h1 := HRUN.out
        cases n with
        | zero => exact h1.2
        | succ n =>
          rw [RunsN] at h1
          rcases h1 with h1 | ⟨k, rest, q, h1, _⟩
          · exact h1.2
          · rw [htd] at h1; cases h1
      obtain ⟨ao, cap, c2⟩ := HR'.out.none htd
      obtain ⟨d, l, hdd⟩ := HD.out s' HRE.out
      obtain ⟨tv, ov, bv, dv, kvs, hRd⟩ := HR'.out
      obtain ⟨g, cap', rfl, hcap', hg, hown, e1, e2, hcs, _⟩ := hRd.parts (l := []) (m := d :: l) (by rw [hdd]; rfl) (by simp)
      obtain ⟨hc0, nk, hKr⟩ := hcs 0 (by simp) (by rw [e2]; simp)
      simp only [List.length_nil, Nat.zero_mul, Nat.zero_add, List.getElem_cons_zero] at hc0 hKr
      generalize (kvs.drop 0)[0]'(by rw [show kvs.drop 0 = kvs.drop ([] : List Dn).length from rfl, e2]; simp) = kv at hc0 hKr
      obtain ⟨hkl, ka, kc, rfl⟩ := hKr.shape
      have t0 := hc0 0 _ rfl
      have t1 := hc0 1 _ rfl
      have t2 := hc0 2 _ rfl
      have t3 := hc0 3 _ rfl
      have t4 := hc0 4 _ rfl
      have t5 := hc0 5 _ rfl
      have c4 := hRd.cells.2.2.2.2.1
      simp only [List.length_nil, Nat.zero_add, List.length_cons] at c4 hcap'
      obtain ⟨n0, n1, n2, n3, n4, n5, nf, nl⟩ := box_six HOUT'.out.n
      have p0 : wr.cell? ⟨pb, 0, none⟩ = some (.int .i64 0) := by rw [cell_of_row wr _ _ _ _ _ HOUT'.out.p]; rfl
      have e0 : wr.cell? ⟨eb, 0, none⟩ = some (.int .i64 0) := by rw [cell_of_row wr _ _ _ _ _ HOUT'.out.e]; rfl
      have pf : wr.frozen? ⟨pb, 0, none⟩ = false := by simp [World.frozen?, HOUT'.out.p]
      have ef : wr.frozen? ⟨eb, 0, none⟩ = false := by simp [World.frozen?, HOUT'.out.e]
      have nf0 := nf 0
      have nf1 := nf 1
      have nf2 := nf 2
      have nf3 := nf 3
      have nf4 := nf 4
      have nf5 := nf 5
      have x1 := HOUT'.out.np
      have x2 := HOUT'.out.ne
      have x3 := HOUT'.out.pe
      have x1' : ¬ pb = nb := fun e => x1 e.symm
      have x2' : ¬ eb = nb := fun e => x2 e.symm
      have x3' : ¬ eb = pb := fun e => x3 e.symm
      have hpos : (0 : Int) < (l.length : Int) + 1 := by omega
      have HKR := hid' hKr
      have HDD := hid' hdd
      have HEAD := hid' hRd.head'
      clear hRd hown e1 e2 hcs hc0 hKr hkl hdd nf HD HRUN HN2 htd hmf
      have HQ : Hid (∀ W9, W9 = (((((((wr.setCell ⟨nb, 0, none⟩ (.int .i64 d.x.kind)).setCell ⟨nb, 1, none⟩ (.string d.x.str)).setCell ⟨nb, 2, none⟩ (.int .u32 d.x.num)).setCell ⟨nb, 3, none⟩ (.bool d.x.flag)).setCell ⟨nb, 4, none⟩ (.slice ka d.ks.length kc)).setCell ⟨nb, 5, none⟩ (.int .i64 d.x.pos)).setCell ⟨pb, 0, none⟩ (.int .i64 0)).setCell ⟨eb, 0, none⟩ (.int .i64 0) → Out W9 nb pb eb d.x (.slice ka d.ks.length kc) 0 0 ∧ Kept (fun b => b = p) W W9 ∧ Kr B nk W9 (.slice ka d.ks.length kc) d.ks) := fun W9 e => by
        obtain ⟨q1, q2, q3, q4, q5, q6⟩ := out_set HOUT'.out e
        have hkk := HK'.out.only HB3.out HBW.out.1
        have hbw := HBW.out
        refine ⟨q1, ⟨q4.trans hkk.os, q5.trans hkk.tape, q6.trans hkk.output, by rw [q3]; exact hkk.size, fun k hk hn => (q2 k (by omega) (by omega) (by omega)).trans (hkk.block k hk hn)⟩, ?_⟩
        exact HKR.out.lift (fun b hb => q2 b (by omega) (by omega) (by omega))
      go_wp2
      have HZ := hid' (HQ.out _ rfl)
      clear HQ n0 n1 n2 n3 n4 n5 p0 e0 pf ef nf0 nf1 nf2 nf3 nf4 nf5 t0 t1 t2 t3 t4 t5 c4 c2
      generalize (((((((wr.setCell ⟨nb, 0, none⟩ (.int .i64 d.x.kind)).setCell ⟨nb, 1, none⟩ (.string d.x.str)).setCell ⟨nb, 2, none⟩ (.int .u32 d.x.num)).setCell ⟨nb, 3, none⟩ (.bool d.x.flag)).setCell ⟨nb, 4, none⟩ (.slice ka d.ks.length kc)).setCell ⟨nb, 5, none⟩ (.int .i64 d.x.pos)).setCell ⟨pb, 0, none⟩ (.int .i64 0)).setCell ⟨eb, 0, none⟩ (.int .i64 0) = W9 at *
      refine leaves_cons (f := 72) (args := #[.pointer (some ⟨nb, 0, none⟩), .pointer (some ⟨pb, 0, none⟩), .pointer (some ⟨eb, 0, none⟩)]) (by simp) (by simp [go_sem]) ?_
      refine (catch_idle nb pb eb _).mono ?_
      rintro e u' w'' ⟨rfl, rfl, rfl⟩
      obtain ⟨m0, m1, m2, m3, m4, m5, mf, ml⟩ := box_six HZ.out.1.n
      have mp : w''.cell? ⟨pb, 0, none⟩ = some (.int .i64 0) := by rw [cell_of_row w'' _ _ _ _ _ HZ.out.1.p]; rfl
      have me : w''.cell? ⟨eb, 0, none⟩ = some (.int .i64 0) := by rw [cell_of_row w'' _ _ _ _ _ HZ.out.1.e]; rfl
      simp [Leaves, settle, results, Tryz.results36, go_sem, m0, m1, m2, m3, m4, m5, mp, me]
      rw [HRE.out]
      exact ⟨HZ.out.2.1, d, l, _, B, nk, HDD.out, rfl, HZ.out.2.2, HBW.out.1⟩
    | cons k rest =>
      obtain ⟨g, cap, c2, hcap, hf, f2, hp, hg, hR2, hK2⟩ := HR'.out.pop htd
      have hrun := HRUN.out
      cases n with
      | zero => exact absurd hrun.1 (by rw [htd]; simp)
      | succ n =>
        rw [RunsN] at hrun
        rcases hrun with hrun | ⟨k', rest', q, h1, ⟨hcf, hgo⟩, hq⟩
        · exact absurd hrun.1 (by rw [htd]; simp)
        rw [htd] at h1
        injection h1 with h1 h1'
        subst h1 h1'
        have hpz : 0 < wr.heap.size := by omega
        have O1 : Hid (OpT (wr.setCell ⟨p, 2, none⟩ (.slice (some ⟨g, 0, none⟩) rest.length cap))) := hK2.op HBW.out.2.2.2.2.2.2.2.1 hp0 hpz HO'.out
        have HGO := hid' (hgo _ B p HBW.out.2.2.2.2.2.2.2.1 O1.out hR2)
        have HHW := hid' HR'.out.head'
        have K1 := hid' (HK'.out.trans hK2)
        have OUT1 := hid' (HOUT'.out.kq hK2 HHW.out)
        have HH1 := hid' hR2.head'
        have HSZ : Hid (0 < (wr.setCell ⟨p, 2, none⟩ (.slice (some ⟨g, 0, none⟩) rest.length cap)).heap.size) := by
          show 0 < _
          rw [World.size_setCell]
          exact hpz
        have HQ := hid' hq
        have hr1 : (rest.length : Int) < (rest.length : Int) + 1 := by omega
        have hr2 : (0 : Int) < (rest.length : Int) + 1 := by omega
        have hr3 : (rest.length : Int) ≤ cap := by omega
        have hr4 : (rest.length : Int) + 1 ≤ 9223372036854775807 := by
          have := HR'.out.todoMax
          rw [htd, List.length_cons] at this
          unfold maxLen at this
          omega
        clear hgo hR2 hK2 hq htd HRUN HR' HO' HK' HOUT'
        go_wp2_with fail
        generalize wr.setCell ⟨p, 2, none⟩ (.slice (some ⟨g, 0, none⟩) rest.length cap) = w1 at *
        cases q with
        | ok s2 =>
          refine HGO.out.mono ?_
          rintro e w2 ⟨hk2, rfl, hR2⟩
          have K2 := hid' (K1.out.trans hk2)
          have O2 := hid' (hk2.op HBW.out.2.2.2.2.2.2.2.1 hp0 HSZ.out O1.out)
          have OUT2 := hid' (OUT1.out.kq hk2 HH1.out)
          have hnd : Need toks B p r w2 n := ⟨s2, hR2, HQ.out⟩
          have HND := hid' hnd
          clear hk2 hR2 hnd
          go_wp2
          refine ⟨⟨⟨n, HND.out⟩, O2.out, K2.out, OUT2.out⟩, ?_⟩
          have := (least_spec ⟨n, HND.out⟩).2 n HND.out
          omega
        | error qe =>
          refine HGO.out.mono ?_
          rintro e w2 ⟨hk2, rfl⟩
          have K2 := hid' (K1.out.trans hk2)
          have OUT2 := hid' (OUT1.out.kq hk2 HH1.out)
          have HRE : Hid (r = .error qe) := HQ.out
          clear hk2
          show bodyPostD Tryz.prog Tryz.f36 (ReadR p W r) (Exit.panic [{ v := .iface 104 (.agg #[.int .i64 qe]), recovered := false }]) _ w2
          refine leaves_cons (f := 72) (args := #[.pointer (some ⟨nb, 0, none⟩), .pointer (some ⟨pb, 0, none⟩), .pointer (some ⟨eb, 0, none⟩)]) (by simp) (by simp [go_sem]) ?_
          refine (catch_wrong nb pb eb qe _ _ _ _ [] _ OUT2.out).mono ?_
          rintro e u' w'' ⟨rfl, rfl, hO, hfr, hsz, hos, htp, hou⟩
          have HZ := hid' hO
          have hkk := K2.out.only HB3.out HBW.out.1
          have HKK : Hid (Kept (fun b => b = p) W w'') := by
            have hbw := HBW.out
            exact ⟨hos.trans hkk.os, htp.trans hkk.tape, hou.trans hkk.output, Nat.le_trans hkk.size hsz, fun k hk hn => (hfr k (Nat.lt_of_lt_of_le hk hkk.size) (by omega) (by omega) (by omega)).trans (hkk.block k hk hn)⟩
          clear hO hfr hsz hos htp hou hkk
          obtain ⟨m0, m1, m2, m3, m4, m5, mf, ml⟩ := box_six HZ.out.n
          have mp : w''.cell? ⟨pb, 0, none⟩ = some (.int .i64 qe) := by rw [cell_of_row w'' _ _ _ _ _ HZ.out.p]; rfl
          have me : w''.cell? ⟨eb, 0, none⟩ = some (.int .i64 90) := by rw [cell_of_row w'' _ _ _ _ _ HZ.out.e]; rfl
          simp [Leaves, settle, results, Tryz.results36, go_sem, m0, m1, m2, m3, m4, m5, mp, me]
          rw [HRE.out]
          exact ⟨HKK.out, rfl⟩
end Go.Proofs.YtjeioblhpfogfaaGreatDoor
