/- call: what is handed on lies in an array of its own. -/
import Derived.Test.YtiehlkhpblldaaaRi
import Derived.Deep.AppendSrc
namespace Go.Proofs.Ytiehlkhpblldaaa
open Go.RowKit Go.Maps
set_option linter.unusedVariables false
set_option linter.unusedSimpArgs false
section
variable {C : Cst} {W0 W W' : World} {r : Nat} {s s' : St} {x : Vs} {t : Tp}
/-- The array has other cells. -/
theorem RunM.roomW (h : RunM C W0 r W s x t) {g : Nat} {cur cs : Array Value} {fr : Nat × Nat} (hb : W.heap[g]? = some (.cells cur 134 fr)) (hB : W0.heap.size ≤ g) (K : Kept (fun k => k = g) W W') (hc : W'.heap[g]? = some (.cells cs 134 (0, 0))) : RunM { C with room := some (g, cs) } W0 r W' s x t := by
  have q := h.rows
  refine ⟨⟨q.below.trans (K.below q.below.size (fun k e => by omega)), q.pg, q.sv, q.svl, own_ty q.bs hb (by decide) K, fun i l hi => own_ty (q.bk i l hi) hb (by decide) K, q.bi, own_ty q.hs hb (by decide) K, own_ty q.gs hb (by decide) K, own_ty q.ks hb (by decide) K, own_ty q.os hb (by decide) K, q.gk, q.go, q.ko, own_ty q.cs hb (by decide) K, own_ty q.xs hb (by decide) K, ?_⟩, h.rr, ?_⟩
  · intro g' cs' e
    injection e with e
    injection e with e1 e2
    subst e1 e2
    exact hc
  · refine (K.block r h.lt (fun e => ?_)).trans h.rc
    subst e
    have := h.rc
    rw [hb] at this
    injection this with this
    injection this with _ h2
    exact absurd h2 (by decide)
theorem RunM.noRoom {q : Option (Nat × Array Value)} (h : RunM { C with room := q } W0 r W s x t) (hC : C.room = none) : RunM C W0 r W s x t :=
  have q := h.rows
  ⟨⟨q.below, q.pg, q.sv, q.svl, q.bs, q.bk, q.bi, q.hs, q.gs, q.ks, q.os, q.gk, q.go, q.ko, q.cs, q.xs, fun g cs e => by rw [hC] at e; cases e⟩, h.rr, h.rc⟩
theorem Top.roomC {c : Cl} {l : List Rg} {q : Option (Nat × Array Value)} (T : Top C s x t c l) : Top { C with room := q } s x t c l := ⟨T.last, T.tt, T.fn, T.tf, T.bank, T.tb⟩
theorem Top.noRoom {c : Cl} {l : List Rg} {q : Option (Nat × Array Value)} (T : Top { C with room := q } s x t c l) : Top C s x t c l := ⟨T.last, T.tt, T.fn, T.tf, T.bank, T.tb⟩
theorem inf79 : (Try.prog.info? 79).map (fun i => (i.zero, i.size, i.bytes)) = some (some (.int .u32 0), 1, 4) := by kernel_rfl
/-- One more lies in the array. -/
theorem room_append {w : World} {g k a : Nat} {cs : Array Value} {v : Int} (hg : w.heap[g]? = some (.cells cs 134 (0, 0))) (hk : k < cs.size) (h12 : k + 1 ≤ 12) (ha : w.cell? ⟨a, 0, none⟩ = some (.int .u32 v)) (ty : TypeId) :
    (Builtin.append_ #[70, 70] ty #[.slice (some ⟨g, 0, none⟩) k 12, .slice (some ⟨a, 0, none⟩) 1 1]).run Try.prog w = .ok (.slice (some ⟨g, 0, none⟩) (k + 1) 12) (w.setCell ⟨g, k, none⟩ (.int .u32 v)) := by
  obtain ⟨i, hi, hzz⟩ := Option.map_eq_some_iff.1 inf79
  simp only [Prod.mk.injEq] at hzz
  obtain ⟨_, hs1, _⟩ := hzz
  have hsrc : _root_.Go.Src Try.prog i.size 70 (.slice (some ⟨a, 0, none⟩) 1 1) 1 [.int .u32 v] w := _root_.Go.Src.ofSlice w Try.underlying70 ⟨a, 0, none⟩ 1 1 [.int .u32 v] (by rw [hs1]; rfl) (fun j u hj => by
    match j with
    | 0 => simp at hj; subst hj; exact ha
    | j + 1 => simp at hj) (fun u hu => by simp at hu; subst hu; rfl)
  have := run_append_room_src w 70 70 ty 79 i Try.underlying70 hi g 0 k 12 _ 1 _ hsrc h12 (fun j hj => by
    simp at hj
    subst hj
    rw [hs1, cell_of_row w g _ _ 134 (0, 0) hg]
    simp [hk]) (fun j hj => by exact frozen_of_row w g _ _ 134 hg)
  rw [this, hs1]
  simp [World.setCells]
set_option maxRecDepth 20000 in
set_option maxHeartbeats 20000000 in
theorem call51 {c : Cl} {l : List Rg} {b o n : Nat} {i : In} {R : Ending → World → Prop} (h : RunM C W0 r W s x t) (T : Top C s x t c l) (hI : InAt W0 b o i) (hn : i.imm = n) (hlen : i.args.length ≤ 12) (ha : ∀ k (hk : k < i.args.length), 0 ≤ i.args[k] ∧ i.args[k] < l.length)
    (h17 : ∀ w g cs, RunM { C with room := some (g, cs) } W0 r w s x t → (∀ j (hj : j < i.args.length), cs[j]? = some (.int .u32 (getR l i.args[j].toNat c.no))) → Calls Try.prog 17 #[.pointer (some ⟨r, 0, none⟩), .int .i64 n, .slice (some ⟨g, 0, none⟩) i.args.length 12] w fun e w' => e = .returned (.tuple #[]) ∧ R e w') :
    Calls Try.prog 51 #[.pointer (some ⟨r, 0, none⟩), .pointer (some ⟨b, o, none⟩)] W fun e w' => e = .returned (.tuple #[]) ∧ R e w' := by
  have H := hid' h
  have HT := hid' T
  have HI := hid' hI
  have H17 := hid' h17
  have HA := hid' ha
  have hi2 := hI.2.2.hi
  rw [hn] at hi2
  obtain ⟨ao, acap, eav⟩ := hI.2.2.a.len
  have hw0 : b < W.heap.size := Nat.lt_of_lt_of_le hI.1 h.rows.below.size
  have hy : ∀ w', Below W.heap.size W w' → w'.cell? ⟨b, o + 2, none⟩ = some (.slice ao i.args.length acap) ∧ w'.cell? ⟨b, o + 3, none⟩ = some (.int .i32 n) := fun w' hb => by
    have := in_cells (HI.out.2.1 w' (below_on H.out.rows.below hb H.out.rows.below.size))
    rw [← eav, ← hn]
    exact ⟨this.2.2.1, this.2.2.2.1⟩
  have HY := hid' hy
  have y2 : W.cell? ⟨b, o + 2, none⟩ = some (.slice ao i.args.length acap) := (hy W (Below.refl _ _)).1
  clear h T hI h17 ha hy
  go_enter Try.func51, Try.ntmps51
  go_wp2
  have hz : ∀ j : Nat, ¬ j < 0 := fun j => Nat.not_lt_zero j
  have H0 : Hid (RunM { C with room := some (W.heap.size, #[.int .u32 0, .int .u32 0, .int .u32 0, .int .u32 0, .int .u32 0, .int .u32 0, .int .u32 0, .int .u32 0, .int .u32 0, .int .u32 0, .int .u32 0, .int .u32 0]) } W0 r (W.alloc (.cells #[.int .u32 0, .int .u32 0, .int .u32 0, .int .u32 0, .int .u32 0, .int .u32 0, .int .u32 0, .int .u32 0, .int .u32 0, .int .u32 0, .int .u32 0, .int .u32 0] 134)) s x t) := (H.out.on (below1 _ _)).roomW (heap_alloc_new _ _) H.out.rows.below.size (Kept.rfl _ _) (heap_alloc_new _ _)
  have HB0 := hid' (below1 W (.cells #[.int .u32 0, .int .u32 0, .int .u32 0, .int .u32 0, .int .u32 0, .int .u32 0, .int .u32 0, .int .u32 0, .int .u32 0, .int .u32 0, .int .u32 0, .int .u32 0] 134))
  have hg0 : (W.alloc (.cells #[.int .u32 0, .int .u32 0, .int .u32 0, .int .u32 0, .int .u32 0, .int .u32 0, .int .u32 0, .int .u32 0, .int .u32 0, .int .u32 0, .int .u32 0, .int .u32 0] 134)).heap.size = W.heap.size + 1 := by simp
  generalize W.alloc (.cells #[.int .u32 0, .int .u32 0, .int .u32 0, .int .u32 0, .int .u32 0, .int .u32 0, .int .u32 0, .int .u32 0, .int .u32 0, .int .u32 0, .int .u32 0, .int .u32 0] 134) = W1 at *
  have HG : Hid (W.heap.size ≥ W0.heap.size) := H.out.rows.below.size
  have hlen2 : (0 : Int) ≤ i.args.length := by omega
  go_loopw [5, 14] (fun v i' wr => ∃ (k : Nat) (cs : Array Value), k ≤ i.args.length ∧ i' = .int .i64 k ∧ v = .slice (some ⟨W.heap.size, 0, none⟩) k 12 ∧ cs.size = 12 ∧ (∀ j (hj : j < i.args.length), j < k → cs[j]? = some (.int .u32 (getR l i.args[j].toNat c.no))) ∧ RunM { C with room := some (W.heap.size, cs) } W0 r wr s x t ∧ Below W.heap.size W wr) (fun _ i' _ => i.args.length - (intOf i').toNat)
  case atStart => exact ⟨0, _, Nat.zero_le _, rfl, rfl, rfl, fun j _ h => absurd h (hz j), H0.out, HB0.out⟩
  case round =>
    obtain ⟨k, cs, hkN, rfl, rfl, hcs, hlay, hR, hB⟩ := hrel
    have HR := hid' hR
    have HBW := hid' hB
    have HL := hid' hlay
    clear hR hB hlay y2
    by_cases hk : k < i.args.length
    · obtain ⟨ab, ao', cap', eav', hab, hcap, hcell⟩ := args_at HI.out hk
      rw [eav] at eav'
      injection eav' with e1 e2 e3
      subst e1 e3
      have a1 : wr.cell? ⟨ab, ao' + k, none⟩ = some (.int .i64 i.args[k]) := hcell wr (HR.out.rows.below) k hk
      obtain ⟨m, hm⟩ : ∃ m : Nat, i.args[k] = m := ⟨i.args[k].toNat, by have := HA.out k hk; omega⟩
      have hml : m < l.length := by have := HA.out k hk; omega
      rw [hm] at a1
      have h46 := get46 HR.out HT.out.roomC hml
      have HM : Hid (i.args[k].toNat = m) := by unfold Hid; rw [hm]; rfl
      have hki : (k : Int) < i.args.length := by omega
      have hk12 : (k : Int) < 12 := by omega
      have hkb : (k : Int) < acap := by omega
      clear hcell
      generalize hgv : getR l m c.no = gv at *
      go_wp2_with (first
        | (go_at_call 46; refine h46.mono ?_; rintro e1 w1 ⟨rfl, hb1⟩; have HB1 := hid' hb1; have h1 := (HR.out.on hb1).on (below1 w1 (.cells #[.int .u32 gv] 79)); have hrun := fun ty => room_append (h1.rows.rm _ _ rfl) (k := k) (a := w1.heap.size) (v := gv) (by omega) (by omega) (by rw [cell_of_row _ _ _ _ 79 (0, 0) (heap_alloc_new _ _)]; rfl) ty; have H1 := hid' h1; clear h1 hb1)
        | (at_builtin; refine wpList_append_run rfl _ _ rfl _ _ _ rfl rfl (hrun _) ?_; clear hrun))
      refine ⟨⟨k + 1, cs.setIfInBounds k (.int .u32 gv), by omega, by go_num, rfl, by simpa using hcs, ?_, ?_, ?_⟩, ?_⟩
      · intro j hj hjk
        by_cases e : j = k
        · subst e
          rw [HM.out, hgv, Array.getElem?_setIfInBounds_self_of_lt (by omega)]
        · rw [Array.getElem?_setIfInBounds_ne (by omega)]
          exact HL.out j hj (by omega)
      · exact H1.out.roomW (H1.out.rows.rm _ _ rfl) HG.out (setK _ _ _ _) (heap_setCell_same _ _ _ _ 134 _ (H1.out.rows.rm _ _ rfl))
      · have b1 : Below W.heap.size W w1 := below_up HBW.out HB1.out
        have b2 : Below W.heap.size W (w1.alloc (.cells #[.int .u32 gv] 79)) := b1.alloc b1.size _
        exact b2.trans ((setK _ _ _ _).below b2.size (fun q e => by omega))
      · simp [intOf]; omega
    · have e : k = i.args.length := by omega
      subst e
      have y3 := (HY.out wr HBW.out).2
      have h17 := H17.out wr _ cs HR.out (fun j hj => HL.out j hj hj)
      have hwn : IntKind.i64.wrap (n : Int) = n := by simp [IntKind.wrap, IntKind.bits, IntKind.signed]; omega
      go_wp2_with (go_at_call 17; refine h17.mono ?_; rintro e1 w1 ⟨rfl, hRR⟩)
      go_end0
      exact ⟨rfl, hRR⟩
end
end Go.Proofs.Ytiehlkhpblldaaa
