/- A thing more on one of the run's lists. -/
import Derived.Test.YtiehlkhpblldaaaRs
import Derived.Deep.RegionLaw
namespace Go.Proofs.Ytiehlkhpblldaaa
open Go.RowKit Go.Maps
set_option linter.unusedVariables false
set_option linter.unusedSimpArgs false
theorem step_run {P : Program} {ops : Array Oper} {o : Oper} {a : Act} {w w' : World} {K : Act → World → Prop} {Q : Exit → Act → World → Prop} {E : Prop}
    (hg : o.guard = none) (s x : Operand) (t : TypeId) (hop : o.op = Op.call { callee := Callee.builtin Builtin.append, args := #[s, x], argTypes := #[t, t] })
    (v xv v' : Value) (hs : a.eval s = v) (hx : a.eval x = xv) (hrun : (Builtin.append_ #[t, t] o.type #[v, xv]).run P w = .ok v' w') (hK : K (a.put o.dst v') w') :
    if Region.wanted o (yielded ops a.tmps) = true then Oper.wp P o a w K Q else E := by
  have hw : Region.wanted o (yielded ops a.tmps) = true := by simp [Region.wanted, hg]
  rw [if_pos hw]
  unfold Oper.wp
  simp [execOp, hop, resolve, invoke, builtin, hs, hx, hrun, Result.andThen]
  exact hK
theorem own_form {W : World} {B : Nat} {e : TypeId} {z n : Nat} {v : Value} {xs : List Value} (h : W.ownsRow B e z v (n + 1) xs) : ∃ b cap, v = .slice (some ⟨b, 0, none⟩) (n + 1) cap := by
  rcases h.2 with ⟨_, e⟩ | ⟨g, cap, cur, e, _⟩
  · cases e
  · exact ⟨g, cap, e⟩
theorem own_len {W : World} {B : Nat} {e : TypeId} {z n : Nat} {v : Value} {xs : List Value} (h : W.ownsRow B e z v n xs) : ∃ ao cap, v = .slice ao n cap ∧ n ≤ cap := by
  rcases h.2 with ⟨e, e2⟩ | ⟨g, cap, cur, e, _, _, hc, _⟩
  · subst e2
    exact ⟨_, _, e, Nat.le_refl _⟩
  · exact ⟨_, cap, e, hc⟩
/-- A row of another type stands, behind a change of a row. -/
theorem own_ty2 {W W' : World} {B B' : Nat} {e T : TypeId} {z n z' n' : Nat} {v v' : Value} {xs xs' : List Value} (h : W.ownsRow B e z v n xs) (h' : W.ownsRow B' T z' v' n' xs') (hT : e ≠ T) (K : Kept (fun k => v'.ownBlock = some k) W W') : W'.ownsRow B e z v n xs :=
  K.owns h (fun g hg e2 => by
    obtain ⟨c, hc⟩ := own_block h hg
    obtain ⟨d, hd⟩ := own_block h' e2
    rw [hc] at hd
    injection hd with hd
    injection hd with _ h2
    exact hT h2)
theorem grown_kept {W W' : World} {v : Value} (h : W.grownBy W' v.ownBlock) : Kept (fun k => v.ownBlock = some k) W W' := Kept.of_grown h (fun _ e => e)
theorem grown_r {W W' : World} {B r : Nat} {e T : TypeId} {z n : Nat} {v : Value} {xs : List Value} {cur : Array Value} {fr : Nat × Nat} (h : W.ownsRow B e z v n xs) (hr : W.heap[r]? = some (.cells cur T fr)) (hT : e ≠ T) (K : Kept (fun k => v.ownBlock = some k) W W') : W'.heap[r]? = some (.cells cur T fr) := by
  refine (K.block r (Array.getElem?_eq_some_iff.1 hr).1 (fun e2 => ?_)).trans hr
  obtain ⟨c, hc⟩ := own_block h e2
  rw [hc] at hr
  injection hr with hr
  injection hr with _ h2
  exact hT h2
section
variable {C : Cst} {W0 W W' : World} {r : Nat} {s s' : St} {x : Vs} {t : Tp}
theorem infH : (Try.prog.info? 111).map (fun i => (i.zero, i.size, i.bytes)) = some (some (.agg #[.pointer none, .int .u32 0, .int .i64 0]), 3, 24) := by kernel_rfl
theorem RunM.pushHA {Wa : World} {g : Nat} (ha : RunM C W0 r Wa s x t) (e : Hd) (hl : (s.hidden.length + 1) * 24 ≤ 140737488355328) (hnew : Wa.heap[g]? = some (.cells ((Hd.cells x.bb) e).toArray 111 (0, 0))) :
    ∃ b cap w', (Builtin.append_ #[65, 65] 65 #[x.hv, .slice (some ⟨g, 0, none⟩) 1 1]).run Try.prog Wa = .ok (.slice (some ⟨b, 0, none⟩) (s.hidden.length + 1) cap) w' ∧
      w'.heap[r]? = some (.cells (rcells C s x t) 72 (0, 0)) ∧ RunM C W0 r (w'.setCell ⟨r, 5, none⟩ (.slice (some ⟨b, 0, none⟩) (s.hidden.length + 1) cap)) { s with hidden := s.hidden ++ [e] } { x with hv := .slice (some ⟨b, 0, none⟩) (s.hidden.length + 1) cap } t := by
  have hglt := (Array.getElem?_eq_some_iff.1 hnew).1
  have hsrc : Src (Hd.cells x.bb) Wa (.slice (some ⟨g, 0, none⟩) 1 1) [e] := .inr ⟨g, 0, 1, rfl, hglt, Nat.le_refl _, fun j u hj => by
    rw [Nat.zero_add, cell_of_row Wa g j _ 111 (0, 0) hnew]
    simpa [flat] using hj⟩
  obtain ⟨v', w', h1, h2, h3, h4⟩ := append_own (f := (Hd.cells x.bb)) (st := 65) (et := 111) (bytes := 24) (hd3 x.bb) (by intro y u hu; simp only [Hd.cells, List.mem_cons, List.not_mem_nil, or_false] at hu; rcases hu with rfl | rfl | rfl <;> rfl) Try.underlying65 infH rfl (by decide) (l := s.hidden) (m := [e]) (base := W0.heap.size) (w := Wa) (v := x.hv) (x := .slice (some ⟨g, 0, none⟩) 1 1) ha.rows.hs hsrc (by simp only [List.length_singleton]; omega) (by simp only [List.length_singleton]; unfold maxLen; omega) ha.rows.below.size 65
  unfold Own at h2
  rw [List.length_append, List.length_singleton] at h2
  obtain ⟨b, cap, rfl⟩ := own_form h2
  have K := grown_kept h3
  have hr' : w'.heap[r]? = some (.cells (rcells C s x t) 72 (0, 0)) := grown_r ha.rows.hs ha.rc (by decide) K
  have KS := setK w' r 5 (.slice (some ⟨b, 0, none⟩) (s.hidden.length + 1) cap)
  have R := ha.rows
  refine ⟨b, cap, w', h1, hr', ?_, ha.rr, heap_setCell_same w' r 5 _ 72 _ hr'⟩
  have hbl : Below W0.heap.size W0 w' := R.below.trans (K.below R.below.size (fun k e => (World.ownsRow.lt R.hs k e).1))
  exact { below := hbl.trans (KS.below hbl.size (fun k e => by have := ha.rr; omega)), bs := own_ty (own_ty2 R.bs R.hs (by decide) K) hr' (by decide) KS, hs := by dsimp only; rw [List.length_append, List.length_singleton]; exact own_ty h2 hr' (by decide) KS, gs := own_ty (own_ty2 R.gs R.hs (by decide) K) hr' (by decide) KS, ks := own_ty (own_ty2 R.ks R.hs (by decide) K) hr' (by decide) KS, os := own_ty (own_ty2 R.os R.hs (by decide) K) hr' (by decide) KS, cs := own_ty (own_ty2 R.cs R.hs (by decide) K) hr' (by decide) KS, xs := own_ty (own_ty2 R.xs R.hs (by decide) K) hr' (by decide) KS, bk := fun i l hi => own_ty (own_ty2 (R.bk i l hi) R.hs (by decide) K) hr' (by decide) KS, gk := R.gk, go := R.go, ko := R.ko, pg := R.pg, sv := R.sv, svl := R.svl, bi := R.bi, rm := fun g0 c0 hg0 => blk_ty (grown_r R.hs (R.rm g0 c0 hg0) (by decide) K) hr' (by decide) KS }
theorem RunM.pushH (h : RunM C W0 r W s x t) (e : Hd) (hl : (s.hidden.length + 1) * 24 ≤ 140737488355328) :
    ∃ b cap w', (Builtin.append_ #[65, 65] 65 #[x.hv, .slice (some ⟨W.heap.size, 0, none⟩) 1 1]).run Try.prog ((W.alloc (.cells ((Hd.cells x.bb) e).toArray 111)).drew) = .ok (.slice (some ⟨b, 0, none⟩) (s.hidden.length + 1) cap) w' ∧
      w'.heap[r]? = some (.cells (rcells C s x t) 72 (0, 0)) ∧ RunM C W0 r (w'.setCell ⟨r, 5, none⟩ (.slice (some ⟨b, 0, none⟩) (s.hidden.length + 1) cap)) { s with hidden := s.hidden ++ [e] } { x with hv := .slice (some ⟨b, 0, none⟩) (s.hidden.length + 1) cap } t :=
  RunM.pushHA (Wa := (W.alloc (.cells ((Hd.cells x.bb) e).toArray 111)).drew) (h.on (W' := (W.alloc (.cells ((Hd.cells x.bb) e).toArray 111)).drew) ⟨rfl, rfl, rfl, by simp [World.drew], fun k hk => Below.heap_alloc _ _ _ hk⟩) e hl (heap_alloc_new W _)
theorem RunM.pushHN (h : RunM C W0 r W s x t) (e : Hd) (hl : (s.hidden.length + 1) * 24 ≤ 140737488355328) :
    ∃ b cap w', (Builtin.append_ #[65, 65] 65 #[x.hv, .slice (some ⟨W.heap.size, 0, none⟩) 1 1]).run Try.prog (W.alloc (.cells ((Hd.cells x.bb) e).toArray 111)) = .ok (.slice (some ⟨b, 0, none⟩) (s.hidden.length + 1) cap) w' ∧
      w'.heap[r]? = some (.cells (rcells C s x t) 72 (0, 0)) ∧ RunM C W0 r (w'.setCell ⟨r, 5, none⟩ (.slice (some ⟨b, 0, none⟩) (s.hidden.length + 1) cap)) { s with hidden := s.hidden ++ [e] } { x with hv := .slice (some ⟨b, 0, none⟩) (s.hidden.length + 1) cap } t :=
  RunM.pushHA (Wa := W.alloc (.cells ((Hd.cells x.bb) e).toArray 111)) (h.on (below1 W _)) e hl (heap_alloc_new W _)
theorem infC : (Try.prog.info? 86).map (fun i => (i.zero, i.size, i.bytes)) = some (some (.agg #[.int .i64 0, .int .i64 0, .int .u32 0, .int .i64 0, .int .i64 0, .int .i64 0]), 6, 48) := by kernel_rfl
theorem RunM.pushCA {Wa : World} {g : Nat} (ha : RunM C W0 r Wa s x t) (e : Cl) (hl : (s.calls.length + 1) * 48 ≤ 140737488355328) (hnew : Wa.heap[g]? = some (.cells (Cl.cells e).toArray 86 (0, 0))) :
    ∃ b cap w', (Builtin.append_ #[66, 66] 66 #[x.cv, .slice (some ⟨g, 0, none⟩) 1 1]).run Try.prog Wa = .ok (.slice (some ⟨b, 0, none⟩) (s.calls.length + 1) cap) w' ∧
      w'.heap[r]? = some (.cells (rcells C s x t) 72 (0, 0)) ∧ RunM C W0 r (w'.setCell ⟨r, 9, none⟩ (.slice (some ⟨b, 0, none⟩) (s.calls.length + 1) cap)) { s with calls := s.calls ++ [e] } { x with cv := .slice (some ⟨b, 0, none⟩) (s.calls.length + 1) cap } t := by
  have hglt := (Array.getElem?_eq_some_iff.1 hnew).1
  have hsrc : Src Cl.cells Wa (.slice (some ⟨g, 0, none⟩) 1 1) [e] := .inr ⟨g, 0, 1, rfl, hglt, Nat.le_refl _, fun j u hj => by
    rw [Nat.zero_add, cell_of_row Wa g j _ 86 (0, 0) hnew]
    simpa [flat] using hj⟩
  obtain ⟨v', w', h1, h2, h3, h4⟩ := append_own (f := Cl.cells) (st := 66) (et := 86) (bytes := 48) (cl6) (by intro y u hu; simp only [Cl.cells, List.mem_cons, List.not_mem_nil, or_false] at hu; rcases hu with rfl | rfl | rfl | rfl | rfl | rfl <;> rfl) Try.underlying66 infC rfl (by decide) (l := s.calls) (m := [e]) (base := W0.heap.size) (w := Wa) (v := x.cv) (x := .slice (some ⟨g, 0, none⟩) 1 1) ha.rows.cs hsrc (by simp only [List.length_singleton]; omega) (by simp only [List.length_singleton]; unfold maxLen; omega) ha.rows.below.size 66
  unfold Own at h2
  rw [List.length_append, List.length_singleton] at h2
  obtain ⟨b, cap, rfl⟩ := own_form h2
  have K := grown_kept h3
  have hr' : w'.heap[r]? = some (.cells (rcells C s x t) 72 (0, 0)) := grown_r ha.rows.cs ha.rc (by decide) K
  have KS := setK w' r 9 (.slice (some ⟨b, 0, none⟩) (s.calls.length + 1) cap)
  have R := ha.rows
  refine ⟨b, cap, w', h1, hr', ?_, ha.rr, heap_setCell_same w' r 9 _ 72 _ hr'⟩
  have hbl : Below W0.heap.size W0 w' := R.below.trans (K.below R.below.size (fun k e => (World.ownsRow.lt R.cs k e).1))
  exact { below := hbl.trans (KS.below hbl.size (fun k e => by have := ha.rr; omega)), bs := own_ty (own_ty2 R.bs R.cs (by decide) K) hr' (by decide) KS, hs := own_ty (own_ty2 R.hs R.cs (by decide) K) hr' (by decide) KS, gs := own_ty (own_ty2 R.gs R.cs (by decide) K) hr' (by decide) KS, ks := own_ty (own_ty2 R.ks R.cs (by decide) K) hr' (by decide) KS, os := own_ty (own_ty2 R.os R.cs (by decide) K) hr' (by decide) KS, cs := by dsimp only; rw [List.length_append, List.length_singleton]; exact own_ty h2 hr' (by decide) KS, xs := own_ty (own_ty2 R.xs R.cs (by decide) K) hr' (by decide) KS, bk := fun i l hi => own_ty (own_ty2 (R.bk i l hi) R.cs (by decide) K) hr' (by decide) KS, gk := R.gk, go := R.go, ko := R.ko, pg := R.pg, sv := R.sv, svl := R.svl, bi := R.bi, rm := fun g0 c0 hg0 => blk_ty (grown_r R.cs (R.rm g0 c0 hg0) (by decide) K) hr' (by decide) KS }
theorem RunM.pushC (h : RunM C W0 r W s x t) (e : Cl) (hl : (s.calls.length + 1) * 48 ≤ 140737488355328) :
    ∃ b cap w', (Builtin.append_ #[66, 66] 66 #[x.cv, .slice (some ⟨W.heap.size, 0, none⟩) 1 1]).run Try.prog ((W.alloc (.cells (Cl.cells e).toArray 86)).drew) = .ok (.slice (some ⟨b, 0, none⟩) (s.calls.length + 1) cap) w' ∧
      w'.heap[r]? = some (.cells (rcells C s x t) 72 (0, 0)) ∧ RunM C W0 r (w'.setCell ⟨r, 9, none⟩ (.slice (some ⟨b, 0, none⟩) (s.calls.length + 1) cap)) { s with calls := s.calls ++ [e] } { x with cv := .slice (some ⟨b, 0, none⟩) (s.calls.length + 1) cap } t :=
  RunM.pushCA (Wa := (W.alloc (.cells (Cl.cells e).toArray 86)).drew) (h.on (W' := (W.alloc (.cells (Cl.cells e).toArray 86)).drew) ⟨rfl, rfl, rfl, by simp [World.drew], fun k hk => Below.heap_alloc _ _ _ hk⟩) e hl (heap_alloc_new W _)
theorem RunM.pushCN (h : RunM C W0 r W s x t) (e : Cl) (hl : (s.calls.length + 1) * 48 ≤ 140737488355328) :
    ∃ b cap w', (Builtin.append_ #[66, 66] 66 #[x.cv, .slice (some ⟨W.heap.size, 0, none⟩) 1 1]).run Try.prog (W.alloc (.cells (Cl.cells e).toArray 86)) = .ok (.slice (some ⟨b, 0, none⟩) (s.calls.length + 1) cap) w' ∧
      w'.heap[r]? = some (.cells (rcells C s x t) 72 (0, 0)) ∧ RunM C W0 r (w'.setCell ⟨r, 9, none⟩ (.slice (some ⟨b, 0, none⟩) (s.calls.length + 1) cap)) { s with calls := s.calls ++ [e] } { x with cv := .slice (some ⟨b, 0, none⟩) (s.calls.length + 1) cap } t :=
  RunM.pushCA (Wa := W.alloc (.cells (Cl.cells e).toArray 86)) (h.on (below1 W _)) e hl (heap_alloc_new W _)
theorem infX : (Try.prog.info? 79).map (fun i => (i.zero, i.size, i.bytes)) = some (some (.int .u32 0), 1, 4) := by kernel_rfl
theorem RunM.pushXA {Wa : World} {g : Nat} (ha : RunM C W0 r Wa s x t) (e : Int) (hl : (s.ch.length + 1) * 4 ≤ 140737488355328) (hnew : Wa.heap[g]? = some (.cells (ucel e).toArray 79 (0, 0))) :
    ∃ b cap w', (Builtin.append_ #[70, 70] 70 #[x.xv, .slice (some ⟨g, 0, none⟩) 1 1]).run Try.prog Wa = .ok (.slice (some ⟨b, 0, none⟩) (s.ch.length + 1) cap) w' ∧
      w'.heap[r]? = some (.cells (rcells C s x t) 72 (0, 0)) ∧ RunM C W0 r (w'.setCell ⟨r, 14, none⟩ (.slice (some ⟨b, 0, none⟩) (s.ch.length + 1) cap)) { s with ch := s.ch ++ [e] } { x with xv := .slice (some ⟨b, 0, none⟩) (s.ch.length + 1) cap } t := by
  have hglt := (Array.getElem?_eq_some_iff.1 hnew).1
  have hsrc : Src ucel Wa (.slice (some ⟨g, 0, none⟩) 1 1) [e] := .inr ⟨g, 0, 1, rfl, hglt, Nat.le_refl _, fun j u hj => by
    rw [Nat.zero_add, cell_of_row Wa g j _ 79 (0, 0) hnew]
    simpa [flat] using hj⟩
  obtain ⟨v', w', h1, h2, h3, h4⟩ := append_own (f := ucel) (st := 70) (et := 79) (bytes := 4) (uc1) (by intro y u hu; simp only [ucel, List.mem_singleton] at hu; subst hu; rfl) Try.underlying70 infX rfl (by decide) (l := s.ch) (m := [e]) (base := W0.heap.size) (w := Wa) (v := x.xv) (x := .slice (some ⟨g, 0, none⟩) 1 1) ha.rows.xs hsrc (by simp only [List.length_singleton]; omega) (by simp only [List.length_singleton]; unfold maxLen; omega) ha.rows.below.size 70
  unfold Own at h2
  rw [List.length_append, List.length_singleton] at h2
  obtain ⟨b, cap, rfl⟩ := own_form h2
  have K := grown_kept h3
  have hr' : w'.heap[r]? = some (.cells (rcells C s x t) 72 (0, 0)) := grown_r ha.rows.xs ha.rc (by decide) K
  have KS := setK w' r 14 (.slice (some ⟨b, 0, none⟩) (s.ch.length + 1) cap)
  have R := ha.rows
  refine ⟨b, cap, w', h1, hr', ?_, ha.rr, heap_setCell_same w' r 14 _ 72 _ hr'⟩
  have hbl : Below W0.heap.size W0 w' := R.below.trans (K.below R.below.size (fun k e => (World.ownsRow.lt R.xs k e).1))
  exact { below := hbl.trans (KS.below hbl.size (fun k e => by have := ha.rr; omega)), bs := own_ty (own_ty2 R.bs R.xs (by decide) K) hr' (by decide) KS, hs := own_ty (own_ty2 R.hs R.xs (by decide) K) hr' (by decide) KS, gs := own_ty (own_ty2 R.gs R.xs (by decide) K) hr' (by decide) KS, ks := own_ty (own_ty2 R.ks R.xs (by decide) K) hr' (by decide) KS, os := own_ty (own_ty2 R.os R.xs (by decide) K) hr' (by decide) KS, cs := own_ty (own_ty2 R.cs R.xs (by decide) K) hr' (by decide) KS, xs := by dsimp only; rw [List.length_append, List.length_singleton]; exact own_ty h2 hr' (by decide) KS, bk := fun i l hi => own_ty (own_ty2 (R.bk i l hi) R.xs (by decide) K) hr' (by decide) KS, gk := R.gk, go := R.go, ko := R.ko, pg := R.pg, sv := R.sv, svl := R.svl, bi := R.bi, rm := fun g0 c0 hg0 => blk_ty (grown_r R.xs (R.rm g0 c0 hg0) (by decide) K) hr' (by decide) KS }
theorem RunM.pushX (h : RunM C W0 r W s x t) (e : Int) (hl : (s.ch.length + 1) * 4 ≤ 140737488355328) :
    ∃ b cap w', (Builtin.append_ #[70, 70] 70 #[x.xv, .slice (some ⟨W.heap.size, 0, none⟩) 1 1]).run Try.prog ((W.alloc (.cells (ucel e).toArray 79)).drew) = .ok (.slice (some ⟨b, 0, none⟩) (s.ch.length + 1) cap) w' ∧
      w'.heap[r]? = some (.cells (rcells C s x t) 72 (0, 0)) ∧ RunM C W0 r (w'.setCell ⟨r, 14, none⟩ (.slice (some ⟨b, 0, none⟩) (s.ch.length + 1) cap)) { s with ch := s.ch ++ [e] } { x with xv := .slice (some ⟨b, 0, none⟩) (s.ch.length + 1) cap } t :=
  RunM.pushXA (Wa := (W.alloc (.cells (ucel e).toArray 79)).drew) (h.on (W' := (W.alloc (.cells (ucel e).toArray 79)).drew) ⟨rfl, rfl, rfl, by simp [World.drew], fun k hk => Below.heap_alloc _ _ _ hk⟩) e hl (heap_alloc_new W _)
theorem RunM.pushXN (h : RunM C W0 r W s x t) (e : Int) (hl : (s.ch.length + 1) * 4 ≤ 140737488355328) :
    ∃ b cap w', (Builtin.append_ #[70, 70] 70 #[x.xv, .slice (some ⟨W.heap.size, 0, none⟩) 1 1]).run Try.prog (W.alloc (.cells (ucel e).toArray 79)) = .ok (.slice (some ⟨b, 0, none⟩) (s.ch.length + 1) cap) w' ∧
      w'.heap[r]? = some (.cells (rcells C s x t) 72 (0, 0)) ∧ RunM C W0 r (w'.setCell ⟨r, 14, none⟩ (.slice (some ⟨b, 0, none⟩) (s.ch.length + 1) cap)) { s with ch := s.ch ++ [e] } { x with xv := .slice (some ⟨b, 0, none⟩) (s.ch.length + 1) cap } t :=
  RunM.pushXA (Wa := W.alloc (.cells (ucel e).toArray 79)) (h.on (below1 W _)) e hl (heap_alloc_new W _)
theorem infO : (Try.prog.info? 5).map (fun i => (i.zero, i.size, i.bytes)) = some (some (.int .u8 0), 1, 1) := by kernel_rfl
theorem RunM.pushOA {Wa : World} {g : Nat} (ha : RunM C W0 r Wa s x t) (e : Int) (hl : (s.out.length + 1) * 1 ≤ 140737488355328) (hnew : Wa.heap[g]? = some (.cells (bcel e).toArray 5 (0, 0))) :
    ∃ b cap w', (Builtin.append_ #[59, 59] 59 #[x.ov, .slice (some ⟨g, 0, none⟩) 1 1]).run Try.prog Wa = .ok (.slice (some ⟨b, 0, none⟩) (s.out.length + 1) cap) w' ∧
      w'.heap[r]? = some (.cells (rcells C s x t) 72 (0, 0)) ∧ RunM C W0 r (w'.setCell ⟨r, 16, none⟩ (.slice (some ⟨b, 0, none⟩) (s.out.length + 1) cap)) { s with out := s.out ++ [e] } { x with ov := .slice (some ⟨b, 0, none⟩) (s.out.length + 1) cap } t := by
  have hglt := (Array.getElem?_eq_some_iff.1 hnew).1
  have hsrc : Src bcel Wa (.slice (some ⟨g, 0, none⟩) 1 1) [e] := .inr ⟨g, 0, 1, rfl, hglt, Nat.le_refl _, fun j u hj => by
    rw [Nat.zero_add, cell_of_row Wa g j _ 5 (0, 0) hnew]
    simpa [flat] using hj⟩
  obtain ⟨v', w', h1, h2, h3, h4⟩ := append_own (f := bcel) (st := 59) (et := 5) (bytes := 1) (by1) (by intro y u hu; simp only [bcel, List.mem_singleton] at hu; subst hu; rfl) Try.underlying59 infO rfl (by decide) (l := s.out) (m := [e]) (base := W0.heap.size) (w := Wa) (v := x.ov) (x := .slice (some ⟨g, 0, none⟩) 1 1) ha.rows.os hsrc (by simp only [List.length_singleton]; omega) (by simp only [List.length_singleton]; unfold maxLen; omega) ha.rows.below.size 59
  unfold Own at h2
  rw [List.length_append, List.length_singleton] at h2
  obtain ⟨b, cap, rfl⟩ := own_form h2
  have K := grown_kept h3
  have hr' : w'.heap[r]? = some (.cells (rcells C s x t) 72 (0, 0)) := grown_r ha.rows.os ha.rc (by decide) K
  have KS := setK w' r 16 (.slice (some ⟨b, 0, none⟩) (s.out.length + 1) cap)
  have R := ha.rows
  refine ⟨b, cap, w', h1, hr', ?_, ha.rr, heap_setCell_same w' r 16 _ 72 _ hr'⟩
  have hbl : Below W0.heap.size W0 w' := R.below.trans (K.below R.below.size (fun k e => (World.ownsRow.lt R.os k e).1))
  have hne : ∀ b0, b0 < Wa.heap.size → x.ov.ownBlock ≠ some b0 → (Value.slice (some ⟨b, 0, none⟩) (s.out.length + 1) cap).ownBlock ≠ some b0 := fun b0 hb0 hn e2 => by
    rcases h4 with e4 | e4
    · rw [e4] at e2; exact hn e2
    · rw [e4] at e2; injection e2 with e2; omega
  have hgs := K.owns R.gs (fun b0 hb0 e2 => R.go b0 hb0 e2)
  have hks := K.owns R.ks (fun b0 hb0 e2 => R.ko b0 hb0 e2)
  exact { below := hbl.trans (KS.below hbl.size (fun k e => by have := ha.rr; omega)), bs := own_ty (own_ty2 R.bs R.os (by decide) K) hr' (by decide) KS, hs := own_ty (own_ty2 R.hs R.os (by decide) K) hr' (by decide) KS, gs := own_ty hgs hr' (by decide) KS, ks := own_ty hks hr' (by decide) KS, os := by dsimp only; rw [List.length_append, List.length_singleton]; exact own_ty h2 hr' (by decide) KS, cs := own_ty (own_ty2 R.cs R.os (by decide) K) hr' (by decide) KS, xs := own_ty (own_ty2 R.xs R.os (by decide) K) hr' (by decide) KS, bk := fun i l hi => own_ty (own_ty2 (R.bk i l hi) R.os (by decide) K) hr' (by decide) KS, go := fun b0 hb0 => hne b0 (World.ownsRow.lt R.gs b0 hb0).2 (R.go b0 hb0), ko := fun b0 hb0 => hne b0 (World.ownsRow.lt R.ks b0 hb0).2 (R.ko b0 hb0), gk := R.gk, pg := R.pg, sv := R.sv, svl := R.svl, bi := R.bi, rm := fun g0 c0 hg0 => blk_ty (grown_r R.os (R.rm g0 c0 hg0) (by decide) K) hr' (by decide) KS }
theorem RunM.pushO (h : RunM C W0 r W s x t) (e : Int) (hl : (s.out.length + 1) * 1 ≤ 140737488355328) :
    ∃ b cap w', (Builtin.append_ #[59, 59] 59 #[x.ov, .slice (some ⟨W.heap.size, 0, none⟩) 1 1]).run Try.prog ((W.alloc (.cells (bcel e).toArray 5)).drew) = .ok (.slice (some ⟨b, 0, none⟩) (s.out.length + 1) cap) w' ∧
      w'.heap[r]? = some (.cells (rcells C s x t) 72 (0, 0)) ∧ RunM C W0 r (w'.setCell ⟨r, 16, none⟩ (.slice (some ⟨b, 0, none⟩) (s.out.length + 1) cap)) { s with out := s.out ++ [e] } { x with ov := .slice (some ⟨b, 0, none⟩) (s.out.length + 1) cap } t :=
  RunM.pushOA (Wa := (W.alloc (.cells (bcel e).toArray 5)).drew) (h.on (W' := (W.alloc (.cells (bcel e).toArray 5)).drew) ⟨rfl, rfl, rfl, by simp [World.drew], fun k hk => Below.heap_alloc _ _ _ hk⟩) e hl (heap_alloc_new W _)
theorem RunM.pushON (h : RunM C W0 r W s x t) (e : Int) (hl : (s.out.length + 1) * 1 ≤ 140737488355328) :
    ∃ b cap w', (Builtin.append_ #[59, 59] 59 #[x.ov, .slice (some ⟨W.heap.size, 0, none⟩) 1 1]).run Try.prog (W.alloc (.cells (bcel e).toArray 5)) = .ok (.slice (some ⟨b, 0, none⟩) (s.out.length + 1) cap) w' ∧
      w'.heap[r]? = some (.cells (rcells C s x t) 72 (0, 0)) ∧ RunM C W0 r (w'.setCell ⟨r, 16, none⟩ (.slice (some ⟨b, 0, none⟩) (s.out.length + 1) cap)) { s with out := s.out ++ [e] } { x with ov := .slice (some ⟨b, 0, none⟩) (s.out.length + 1) cap } t :=
  RunM.pushOA (Wa := W.alloc (.cells (bcel e).toArray 5)) (h.on (below1 W _)) e hl (heap_alloc_new W _)
end
end Go.Proofs.Ytiehlkhpblldaaa
