/- The document's Layout. -/
import Derived.Test.YtmcadffagnbiaaaRUp
import Derived.Test.YtmcadffagnbiaaaLay3
import Derived.Deep.RegionLaw
namespace Go.Proofs.Ytmcadffagnbiaaa
open Go.RowKit Go.Maps
set_option linter.unusedVariables false
set_option linter.unusedSimpArgs false

def MarkL (p : Prop) : Prop := p
theorem of_markL {p : Prop} (h : MarkL p) : p := h
theorem cell_six_at' {W : World} {b : Nat} {v0 v1 v2 v3 v4 v5 : Value} (h0 : W.cell? ⟨b, 0, none⟩ = some v0) (h1 : W.cell? ⟨b, 1, none⟩ = some v1) (h2 : W.cell? ⟨b, 2, none⟩ = some v2) (h3 : W.cell? ⟨b, 3, none⟩ = some v3) (h4 : W.cell? ⟨b, 4, none⟩ = some v4) (h5 : W.cell? ⟨b, 5, none⟩ = some v5) :
    ∀ j u, [v0, v1, v2, v3, v4, v5][j]? = some u → W.cell? ((⟨b, 0, none⟩ : Addr).add j) = some u
  | 0, u, e => by simp at e; subst e; exact h0
  | 1, u, e => by simp at e; subst e; exact h1
  | 2, u, e => by simp at e; subst e; exact h2
  | 3, u, e => by simp at e; subst e; exact h3
  | 4, u, e => by simp at e; subst e; exact h4
  | 5, u, e => by simp at e; subst e; exact h5
  | j + 6, u, e => by simp at e
theorem IsRec.set1 {W : World} {b : Nat} {nm : ByteArray} {v : Value} {z : Int} (h : IsRec W b nm v z) (u : Value) : IsRec (W.setCell ⟨b, 1, none⟩ u) b nm u z := by
  have hl := h.lt
  unfold IsRec at *
  rw [Array.getElem?_eq_some_iff] at h
  obtain ⟨_, h⟩ := h
  simp [World.setCell, hl, h, Array.getElem_modify]

/-- names of what is laid are the names of what came in -/
theorem find_run (nm : ByteArray) (l : List Mb) : findF nm (runL l).d = findF nm l := by
  have hn : ∀ (l : List Mb) (s : LS), (l.foldl stepL s).d.map Mb.nm = s.d.map Mb.nm ++ l.map Mb.nm := fun l => by
    induction l with
    | nil => intro s; simp
    | cons m l ih => intro s; rw [List.foldl_cons, ih]; simp [stepL]
  have h1 : (runL l).d.map Mb.nm = l.map Mb.nm := by rw [runL, hn]; simp
  have : ∀ (a b : List Mb), a.map Mb.nm = b.map Mb.nm → findF nm a = findF nm b := fun a => by
    induction a with
    | nil => intro b h; cases b with
      | nil => rfl
      | cons x b => simp at h
    | cons x a ih => intro b h; cases b with
      | nil => simp at h
      | cons y b =>
        simp only [List.map_cons, List.cons.injEq] at h
        unfold findF
        rw [h.1, ih b h.2]
  exact this _ _ h1

/-- In the midst: the record's box, the slice, the result's box. -/
structure QMid (w : World) (nm : ByteArray) (l : List Mb) (k rb : Nat) (sv : Value) (W : World) : Prop where
  own : Own 49 6 Mb.cells W (w.heap.size + 2) sv (runL (l.take k)).d
  rc : IsRec W rb nm sv (runL (l.take k)).z
  ob : IsRec W w.heap.size ⟨#[]⟩ (.slice none 0 0) 0
  re : rb = w.heap.size + 1
  below : Below w.heap.size w W
theorem QMid.kept {w W W' : World} {nm : ByteArray} {l : List Mb} {k rb : Nat} {sv : Value} (h : QMid w nm l k rb sv W) (hb : Below W.heap.size W W') : QMid w nm l k rb sv W' := by
  have K : Kept (fun _ => False) W W' := Kept.of_below hb
  exact ⟨K.owns h.own (fun _ _ e => e), K.isRec h.rc (fun e => e), K.isRec h.ob (fun e => e), h.re, below_on h.below hb h.below.size⟩

/-- append, by what its run is, as a step of a region that draws. -/
theorem step_run {P : Program} {ops : Array Oper} {o : Oper} {a : Act} {w w' : World} {K : Act → World → Prop} {Q : Exit → Act → World → Prop} {E : Prop}
    (hg : o.guard = none) (s x : Operand) (t : TypeId) (hop : o.op = Op.call { callee := Callee.builtin Builtin.append, args := #[s, x], argTypes := #[t, t] })
    (v xv v' : Value) (hs : a.eval s = v) (hx : a.eval x = xv) (hrun : (Builtin.append_ #[t, t] o.type #[v, xv]).run P w = .ok v' w') (hK : K (a.put o.dst v') w') :
    if Region.wanted o (yielded ops a.tmps) = true then Oper.wp P o a w K Q else E := by
  have hw : Region.wanted o (yielded ops a.tmps) = true := by simp [Region.wanted, hg]
  rw [if_pos hw]
  unfold Oper.wp
  simp [execOp, hop, resolve, invoke, builtin, hs, hx, hrun, Result.andThen]
  exact hK

/-- Half a round: the member is in, the size is not. -/
structure QHalf (w : World) (nm : ByteArray) (D : List Mb) (z : Int) (rb tb : Nat) (tk te tn ts : Int) (W : World) : Prop where
  own : ∃ sv, Own 49 6 Mb.cells W (w.heap.size + 2) sv D ∧ IsRec W rb nm sv z
  ob : IsRec W w.heap.size ⟨#[]⟩ (.slice none 0 0) 0
  re : rb = w.heap.size + 1
  tr : rb < tb
  t0 : W.cell? ⟨tb, 0, none⟩ = some (.int .i64 tk)
  t1 : W.cell? ⟨tb, 1, none⟩ = some (.int .i64 te)
  t2 : W.cell? ⟨tb, 2, none⟩ = some (.int .i64 tn)
  t3 : W.cell? ⟨tb, 3, none⟩ = some (.int .i64 ts)
  below : Below w.heap.size w W
theorem set_keep {W : World} {rb tb o c : Nat} {u v : Value} (h : W.cell? ⟨tb, o, none⟩ = some v) (hn : rb ≠ tb) : (W.setCell ⟨rb, c, none⟩ u).cell? ⟨tb, o, none⟩ = some v :=
  (World.cell?_of_block (Below.heap_setCell W ⟨rb, c, none⟩ u tb (fun e => hn e.symm))).trans h
theorem QHalf.fin {w W : World} {nm : ByteArray} {D : List Mb} {z : Int} {rb tb : Nat} {tk te tn ts : Int} (h : QHalf w nm D z rb tb tk te tn ts W) (y : Int) : QHalf w nm D y rb tb tk te tn ts (W.setCell ⟨rb, 2, none⟩ (.int .i64 y)) := by
  obtain ⟨sv, ho, hr⟩ := h.own
  have K := (Kept.rfl (fun b => b = rb) W).set (a := ⟨rb, 2, none⟩) (.inl rfl) (.int .i64 y)
  have h1 := h.re
  have h2 := h.tr
  refine ⟨⟨sv, K.owns ho (fun b hb e => ?_), hr.set2 y⟩, K.isRec h.ob (fun e => by omega), h.re, h.tr, set_keep h.t0 (by omega), set_keep h.t1 (by omega), set_keep h.t2 (by omega), set_keep h.t3 (by omega), h.below.trans (K.below h.below.size (fun b e => by omega))⟩
  have := (World.ownsRow.lt ho b hb).1
  omega
theorem QHalf.kept {w W W' : World} {nm : ByteArray} {D : List Mb} {z : Int} {rb tb : Nat} {tk te tn ts : Int} (h : QHalf w nm D z rb tb tk te tn ts W) (hb : Below W.heap.size W W') : QHalf w nm D z rb tb tk te tn ts W' := by
  obtain ⟨sv, ho, hr⟩ := h.own
  have K : Kept (fun _ => False) W W' := Kept.of_below hb
  exact ⟨⟨sv, K.owns ho (fun _ _ e => e), K.isRec hr (fun e => e)⟩, K.isRec h.ob (fun e => e), h.re, h.tr, keep_cell h.t0 hb, keep_cell h.t1 hb, keep_cell h.t2 hb, keep_cell h.t3 hb, below_on h.below hb h.below.size⟩
/-- The member is put behind the others. -/
theorem half_push {w W W5 W6 : World} {nm : ByteArray} {D D' : List Mb} {z : Int} {rb tb : Nat} {tk te tn ts : Int} {sv v' : Value} (hO : Own 49 6 Mb.cells W (w.heap.size + 2) sv D) (hr : IsRec W rb nm sv z) (hob : IsRec W w.heap.size ⟨#[]⟩ (.slice none 0 0) 0) (re : rb = w.heap.size + 1) (tr : rb < tb)
    (t0 : W.cell? ⟨tb, 0, none⟩ = some (.int .i64 tk)) (t1 : W.cell? ⟨tb, 1, none⟩ = some (.int .i64 te)) (t2 : W.cell? ⟨tb, 2, none⟩ = some (.int .i64 tn)) (t3 : W.cell? ⟨tb, 3, none⟩ = some (.int .i64 ts)) (tn' : sv.ownBlock ≠ some tb) (hb : Below w.heap.size w W)
    (hb5 : Below W.heap.size W W5) (hg : W5.grownBy W6 sv.ownBlock) (ho' : Own 49 6 Mb.cells W6 (w.heap.size + 2) v' D') : IsRec W6 rb nm sv z ∧ QHalf w nm D' z rb tb tk te tn ts (W6.setCell ⟨rb, 1, none⟩ v') := by
  have K5 : Kept (fun b => sv.ownBlock = some b) W W5 := Kept.of_below hb5
  have K6 : Kept (fun b => sv.ownBlock = some b) W W6 := K5.trans (Kept.of_grown hg (fun k hk => hk))
  have nr : ¬ sv.ownBlock = some rb := fun e => by have := (World.ownsRow.lt hO rb e).1; omega
  have no : ¬ sv.ownBlock = some w.heap.size := fun e => by have := (World.ownsRow.lt hO _ e).1; omega
  have hr6 := K6.isRec hr nr
  have K7 := (Kept.rfl (fun b => b = rb) W6).set (a := ⟨rb, 1, none⟩) (.inl rfl) v'
  have tl : tb < W.heap.size := World.block_lt_of_cell? W _ t0
  have kc : ∀ o u, W.cell? ⟨tb, o, none⟩ = some u → W6.cell? ⟨tb, o, none⟩ = some u := fun o u h => (K6.cell tl tn').trans h
  have hb6 := hb.trans (K6.below hb.size (fun b e => by have := (World.ownsRow.lt hO b e).1; omega))
  refine ⟨hr6, ⟨v', K7.owns ho' (fun b hb e => by have := (World.ownsRow.lt ho' b hb).1; omega), hr6.set1 v'⟩, K7.isRec (K6.isRec hob no) (fun e => by omega), re, tr, set_keep (kc _ _ t0) (by omega), set_keep (kc _ _ t1) (by omega), set_keep (kc _ _ t2) (by omega), set_keep (kc _ _ t3) (by omega), hb6.trans (K7.below hb6.size (fun b e => by omega))⟩

theorem QHalf.mid {w W : World} {nm : ByteArray} {l : List Mb} {k : Nat} {D : List Mb} {z g : Int} {rb tb : Nat} {tk te tn ts : Int} (h : QHalf w nm D z rb tb tk te tn ts W) (e : runL (l.take k) = ⟨D, z, g⟩) : ∃ sv, QMid w nm l k rb sv W := by
  obtain ⟨sv, ho, hr⟩ := h.own
  exact ⟨sv, by rw [e]; exact ho, by rw [e]; exact hr, h.ob, h.re, h.below⟩

theorem rlayout_long (nm : ByteArray) (ao : Option Addr) (n cap : Nat) (hn : 32 < n) (w : World) :
    Calls Try.prog 20 #[.string nm, .slice ao n cap] w fun e w' => e = .returned (.tuple #[.agg #[.string ⟨#[]⟩, .slice none 0 0, .int .i64 0], .int .i64 3]) ∧ Below w.heap.size w w' := by
  have : (32 : Int) < n := by omega
  go_enter Try.func20, Try.ntmps20
  go_wp2_with fail
  exact bodyPost_ret (v := .tuple #[.agg #[.string ⟨#[]⟩, .slice none 0 0, .int .i64 0], .int .i64 3]) (by simp [results, Try.results20, go_sem]) rfl ⟨rfl, below1 _ _⟩

set_option maxRecDepth 100000 in
set_option maxHeartbeats 8000000 in
theorem rlayout {nm : ByteArray} {w : World} {ao : Option Addr} {cap : Nat} {l : List Mb} (hS : Src Mb.cells w (.slice ao l.length cap) l) (hn : l.length ≤ 32) :
    Calls Try.prog 20 #[.string nm, .slice ao l.length cap] w (LayR nm l w) := by
  have h32 : ¬ (32 : Int) < l.length := by omega
  obtain ⟨ao', cap', hv, hf⟩ := hS.form mb6
  obtain ⟨rfl, rfl⟩ : ao = ao' ∧ cap = cap' := by injection hv with a1 a2 a3; exact ⟨a1, a3⟩
  have HF := hid' hf
  obtain ⟨i49, hi49, z0', z1', z2'⟩ := info_parts info49
  clear hf hv hS
  go_enter Try.func20, Try.ntmps20
  go_wp2_with fail
  go_loopw [7, 8] (fun g i wr => ∃ (k : Nat) (sv : Value), k ≤ l.length ∧ i = .int .i64 k ∧ g = .int .i64 (runL (l.take k)).g ∧ fine l k ∧ QMid w nm l k (w.heap.size + 1) sv wr) (fun _ i _ => l.length - (intOf i).toNat)
  case atStart =>
    refine ⟨0, .slice none 0 0, Nat.zero_le _, rfl, by simp [runL], fun j _ hj => by omega, World.ownsRow_nil _ _ _ _, ?_, ?_, rfl, below2 _ _ _⟩
    · exact new_at _ _ _ (by simp)
    · exact old_at _ _ _ (by simp) (new_at _ _ _ rfl)
  case round =>
    obtain ⟨k, sv, hk, rfl, rfl, hfi, hM⟩ := hrel
    have HK := hid' hfi
    have r0 := hM.rc.c0
    have r1 := hM.rc.c1
    have r2 := hM.rc.c2
    have HM := hid' hM
    have hsl := hM.own
    have hdl : (runL (l.take k)).d.length = k := by rw [runL_len, List.length_take]; omega
    obtain ⟨sao, scap, rfl⟩ : ∃ a c, sv = .slice a k c := by
      obtain ⟨a, c, e⟩ := (Own.src mb6 hsl).len
      rw [hdl] at e
      exact ⟨a, c, e⟩
    clear hfi hM
    by_cases hlt : k < l.length
    · obtain ⟨b, off, rfl, hbl, hcp, hc⟩ := HF.out k hlt
      obtain ⟨c0, c1, c2, c3, c4, c5⟩ := mb_cells (hc wr HM.out.below)
      have HC : Hid (∀ W, Below w.heap.size w W → _) := fun W hW => mb_cells (hc W hW)
      have HO : Hid (okM l[k] = ((scalF l[k].ty.k || l[k].ty.k == 4) && mayF l[k].ty 0)) := rfl
      have HSZ : Hid (okM l[k] = true → szE l[k].ty [] = (szM l[k].ty, 0) ∧ 1 ≤ szM l[k].ty ∧ szM l[k].ty ≤ 4096) := fun h => ⟨okM_size h, szM_le h⟩
      have hrun := run_le (l := l.take k) (fine_ok HK.out)
      have hzl : 0 ≤ (runL (l.take k)).z ∧ (runL (l.take k)).z ≤ 140000 := by have := hrun.2.1; rw [List.length_take] at this; have := hrun.1; omega
      have hgg := hrun.2.2
      have hal := al_or l[k].ty
      have hup := up_le hzl.1 hal
      have HFS : Hid (findF l[k].nm (runL (l.take k)).d = findF l[k].nm (l.take k)) := find_run _ _
      have HL : Hid (∀ j (hj : j < l.length), j = k → okM l[j] = okM l[k] ∧ findF l[j].nm (l.take j) = findF l[k].nm (l.take k)) := fun j hj e => by subst e; exact ⟨rfl, rfl⟩
      have HNX : Hid (runL (l.take (k + 1)) = stepL (runL (l.take k)) l[k]) := by unfold Hid; rw [take_snoc l k hlt, runL_snoc]
      unfold stepL at HNX
      have K27 : Hid (∀ W, Calls Try.prog 27 #[l[k].ty.val, .int .i64 0] W fun e w' => e = .returned (.bool (mayF l[k].ty 0)) ∧ Below W.heap.size W w') := fun W => may27 l[k].ty 0 W
      have K16 : Hid (∀ W, Calls Try.prog 16 #[l[k].ty.val] W fun e w' => e = .returned (.bool (scalF l[k].ty.k)) ∧ Below W.heap.size W w') := fun W => scal16 l[k].ty W
      have K38 : Hid (∀ W, Calls Try.prog 38 #[l[k].ty.val] W fun e w' => e = .returned (.int .i64 (alF l[k].ty)) ∧ Below W.heap.size W w') := fun W => al38 l[k].ty W
      have K37 : Hid (∀ W, Calls Try.prog 37 #[.int .i64 (runL (l.take k)).z, .int .i64 (alF l[k].ty)] W fun e w' => e = .returned (.int .i64 (upF (runL (l.take k)).z (alF l[k].ty))) ∧ Below W.heap.size W w') := fun W => (up37 _ _ hzl.1 (by omega) hal W).mono fun _ w' h => ⟨h.1, by rw [h.2]; exact Below.refl _ _⟩
      have K12 : Hid (okM l[k] = true → ∀ W, Calls Try.prog 12 #[l[k].ty.val, .slice none 0 0] W fun e w' => e = .returned (.tuple #[.int .i64 (szM l[k].ty), .int .i64 0]) ∧ Below W.heap.size W w') := fun h W => by
        have := size12 (w := W) (v := .slice none 0 0) (l := []) (.inl ⟨rfl, _, _, rfl⟩) (by simp) l[k].ty
        rw [okM_size h] at this
        exact this
      have K23 : Hid (∀ W, Below wr.heap.size wr W → Calls Try.prog 23 #[.agg #[.string nm, .slice sao k scap, .int .i64 (runL (l.take k)).z], .string l[k].nm] W fun e w' => e = .returned (.int .i64 (findF l[k].nm (l.take k))) ∧ Below W.heap.size W w') := fun W hW => by
        have := find23 ((Own.src mb6 hsl).on hW) nm l[k].nm (runL (l.take k)).z (by rw [hdl]; omega)
        rw [HFS.out] at this
        exact this
      clear hc hrun HFS hsl
      have hbad : Hid (okM l[k] = false ∨ 0 ≤ findF l[k].nm (l.take k) → LayIs nm l ⟨#[]⟩ [] 0 1) := fun h1 => .inr (.inl ⟨hn, fun h2 => by
        obtain ⟨a1, a2⟩ := h2.1 k hlt hlt
        rcases h1 with h1 | h1
        · rw [h1] at a1; cases a1
        · omega, rfl, rfl, rfl, rfl⟩)
      have hNF : Hid (okM l[k] = true → findF l[k].nm (l.take k) < 0 → fine l (k + 1)) := fun h1 h2 j hj hjk => by
        by_cases e : j = k
        · subst e; exact ⟨h1, h2⟩
        · exact HK.out j hj (by omega)
      clear HL
      generalize findF l[k].nm (l.take k) = F at *
      generalize okM l[k] = ok at *
      generalize mayF l[k].ty 0 = q at *
      generalize upF (runL (l.take k)).z (alF l[k].ty) = at' at *
      generalize szM l[k].ty = sz at *
      generalize alF l[k].ty = al at *
      generalize l[k] = m at *
      obtain ⟨mn, ⟨tk, te, tn, ts⟩, mp⟩ := m
      unfold Ty.val at *
      dsimp only at *
      generalize scalF tk = sc at *
      have A27 : ∀ t : After (wr.alloc (.cells #[.int .i64 tk, .int .i64 te, .int .i64 tn, .int .i64 ts] 23)), _ := fun t => Calls.after t (K27.out t.1)
      have A16 : ∀ t : After (wr.alloc (.cells #[.int .i64 tk, .int .i64 te, .int .i64 tn, .int .i64 ts] 23)), _ := fun t => Calls.after t (K16.out t.1)
      have A23 : ∀ t : After (wr.alloc (.cells #[.int .i64 tk, .int .i64 te, .int .i64 tn, .int .i64 ts] 23)), _ := fun t => Calls.after t (K23.out t.1 ((below1 _ _).trans (t.2.mono (by simp))))
      have hx := fun t => box4 (w := wr) (k := tk) (e := te) (n := tn) (s := ts) t
      have q0 := fun t => (hx t).1
      have q1 := fun t => (hx t).2.1
      have q2 := fun t => (hx t).2.2.1
      have q3 := fun t => (hx t).2.2.2
      have hy := fun t : After (wr.alloc (.cells #[.int .i64 tk, .int .i64 te, .int .i64 tn, .int .i64 ts] 23)) => (HM.out.kept ((below1 _ _).trans (t.2.mono (by simp)))).rc
      have e0 := fun t => (hy t).c0
      have e1 := fun t => (hy t).c1
      have e2 := fun t => (hy t).c2
      have p0 := fun t : After (wr.alloc (.cells #[.int .i64 tk, .int .i64 te, .int .i64 tn, .int .i64 ts] 23)) => (HC.out t.1 (below_on HM.out.below ((below1 _ _).trans (t.2.mono (by simp))) HM.out.below.size)).1
      clear hx hy
      have hlt' : (k : Int) < l.length := by omega
      cases q
      · have HBad : Hid (LayIs nm l ⟨#[]⟩ [] 0 1) := hbad.out (.inl (by rw [HO.out]; simp))
        go_wp2_with fail
        have hne := after_some (wr.alloc (.cells #[.int .i64 tk, .int .i64 te, .int .i64 tn, .int .i64 ts] 23))
        refine region_after 22 mixed (by kernel_rfl) ?_
        simp only [List.take_succ_cons, List.take_zero, List.drop_succ_cons, List.drop_zero]
        repeat go_big_quiet_step (first | with_reducible exact A27 _ | with_reducible exact A16 _ | with_reducible exact A23 _)
        refine wpQuiet_nil ?_
        intro w2 hb2
        have hM2 := (HM.out.kept (below1 _ _)).kept hb2
        clear q0 q1 q2 q3 e0 e1 e2 p0 A27 A16 A23 hb2
        have o0 := hM2.ob.c0
        have o1 := hM2.ob.c1
        have o2 := hM2.ob.c2
        have of := hM2.ob.fr
        have hp := hM2.ob.put3 ⟨#[]⟩ (.slice none 0 0) 0
        have hB := hM2.below.trans ((Kept.put3 w2 w.heap.size (.string ⟨#[]⟩) (.slice none 0 0) (.int .i64 0)).below hM2.below.size (fun k e => by omega))
        have HP := hid' hp
        have HBB := hid' hB
        clear hp hB hM2
        go_wp2_with fail
        have hp := HP.out
        have hB := HBB.out
        generalize ((w2.setCell ⟨w.heap.size, 0, none⟩ (.string ⟨#[]⟩)).setCell ⟨w.heap.size, 1, none⟩ (.slice none 0 0)).setCell ⟨w.heap.size, 2, none⟩ (.int .i64 0) = W at *
        exact bodyPost_ret (v := .tuple #[.agg #[.string ⟨#[]⟩, .slice none 0 0, .int .i64 0], .int .i64 1]) (by simp [results, Try.results20, go_sem, hp.c0, hp.c1, hp.c2]) rfl ⟨_, _, _, _, [], rfl, HBad.out, src_nil, hB⟩
      · cases sc
        · by_cases h4 : tk = 4
          · subst h4
            have HOk : Hid (ok = true) := by unfold Hid; rw [HO.out]; simp
            go_wp2_with fail
            have hne := after_some (wr.alloc (.cells #[.int .i64 4, .int .i64 te, .int .i64 tn, .int .i64 ts] 23))
            refine region_after 22 mixed (by kernel_rfl) ?_
            simp only [List.take_succ_cons, List.take_zero, List.drop_succ_cons, List.drop_zero]
            repeat go_big_quiet_step (first | with_reducible exact A27 _ | with_reducible exact A16 _ | with_reducible exact A23 _)
            refine wpQuiet_nil ?_
            intro w2 hb2
            have hM2 := (HM.out.kept (below1 _ _)).kept hb2
            clear q0 q1 q2 q3 e0 e1 e2 p0 A27 A16 A23 hne r0 r1 r2 c0 c1 c2 c3 c4 c5
            by_cases hF : 0 ≤ F
            · have HBad : Hid (LayIs nm l ⟨#[]⟩ [] 0 1) := hbad.out (.inr hF)
              have o0 := hM2.ob.c0
              have o1 := hM2.ob.c1
              have o2 := hM2.ob.c2
              have of := hM2.ob.fr
              have HP := hid' (hM2.ob.put3 ⟨#[]⟩ (.slice none 0 0) 0)
              have HBB := hid' (hM2.below.trans ((Kept.put3 w2 w.heap.size (.string ⟨#[]⟩) (.slice none 0 0) (.int .i64 0)).below hM2.below.size (fun k e => by omega)))
              clear hM2 hb2
              go_wp2_with fail
              have hp := HP.out
              have hB := HBB.out
              generalize ((w2.setCell ⟨w.heap.size, 0, none⟩ (.string ⟨#[]⟩)).setCell ⟨w.heap.size, 1, none⟩ (.slice none 0 0)).setCell ⟨w.heap.size, 2, none⟩ (.int .i64 0) = W at *
              exact bodyPost_ret (v := .tuple #[.agg #[.string ⟨#[]⟩, .slice none 0 0, .int .i64 0], .int .i64 1]) (by simp [results, Try.results20, go_sem, hp.c0, hp.c1, hp.c2]) rfl ⟨_, _, _, _, [], rfl, HBad.out, src_nil, hB⟩
            · obtain ⟨t0, t1, t2, t3⟩ := box4 (w := wr) (k := 4) (e := te) (n := tn) (s := ts) ⟨w2, hb2⟩
              dsimp only at t0 t1 t2 t3
              have K12' := K12.out HOk.out
              obtain ⟨_, z1, z2⟩ := HSZ.out HOk.out
              have HFN : Hid (fine l (k + 1)) := hNF.out HOk.out (by omega)
              have HM2 := hid' hM2
              have HTW : Hid (w.heap.size + 1 < wr.heap.size) := HM.out.rc.lt
              clear hM2 hb2 K12 hNF hbad HSZ
              go_wp2_with (go_at_call 12; refine (K12' _).mono ?_; rintro e3 w3 ⟨rfl, hb3⟩)
              have hM3 := HM2.out.kept hb3
              have q0 := fun t : After w3 => keep_cell (keep_cell t0 hb3) t.2
              have q1 := fun t : After w3 => keep_cell (keep_cell t1 hb3) t.2
              have q2 := fun t : After w3 => keep_cell (keep_cell t2 hb3) t.2
              have q3 := fun t : After w3 => keep_cell (keep_cell t3 hb3) t.2
              have e2 := fun t : After w3 => keep_cell hM3.rc.c2 t.2
              have A38 : ∀ t : After w3, _ := fun t => Calls.after t (K38.out t.1)
              have A37 : ∀ t : After w3, _ := fun t => Calls.after t (K37.out t.1)
              have HM3 := hid' hM3
              have T0 := hid' (keep_cell t0 hb3)
              have T1 := hid' (keep_cell t1 hb3)
              have T2 := hid' (keep_cell t2 hb3)
              have T3 := hid' (keep_cell t3 hb3)
              clear t0 t1 t2 t3 hM3 hb3 K12'
              have hne := after_some w3
              refine region_after 5 mixed (by kernel_rfl) ?_
              simp only [List.take_succ_cons, List.take_zero, List.drop_succ_cons, List.drop_zero]
              repeat go_big_quiet_step (first | with_reducible exact A38 _ | with_reducible exact A37 _)
              refine wpQuiet_nil ?_
              intro w4 hb4
              have hM4 := HM3.out.kept hb4
              have t0 := keep_cell T0.out hb4
              have t1 := keep_cell T1.out hb4
              have t2 := keep_cell T2.out hb4
              have t3 := keep_cell T3.out hb4
              clear q0 q1 q2 q3 e2 A38 A37 hne
              have hs4 : wr.heap.size < w4.heap.size := World.block_lt_of_cell? w4 _ t0
              have HM4 := hid' hM4
              have r0 := hM4.rc.c0
              have r1 := hM4.rc.c1
              have rf := hM4.rc.fr
              obtain ⟨c0, c1, c2, c3, c4, c5⟩ := HC.out w4 hM4.below
              have hO4 : Own 49 6 Mb.cells (w4.drew.alloc (.cells #[.string mn, .int .i64 4, .int .i64 te, .int .i64 tn, .int .i64 ts, .int .i64 at'] 49)) (w.heap.size + 2) (.slice sao k scap) (runL (l.take k)).d := (Kept.of_below (S := fun _ => False) ((drew_below w4).trans (below1 w4.drew _))).owns hM4.own (fun _ _ e => e)
              have hS4 : Src Mb.cells (w4.drew.alloc (.cells #[.string mn, .int .i64 4, .int .i64 te, .int .i64 tn, .int .i64 ts, .int .i64 at'] 49)) (.slice (some ⟨w4.heap.size, 0, none⟩) 1 1) [⟨mn, ⟨4, te, tn, ts⟩, at'⟩] := by
                refine .inr ⟨w4.heap.size, 0, 1, rfl, by simp, by simp, fun j u hj => ?_⟩
                have hh := new_at w4.drew (.cells #[.string mn, .int .i64 4, .int .i64 te, .int .i64 tn, .int .i64 ts, .int .i64 at'] 49) w4.heap.size rfl
                simp only [World.cell?, hh, Nat.zero_add]
                simp [flat, Mb.cells] at hj
                simpa using hj
              obtain ⟨v', w6, hr6, ho6, hg6, hloc6⟩ := append_own (st := 35) (et := 49) mb6 mb1 Try.underlying35 info49 rfl (by decide) hO4 hS4 (by rw [hdl]; simp; omega) (by rw [hdl]; unfold maxLen; simp; omega) (by have := HTW.out; simp; omega) 35
              obtain ⟨ao6, n6, cap6, rfl⟩ : ∃ a n c, v' = .slice a n c := by
                obtain ⟨a, c, e⟩ := (Own.src mb6 ho6).len
                exact ⟨a, _, c, e⟩
              have hnb : (Value.slice sao k scap).ownBlock ≠ some wr.heap.size := fun e => by
                have := (World.ownsRow.lt HM.out.own _ e).2
                omega
              obtain ⟨hr7, hQ⟩ := half_push hM4.own hM4.rc hM4.ob rfl HTW.out t0 t1 t2 t3 hnb hM4.below ((drew_below w4).trans (below1 w4.drew _)) hg6 ho6
              have n4 : w.heap.size + 1 < w4.heap.size := by have := HTW.out; omega
              have n5 : ¬ w.heap.size + 1 = w4.heap.size := by omega
              have n6 : ¬ w4.heap.size = w.heap.size + 1 := by omega
              have s1 := hr7.c1
              have sf := hr7.fr
              have HQ := hid' hQ
              clear hQ hr7 hO4 hS4 ho6 hg6 hloc6 hM4 T0 T1 T2 T3 hb4
              go_wp2_with fail
              go_cut [75] (fun p wx => QHalf w nm ((runL (l.take k)).d ++ [⟨mn, ⟨4, te, tn, ts⟩, at'⟩]) (runL (l.take k)).z (w.heap.size + 1) wr.heap.size 4 te tn ts wx)
              case first =>
                go_region_law (refine step_run rfl (.tmp 65) (.tmp 74) 35 rfl _ _ _ (by simp [Act.eval]) (by simp [Act.eval]) hr6 ?_)
                all_goals
                  go_wp2_with fail
                  go_meet
                  exact HQ.out
              case rest =>
                clear HQ s1 sf hr6 t0 t1 t2 t3 r0 r1 rf c0 c1 c2 c3 c4 c5
                have hQ := hcut
                obtain ⟨sv5, ho5, hr5⟩ := hQ.own
                have s2 := hr5.c2
                have sf := hr5.fr
                have u0 := hQ.t0
                have u1 := hQ.t1
                have u2 := hQ.t2
                have u3 := hQ.t3
                have HQF := hid' (hQ.fin (at' + sz))
                have hw2 : IntKind.i64.wrap (at' + sz) = at' + sz := by simp [IntKind.wrap, IntKind.bits, IntKind.signed]; omega
                have n1 : ¬ wr.heap.size = w.heap.size + 1 := by have := HTW.out; omega
                have n2 : ¬ w.heap.size + 1 = wr.heap.size := by omega
                clear hcut hQ ho5 hr5 hup hzl
                have HG' : Hid ((runL (l.take (k + 1))).g = max (runL (l.take k)).g al) := by unfold Hid; rw [HNX.out]
                rcases hal with rfl | rfl <;> rcases hgg with hg1 | hg1
                all_goals
                  have HG1 := hid' hg1
                  rw [hg1]
                  clear hg1
                  go_wp2_with (go_at_call 38; refine (K38.out _).mono ?_; rintro e8 w8 ⟨rfl, hb8⟩; replace HQF := hid' (HQF.out.kept hb8); replace u0 := HQF.out.t0; replace u1 := HQF.out.t1; replace u2 := HQF.out.t2; replace u3 := HQF.out.t3; clear hb8)
                  go_roundw
                  case rel =>
                    obtain ⟨sv9, hm9⟩ := HQF.out.mid (l := l) (k := k + 1) HNX.out
                    exact ⟨k + 1, sv9, by omega, by go_num, by rw [HG'.out, HG1.out]; rfl, HFN.out, hm9⟩
                  case measure => simp [intOf]; omega
          · have hd4 : (tk == 4) = false := by simp [h4]
            have hd5 : (tk != 4) = true := by simp [h4]
            have hd6 : decide (tk = 4) = false := by simp [h4]
            have HBad : Hid (LayIs nm l ⟨#[]⟩ [] 0 1) := hbad.out (.inl (by rw [HO.out]; simp [h4]))
            go_wp2_with fail
            have hne := after_some (wr.alloc (.cells #[.int .i64 tk, .int .i64 te, .int .i64 tn, .int .i64 ts] 23))
            refine region_after 22 mixed (by kernel_rfl) ?_
            simp only [List.take_succ_cons, List.take_zero, List.drop_succ_cons, List.drop_zero]
            repeat go_big_quiet_step (first | with_reducible exact A27 _ | with_reducible exact A16 _ | with_reducible exact A23 _)
            refine wpQuiet_nil ?_
            intro w2 hb2
            have hM2 := (HM.out.kept (below1 _ _)).kept hb2
            clear q0 q1 q2 q3 e0 e1 e2 p0 A27 A16 A23 hb2
            have o0 := hM2.ob.c0
            have o1 := hM2.ob.c1
            have o2 := hM2.ob.c2
            have of := hM2.ob.fr
            have hp := hM2.ob.put3 ⟨#[]⟩ (.slice none 0 0) 0
            have hB := hM2.below.trans ((Kept.put3 w2 w.heap.size (.string ⟨#[]⟩) (.slice none 0 0) (.int .i64 0)).below hM2.below.size (fun k e => by omega))
            have HP := hid' hp
            have HBB := hid' hB
            clear hp hB hM2
            go_wp2_with fail
            have hp := HP.out
            have hB := HBB.out
            generalize ((w2.setCell ⟨w.heap.size, 0, none⟩ (.string ⟨#[]⟩)).setCell ⟨w.heap.size, 1, none⟩ (.slice none 0 0)).setCell ⟨w.heap.size, 2, none⟩ (.int .i64 0) = W at *
            exact bodyPost_ret (v := .tuple #[.agg #[.string ⟨#[]⟩, .slice none 0 0, .int .i64 0], .int .i64 1]) (by simp [results, Try.results20, go_sem, hp.c0, hp.c1, hp.c2]) rfl ⟨_, _, _, _, [], rfl, HBad.out, src_nil, hB⟩
        · have HOk : Hid (ok = true) := by unfold Hid; rw [HO.out]; simp
          go_wp2_with fail
          have hne := after_some (wr.alloc (.cells #[.int .i64 tk, .int .i64 te, .int .i64 tn, .int .i64 ts] 23))
          refine region_after 22 mixed (by kernel_rfl) ?_
          simp only [List.take_succ_cons, List.take_zero, List.drop_succ_cons, List.drop_zero]
          repeat go_big_quiet_step (first | with_reducible exact A27 _ | with_reducible exact A16 _ | with_reducible exact A23 _)
          refine wpQuiet_nil ?_
          intro w2 hb2
          have hM2 := (HM.out.kept (below1 _ _)).kept hb2
          clear q0 q1 q2 q3 e0 e1 e2 p0 A27 A16 A23 hne r0 r1 r2 c0 c1 c2 c3 c4 c5
          by_cases hF : 0 ≤ F
          · have HBad : Hid (LayIs nm l ⟨#[]⟩ [] 0 1) := hbad.out (.inr hF)
            have o0 := hM2.ob.c0
            have o1 := hM2.ob.c1
            have o2 := hM2.ob.c2
            have of := hM2.ob.fr
            have HP := hid' (hM2.ob.put3 ⟨#[]⟩ (.slice none 0 0) 0)
            have HBB := hid' (hM2.below.trans ((Kept.put3 w2 w.heap.size (.string ⟨#[]⟩) (.slice none 0 0) (.int .i64 0)).below hM2.below.size (fun k e => by omega)))
            clear hM2 hb2
            go_wp2_with fail
            have hp := HP.out
            have hB := HBB.out
            generalize ((w2.setCell ⟨w.heap.size, 0, none⟩ (.string ⟨#[]⟩)).setCell ⟨w.heap.size, 1, none⟩ (.slice none 0 0)).setCell ⟨w.heap.size, 2, none⟩ (.int .i64 0) = W at *
            exact bodyPost_ret (v := .tuple #[.agg #[.string ⟨#[]⟩, .slice none 0 0, .int .i64 0], .int .i64 1]) (by simp [results, Try.results20, go_sem, hp.c0, hp.c1, hp.c2]) rfl ⟨_, _, _, _, [], rfl, HBad.out, src_nil, hB⟩
          · obtain ⟨t0, t1, t2, t3⟩ := box4 (w := wr) (k := tk) (e := te) (n := tn) (s := ts) ⟨w2, hb2⟩
            dsimp only at t0 t1 t2 t3
            have K12' := K12.out HOk.out
            obtain ⟨_, z1, z2⟩ := HSZ.out HOk.out
            have HFN : Hid (fine l (k + 1)) := hNF.out HOk.out (by omega)
            have HM2 := hid' hM2
            have HTW : Hid (w.heap.size + 1 < wr.heap.size) := HM.out.rc.lt
            clear hM2 hb2 K12 hNF hbad HSZ
            go_wp2_with (go_at_call 12; refine (K12' _).mono ?_; rintro e3 w3 ⟨rfl, hb3⟩)
            have hM3 := HM2.out.kept hb3
            have q0 := fun t : After w3 => keep_cell (keep_cell t0 hb3) t.2
            have q1 := fun t : After w3 => keep_cell (keep_cell t1 hb3) t.2
            have q2 := fun t : After w3 => keep_cell (keep_cell t2 hb3) t.2
            have q3 := fun t : After w3 => keep_cell (keep_cell t3 hb3) t.2
            have e2 := fun t : After w3 => keep_cell hM3.rc.c2 t.2
            have A38 : ∀ t : After w3, _ := fun t => Calls.after t (K38.out t.1)
            have A37 : ∀ t : After w3, _ := fun t => Calls.after t (K37.out t.1)
            have HM3 := hid' hM3
            have T0 := hid' (keep_cell t0 hb3)
            have T1 := hid' (keep_cell t1 hb3)
            have T2 := hid' (keep_cell t2 hb3)
            have T3 := hid' (keep_cell t3 hb3)
            clear t0 t1 t2 t3 hM3 hb3 K12'
            have hne := after_some w3
            refine region_after 5 mixed (by kernel_rfl) ?_
            simp only [List.take_succ_cons, List.take_zero, List.drop_succ_cons, List.drop_zero]
            repeat go_big_quiet_step (first | with_reducible exact A38 _ | with_reducible exact A37 _)
            refine wpQuiet_nil ?_
            intro w4 hb4
            have hM4 := HM3.out.kept hb4
            have t0 := keep_cell T0.out hb4
            have t1 := keep_cell T1.out hb4
            have t2 := keep_cell T2.out hb4
            have t3 := keep_cell T3.out hb4
            clear q0 q1 q2 q3 e2 A38 A37 hne
            have hs4 : wr.heap.size < w4.heap.size := World.block_lt_of_cell? w4 _ t0
            have HM4 := hid' hM4
            have r0 := hM4.rc.c0
            have r1 := hM4.rc.c1
            have rf := hM4.rc.fr
            obtain ⟨c0, c1, c2, c3, c4, c5⟩ := HC.out w4 hM4.below
            have hO4 : Own 49 6 Mb.cells (w4.drew.alloc (.cells #[.string mn, .int .i64 tk, .int .i64 te, .int .i64 tn, .int .i64 ts, .int .i64 at'] 49)) (w.heap.size + 2) (.slice sao k scap) (runL (l.take k)).d := (Kept.of_below (S := fun _ => False) ((drew_below w4).trans (below1 w4.drew _))).owns hM4.own (fun _ _ e => e)
            have hS4 : Src Mb.cells (w4.drew.alloc (.cells #[.string mn, .int .i64 tk, .int .i64 te, .int .i64 tn, .int .i64 ts, .int .i64 at'] 49)) (.slice (some ⟨w4.heap.size, 0, none⟩) 1 1) [⟨mn, ⟨tk, te, tn, ts⟩, at'⟩] := by
              refine .inr ⟨w4.heap.size, 0, 1, rfl, by simp, by simp, fun j u hj => ?_⟩
              have hh := new_at w4.drew (.cells #[.string mn, .int .i64 tk, .int .i64 te, .int .i64 tn, .int .i64 ts, .int .i64 at'] 49) w4.heap.size rfl
              simp only [World.cell?, hh, Nat.zero_add]
              simp [flat, Mb.cells] at hj
              simpa using hj
            obtain ⟨v', w6, hr6, ho6, hg6, hloc6⟩ := append_own (st := 35) (et := 49) mb6 mb1 Try.underlying35 info49 rfl (by decide) hO4 hS4 (by rw [hdl]; simp; omega) (by rw [hdl]; unfold maxLen; simp; omega) (by have := HTW.out; simp; omega) 35
            obtain ⟨ao6, n6, cap6, rfl⟩ : ∃ a n c, v' = .slice a n c := by
              obtain ⟨a, c, e⟩ := (Own.src mb6 ho6).len
              exact ⟨a, _, c, e⟩
            have hnb : (Value.slice sao k scap).ownBlock ≠ some wr.heap.size := fun e => by
              have := (World.ownsRow.lt HM.out.own _ e).2
              omega
            obtain ⟨hr7, hQ⟩ := half_push hM4.own hM4.rc hM4.ob rfl HTW.out t0 t1 t2 t3 hnb hM4.below ((drew_below w4).trans (below1 w4.drew _)) hg6 ho6
            have n4 : w.heap.size + 1 < w4.heap.size := by have := HTW.out; omega
            have n5 : ¬ w.heap.size + 1 = w4.heap.size := by omega
            have n6 : ¬ w4.heap.size = w.heap.size + 1 := by omega
            have s1 := hr7.c1
            have sf := hr7.fr
            have HQ := hid' hQ
            clear hQ hr7 hO4 hS4 ho6 hg6 hloc6 hM4 T0 T1 T2 T3 hb4
            go_wp2_with fail
            go_cut [75] (fun p wx => QHalf w nm ((runL (l.take k)).d ++ [⟨mn, ⟨tk, te, tn, ts⟩, at'⟩]) (runL (l.take k)).z (w.heap.size + 1) wr.heap.size tk te tn ts wx)
            case first =>
              go_region_law (refine step_run rfl (.tmp 65) (.tmp 74) 35 rfl _ _ _ (by simp [Act.eval]) (by simp [Act.eval]) hr6 ?_)
              all_goals
                go_wp2_with fail
                go_meet
                exact HQ.out
            case rest =>
              clear HQ s1 sf hr6 t0 t1 t2 t3 r0 r1 rf c0 c1 c2 c3 c4 c5
              have hQ := hcut
              obtain ⟨sv5, ho5, hr5⟩ := hQ.own
              have s2 := hr5.c2
              have sf := hr5.fr
              have u0 := hQ.t0
              have u1 := hQ.t1
              have u2 := hQ.t2
              have u3 := hQ.t3
              have HQF := hid' (hQ.fin (at' + sz))
              have hw2 : IntKind.i64.wrap (at' + sz) = at' + sz := by simp [IntKind.wrap, IntKind.bits, IntKind.signed]; omega
              have n1 : ¬ wr.heap.size = w.heap.size + 1 := by have := HTW.out; omega
              have n2 : ¬ w.heap.size + 1 = wr.heap.size := by omega
              clear hcut hQ ho5 hr5 hup hzl
              have HG' : Hid ((runL (l.take (k + 1))).g = max (runL (l.take k)).g al) := by unfold Hid; rw [HNX.out]
              rcases hal with rfl | rfl <;> rcases hgg with hg1 | hg1
              all_goals
                have HG1 := hid' hg1
                rw [hg1]
                clear hg1
                go_wp2_with (go_at_call 38; refine (K38.out _).mono ?_; rintro e8 w8 ⟨rfl, hb8⟩; replace HQF := hid' (HQF.out.kept hb8); replace u0 := HQF.out.t0; replace u1 := HQF.out.t1; replace u2 := HQF.out.t2; replace u3 := HQF.out.t3; clear hb8)
                go_roundw
                case rel =>
                  obtain ⟨sv9, hm9⟩ := HQF.out.mid (l := l) (k := k + 1) HNX.out
                  exact ⟨k + 1, sv9, by omega, by go_num, by rw [HG'.out, HG1.out]; rfl, HFN.out, hm9⟩
                case measure => simp [intOf]; omega
    · have e : k = l.length := by omega
      subst e
      rw [List.take_length] at *
      have hM := HM.out
      have o0 := hM.ob.c0
      have o1 := hM.ob.c1
      have o2 := hM.ob.c2
      have of := hM.ob.fr
      have rf := hM.rc.fr
      have n1 : ¬ w.heap.size + 1 = w.heap.size := by omega
      have n2 : ¬ w.heap.size = w.heap.size + 1 := by omega
      by_cases hz0 : l.length = 0
      · have HBad : Hid (LayIs nm l ⟨#[]⟩ [] 0 1) := .inr (.inl ⟨hn, fun h => by have := h.2; omega, rfl, rfl, rfl, rfl⟩)
        have HP := hid' (hM.ob.put3 ⟨#[]⟩ (.slice none 0 0) 0)
        have HBB := hid' (hM.below.trans ((Kept.put3 wr w.heap.size (.string ⟨#[]⟩) (.slice none 0 0) (.int .i64 0)).below hM.below.size (fun k e => by omega)))
        have hz1 : (l.length : Int) = 0 := by omega
        have hz2 : ((l.length : Int) == 0) = true := by simp [hz0]
        clear hM HF
        go_wp2_with fail
        have hp := HP.out
        have hB := HBB.out
        generalize ((wr.setCell ⟨w.heap.size, 0, none⟩ (.string ⟨#[]⟩)).setCell ⟨w.heap.size, 1, none⟩ (.slice none 0 0)).setCell ⟨w.heap.size, 2, none⟩ (.int .i64 0) = W at *
        exact bodyPost_ret (v := .tuple #[.agg #[.string ⟨#[]⟩, .slice none 0 0, .int .i64 0], .int .i64 1]) (by simp [results, Try.results20, go_sem, hp.c0, hp.c1, hp.c2]) rfl ⟨_, _, _, _, [], rfl, HBad.out, src_nil, hB⟩
      · have hok := fine_ok HK.out
        rw [List.take_length] at hok
        have hrun := run_le hok
        have hzl : (runL l).z ≤ 140000 := by have := hrun.2.1; omega
        have H37 := fun W => up37 (runL l).z (runL l).g hrun.1 (by omega) hrun.2.2 W
        have HGood : Hid (LayIs nm l nm (runL l).d (upF (runL l).z (runL l).g) 0) := .inr (.inr ⟨hn, ⟨HK.out, by omega⟩, rfl, rfl, rfl, rfl⟩)
        have hO := hM.own
        have hrc := hM.rc
        have hob := hM.ob
        rw [List.take_length] at hO hrc
        have HO2 := hid' hO
        have HRC := hid' hrc
        have HOB := hid' hob
        have HBL := hid' hM.below
        have hz1 : ¬ (l.length : Int) = 0 := by omega
        have hz2 : ((l.length : Int) == 0) = false := by simp [hz0]
        clear hM HF hok hrun hzl hO hrc hob hsl HM
        generalize hz' : (runL l).z = z at *
        generalize hg' : (runL l).g = g at *
        generalize hy' : upF z g = y at *
        have HZ := hid' hz'
        have HG2 := hid' hg'
        have HY := hid' hy'
        clear hz' hg' hy'
        go_wp2_with (go_at_call 37; with_reducible refine (H37 _).mono ?_; rintro e9 w9 ⟨rfl, rfl⟩)
        have K1 := (Kept.rfl (fun b => b = w.heap.size + 1) w9).set (a := ⟨w.heap.size + 1, 2, none⟩) (.inl rfl) (.int .i64 y)
        have hob1 := K1.isRec HOB.out (fun e => by omega)
        have hown1 := K1.owns HO2.out (fun b hb e => by have := (World.ownsRow.lt HO2.out b hb).1; omega)
        have hbl1 := HBL.out.trans (K1.below HBL.out.size (fun b e => by omega))
        generalize w9.setCell ⟨w.heap.size + 1, 2, none⟩ (.int .i64 y) = W1 at *
        have K2 := Kept.put3 W1 w.heap.size (.string nm) (.slice sao l.length scap) (.int .i64 y)
        have hp := hob1.put3 nm (.slice sao l.length scap) y
        have hown2 := K2.owns hown1 (fun b hb e => by have := (World.ownsRow.lt hown1 b hb).1; omega)
        have hbl2 := hbl1.trans (K2.below hbl1.size (fun b e => by omega))
        generalize ((W1.setCell ⟨w.heap.size, 0, none⟩ (.string nm)).setCell ⟨w.heap.size, 1, none⟩ (.slice sao l.length scap)).setCell ⟨w.heap.size, 2, none⟩ (.int .i64 y) = W2 at *
        exact bodyPost_ret (v := .tuple #[.agg #[.string nm, .slice sao l.length scap, .int .i64 y], .int .i64 0]) (by simp [results, Try.results20, go_sem, hp.c0, hp.c1, hp.c2]) rfl ⟨nm, .slice sao l.length scap, y, 0, (runL l).d, rfl, HGood.out, Own.src mb6 hown2, hbl2⟩

theorem rlayout20 {nm : ByteArray} {w : World} {v : Value} {l : List Mb} (h : Src Mb.cells w v l) : Calls Try.prog 20 #[.string nm, v] w (LayR nm l w) := by
  obtain ⟨ao, cap, rfl⟩ := h.len
  by_cases hn : 32 < l.length
  · refine (rlayout_long nm ao _ cap hn w).mono ?_
    rintro e w' ⟨rfl, hb⟩
    exact ⟨_, _, _, _, [], rfl, .inl ⟨hn, rfl, rfl, rfl, rfl⟩, src_nil, hb⟩
  · exact rlayout h (by omega)
end Go.Proofs.Ytmcadffagnbiaaa
