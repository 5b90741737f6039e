/- A new solver. -/
import Derived.Test.YtjhndnhldhmjnaaDoorNpX
import Derived.Test.YtjhndnhldhmjnaaDoorMb
namespace Go.Proofs.YtjhndnhldhmjnaaDoor
open Go Go.RowKit Go.Maps
set_option linter.unusedVariables false
set_option linter.unusedSimpArgs false
namespace SM
variable {c : Cn} {w0 w : World} {i o qs : Nat → Wd} {a : Nat}
theorem congr {i' o' : Nat → Wd} (h : SM c w0 w i o qs a) (hi : ∀ k, k < c.P.n → i k = i' k) (ho : ∀ k, k < c.P.n → o k = o' k) : SM c w0 w i' o' qs a :=
  ⟨h.below, h.box, h.ri.congr hi, h.ro.congr ho, h.rq, h.ord, h.plc, h.suc, h.ge, h.ne, h.lt, h.at_⟩
/-- The order of the rounds, set. -/
theorem setOrd (h : SM c w0 w i o qs a) {lv : Value} {F : List Nat} (ho : Own 3 1 icell w w0.heap.size lv (ints F)) : SM { c with ov := lv, F := F } w0 (w.setCell ⟨c.p, 8, none⟩ lv) i o qs a := by
  obtain ⟨r1, r2, r3, r4⟩ := h.rows
  have K := setK w c.p 8 lv
  refine ⟨h.below.setCell h.ge.1 _, (h.box.set 8 lv).congr (fun j hj => ?_), h.ri.other (row_ne r1 h.box (by decide)), h.ro.other (row_ne r2 h.box (by decide)), h.rq.other (row_ne r3 h.box (by decide)), K.owns ho (fun b hb e => row_own h.box ho (by decide) (by rw [hb, e])), h.plc.other (row_ne r4 h.box (by decide)), h.suc.setTy h.box (by decide) (by decide) _, h.ge, h.ne, h.lt, h.at_⟩
  match j, hj with
  | 0, _ => rfl
  | 1, _ => rfl
  | 2, _ => rfl
  | 3, _ => rfl
  | 4, _ => rfl
  | 5, _ => rfl
  | 6, _ => rfl
  | 7, _ => rfl
  | 8, _ => rfl
  | 9, _ => rfl
  | 10, _ => rfl
  | 11, _ => rfl
  | 12, _ => rfl
  | 13, _ => rfl
/-- A node's place, set. -/
theorem setP (h : SM c w0 w i o qs a) (h1 : c.ov.ownBlock ≠ some c.gp) (h2 : ∀ j (hj : j < c.us.length), c.us[j].ownBlock ≠ some c.gp) (h3 : w0.heap.size ≤ c.gp) (k x : Nat) : SM { c with pl := upd c.pl k x } w0 (w.setCell ⟨c.gp, k, none⟩ (.int .i64 (x : Nat))) i o qs a := by
  obtain ⟨r1, r2, r3, r4⟩ := h.rows
  have K := setK w c.gp k (.int .i64 (x : Nat))
  refine ⟨h.below.setCell h3 _, h.box.setOther (row_ne h.box r4 (by decide)) _, h.ri.other (row_ne r1 r4 (by decide)), h.ro.other (row_ne r2 r4 (by decide)), h.rq.other (row_ne r3 r4 (by decide)), K.owns h.ord (fun b hb e => h1 (by rw [hb, e])), ?_, ?_, h.ge, h.ne, h.lt, h.at_⟩
  · exact (h.plc.set k (x : Nat)).congr (fun j hj => by
      show upd (fun k => (c.pl k : Int)) k (x : Nat) j = ((upd c.pl k x j : Nat) : Int)
      unfold upd
      split <;> rfl)
  · exact ⟨h.suc.len, K.owns h.suc.row (fun b hb e => row_own r4 h.suc.row (by decide) (by rw [hb, e])), fun j j1 j2 => K.owns (h.suc.el j j1 j2) (fun b hb e => h2 j j1 (by rw [hb, e])), h.suc.ne, h.suc.ng⟩
end SM
/-- What lies behind the parts' making. -/
def NewR (P : Prb Wd) (ev : Value) (q : Nat × Nat) (fs fj fe ff : FuncId) (l : List (Int × Int)) (w1 : World) (pv : Value) (wx : World) : Prop :=
  ∃ p gi go_ gq gp gs us, pv = .pointer (some ⟨p, 0, none⟩) ∧ SM (cn0 P ev q fs fj fe ff p gi go_ gq gp gs us l) w1 wx (fun _ => 0) (fun _ => 0) (fun _ => 0) 0 ∧ (∀ j (hj : j < us.length), us[j].ownBlock ≠ some gp) ∧ w1.heap.size ≤ gp ∧ gp < wx.heap.size
theorem step_callT {P : Program} {ops : Array Oper} {o : Oper} {a : Act} {w : World} {K : Act → World → Prop} {Q : Exit → Act → World → Prop} {E : Prop}
    (hg : o.guard = none) (f : FuncId) (x : Operand) (xs : Array Operand) (ts : Array TypeId) (hop : o.op = Op.call { callee := Callee.value x, args := xs, argTypes := ts })
    (args caps : Array Value) (hx : a.eval x = .func (.func f) #[] caps) (ha : xs.map a.eval = args) (hen : ∀ (args : Array Value) (W : World), (callFunc f args).run P W = .ok (.enter f args) W)
    (h : Calls P f (args ++ caps) w fun e w' => ∃ v, e = .returned v ∧ K (a.put o.dst v) w') :
    if Region.wanted o (yielded ops a.tmps) = true then Oper.wp P o a w K Q else E := by
  have hw : Region.wanted o (yielded ops a.tmps) = true := by simp [Region.wanted, hg]
  rw [if_pos hw]
  unfold Oper.wp
  have he : (execOp a.eval o).run P w = .ok (.enter f (args ++ caps)) w := by
    unfold execOp
    simp only [hop, resolve, hx, ha, Deferred.ofValue, invoke, Sem.run_bind, Sem.run_pure, Result.andThen_ok, Array.empty_append, hen]
  rw [he, Oper.upon_enter]
  refine h.mono ?_
  rintro e w' ⟨v, rfl, hk⟩
  exact hk
/-- A new solver, as it is told. -/
def NewS (P : Prb Wd) (q : Nat × Nat) (fs fj fe ff : FuncId) (w : World) (e : Ending) (w' : World) : Prop :=
  ∃ c w0 qs, e = .returned (.pointer (some ⟨c.p, 0, none⟩)) ∧ c.P = P ∧ CnOk c ∧ SM c w0 w' c.P.start (fun _ => c.P.bot) qs 0 ∧ Below w.heap.size w w0 ∧ (∀ x, x < c.P.n → stF c qs x = true) ∧ (∀ k, k < c.P.n → ∀ t, t ∈ c.tos k ↔ (k, t) ∈ c.P.edges) ∧ FnsOk c.P w0 c.q c.fs c.fj c.fe c.ff
set_option maxRecDepth 20000 in
set_option maxHeartbeats 8000000 in
theorem newSolver29 {P : Prb Wd} {w : World} {ev : Value} {q : Nat × Nat} {fs fj fe ff : FuncId} {l : List (Int × Int)} (he : Src ecell w ev l) (hl : l.length ≤ 65536) (hn : P.n ≤ 4096) (hE : edgesF l P.n = true) (hP : P.edges = natE l) (hf : FnsOk P w q fs fj fe ff) :
    Calls Tryd.prog 29 #[prbV P.n ev (P.bot.toNat : Nat) (fv1 fs q.1) (fv0 fj) (fv0 fe) (fv1 ff q.2)] w (NewS P q fs fj fe ff w) := by
  obtain ⟨ao, cap, rfl⟩ := he.len
  unfold prbV fv1 fv0
  obtain ⟨w1, ew1⟩ : ∃ w1, w1 = w.alloc (.cells #[.int .i64 P.n, .slice ao l.length cap, .int .u64 (P.bot.toNat : Nat), .func (.func fs) #[] #[.pointer (some ⟨q.1, 0, none⟩)], .func (.func fj) #[] #[], .func (.func fe) #[] #[], .func (.func ff) #[] #[.pointer (some ⟨q.2, 0, none⟩)]] 35) := ⟨_, rfl⟩
  have hb1 : Below w.heap.size w w1 := by rw [ew1]; exact below1 _ _
  have hC : Hid (∀ W : World, Below w1.heap.size w1 W → W.cell? ⟨w.heap.size, 0, none⟩ = some (.int .i64 P.n) ∧ W.cell? ⟨w.heap.size, 1, none⟩ = some (.slice ao l.length cap) ∧ W.cell? ⟨w.heap.size, 2, none⟩ = some (.int .u64 (P.bot.toNat : Nat)) ∧ W.cell? ⟨w.heap.size, 3, none⟩ = some (.func (.func fs) #[] #[.pointer (some ⟨q.1, 0, none⟩)]) ∧ W.cell? ⟨w.heap.size, 4, none⟩ = some (.func (.func fj) #[] #[]) ∧ W.cell? ⟨w.heap.size, 5, none⟩ = some (.func (.func fe) #[] #[]) ∧ W.cell? ⟨w.heap.size, 6, none⟩ = some (.func (.func ff) #[] #[.pointer (some ⟨q.2, 0, none⟩)])) := fun W hW => by
    rw [ew1] at hW
    have h := hW.block w.heap.size (by simp)
    rw [heap_alloc_new] at h
    have q := fun o => cell_of_row W w.heap.size o _ 35 (0, 0) h
    exact ⟨q 0, q 1, q 2, q 3, q 4, q 5, q 6⟩
  have HE := hid' he
  have HF := hid' (hf.on hb1)
  have HB1 := hid' hb1
  have HED := hid' hE
  clear he hf hE
  go_enter Tryd.func29, Tryd.ntmps29
  go_upto_region 1 with fail
  rw [← ew1]
  obtain ⟨k0, k1, k2, k3, k4, k5, k6⟩ := hC.out w1 (Below.refl _ _)
  have lp : w.heap.size < w1.heap.size := by rw [ew1]; simp
  clear ew1 hb1
  go_cut [3] (fun pv wx => NewR P (.slice ao l.length cap) q fs fj fe ff l w1 pv wx)
  case first =>
    refine region_pick (MkG w1 (mkR w1.heap.size P.n l)) (fun _ => none) 18 5 (fun k => decide (k ≠ 5 ∧ k ≠ 8 ∧ k ≠ 11 ∧ k ≠ 14 ∧ k ≠ 17)) [0, 1, 2, 3, 4, 6, 7, 9, 10, 12, 13, 15, 16] mixed (by kernel_rfl) (by kernel_rfl) (by kernel_rfl) (by simp) rfl (by decide) (by kernel_rfl) ⟨bdrew (Below.refl _ _) 1, (fun k x e => by cases e), (fun k k' x x' b e => by cases e)⟩ (fun s w' h => h.below) (fun s w2 w' h hb => h.on (mkR_stay _ _ _) hb) (fun _ => ?_)
    simp only [List.filterMap_cons, List.filterMap_nil, List.getElem?_cons_zero, List.getElem?_cons_succ]
    have hne := after_some w1
    have q0 : ∀ t : After w1, _ := fun t => (hC.out t.1 t.2).1
    have q1 : ∀ t : After w1, _ := fun t => (hC.out t.1 t.2).2.1
    have q2 : ∀ t : After w1, _ := fun t => (hC.out t.1 t.2).2.2.1
    have q3 : ∀ t : After w1, _ := fun t => (hC.out t.1 t.2).2.2.2.1
    have q4 : ∀ t : After w1, _ := fun t => (hC.out t.1 t.2).2.2.2.2.1
    have q5 : ∀ t : After w1, _ := fun t => (hC.out t.1 t.2).2.2.2.2.2.1
    have q6 : ∀ t : After w1, _ := fun t => (hC.out t.1 t.2).2.2.2.2.2.2
    repeat (
      refine wpFreeB_step (fun K hK => ?_)
      go_simp
      first
        | (refine hK _ ?_; clear hK K)
        | (apply Exists.intro
           refine ⟨fun _ => ?_, hK _ ?_⟩
           (with_reducible rfl)
           clear hK K))
    refine wpFreeB_nil ?_
    clear q0 q1 q2 q3 q4 q5 q6 hne
    generalize hact : (Act.mk _ _) = a0
    have HE9 : Hid (a0.eval (.tmp 9) = .int .i64 P.n) := by unfold Hid; rw [← hact]; rfl
    have HE11 : Hid (a0.eval (.tmp 11) = .slice ao l.length cap) := by unfold Hid; rw [← hact]; rfl
    have HE14 : Hid (a0.eval (.tmp 14) = .int .i64 P.n) := by unfold Hid; rw [← hact]; rfl
    have HE17 : Hid (a0.eval (.tmp 17) = .int .i64 P.n) := by unfold Hid; rw [← hact]; rfl
    have HE20 : Hid (a0.eval (.tmp 20) = .int .i64 P.n) := by unfold Hid; rw [← hact]; rfl
    have HE23 : Hid (a0.eval (.tmp 23) = .int .i64 P.n) := by unfold Hid; rw [← hact]; rfl
    have HACT := hid' hact
    clear hact
    refine headF_make (mkR_stay _ _ _) (fun k => k + 7) [5, 8, 11, 14, 17] (by kernel_rfl) (by kernel_rfl) (by simp) (by decide) (by intro j hj k hk e; omega) (by kernel_rfl) (by kernel_rfl) (by kernel_rfl) (fun k hk => ?_) (fun s hs => ?_)
    · simp only [List.mem_cons, List.not_mem_nil, or_false] at hk
      rcases hk with rfl | rfl | rfl | rfl | rfl
      · refine ⟨by omega, by decide, _, rfl, rfl, rfl, fun s W hW => .inr ⟨46, #[.int .i64 P.n, .slice ao l.length cap], ?_, (successors46 (HE.out.on (below_up HB1.out hW)) hn hl HED.out).mono ?_⟩⟩
        · have he := eval_putS (d := fun k => k + 7) (s := s) (j := 9) [5, 8, 11, 14, 17] a0 (by decide)
          have he2 := eval_putS (d := fun k => k + 7) (s := s) (j := 11) [5, 8, 11, 14, 17] a0 (by decide)
          rw [HE9.out] at he
          rw [HE11.out] at he2
          simp [Act.eval] at he he2
          simp [execOp, resolve, invoke, he, he2, Deferred.ofValue, go_sem, Tryd.func46]
        · rintro e w9 ⟨g, vs, rfl, hP9, hb9⟩
          refine ⟨_, fun b => b = g ∨ ∃ j, ∃ h : j < vs.length, vs[j].ownBlock = some b, rfl, fun b hb => ?_, ?_, hb9⟩
          · rcases hb with rfl | ⟨j, hj, hb⟩
            · exact hP9.g
            · exact World.ownsRow.lt (hP9.el j hj (by rw [← hP9.len]; exact hj)) b hb
          · unfold mkR
            rw [if_pos rfl]
            exact ⟨g, vs, rfl, hP9.base hW.size, fun b => Iff.rfl⟩
      · refine ⟨by omega, by decide, _, rfl, rfl, rfl, fun s W hW => .inl ?_⟩
        obtain ⟨w9, hm9, hr9, hb9, hs9⟩ := make_ints W (n := P.n) (by unfold big; omega)
        refine ⟨.slice (some ⟨W.heap.size, 0, none⟩) P.n P.n, fun b => b = W.heap.size, w9, ?_, fun b hb => by subst hb; omega, ?_, hb9⟩
        · have he := eval_putS (d := fun k => k + 7) (s := s) (j := 14) [5, 8, 11, 14, 17] a0 (by decide)
          rw [HE14.out] at he
          simp [Act.eval] at he
          simp [execOp, he, go_sem, hm9]
        · unfold mkR
          rw [if_neg (by decide), if_pos rfl]
          exact ⟨_, rfl, hr9, fun b => Iff.rfl⟩
      · refine ⟨by omega, by decide, _, rfl, rfl, rfl, fun s W hW => .inr ⟨47, #[.int .i64 P.n], ?_, (queueFor47 W P.n (by omega)).mono ?_⟩⟩
        · have he := eval_putS (d := fun k => k + 7) (s := s) (j := 17) [5, 8, 11, 14, 17] a0 (by decide)
          rw [HE17.out] at he
          simp [Act.eval] at he
          simp [execOp, resolve, invoke, he, Deferred.ofValue, go_sem, Tryd.func47]
        · rintro e w9 ⟨g, rfl, hr9, hb9, hg9⟩
          refine ⟨_, fun b => b = g, rfl, fun b hb => by subst hb; exact ⟨hg9, hr9.lt⟩, ?_, hb9⟩
          unfold mkR
          rw [if_neg (by decide), if_neg (by decide), if_pos rfl]
          exact ⟨_, rfl, hr9, fun b => Iff.rfl⟩
      · refine ⟨by omega, by decide, _, rfl, rfl, rfl, fun s W hW => .inl ?_⟩
        obtain ⟨w9, hm9, hr9, hb9, hs9⟩ := make_words W (n := P.n) (by unfold big; omega)
        refine ⟨.slice (some ⟨W.heap.size, 0, none⟩) P.n P.n, fun b => b = W.heap.size, w9, ?_, fun b hb => by subst hb; omega, ?_, hb9⟩
        · have he := eval_putS (d := fun k => k + 7) (s := s) (j := 20) [5, 8, 11, 14, 17] a0 (by decide)
          rw [HE20.out] at he
          simp [Act.eval] at he
          simp [execOp, he, go_sem, hm9]
        · unfold mkR
          rw [if_neg (by decide), if_neg (by decide), if_neg (by decide)]
          exact ⟨_, rfl, hr9, fun b => Iff.rfl⟩
      · refine ⟨by omega, by decide, _, rfl, rfl, rfl, fun s W hW => .inl ?_⟩
        obtain ⟨w9, hm9, hr9, hb9, hs9⟩ := make_words W (n := P.n) (by unfold big; omega)
        refine ⟨.slice (some ⟨W.heap.size, 0, none⟩) P.n P.n, fun b => b = W.heap.size, w9, ?_, fun b hb => by subst hb; omega, ?_, hb9⟩
        · have he := eval_putS (d := fun k => k + 7) (s := s) (j := 23) [5, 8, 11, 14, 17] a0 (by decide)
          rw [HE23.out] at he
          simp [Act.eval] at he
          simp [execOp, he, go_sem, hm9]
        · unfold mkR
          rw [if_neg (by decide), if_neg (by decide), if_neg (by decide)]
          exact ⟨_, rfl, hr9, fun b => Iff.rfl⟩
    · refine ⟨by kernel_rfl, fun w9 hw9 => ?_⟩
      obtain ⟨x5, e5⟩ := Option.ne_none_iff_exists'.1 (hs 5 (by simp))
      obtain ⟨x8, e8⟩ := Option.ne_none_iff_exists'.1 (hs 8 (by simp))
      obtain ⟨x11, e11⟩ := Option.ne_none_iff_exists'.1 (hs 11 (by simp))
      obtain ⟨x14, e14⟩ := Option.ne_none_iff_exists'.1 (hs 14 (by simp))
      obtain ⟨x17, e17⟩ := Option.ne_none_iff_exists'.1 (hs 17 (by simp))
      obtain ⟨gi, go_, gq, gp, gs, us, y5, y8, y11, y14, y17, hSM, hne, hgp⟩ := ns_box (ev := .slice ao l.length cap) (q := q) (fs := fs) (fj := fj) (fe := fe) (ff := ff) hw9 hn e5 e8 e11 e14 e17
      have hgp2 := (hw9.made 8 _ e8)
      unfold fv1 fv0 at hSM
      have HSM := hid' hSM
      have HNE := hid' hne
      have hge : w1.heap.size ≤ gp := by
        obtain ⟨m8, l8⟩ := hgp2
        unfold mkR at m8
        rw [if_neg (by decide), if_pos rfl, y8] at m8
        obtain ⟨g', e', _, q8⟩ := m8
        injection e' with e'
        injection e' with e'
        injection e' with e'
        exact (l8 gp ((q8 gp).2 e')).1
      obtain rfl := HACT.out
      simp only [putS, e5, e8, e11, e14, e17, y5, y8, y11, y14, y17, Act.put]
      clear hw9 HE9 HE11 HE14 HE17 HE20 HE23 hSM hne hgp2
      simp only [List.drop_succ_cons, List.drop_zero, List.setIfInBounds_toArray, List.set_cons_succ, List.set_cons_zero, Nat.reduceAdd]
      go_wp2_with fail
      go_meet
      exact ⟨w9.heap.size, gi, go_, gq, gp, gs, us, rfl, HSM.out, HNE.out, hge, by simp; omega⟩
  case rest =>
    obtain ⟨p, gi, go_, gq, gp, gs, us, rfl, hSM, hNE, hge, hgp⟩ := hcut
    have HSM := hid' hSM
    have HNE := hid' hNE
    have c7 : wc.cell? ⟨p, 7, none⟩ = some (.slice (some ⟨gs, 0, none⟩) P.n P.n) := hSM.all.2.2.2.1
    have hsu : PM wc w1.heap.size gs us (succF P.n l) := hSM.suc
    have hrows := hsu.rows
    rw [succF_len] at hrows
    have HIN := hid' (succF_in HED.out)
    have KO := roundOrder48 hrows (succF_len _ _) hn HIN.out (fun m hm => by have := succF_le _ _ m hm; unfold big; omega)
    clear hSM hNE hsu hrows k0 k1 k2 k3 k4 k5 k6
    go_wp2_with (go_at_call 48; refine of_mark ?_)
    unfold Mark
    refine KO.mono ?_
    rintro e5 w5 ⟨lv, F, rfl, hO, hPm, hB5⟩
    have hFl := hPm.len
    have HPM := hid' hPm
    have hs5 := hB5.size
    obtain ⟨lo, lc, elv⟩ := (Own.src ic1 hO).len
    rw [ints_len, hFl] at elv
    have h5 := HSM.out.on hB5
    have f8 : w5.frozen? ⟨p, 8, none⟩ = false := h5.box.frozen 8
    have c8 : w5.cell? ⟨p, 8, none⟩ = some (.slice none 0 0) := h5.cellAt 8 (by omega)
    have H6 : Hid (SM (cn1 P (.slice ao l.length cap) q fs fj fe ff p gi go_ gq gp gs us l lv F (fun _ => 0)) w1 (w5.setCell ⟨p, 8, none⟩ lv) (fun _ => 0) (fun _ => 0) (fun _ => 0) 0) := h5.setOrd (own_base hO HSM.out.below.size)
    have hov : Hid (lv.ownBlock ≠ some gp) := fun e => by
      have := (World.ownsRow.lt hO gp e).1
      omega
    subst elv
    clear KO hO hPm hB5 h5 HSM c7
    go_upto_region 3 with fail
    generalize w5.setCell ⟨p, 8, none⟩ (.slice lo P.n lc) = W6 at *
    clear f8 c8
    have c8 : W6.cell? ⟨p, 8, none⟩ = some (.slice lo P.n lc) := H6.out.cellAt 8 (by omega)
    go_wp2_with fail
    clear c8
    go_loopw [40] (fun jv wr => ∃ (j : Nat) (qs : Nat → Wd), j ≤ P.n ∧ jv = .int .i64 j ∧ SM (cn1 P (.slice ao l.length cap) q fs fj fe ff p gi go_ gq gp gs us l (.slice lo P.n lc) F (plJ F j)) w1 wr (fun _ => 0) (fun _ => 0) qs 0 ∧ ∀ x, x / 64 < words P.n → inQ qs x = decide (x < j)) (fun jv _ => P.n - (intOf jv).toNat)
    case atStart =>
      refine ⟨0, fun _ => 0, Nat.zero_le _, rfl, ?_, fun x hx => by unfold inQ; simp⟩
      have e0 : plJ F 0 = fun _ => 0 := by funext k; unfold plJ; rw [if_neg (by omega)]
      rw [e0]
      exact H6.out
    case round =>
      obtain ⟨j, qs, hj, rfl, hM, hq⟩ := hrel
      have HM := hid' hM
      have HQ := hid' hq
      by_cases hjn : j < P.n
      · have hjF : j < F.length := by rw [hFl]; exact hjn
        obtain ⟨ao', cp', e1, hcc⟩ := (Own.src ic1 hM.ord).ints
        injection e1 with x1 x2 x3
        subst x1 x3
        obtain ⟨b, off, rfl, hb1, _, hcell⟩ := hcc j (by rw [ints_len]; exact hjF)
        have d1 := hcell wr (Below.refl _ _)
        have eF : (ints F)[j]'(by rw [ints_len]; exact hjF) = ((F[j] : Nat) : Int) := by simp [ints]
        have d2 : wr.cell? ⟨b, off + j, none⟩ = some (.int .i64 (F[j] : Nat)) := by rw [← eF]; exact d1
        have hFj := HPM.out.lt _ (List.getElem_mem hjF)
        have c9 : wr.cell? ⟨p, 9, none⟩ = some (.slice (some ⟨gp, 0, none⟩) P.n P.n) := hM.all.2.2.2.2.1
        have rp : wr.cell? ⟨gp, F[j], none⟩ = some (.int .i64 ((plJ F j F[j] : Nat) : Int)) := hM.plc.cell hFj
        have fp : wr.frozen? ⟨gp, F[j], none⟩ = false := hM.plc.fro F[j]
        have HP : Hid (SM (cn1 P (.slice ao l.length cap) q fs fj fe ff p gi go_ gq gp gs us l (.slice (some ⟨b, off, none⟩) P.n lc) F (plJ F (j + 1))) w1 (wr.setCell ⟨gp, F[j], none⟩ (.int .i64 (j : Nat))) (fun _ => 0) (fun _ => 0) qs 0) := by
          have := hM.setP hov.out HNE.out hge F[j] j
          unfold Hid
          rw [← plJ_step HPM.out hjF]
          exact this
        clear hM hq hcc hcell d1 eF x2
        generalize F[j] = nd at *
        go_upto_region 7 with fail
        generalize wr.setCell ⟨gp, nd, none⟩ (.int .i64 (j : Nat)) = W7 at *
        have KA : Calls Tryd.prog 49 #[.pointer (some ⟨p, 10, none⟩), .int .i64 (j : Nat)] W7 (fun e w' => e = .returned (.tuple #[]) ∧ ∃ d, w' = (W7.drewN d).setCell ⟨gq, j / 64, none⟩ (uv (qs (j / 64) ||| bitW j))) := add49 HP.out.qu (k := j) hjn (by show P.n ≤ 65536; omega)
        clear HM c9 rp fp d2
        go_wp2_with (go_at_call 49; refine KA.mono ?_; rintro e9 w9 ⟨rfl, d9, rfl⟩)
        have HZ := (HP.out.drew d9).addQ (k := j) hjn
        refine ⟨⟨j + 1, _, by omega, by go_num, HZ, fun x hx => ?_⟩, by simp [intOf]; omega⟩
        rw [inQ_add, HQ.out x hx]
        by_cases c : x = j
        · subst c; simp
        · have : (x < j + 1) = (x < j) := propext ⟨fun h => by omega, fun h => by omega⟩
          simp [c, this]
      · have e : j = P.n := by omega
        subst e
        have HST : Hid (∀ x, x < P.n → stF (cn1 P (.slice ao l.length cap) q fs fj fe ff p gi go_ gq gp gs us l (.slice lo P.n lc) F (plJ F P.n)) qs x = true) := fun x hx => by
          have h1 := (cn1_ok (ev := .slice ao l.length cap) (q := q) (s := fs) (j := fj) (e := fe) (f := ff) (p := p) (gi := gi) (go_ := go_) (gq := gq) (gp := gp) (gs := gs) (us := us) (lv := .slice lo P.n lc) hn HED.out HPM.out).pl x hx
          have h2 : plJ F P.n x < P.n := h1
          show inQ qs (plJ F P.n x) = true
          rw [HQ.out _ (by unfold words; omega)]
          simp [h2]
        have HCO := hid' (cn1_ok (ev := .slice ao l.length cap) (q := q) (s := fs) (j := fj) (e := fe) (f := ff) (p := p) (gi := gi) (go_ := go_) (gq := gq) (gp := gp) (gs := gs) (us := us) (lv := .slice lo P.n lc) hn HED.out HPM.out)
        obtain ⟨k0, _⟩ := hC.out wr hM.below
        clear hM hq
        go_wp2_with fail
        clear k0
        go_loopw [60] (fun kv wr' => ∃ k : Nat, k ≤ P.n ∧ kv = .int .i64 k ∧ SM (cn1 P (.slice ao l.length cap) q fs fj fe ff p gi go_ gq gp gs us l (.slice lo P.n lc) F (plJ F P.n)) w1 wr' (fun x => if x < k then P.start x else 0) (fun x => if x < k then P.bot else 0) qs 0) (fun kv _ => P.n - (intOf kv).toNat)
        case atStart => exact ⟨0, Nat.zero_le _, rfl, HM.out.congr (fun x _ => by rw [if_neg (by omega)]) (fun x _ => by rw [if_neg (by omega)])⟩
        case round =>
          obtain ⟨k, hk, rfl, hN⟩ := hrel
          have HN := hid' hN
          by_cases hkn : k < P.n
          · have c12 : wr.cell? ⟨p, 12, none⟩ = some (.slice (some ⟨gi, 0, none⟩) P.n P.n) := hN.all.2.2.2.2.2.1
            have c13 : wr.cell? ⟨p, 13, none⟩ = some (.slice (some ⟨go_, 0, none⟩) P.n P.n) := hN.all.2.2.2.2.2.2
            obtain ⟨k0, k1, k2, k3, _⟩ := hC.out wr hN.below
            have lp2 : w.heap.size < wr.heap.size := by have := hN.below.size; omega
            have lpp : p < wr.heap.size := hN.box.lt
            have KS : ∀ d, Calls Tryd.prog fs (#[.int .i64 k] ++ #[.pointer (some ⟨q.1, 0, none⟩)]) (wr.drewN d) fun e W' => e = .returned (uv (P.start k)) ∧ ∃ m, W' = (wr.drewN d).drewN m := fun d => HF.out.cs (wr.drewN d) (bdrew hN.below d) k hkn
            have es := HF.out.es
            clear hN
            have H8 := HN.out
            have ri : wr.cell? ⟨gi, k, none⟩ = some (uv (if k < k then P.start k else 0)) := H8.ri.cell hkn
            have fi : wr.frozen? ⟨gi, k, none⟩ = false := H8.ri.fro k
            have ro : wr.cell? ⟨go_, k, none⟩ = some (uv (if k < k then P.bot else 0)) := H8.ro.cell hkn
            have fo : wr.frozen? ⟨go_, k, none⟩ = false := H8.ro.fro k
            have hgg : gi ≠ go_ := H8.ne.1
            have hg1 : w.heap.size ≠ gi := by have : w1.heap.size ≤ gi := H8.ge.2.1; omega
            have hg2 : w.heap.size ≠ go_ := by have : w1.heap.size ≤ go_ := H8.ge.2.2.1; omega
            have hg3 : p ≠ gi := row_ne H8.box H8.rows.1 (by decide)
            have hg4 : p ≠ go_ := row_ne H8.box H8.rows.2.1 (by decide)
            have HZ : Hid (∀ d, SM (cn1 P (.slice ao l.length cap) q fs fj fe ff p gi go_ gq gp gs us l (.slice lo P.n lc) F (plJ F P.n)) w1 (((wr.drewN d).setCell ⟨gi, k, none⟩ (uv (P.start k))).setCell ⟨go_, k, none⟩ (uv P.bot)) (fun x => if x < k + 1 then P.start x else 0) (fun x => if x < k + 1 then P.bot else 0) qs 0) := fun d => by
              refine (((H8.drew d).setI k (P.start k)).setO k P.bot).congr (fun x _ => ?_) (fun x _ => ?_)
              · unfold upd
                by_cases e : x = k
                · subst e; rw [if_pos rfl, if_pos (by omega)]
                · rw [if_neg e]
                  dsimp only
                  by_cases e2 : x < k
                  · rw [if_pos e2, if_pos (by omega)]
                  · rw [if_neg e2, if_neg (by omega)]
              · unfold upd
                by_cases e : x = k
                · subst e; rw [if_pos rfl, if_pos (by omega)]
                · rw [if_neg e]
                  dsimp only
                  by_cases e2 : x < k
                  · rw [if_pos e2, if_pos (by omega)]
                  · rw [if_neg e2, if_neg (by omega)]
            clear H8
            rw [if_neg (by omega)] at ri ro
            unfold uv at ri ro HZ KS
            go_wp2_with fail
            go_region_law (first | (refine step_callT rfl fs (.tmp 74) #[.tmp 75] #[3] rfl #[.int .i64 k] #[.pointer (some ⟨q.1, 0, none⟩)] (by simp [Act.eval, Act.put]) (by simp [Act.eval, Act.put]) es ?_; refine (KS 1).mono ?_; rintro e9 w9 ⟨rfl, d9, rfl⟩; refine ⟨_, rfl, ?_⟩))
            all_goals go_wp2_with fail
            all_goals exact ⟨⟨k + 1, by omega, by go_num, HZ.out _⟩, by simp [intOf]; omega⟩
          · have e : k = P.n := by omega
            subst e
            clear hN
            go_wp2_with fail
            go_ret
            exact ⟨_, w1, qs, rfl, rfl, HCO.out, HN.out.congr (fun x hx => if_pos hx) (fun x hx => if_pos hx), HB1.out, HST.out, fun k hk t => cn1_tos HED.out hP k hk t, HF.out⟩
end Go.Proofs.YtjhndnhldhmjnaaDoor
