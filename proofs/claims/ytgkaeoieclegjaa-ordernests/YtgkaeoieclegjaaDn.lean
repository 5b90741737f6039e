/- dominators: both rounds of the finder. -/
import Derived.Test.YtgkaeoieclegjaaFe
import Derived.Test.YtgkaeoieclegjaaRp
import Derived.Test.YtgkaeoieclegjaaFreeC
import Derived.BigRegion
namespace Go.Proofs.Ytgkaeoieclegjaa
open Go.RowKit Go.Maps
set_option linter.unusedVariables false
set_option linter.unusedSimpArgs false
/-- A walk in memory: of m places, of n blocks. -/
structure WkM (w : World) (n m : Nat) (blk par : Nat → Nat) (cv lv pv fv : Value) (left : List Nat) : Prop where
  le : m ≤ n
  came : Src icell w cv ((List.range m).map (fun j => (blk j : Int)))
  leftS : Src icell w lv (ints left)
  place : ∃ g f, pv = .slice (some ⟨g, 0, none⟩) n n ∧ RowI w g n f ∧ ∀ j, j < m → f (blk j) = j
  from_ : ∃ g f, fv = .slice (some ⟨g, 0, none⟩) n n ∧ RowI w g n f ∧ ∀ j, 0 < j → j < m → f (blk j) = blk (par j)
  lt : ∀ j, j < m → blk j < n
theorem WkM.on {w w' : World} {n m : Nat} {blk par : Nat → Nat} {cv lv pv fv : Value} {left : List Nat} (h : WkM w n m blk par cv lv pv fv left) (hb : Below w.heap.size w w') : WkM w' n m blk par cv lv pv fv left := by
  obtain ⟨g, f, e, hr, hf⟩ := h.place
  obtain ⟨g', f', e', hr', hf'⟩ := h.from_
  exact ⟨h.le, h.came.on hb, h.leftS.on hb, ⟨g, f, e, hr.on hb, hf⟩, ⟨g', f', e', hr'.on hb, hf'⟩, h.lt⟩
def Fs.zero : Fs := ⟨fun j => j, fun j => j, fun _ => none, fun _ => none, fun _ => none, fun _ => none⟩
def abF (par : Nat → Nat) (j : Nat) : Option Nat := if j = 0 then none else some (par j)
/-- What newFinder leaves. -/
def NfR (m : Nat) (par : Nat → Nat) (w : World) (e : Ending) (w' : World) : Prop :=
  ∃ r v, e = .returned (.pointer (some ⟨r, 0, none⟩)) ∧ FM w.heap.size w' r v m (abF par) Fs.zero [] ∧ Below w.heap.size w w'
/-- What dominators leaves. -/
def DnR (g : Dfs) (w : World) (e : Ending) (w' : World) : Prop :=
  ∃ (q : Nat) (dom : Nat → Option Nat), e = .returned (.slice (some ⟨q, 0, none⟩) g.n g.n) ∧ w.heap.size ≤ q ∧ RowI w' q g.n (fun j => oi (dom j)) ∧ dom 0 = none ∧ (∀ j, 0 < j → j < g.n → ∃ d, dom j = some d ∧ g.Idom d j) ∧ Below w.heap.size w w'
/-- What the rounds stand on: the predecessors of a place's block are its places'. -/
structure PreOk (g : Dfs) (blk : Nat → Nat) (L : List (List Int)) : Prop where
  of : ∀ i, i < g.n → ∀ x ∈ L.getD (blk i) [], ∃ v : Nat, v < g.n ∧ x = (blk v : Int) ∧ g.E v i
  all : ∀ i v, g.E v i → (blk v : Int) ∈ L.getD (blk i) []
  len : ∀ i, i < g.n → (L.getD (blk i) []).length * 8 ≤ big
  inj : ∀ x y, x < g.n → y < g.n → blk x = blk y → x = y
theorem PreOk.list {g : Dfs} {blk : Nat → Nat} {L : List (List Int)} (h : PreOk g blk L) {i : Nat} (hi : i < g.n) : ∃ pl : List Nat, L.getD (blk i) [] = pl.map (fun v => (blk v : Int)) ∧ (∀ v ∈ pl, g.E v i) ∧ ∀ v, g.E v i → v ∈ pl := by
  have key : ∀ l : List Int, (∀ x ∈ l, ∃ v : Nat, v < g.n ∧ x = (blk v : Int) ∧ g.E v i) → ∃ pl : List Nat, l = pl.map (fun v => (blk v : Int)) ∧ ∀ v ∈ pl, g.E v i := by
    intro l
    induction l with
    | nil => exact fun _ => ⟨[], rfl, fun v hv => by cases hv⟩
    | cons x l ih =>
      intro hx
      obtain ⟨pl, e, hp⟩ := ih (fun y hy => hx y (List.mem_cons_of_mem _ hy))
      obtain ⟨v, _, e2, hE⟩ := hx x List.mem_cons_self
      exact ⟨v :: pl, by rw [e, e2]; rfl, fun u hu => by
        rcases List.mem_cons.1 hu with rfl | hu
        · exact hE
        · exact hp u hu⟩
  obtain ⟨pl, e, hp⟩ := key _ (h.of i hi)
  refine ⟨pl, e, hp, fun v hv => ?_⟩
  have h1 := h.all i v hv
  rw [e] at h1
  obtain ⟨u, hu, e2⟩ := List.mem_map.1 h1
  have h2 := (g.lt (hp u hu)).1
  have h3 := (g.lt hv).1
  have := h.inj u v h2 h3 (by omega)
  rw [← this]
  exact hu
theorem upd_upd {α : Type} (f : Nat → α) (k : Nat) (x y : α) : Dfs.upd (Dfs.upd f k x) k y = Dfs.upd f k y := funext fun j => by unfold Dfs.upd; split <;> rfl
theorem Edg.sm {g : Dfs} {i cur : Nat} {sm sm' : Nat → Nat} {vs : List Nat} (h : Edg g i sm vs cur) : Edg g i sm' vs cur := ⟨h.le, h.of, h.low, h.high⟩
/-- The worlds within a step of the round over what leads to i. -/
structure LC (w0 : World) (r n m bx gp bu u i : Nat) (v : Fv) (g : Dfs) (s : Fs) (sm : Nat → Nat) (w : World) : Prop where
  box2 : w.cell? ⟨bx, 2, none⟩ = some (.slice (some ⟨gp, 0, none⟩) n n)
  semi : w.cell? ⟨r, 1, none⟩ = some (.slice (some ⟨v.g1, 0, none⟩) m m)
  row : RowI w v.g1 m (fun j => (sm j : Int))
  plc : w.cell? ⟨gp, bu, none⟩ = some (.int .i64 u)
  fm : ∃ (wv : Value) (way : List Nat) (best : Nat → Nat) (up : Nat → Option Nat), FM w0.heap.size w r { v with wv := wv } m (abF g.par) { s with sm := sm, best := best, up := up } way ∧ g.Hang (i + 1) sm best up ∧ Below w0.heap.size w0 w
set_option maxRecDepth 20000 in
set_option maxHeartbeats 8000000 in
theorem dominators27 {w : World} {n : Nat} {g : Dfs} {blk : Nat → Nat} {cv lv pv fv : Value} {left : List Nat} {vs : List Value} {L : List (List Int)} {pg B0 : Nat}
    (H39 : ∀ w1, Below w.heap.size w w1 → Calls Try.prog 39 #[.agg #[cv, lv, pv, fv]] w1 (NfR g.n g.par w1))
    (hW : WkM w n g.n blk g.par cv lv pv fv left) (hn : n * 64 ≤ big) (hP : PM w B0 pg vs L) (hL : L.length = n) (hO : PreOk g blk L) (h0 : 0 < g.n) :
    Calls Try.prog 27 #[.agg #[cv, lv, pv, fv], .slice (some ⟨pg, 0, none⟩) n n] w (DnR g w) := by
  have H39 := hid' H39
  have HW := hid' hW
  have HP := hid' hP
  have HO := hid' hO
  have hmn := hW.le
  have hbl := hn
  unfold big at hbl
  have el : ((List.range g.n).map (fun j => (blk j : Int))).length = g.n := by simp
  have el2 : (ints left).length = left.length := by simp [ints]
  obtain ⟨co, cc, ecv⟩ := hW.came.len
  obtain ⟨lo, lc, elv⟩ := hW.leftS.len
  rw [el] at ecv
  rw [el2] at elv
  subst ecv elv
  obtain ⟨gp, fp, rfl, _, _⟩ := hW.place
  obtain ⟨gf, ff, rfl, _, _⟩ := hW.from_
  clear hW hP hO el el2
  go_enter Try.func27, Try.ntmps27
  obtain ⟨w0, ew0⟩ : ∃ w0, w0 = w.alloc (.cells #[.slice co g.n cc, .slice lo left.length lc, .slice (some ⟨gp, 0, none⟩) n n, .slice (some ⟨gf, 0, none⟩) n n] 47) := ⟨_, rfl⟩
  have hb0 : Below w.heap.size w w0 := by rw [ew0]; exact below1 _ _
  have hC : Hid (∀ W : World, Below w0.heap.size w0 W → W.cell? ⟨w.heap.size, 0, none⟩ = some (.slice co g.n cc) ∧ W.cell? ⟨w.heap.size, 1, none⟩ = some (.slice lo left.length lc) ∧ W.cell? ⟨w.heap.size, 2, none⟩ = some (.slice (some ⟨gp, 0, none⟩) n n) ∧ W.cell? ⟨w.heap.size, 3, none⟩ = some (.slice (some ⟨gf, 0, none⟩) n n)) := fun W hW => by
    rw [ew0] at hW
    have h := hW.block w.heap.size (by simp)
    rw [heap_alloc_new] at h
    have q := fun o => cell_of_row W w.heap.size o _ 47 (0, 0) h
    exact ⟨q 0, q 1, q 2, q 3⟩
  have HB0 := hid' hb0
  have h39 := hid' (H39.out w0 hb0)
  have hs0 : w0.heap.size = w.heap.size + 1 := by rw [ew0]; simp
  go_upto_region 1 with fail
  rw [← ew0]
  obtain ⟨k0, k1, k2, k3⟩ := hC.out w0 (Below.refl _ _)
  clear ew0 hb0
  go_upto_region 2 with (go_at_call 39; refine h39.out.mono ?_; rintro e1 w1 ⟨r, v, rfl, hF, hb1⟩; obtain ⟨k0, k1, k2, k3⟩ := hC.out w1 hb1; have HF := hid' hF; have HB1 := hid' hb1; clear hF hb1)
  go_wp2_with fail
  have hm64 : g.n * 64 ≤ big := by unfold big; omega
  go_loopw [6] (fun iv wr => ∃ (i : Nat) (s : Fs) (L' : Nat → List Nat) (wv : Value) (way : List Nat), iv = .int .i64 i ∧ i < g.n ∧ FM w0.heap.size wr r { v with wv := wv } g.n (abF g.par) s way ∧ Rnd g (i + 1) s L' ∧ Below w0.heap.size w0 wr) (fun iv _ => (intOf iv).toNat)
  case atStart =>
    refine ⟨g.n - 1, Fs.zero, fun _ => [], _, _, ?_, by omega, HF.out, ?_, HB1.out⟩
    · have : ((g.n - 1 : Nat) : Int) = (g.n : Int) - 1 := by omega
      rw [this]
    · rw [Nat.sub_add_cancel h0]
      exact Rnd.begin _ (fun j => rfl)
  case round =>
    obtain ⟨i, s, L', wv, way, rfl, hi, hF, hR, hbr⟩ := hrel
    have HF := hid' hF
    have HR := hid' hR
    have HB := hid' hbr
    obtain ⟨k0, k1, k2, k3⟩ := hC.out wr hbr
    clear hF hR hbr
    by_cases hi0 : 0 < i
    · have hWr : Below w.heap.size w wr := HB0.out.trans (HB.out.mono HB0.out.size)
      have HW' := hid' (HW.out.on hWr)
      have HP' := hid' (HP.out.on hWr)
      have hbi := HW.out.lt i hi
      obtain ⟨cao, ccap, ec, hcc⟩ := HW'.out.came.ints
      injection ec with ec1 ec2 ec3
      subst ec1 ec3
      clear ec2
      obtain ⟨cb, coff, rfl, _, hcle, hcell⟩ := hcc i (by simpa using hi)
      have q0 := hcell wr (Below.refl _ _)
      simp only [List.getElem_map, List.getElem_range] at q0
      have hvl : vs.length = n := by rw [HP'.out.len, hL]
      have q1 : wr.cell? ⟨pg, blk i, none⟩ = some (vs[blk i]'(by omega)) := (World.ownsRow.cellAt HP'.out.row (blk i) (by omega)).trans (List.getElem?_eq_getElem _)
      have hel := HP'.out.el (blk i) (by omega) (by omega)
      obtain ⟨pl, epl, hplE, hplA⟩ := HO.out.list hi
      have eL : L[blk i]'(by omega) = L.getD (blk i) [] := by simp [hL, hbi]
      have hlen := HO.out.len i hi
      rw [epl] at hlen eL
      simp only [List.length_map] at hlen
      rw [eL] at hel
      obtain ⟨pao, pcap, ep, hpc⟩ := (hel.src ic1).ints
      rw [ep] at q1
      simp only [List.length_map] at q1
      have HEP := hid' ep
      have HEL := hid' eL
      have HPE := hid' hplE
      have HPA := hid' hplA
      have hfr := HR.out.fresh i (by omega)
      have e0 : Dfs.upd s.sm i i = s.sm := by
        have := upd_self s.sm i
        rw [hfr] at this
        exact this
      have HE0 := hid' e0
      unfold big at hlen
      clear hcc hcell hel hpc ep hplE hplA e0 epl eL HW' HP'
      go_wp2_with fail
      go_loopw [29] (fun kv wr2 => ∃ (k cur : Nat) (best : Nat → Nat) (up : Nat → Option Nat) (wv2 : Value) (way2 : List Nat), k ≤ pl.length ∧ kv = .int .i64 k ∧
        FM w0.heap.size wr2 r { v with wv := wv2 } g.n (abF g.par) { s with sm := Dfs.upd s.sm i cur, best := best, up := up } way2 ∧ g.Hang (i + 1) (Dfs.upd s.sm i cur) best up ∧ Edg g i s.sm (pl.take k) cur ∧ Below w0.heap.size w0 wr2) (fun kv _ => pl.length - (intOf kv).toNat)
      case atStart =>
        refine ⟨0, i, s.best, s.up, wv, way, Nat.zero_le _, rfl, ?_, ?_, Edg.begin i s.sm, HB.out⟩
        · rw [HE0.out]; exact HF.out
        · rw [HE0.out]; exact HR.out.hang
      case round =>
        obtain ⟨k, cur, best, up, wv2, way2, hk, rfl, hF2, hH2, hE2, hbr2⟩ := hrel
        have HF2 := hid' hF2
        have HH2 := hid' hH2
        have HE2 := hid' hE2
        have HB2 := hid' hbr2
        obtain ⟨k0, k1, k2, k3⟩ := hC.out wr hbr2
        clear hF2 hH2 hE2 hbr2
        have hWr2 : Below w.heap.size w wr := HB0.out.trans (HB2.out.mono HB0.out.size)
        by_cases hkl : k < pl.length
        · have hel := (HP.out.on hWr2).el (blk i) (by omega) (by omega)
          rw [HEL.out] at hel
          obtain ⟨ao', cap', e', hpc⟩ := (hel.src ic1).ints
          rw [HEP.out] at e'
          injection e' with e1 _ e3
          subst e1 e3
          obtain ⟨pb, poff, rfl, _, hple, hpcell⟩ := hpc k (by simpa using hkl)
          have qx := hpcell wr (Below.refl _ _)
          simp only [List.getElem_map] at qx
          simp only [List.length_map] at hple
          obtain ⟨gp', fp', e', hrp, hfp⟩ := (HW.out.on hWr2).place
          injection e' with e1 _ _
          injection e1 with e1
          injection e1 with e1
          subst e1
          have hE := HPE.out pl[k] (List.getElem_mem hkl)
          have hv := (g.lt hE).1
          have hbv := HW.out.lt _ hv
          have qp := hrp.cell hbv
          rw [hfp _ hv] at qp
          have HTK : Hid (pl.take (k + 1) = pl.take k ++ [pl[k]]) := take_snoc pl k hkl
          generalize pl[k] = u at *
          have hsi : (Dfs.upd s.sm i cur) i = cur := Dfs.upd_same _ _ _
          have hC0 : LC w0 r n g.n w.heap.size gp (blk u) u i v g s (Dfs.upd s.sm i cur) wr.drew :=
            ⟨k2, HF2.out.c1, HF2.out.drew.rs, qp, wv2, way2, best, up, HF2.out.drew, HH2.out, bdw' HB2.out⟩
          have HC0 := hid' hC0
          have HSI := hid' hsi
          generalize hsm : Dfs.upd s.sm i cur = sm at *
          have HSM := hid' hsm
          clear hel hpc hpcell hrp hfp hC0 hsi hsm
          go_wp2_with fail
          have hne : Nonempty (InC (LC w0 r n g.n w.heap.size gp (blk u) u i v g s sm)) := ⟨⟨_, HC0.out⟩⟩
          have r0 := fun q : InC (LC w0 r n g.n w.heap.size gp (blk u) u i v g s sm) => q.2.box2
          have r1 := fun q : InC (LC w0 r n g.n w.heap.size gp (blk u) u i v g s sm) => q.2.semi
          have r2 := fun q : InC (LC w0 r n g.n w.heap.size gp (blk u) u i v g s sm) => q.2.row.cell hi
          have r3 := fun q : InC (LC w0 r n g.n w.heap.size gp (blk u) u i v g s sm) => q.2.plc
          have HROW : Hid (∀ x, x < g.n → ∀ q : InC (LC w0 r n g.n w.heap.size gp (blk u) u i v g s sm), q.1.cell? ⟨v.g1, x, none⟩ = some (.int .i64 (sm x))) := fun x hx q => q.2.row.cell hx
          refine region_pickC (LC w0 r n g.n w.heap.size gp (blk u) u i v g s sm) 26 4 (fun k => decide (k ≠ 22)) [0, 1, 2, 3, 4, 5, 6, 7, 8, 9, 10, 11, 12, 13, 14, 15, 16, 17, 18, 19, 20, 21] mixed (by kernel_rfl) (by kernel_rfl) (by kernel_rfl) (by simp) rfl (by decide) (by kernel_rfl) HC0.out (fun _ => ?_)
          simp only [List.filterMap_cons, List.filterMap_nil, List.getElem?_cons_zero, List.getElem?_cons_succ]
          repeat (
            refine wpFreeC_step (fun K hK => ?_)
            go_simp
            first
              | (refine hK _ ?_; clear hK K)
              | (apply Exists.intro
                 refine ⟨fun _ => ?_, hK _ ?_⟩
                 (with_reducible rfl)
                 clear hK K))
          refine wpFreeC_nil ?_
          refine headF_step [22] (by kernel_rfl) (by simp) (fun q hq => ?_)
          obtain rfl : q = 22 := by simpa using hq
          refine ⟨by omega, .inl ⟨by decide, _, rfl, by simp [Region.wanted], fun w5 hw5 => ?_⟩⟩
          obtain ⟨wv5, way5, best5, up5, hF5, hH5, hB5⟩ := hw5.fm
          have h40 := least40 (i := i + 1) (j := u) rfl hm64 hF5 hH5 hv
          refine .inr ⟨40, #[.pointer (some ⟨r, 0, none⟩), .int .i64 u], ?_, h40.mono ?_⟩
          · simp [execOp, resolve, invoke, Act.eval, Act.put, Deferred.ofValue, go_sem, Try.func40]
          · rintro e6 w6 ⟨x, b6, u6, wy6, wv6, rfl, hF6, hH6, hX, hB6⟩
            have hB65 : Below w0.heap.size w0 w6 := hB5.trans hB6
            refine ⟨_, (), rfl, ⟨(hC.out w6 hB65).2.2.1, hF6.c1, hF6.rs, ?_, wv6, wy6, b6, u6, hF6, hH6, hB65⟩, ?_⟩
            · have hW6 : Below w.heap.size w w6 := HB0.out.trans (hB65.mono HB0.out.size)
              obtain ⟨gp', fp', e', hrp, hfp⟩ := (HW.out.on hW6).place
              injection e' with e1 _ _
              injection e1 with e1
              injection e1 with e1
              subst e1
              have qp := hrp.cell hbv
              rw [hfp _ hv] at qp
              exact qp
            have hxn := hX.lt
            have r4 := HROW.out x hxn
            have HX := hid' hX
            have hE3 : Edg g i s.sm (pl.take (k + 1)) (min cur (sm x)) := by
              rw [HTK.out]
              have h1 := (HE2.out.sm (sm' := sm)).next hi0 hi hE (fun j h1 h2 => ?_) (fun j h1 => ?_) HSI.out hX
              · exact h1.sm
              · rw [← HSM.out, Dfs.upd_ne _ _ (by omega)]
                exact HR.out.semi j (by omega) (by omega) h2
              · rw [← HSM.out, Dfs.upd_ne _ _ (by omega)]
                exact HR.out.fresh j (by omega)
            have HE3 := hid' hE3
            clear hX h40 hF6 hH6 hB6 hF5 hH5 hB5 hw5 hB65 hE3
            refine headC_lex (m := 0) (by kernel_rfl) (by kernel_rfl) (by kernel_rfl) (by simp) (fun s _ _ h => seqB_ready h.1) [23, 24, 25] _ _ _ (pick_ops _ [23, 24, 25] (by simp)) (by decide) (inv_of (by kernel_rfl)) (by kernel_rfl) ?_
            simp only [List.filterMap_cons, List.filterMap_nil, List.getElem?_cons_zero, List.getElem?_cons_succ]
            repeat (
              refine wpFreeC_step (fun K hK => ?_)
              go_simp
              first
                | (refine hK _ ?_; clear hK K)
                | (apply Exists.intro
                   refine ⟨fun _ => ?_, hK _ ?_⟩
                   (with_reducible rfl)
                   clear hK K))
            refine wpFreeC_nil ?_
            refine ⟨by kernel_rfl, fun w9 hw9 => ?_⟩
            obtain ⟨wv9, way9, best9, up9, hF9, hH9, hB9⟩ := hw9.fm
            have d1 := hw9.semi
            have di := hw9.row.cell hi
            have df := hw9.row.fro i
            have HF9 := hid' hF9
            have HH9 := hid' hH9
            have HB9 := hid' hB9
            clear hw9 hF9 hH9 hB9
            go_wp2_with fail
            have hmin : (if sm x < sm i then (sm x : Int) else (sm i : Int)) = ((min cur (sm x) : Nat) : Int) := by
              rw [HSI.out]
              split <;> omega
            rw [hmin]
            obtain ⟨F7, B7⟩ := HF9.out.put_sm i (min cur (sm x))
            have e7 : Dfs.upd sm i (min cur (sm x)) = Dfs.upd s.sm i (min cur (sm x)) := by rw [← HSM.out, upd_upd]
            dsimp only at F7
            rw [e7] at F7
            have hH7 : g.Hang (i + 1) (Dfs.upd s.sm i (min cur (sm x))) best9 up9 := Hang_turn HH9.out (fun j hj => by rw [← e7, Dfs.upd_ne _ _ (by omega)])
            have B8 : Below w0.heap.size w0 _ := HB9.out.trans B7
            refine ⟨⟨k + 1, min cur (sm x), best9, up9, wv9, way9, by omega, by go_num, F7, hH7, HE3.out, B8⟩, ?_⟩
            simp [intOf]; omega
        · have ek : k = pl.length := by omega
          subst ek
          rw [List.take_length] at HE2
          obtain ⟨hsemi, hcl⟩ := HE2.out.done hi0 hi HPA.out
          obtain ⟨hA, hB', hC', hD, hE', hF', hG⟩ := HR.out.step hi0 hi hsemi hcl HH2.out
          have hw41 := hid' (wait41 (i := i) hm64 HF2.out hi (by dsimp only; rw [Dfs.upd_same]; omega))
          have HA := hid' hA
          have HB' := hid' hB'
          have HC' := hid' hC'
          have HD := hid' hD
          have HE' := hid' hE'
          have HF' := hid' hF'
          have HG := hid' hG
          clear hA hB' hC' hD hE' hF' hG hsemi
          go_upto_region 11 with (go_at_call 41; refine hw41.out.mono ?_; rintro e3 w3 ⟨rfl, hF3, hB3⟩; have HF3 := hid' hF3; have HB3 := hid' hB3; clear hF3 hB3)
          have hF3 := HF3.out
          rw [Dfs.upd_same] at hF3
          have c0 := hF3.c0
          have c3 := hF3.c3
          have ca := hF3.ra.cell hi
          have cu := hF3.ru.cell hi
          have fu := hF3.ru.fro i
          have eab : abF g.par i = some (g.par i) := if_neg (by omega)
          rw [eab, oi_some] at ca
          have hpi := g.par_lt hi0 hi
          have HF3 := hid' hF3
          clear hF3
          go_region
          obtain ⟨hF4, hB4⟩ := HF3.out.put_up i (some (g.par i))
          rw [oi_some] at hF4 hB4
          have HF4 := hid' hF4.drew
          have HB4 := hid' (bdw' ((HB2.out.trans HB3.out).trans hB4))
          clear hF4 hB4 HF3 HB3 HF2 HB2 c0 c3 ca cu fu
          generalize (w3.setCell ⟨v.g3, i, none⟩ (.int .i64 (g.par i))).drew = w4 at *
          have c0 := HF4.out.c0
          have ca := HF4.out.ra.cell hi
          rw [eab, oi_some] at ca
          have h42 := hid' (settle42 (i := i) (p := g.par i) (l0 := Dfs.upd L' cur (i :: L' cur) (g.par i)) rfl rfl hm64 HF4.out HA.out hi0 hi (HD.out _) (fun j hj => by
            obtain ⟨e1, e2, e3⟩ := HE'.out _ j hj
            exact ⟨e1, e2, e3, HB'.out j (by omega) e1 e2⟩))
          go_wp2_with (go_at_call 42; refine h42.out.mono ?_; rintro e5 w5 ⟨rfl, wv5, way5, dom5, best5, up5, hF5, hH5, hS5, hO5, hB5⟩; have HF5 := hid' hF5; have HH5 := hid' hH5; have HS5 := hid' hS5; have HO5 := hid' hO5; have HB5 := hid' (HB4.out.trans hB5); clear hF5 hH5 hS5 hO5 hB5)
          go_roundw
          case rel =>
            refine ⟨i - 1, _, Dfs.upd (Dfs.upd L' cur (i :: L' cur)) (g.par i) [], wv5, way5, ?_, by omega, HF5.out, ?_, HB5.out⟩
            · congr 1
              omega
            · rw [Nat.sub_add_cancel hi0]
              refine Rnd.close (L := Dfs.upd L' cur (i :: L' cur)) hi0 HH5.out HB'.out HC'.out (fun p hp => ?_) (Dfs.upd_same _ _ _) HE'.out (fun j hj hij hjn => ?_) HG.out ?_
              · show Chain _ (Dfs.upd _ _ _ p) _
                rw [Dfs.upd_ne _ _ hp]
                exact HD.out p
              · by_cases hl : j ∈ Dfs.upd L' cur (i :: L' cur) (g.par i)
                · exact .inr (HS5.out j hl)
                · rcases HF'.out j hj hij hjn with h1 | h1
                  · refine .inl ⟨fun e => hl ?_, h1⟩
                    rw [← e]
                    exact h1
                  · exact .inr (h1.congr (HO5.out j hl))
              · show dom5 0 = none
                rw [HO5.out 0 (fun h => by have := (HE'.out _ 0 h).1; omega)]
                exact HR.out.dom0
          case measure => simp [intOf]; omega
    · have ei : i = 0 := by omega
      subst ei
      obtain ⟨um, hS0⟩ := HR.out.second
      have HS0 := hid' hS0
      clear hS0
      go_wp2_with fail
      go_loopw [9] (fun iv wr2 => ∃ (i : Nat) (dom : Nat → Option Nat), iv = .int .i64 i ∧ 1 ≤ i ∧ i ≤ g.n ∧ FM w0.heap.size wr2 r { v with wv := wv } g.n (abF g.par) { s with dom := dom } way ∧ Snd g i s.sm um dom ∧ Below w0.heap.size w0 wr2) (fun iv _ => g.n - (intOf iv).toNat)
      case atStart => exact ⟨1, s.dom, rfl, Nat.le_refl _, h0, HF.out, HS0.out, HB.out⟩
      case round =>
        obtain ⟨i, dom, rfl, hi1, hin, hF2, hS, hbr2⟩ := hrel
        have HF2 := hid' hF2
        have HS := hid' hS
        have HB2 := hid' hbr2
        obtain ⟨k0, k1, k2, k3⟩ := hC.out wr hbr2
        clear hF2 hS hbr2
        by_cases hil : i < g.n
        · have hdi := HS.out.left i (Nat.le_refl _) hil
          obtain ⟨d, hd⟩ : ∃ d, dom i = some d := ⟨_, hdi⟩
          have c1 := HF2.out.c1
          have c2 := HF2.out.c2
          have cs := HF2.out.rs.cell hil
          have cd := HF2.out.rd.cell hil
          dsimp only at cs cd
          rw [hd, oi_some] at cd
          have HDI := hid' hd
          clear hdi hd
          by_cases e : d = s.sm i
          · have hne : ((d : Int) == (s.sm i : Int)) = true := beq_iff_eq.2 (by omega)
            have HS2 := hid' (HS.out.stay (by omega) hil HDI.out e)
            clear e
            go_wp2_with fail
            go_quiet (fail)
            have HF3 := hid' (HF2.out.drewN nq)
            have HB3 := hid' (bdr (k := nq) HB2.out)
            clear HF2 HB2
            generalize wr.drewN nq = w3 at *
            go_wp2_with fail
            go_roundw
            case rel =>
              (repeat apply Exists.intro)
              refine ⟨?rel2, rfl⟩
              case rel2 => exact ⟨i + 1, dom, by go_num, by omega, by omega, HF3.out, HS2.out, HB3.out⟩
            case measure => simp [intOf]; omega
          · have hne : ((d : Int) == (s.sm i : Int)) = false := beq_eq_false_iff_ne.2 (by omega)
            obtain ⟨hdl, c, hc, hS2⟩ := HS.out.turn (by omega) hil HDI.out e
            have hdn : d < g.n := by omega
            have HS2 := hid' hS2
            have HCC := hid' hc
            clear e hS2 hc
            go_wp2_with fail
            go_quiet (fail)
            have HF3 := hid' (HF2.out.drewN nq)
            have HB3 := hid' (bdr (k := nq) HB2.out)
            clear HF2 HB2 c1 c2 cs cd
            generalize wr.drewN nq = w3 at *
            have c2 := HF3.out.c2
            have cd := HF3.out.rd.cell hil
            have cd2 := HF3.out.rd.cell hdn
            have fd := HF3.out.rd.fro i
            dsimp only at cd cd2
            rw [HDI.out, oi_some] at cd
            rw [HCC.out, oi_some] at cd2
            go_wp2_with fail
            go_region
            obtain ⟨hF4, hB4⟩ := HF3.out.put_dom i (some c)
            rw [oi_some] at hF4 hB4
            have HF4 := hid' hF4.drew
            have HB4 := hid' (bdw' (HB3.out.trans hB4))
            clear hF4 hB4 HF3 HB3 c2 cd cd2 fd
            dsimp only at HF4
            generalize (w3.setCell ⟨v.g2, i, none⟩ (.int .i64 c)).drew = w4 at *
            go_wp2_with fail
            go_roundw
            case rel =>
              (repeat apply Exists.intro)
              refine ⟨?rel2, rfl⟩
              case rel2 => exact ⟨i + 1, _, by go_num, by omega, by omega, HF4.out, HS2.out, HB4.out⟩
            case measure => simp [intOf]; omega
        · have ei : i = g.n := by omega
          subst ei
          have c2 := HF2.out.c2
          have hrd := HF2.out.rd
          have hq2 : w.heap.size ≤ v.g2 := Nat.le_trans HB0.out.size HF2.out.lo.2.2.2.1
          clear hC HW HP HO H39
          go_wp2_with fail
          go_ret
          exact ⟨v.g2, dom, rfl, hq2, hrd, HS.out.dom0, fun j h1 h2 => HS.out.idom h1 h2, HB0.out.trans (HB2.out.mono HB0.out.size)⟩
end Go.Proofs.Ytgkaeoieclegjaa
