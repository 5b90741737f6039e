/- Copy, walked. -/
import Derived.Test.YthnbnilammjceaaCop
namespace Go.Proofs.Ythnbnilammjceaa
open Go.RowKit Go.Maps
set_option linter.unusedVariables false
set_option linter.unusedSimpArgs false

theorem OwnF.lower {w : World} {B C : Nat} {x : Fn} (h : OwnF w B x) (hC : C ≤ B) : OwnF w C x := ⟨h.b.lower hC, h.bl, h.nl, fun k hk => (h.bls k hk).lower hC⟩
theorem CO.at_ {W1 : World} {B n cap : Nat} {ao : Option Addr} {l c : List Bl} {m : Nat} {wr : World} (h : CO W1 B (.slice ao n cap) l m wr c) (hn : n = l.length) (hm : m < l.length) :
    ∃ g, ao = some ⟨g, 0, none⟩ ∧ B ≤ g ∧ g < W1.heap.size ∧ g < wr.heap.size ∧ n ≤ cap ∧ wr.cell? ⟨g, m * 4, none⟩ = some l[m].cv ∧ wr.cell? ⟨g, m * 4 + 1, none⟩ = some (.int .i64 l[m].en) ∧ wr.cell? ⟨g, m * 4 + 2, none⟩ = some (.int .i64 l[m].arg) ∧ wr.cell? ⟨g, m * 4 + 3, none⟩ = some l[m].tv ∧ ∀ j, wr.frozen? ⟨g, j, none⟩ = false := by
  subst hn
  have hmc : m < c.length := by rw [h.len]; exact hm
  have e0 : c[m] = l[m] := h.rest m hm hmc (Nat.le_refl _)
  rcases h.row.2 with ⟨e, hl⟩ | ⟨g, cap', cur, e, hB, hh, hcp, _⟩
  · omega
  · injection e with a1 a2 a3
    subst a1 a3
    have hlt := h.lt g rfl
    have hc : ∀ j, j < 4 → wr.cell? ⟨g, m * 4 + j, none⟩ = (Bl.cells l[m])[j]? := fun j hj => by
      rw [World.ownsRow.cellAt h.row (m * 4 + j) (by omega), flat_get bl4 c m j hmc hj, e0]
    obtain ⟨c0, c1, c2, c3⟩ := bl_cells (o := m * 4) hc
    exact ⟨g, rfl, hB, hlt.2, (Array.getElem?_eq_some_iff.1 hh).1, hcp, c0, c1, c2, c3, fun j => World.ownsRow.frozenAt h.row j⟩
theorem CI.at_ {W1 : World} {B n cap : Nat} {ao : Option Addr} {l c : List In} {m : Nat} {wr : World} (h : CI W1 B (.slice ao n cap) l m wr c) (hn : n = l.length) (hm : m < l.length) :
    ∃ g, ao = some ⟨g, 0, none⟩ ∧ B ≤ g ∧ g < W1.heap.size ∧ g < wr.heap.size ∧ n ≤ cap ∧ wr.cell? ⟨g, m * 7 + 2, none⟩ = some l[m].av ∧ wr.cell? ⟨g, m * 7 + 6, none⟩ = some l[m].pv ∧ ∀ j, wr.frozen? ⟨g, j, none⟩ = false := by
  subst hn
  have hmc : m < c.length := by rw [h.len]; exact hm
  have e0 : c[m] = l[m] := h.rest m hm hmc (Nat.le_refl _)
  rcases h.row.2 with ⟨e, hl⟩ | ⟨g, cap', cur, e, hB, hh, hcp, _⟩
  · omega
  · injection e with a1 a2 a3
    subst a1 a3
    have hlt := h.lt g rfl
    have hc : ∀ j, j < 7 → wr.cell? ⟨g, m * 7 + j, none⟩ = (In.cells l[m])[j]? := fun j hj => by
      rw [World.ownsRow.cellAt h.row (m * 7 + j) (by omega), flat_get in7 c m j hmc hj, e0]
    obtain ⟨c0, c1, c2, c3, c4, c5, c6⟩ := in_cells (o := m * 7) hc
    exact ⟨g, rfl, hB, hlt.2, (Array.getElem?_eq_some_iff.1 hh).1, hcp, c2, c6, fun j => World.ownsRow.frozenAt h.row j⟩

/-- Both boxes behind all that turns. -/
theorem cbox {w w1 W : World} {v0 v1 v2 v3 v4 u0 u1 u2 u3 u4 v : Value} {T U : TypeId} {S : Nat → Prop} (hb : Below ((w.alloc (.cells #[v0, v1, v2, v3, v4] T)).alloc (.cells #[u0, u1, u2, u3, u4] U)).heap.size ((w.alloc (.cells #[v0, v1, v2, v3, v4] T)).alloc (.cells #[u0, u1, u2, u3, u4] U)) w1)
    (K : Kept S (w1.setCell ⟨w.heap.size, 4, none⟩ v) W) (hS : ∀ k, S k → w.heap.size + 2 ≤ k) :
    w.heap.size + 1 < W.heap.size ∧ Below w.heap.size w W ∧ (W.cell? ⟨w.heap.size, 0, none⟩ = some v0 ∧ W.cell? ⟨w.heap.size, 1, none⟩ = some v1 ∧ W.cell? ⟨w.heap.size, 2, none⟩ = some v2 ∧ W.cell? ⟨w.heap.size, 3, none⟩ = some v3 ∧ W.cell? ⟨w.heap.size, 4, none⟩ = some v) ∧
    (W.cell? ⟨w.heap.size + 1, 0, none⟩ = some u0 ∧ W.cell? ⟨w.heap.size + 1, 1, none⟩ = some u1 ∧ W.cell? ⟨w.heap.size + 1, 2, none⟩ = some u2 ∧ W.cell? ⟨w.heap.size + 1, 3, none⟩ = some u3 ∧ W.cell? ⟨w.heap.size + 1, 4, none⟩ = some u4) ∧ (∀ j, W.frozen? ⟨w.heap.size + 1, j, none⟩ = false) := by
  have hz : w.heap.size + 2 ≤ w1.heap.size := by have := hb.size; simp at this; omega
  have hz' : w.heap.size + 2 ≤ (w1.setCell ⟨w.heap.size, 4, none⟩ v).heap.size := by simp [World.setCell]; omega
  have hn : ∀ k, k < w.heap.size + 2 → ¬ S k := fun k hk e => by have := hS k e; omega
  have hsz := K.size
  have hB1 : Below w.heap.size w w1 := (below2 _ _ _).trans (hb.mono (by simp; omega))
  have hB : Below w.heap.size w W := (hB1.trans (((Kept.rfl (fun k => k = w.heap.size) w1).set (.inl rfl) v).below (by omega) (fun k e => by omega))).trans (K.below (by omega) (fun k e => by have := hS k e; omega))
  have hc : ∀ b o, b < w.heap.size + 2 → W.cell? ⟨b, o, none⟩ = (w1.setCell ⟨w.heap.size, 4, none⟩ v).cell? ⟨b, o, none⟩ := fun b o hb => K.cell (by omega) (hn b hb)
  have hf : ∀ b o, b < w.heap.size + 2 → W.frozen? ⟨b, o, none⟩ = (w1.setCell ⟨w.heap.size, 4, none⟩ v).frozen? ⟨b, o, none⟩ := fun b o hb => K.frozen (by omega) (hn b hb)
  have hc1 : ∀ b o, b < w.heap.size + 2 → w1.cell? ⟨b, o, none⟩ = ((w.alloc (.cells #[v0, v1, v2, v3, v4] T)).alloc (.cells #[u0, u1, u2, u3, u4] U)).cell? ⟨b, o, none⟩ := fun b o h => hb.cell (p := ⟨b, o, none⟩) (by simp; omega)
  have hf1 : ∀ b o, b < w.heap.size + 2 → w1.frozen? ⟨b, o, none⟩ = ((w.alloc (.cells #[v0, v1, v2, v3, v4] T)).alloc (.cells #[u0, u1, u2, u3, u4] U)).frozen? ⟨b, o, none⟩ := fun b o h => hb.frozen (p := ⟨b, o, none⟩) (by simp; omega)
  have h4 : w1.cell? ⟨w.heap.size, 4, none⟩ = some v4 := by rw [hc1 _ _ (by omega)]; simp [go_sem]
  refine ⟨by omega, hB, ⟨?_, ?_, ?_, ?_, ?_⟩, ⟨?_, ?_, ?_, ?_, ?_⟩, fun j => ?_⟩
  all_goals first | (rw [hc _ _ (by omega)]; simp [go_sem, hc1, h4]; done) | (rw [hf _ _ (by omega)]; simp [go_sem, hf1]; done) | skip

theorem cell_ne {w : World} {g a b : Nat} {u : Value} (h : a ≠ b) : (w.setCell ⟨g, a, none⟩ u).cell? ⟨g, b, none⟩ = w.cell? ⟨g, b, none⟩ := by
  simp [go_sem, h, Ne.symm h]
theorem frozen_set {w : World} {g a b o : Nat} {u : Value} : (w.setCell ⟨g, a, none⟩ u).frozen? ⟨b, o, none⟩ = w.frozen? ⟨b, o, none⟩ := by
  simp [go_sem]
/-- A call, a store, a call: what another cell of the row holds. -/
theorem row_after {wr w2 w4 : World} {g a b : Nat} {t v : Value} (hb2 : Below wr.heap.size wr w2) (hb4 : Below (w2.setCell ⟨g, a, none⟩ t).heap.size (w2.setCell ⟨g, a, none⟩ t) w4) (hg : g < wr.heap.size) (h : a ≠ b) (hc : wr.cell? ⟨g, b, none⟩ = some v) (hf : ∀ j, wr.frozen? ⟨g, j, none⟩ = false) :
    w4.cell? ⟨g, b, none⟩ = some v ∧ w4.frozen? ⟨g, b, none⟩ = false := by
  have hs := hb2.size
  have hg2 : g < (w2.setCell ⟨g, a, none⟩ t).heap.size := by simp [World.setCell]; omega
  exact ⟨by rw [hb4.cell hg2, cell_ne h, hb2.cell hg, hc], by rw [hb4.frozen hg2, frozen_set, hb2.frozen hg, hf]⟩
theorem below_set {w wr w2 : World} {g a : Nat} {t : Value} (hb : Below w.heap.size w wr) (hb2 : Below wr.heap.size wr w2) (hg : w.heap.size ≤ g) : Below w.heap.size w (w2.setCell ⟨g, a, none⟩ t) :=
  (below_up hb hb2).trans (((Kept.rfl (fun k => k = g) w2).set (.inl rfl) t).below (Nat.le_trans hb.size hb2.size) (fun k e => by omega))
theorem cbox4 {w w1 : World} {v0 v1 v2 v3 v4 u0 u1 u2 u3 u4 : Value} {T U : TypeId} (hb : Below ((w.alloc (.cells #[v0, v1, v2, v3, v4] T)).alloc (.cells #[u0, u1, u2, u3, u4] U)).heap.size ((w.alloc (.cells #[v0, v1, v2, v3, v4] T)).alloc (.cells #[u0, u1, u2, u3, u4] U)) w1) :
    w1.cell? ⟨w.heap.size, 4, none⟩ = some v4 ∧ w1.frozen? ⟨w.heap.size, 4, none⟩ = false := by
  constructor
  · rw [hb.cell (by simp; omega)]; simp [go_sem]
  · rw [hb.frozen (by simp; omega)]; simp [go_sem]
theorem cown {w w1 : World} {v0 v1 v2 v3 v4 u0 u1 u2 u3 u4 v : Value} {T U : TypeId} {l : List Bl} (h : Own 54 4 Bl.cells w1 ((w.alloc (.cells #[v0, v1, v2, v3, v4] T)).alloc (.cells #[u0, u1, u2, u3, u4] U)).heap.size v l) :
    Own 54 4 Bl.cells (w1.setCell ⟨w.heap.size, 4, none⟩ v) (w.heap.size + 2) v l := by
  have e : ((w.alloc (.cells #[v0, v1, v2, v3, v4] T)).alloc (.cells #[u0, u1, u2, u3, u4] U)).heap.size = w.heap.size + 2 := by simp
  rw [e] at h
  exact h.kept ((Kept.rfl (fun k => k = w.heap.size) w1).set (.inl rfl) v) (fun k a _ e => by omega)

set_option maxRecDepth 40000 in
set_option maxHeartbeats 20000000 in
theorem copy19 {w : World} {x : Fn} (hx : Fn.ok w x) : Calls Try.prog 19 #[x.val] w fun e w' => ∃ y : Fn, e = .returned y.val ∧ LikeF x y ∧ OwnF w' w.heap.size y ∧ Below w.heap.size w w' := by
  obtain ⟨nm, ps, rs, sl, bv, bl⟩ := x
  obtain ⟨ao, cap, e1⟩ := hx.b.len
  dsimp only at *
  subst e1
  have HC35 : Hid (∀ W, Below w.heap.size w W → Calls Try.prog 35 #[.slice ao bl.length cap] W fun e w' => ∃ v', e = .returned v' ∧ Own 54 4 Bl.cells w' W.heap.size v' bl ∧ Below W.heap.size W w') := fun W hW => copyList35 (hx.b.on hW) hx.bl (fun y hy => (hx.bls y hy).on hW)
  have HBLS := hid' hx.bls
  have HLB := hid' hx.bl
  have HNL := hid' hx.nl
  have hlb := hx.bl
  unfold big at hlb
  clear hx
  unfold Fn.val
  dsimp only
  go_enter Try.func19, Try.ntmps19
  go_wp2_with (go_at_call 35; refine (HC35.out _ (below2 _ _ _)).mono ?_; rintro e1 w1 ⟨v1, rfl, ho1, hb1⟩; obtain ⟨ao1, cap1, rfl⟩ := (ho1.src bl4).len; have HO1 := hid' ho1; have HB1 := hid' hb1; obtain ⟨h4, h4f⟩ := cbox4 hb1; clear ho1 hb1)
  go_loopw [14] (fun i wr => ∃ (k : Nat) (c : List Bl), k ≤ bl.length ∧ i = .int .i64 k ∧ CO (w1.setCell ⟨w.heap.size, 4, none⟩ (.slice ao1 bl.length cap1)) (w.heap.size + 2) (.slice ao1 bl.length cap1) bl k wr c) (fun i _ => bl.length - (intOf i).toNat)
  case atStart => exact ⟨0, bl, Nat.zero_le _, rfl, CO.start (cown HO1.out)⟩
  case round =>
    obtain ⟨k, c, hk, rfl, hC⟩ := hrel
    have HC := hid' hC
    obtain ⟨hsz, hB0, ⟨f0, f1, f2, f3, f4⟩, ⟨r0, r1, r2, r3, r4⟩, hfr⟩ := cbox HB1.out hC.kept (fun k e => (hC.lt k e).1)
    have HB0 := hid' hB0
    clear hC hB0
    by_cases hlt : k < bl.length
    · obtain ⟨g, rfl, hg1, hg2, hg3, hcp, c0, c1, c2, c3, hgf⟩ := HC.out.at_ rfl hlt
      have ho := HBLS.out _ (List.getElem_mem hlt)
      have HO := hid' ho
      have HT36 : Hid (∀ W, Below wr.heap.size wr W → Calls Try.prog 36 #[bl[k].tv] W fun e w' => ∃ v', e = .returned v' ∧ Own 3 1 icell w' W.heap.size v' bl[k].to ∧ Below W.heap.size W w') := fun W hW => copyList36 (HO.out.t.on (below_up HB0.out hW)) HO.out.tl
      have HT37 : Hid (∀ W, Below w.heap.size w W → Calls Try.prog 37 #[bl[k].cv] W fun e w' => ∃ v', e = .returned v' ∧ Own 47 7 In.cells w' W.heap.size v' bl[k].code ∧ Below W.heap.size W w') := fun W hW => copyList37 (HO.out.c.on hW) HO.out.cl (fun y hy => (HO.out.ins y hy).on hW)
      obtain ⟨co, cc, ec⟩ := ho.c.len
      obtain ⟨tt, tc, et⟩ := ho.t.len
      rw [ec] at c0 HT37
      rw [et] at c3 HT36
      have HE : Hid (bl[k].cv = .slice co bl[k].code.length cc) := ec
      have hcl := ho.cl
      have htl := ho.tl
      unfold big at hcl htl
      clear ho ec et
      go_wp2_with (first
        | (go_at_call 37; refine (HT37.out _ HB3.out).mono ?_; rintro e4 w4 ⟨v2, rfl, ho4, hb4⟩; obtain ⟨ao2, cap2, rfl⟩ := (ho4.src in7).len; have HO4 := hid' ho4; have HB4 := hid' hb4; obtain ⟨y0, y0f⟩ := row_after HB2.out hb4 hg3 (b := k * 4) (by omega) c0 hgf; clear ho4 hb4)
        | (go_at_call 36; refine (HT36.out _ (Below.refl _ _)).mono ?_; rintro e2 w2 ⟨t1, rfl, ho2, hb2⟩; obtain ⟨ta, tcap, rfl⟩ := (ho2.src ic1).len; have HO2 := hid' ho2; have HB2 := hid' hb2; obtain ⟨hc2, hf2⟩ := bcell hb2; have x0 := (hc2 g (k * 4) hg3).trans c0; have x3 := (hc2 g (k * 4 + 3) hg3).trans c3; have xf := fun j => (hf2 g j hg3).trans (hgf j); have hs2 := hb2.size; have HB3 := hid' (below_set (a := k * 4 + 3) (t := .slice ta bl[k].to.length tcap) HB0.out hb2 (Nat.le_trans (by omega) hg1)); clear ho2 hb2 hc2 hf2))
      have HB5 : Hid (Below w.heap.size w (w4.setCell ⟨g, k * 4, none⟩ (.slice ao2 bl[k].code.length cap2))) := below_set HB3.out HB4.out (by omega)
      have e3 : Hid ((w2.setCell ⟨g, k * 4 + 3, none⟩ (.slice ta bl[k].to.length tcap)).heap.size = w2.heap.size) := by unfold Hid; simp [World.setCell]
      have e5 : Hid ((w4.setCell ⟨g, k * 4, none⟩ (.slice ao2 bl[k].code.length cap2)).heap.size = w4.heap.size) := by unfold Hid; simp [World.setCell]
      have hs4 : w2.heap.size ≤ w4.heap.size := by have := HB4.out.size; rw [e3.out] at this; exact this
      have HOI : Hid (Own 47 7 In.cells (w4.setCell ⟨g, k * 4, none⟩ (.slice ao2 bl[k].code.length cap2)) (w2.setCell ⟨g, k * 4 + 3, none⟩ (.slice ta bl[k].to.length tcap)).heap.size (.slice ao2 bl[k].code.length cap2) bl[k].code) :=
        HO4.out.kept ((Kept.rfl (fun k => k = g) w4).set (.inl rfl) _) (fun j a _ e => by rw [e3.out] at a; omega)
      have w0 : (w4.setCell ⟨g, k * 4, none⟩ (.slice ao2 bl[k].code.length cap2)).cell? ⟨g, k * 4, none⟩ = some (.slice ao2 bl[k].code.length cap2) := by simp [go_sem, y0]
      have HSTEP : Hid (∀ w6 c2, CI (w4.setCell ⟨g, k * 4, none⟩ (.slice ao2 bl[k].code.length cap2)) (w2.setCell ⟨g, k * 4 + 3, none⟩ (.slice ta bl[k].to.length tcap)).heap.size (.slice ao2 bl[k].code.length cap2) bl[k].code bl[k].code.length w6 c2 → ∃ c', CO (w1.setCell ⟨w.heap.size, 4, none⟩ (.slice (some ⟨g, 0, none⟩) bl.length cap1)) (w.heap.size + 2) (.slice (some ⟨g, 0, none⟩) bl.length cap1) bl (k + 1) w6 c') :=
        fun w6 c2 h => ⟨_, HC.out.step rfl hlt (HO.out.on HB0.out) HB2.out HO2.out HB4.out h⟩
      have HINS : Hid (∀ m (h : m < bl[k].code.length), In.ok w bl[k].code[m]) := fun m h => HO.out.ins _ (List.getElem_mem h)
      clear HT36 HT37 c0 c1 c2 c3 x0 x3 xf y0 y0f hgf f0 f1 f2 f3 f4 r0 r1 r2 r3 r4 hfr h4 h4f HO
      generalize (w2.setCell ⟨g, k * 4 + 3, none⟩ (.slice ta bl[k].to.length tcap)).heap.size = B2 at *
      generalize (w4.setCell ⟨g, k * 4, none⟩ (.slice ao2 bl[k].code.length cap2)) = W5 at *
      generalize bl[k].code = code at *
      go_loopw [42] (fun i wr' => ∃ (m : Nat) (c2 : List In), m ≤ code.length ∧ i = .int .i64 m ∧ CI W5 B2 (.slice ao2 code.length cap2) code m wr' c2) (fun i _ => code.length - (intOf i).toNat)
      case atStart => exact ⟨0, code, Nat.zero_le _, rfl, CI.start HOI.out⟩
      case round =>
        obtain ⟨m, c2, hmk, rfl, hM⟩ := hrel
        have HM := hid' hM
        have hB6 : Below w.heap.size w wr := HB5.out.trans (hM.kept.below HB5.out.size (fun j e => by have := (hM.lt j e).1; rw [e3.out] at this; omega))
        have HB6 := hid' hB6
        have i0 : wr.cell? ⟨g, k * 4, none⟩ = some (.slice ao2 code.length cap2) := (hM.kept.cell (by rw [e5.out]; omega) (fun e => by have := (hM.lt g e).1; rw [e3.out] at this; omega)).trans w0
        clear hM hB6 w0
        by_cases hmt : m < code.length
        · obtain ⟨h, rfl, hh1, hh2, hh3, hhc, a2, a6, ahf⟩ := HM.out.at_ rfl hmt
          have hi := HINS.out m hmt
          have HI := hid' hi
          have HA36 : Hid (∀ W, Below wr.heap.size wr W → Calls Try.prog 36 #[code[m].av] W fun e w' => ∃ v', e = .returned v' ∧ Own 3 1 icell w' W.heap.size v' code[m].args ∧ Below W.heap.size W w') := fun W hW => copyList36 (HI.out.a.on (below_up HB6.out hW)) HI.out.al
          have HP36 : Hid (∀ W, Below w.heap.size w W → Calls Try.prog 36 #[code[m].pv] W fun e w' => ∃ v', e = .returned v' ∧ Own 3 1 icell w' W.heap.size v' code[m].pred ∧ Below W.heap.size W w') := fun W hW => copyList36 (HI.out.p.on hW) HI.out.pl
          obtain ⟨au, ac, ea⟩ := hi.a.len
          obtain ⟨pu, pc, ep⟩ := hi.p.len
          have hwh : w.heap.size ≤ h := by have := e3.out; have := HB0.out.size; omega
          rw [ea] at a2 HA36
          rw [ep] at a6 HP36
          have hal := hi.al
          have hpl := hi.pl
          unfold big at hal hpl
          clear hi ea ep
          go_wp2_with (first
            | (go_at_call 36; refine (HP36.out _ HB9.out).mono ?_; rintro e8 w8 ⟨p1, rfl, ho8, hb8⟩; obtain ⟨pa, pcap, rfl⟩ := (ho8.src ic1).len; have HO8 := hid' ho8; have HB8 := hid' hb8; obtain ⟨z6, z6f⟩ := row_after HB7.out hb8 hh3 (b := m * 7 + 6) (by omega) a6 ahf; clear ho8 hb8)
            | (go_at_call 36; refine (HA36.out _ (Below.refl _ _)).mono ?_; rintro e7 w7 ⟨a1, rfl, ho7, hb7⟩; obtain ⟨aa, acap, rfl⟩ := (ho7.src ic1).len; have HO7 := hid' ho7; have HB7 := hid' hb7; obtain ⟨hc7, hf7⟩ := bcell hb7; have z2 := (hc7 h (m * 7 + 2) hh3).trans a2; have x6 := (hc7 h (m * 7 + 6) hh3).trans a6; have zf := fun j => (hf7 h j hh3).trans (ahf j); have hs7 := hb7.size; have HB9 := hid' (below_set (a := m * 7 + 2) (t := .slice aa code[m].args.length acap) HB6.out hb7 hwh); clear ho7 hb7 hc7 hf7))
          go_roundw
          case rel => exact ⟨m + 1, _, by omega, by go_num, HM.out.step rfl hmt (HI.out.on HB6.out) HB7.out HO7.out HB8.out HO8.out⟩
          case measure => simp [intOf]; omega
        · have e : m = code.length := by omega
          subst e
          obtain ⟨c', hc'⟩ := HSTEP.out _ _ HM.out
          go_wp2_with fail
          go_roundw
          case rel => exact ⟨k + 1, c', by omega, by go_num, hc'⟩
          case measure => simp [intOf]; omega
    · have e : k = bl.length := by omega
      subst e
      obtain ⟨hlike, hown⟩ := CO.own (C := w.heap.size + 2) (x := ⟨nm, ps, rs, sl, .slice ao bl.length cap, bl⟩) HC.out (Nat.le_refl _) (by have := HB1.out.size; simp [World.setCell] at this ⊢; omega) HLB.out HNL.out
      have HL := hid' hlike
      have HOW := hid' hown
      clear hlike hown
      go_wp2_with fail
      have K : Kept (fun k => k = w.heap.size + 1) wr (((((wr.setCell ⟨w.heap.size + 1, 0, none⟩ (.string nm)).setCell ⟨w.heap.size + 1, 1, none⟩ (.int .i64 ps)).setCell ⟨w.heap.size + 1, 2, none⟩ (.int .i64 rs)).setCell ⟨w.heap.size + 1, 3, none⟩ (.int .i64 sl)).setCell ⟨w.heap.size + 1, 4, none⟩ (.slice ao1 bl.length cap1)) :=
        (((((Kept.rfl (fun k => k = w.heap.size + 1) wr).set (.inl rfl) _).set (.inl rfl) _).set (.inl rfl) _).set (.inl rfl) _).set (.inl rfl) _
      refine bodyPost_ret (v := .agg #[.string nm, .int .i64 ps, .int .i64 rs, .int .i64 sl, .slice ao1 bl.length cap1]) (by simp [results, Try.results19, go_sem, r0, r1, r2, r3, r4]) rfl ⟨⟨nm, ps, rs, sl, .slice ao1 bl.length cap1, c⟩, rfl, HL.out, (HOW.out.kept K (fun k a _ e => by omega)).lower (by omega), ?_⟩
      exact HB0.out.trans (K.below HB0.out.size (fun k e => by omega))
end Go.Proofs.Ythnbnilammjceaa
