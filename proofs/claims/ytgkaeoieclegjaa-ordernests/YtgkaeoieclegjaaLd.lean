/- isGreat, with what it says of the blocks. Loops. -/
import Derived.Test.YtgkaeoieclegjaaEw
import Derived.Test.YtgkaeoieclegjaaLc
namespace Go.Proofs.Ytgkaeoieclegjaa
section
open Go Go.RowKit Go.Maps
set_option linter.unusedVariables false
set_option linter.unusedSimpArgs false
set_option maxRecDepth 20000 in
set_option maxHeartbeats 8000000 in
theorem isGreat32b {w : World} {f : Fn} (h : Fn.ok w f) : Calls Try.prog 32 #[f.val] w fun e w' => ∃ R : Bool, e = .returned (.bool R) ∧ Below w.heap.size w w' ∧ (f.blocks.length ≤ 4096 → edgesF f.blocks ≤ 8192 → R = false) ∧ (R = false → f.blocks.length ≤ 4096) := by
  obtain ⟨nm, ps, rs, sl, bv, bl⟩ := f
  obtain ⟨hb, hbl, _, hbs⟩ := h
  dsimp only at *
  obtain ⟨ao, cap, rfl, hf⟩ := hb.form bl4
  have HF := hid' hf
  have HS := hid' hbs
  unfold big at hbl
  unfold Fn.val
  dsimp only
  clear hb hf hbs
  go_enter Try.func32, Try.ntmps32
  obtain ⟨w0, ew0⟩ : ∃ w0, w0 = w.alloc (.cells #[.string nm, .int .i64 ps, .int .i64 rs, .int .i64 sl, .slice ao bl.length cap] 24) := ⟨_, rfl⟩
  have hb0 : Below w.heap.size w w0 := by rw [ew0]; exact below1 _ _
  have hC : Hid (∀ W : World, Below w0.heap.size w0 W → W.cell? ⟨w.heap.size, 4, none⟩ = some (.slice ao bl.length cap)) := fun W hW => by
    rw [ew0] at hW
    obtain ⟨_, _, m0, m1, m2, m3, m4⟩ := fbox (W := W) (w := w) (T := 24) hW
    exact m4
  have HB0 := hid' hb0
  go_upto_region 1 with fail
  rw [← ew0]
  clear ew0 hb0
  have k4 := hC.out w0 (Below.refl _ _)
  go_wp2_with fail
  go_loopw [3, 9] (fun ev iv wr => ∃ (k : Nat) (x : Int), k ≤ bl.length ∧ iv = .int .i64 k ∧ ev = .int .i64 x ∧ (-9223372036854775808 ≤ x ∧ x ≤ 9223372036854775807) ∧ (edgesF (bl.take k) ≤ 8192 → x = edgesF (bl.take k)) ∧ Below w0.heap.size w0 wr) (fun _ iv _ => bl.length - (intOf iv).toNat)
  case atStart => exact ⟨0, 0, Nat.zero_le _, rfl, rfl, by omega, fun _ => rfl, Below.refl _ _⟩
  case round =>
    obtain ⟨k, x, hk, rfl, rfl, hx, hxe, hbr⟩ := hrel
    have HXE := hid' hxe
    have HB := hid' hbr
    have k4 := hC.out wr hbr
    clear hxe hbr
    by_cases hkl : k < bl.length
    · obtain ⟨b, o, rfl, hb1, hc1, hbx⟩ := HF.out k hkl
      have hWr : Below w.heap.size w wr := HB0.out.trans (HB.out.mono HB0.out.size)
      obtain ⟨c0, c1, c2, c3⟩ := bl_cells (hbx wr hWr)
      have hok := HS.out _ (List.getElem_mem hkl)
      obtain ⟨tt, tc, ett⟩ := hok.t.len
      obtain ⟨cao, ccap, ecc⟩ := hok.c.len
      have htl := hok.tl
      rw [ett] at c3
      rw [ecc] at c0
      have HSN := hid' (edgesF_snoc bl k hkl)
      unfold big at htl
      clear hbx hok ett ecc
      generalize bl[k].to.length = tl at *
      go_wp2_with fail
      have HB3 := below_up HB.out (below1 wr (.cells #[.slice cao bl[k].code.length ccap, .int .i64 bl[k].en, .int .i64 bl[k].arg, .slice tt tl tc] 45))
      refine ⟨⟨k + 1, wrap64 (x + tl), by omega, by go_num, rfl, by simp only [wrap64]; omega, fun he => ?_, HB3⟩, by simp [intOf]; omega⟩
      rw [HSN.out] at he ⊢
      have h1 := HXE.out (by omega)
      rw [h1]
      simp only [wrap64]
      omega
    · have ek : k = bl.length := by omega
      subst ek
      rw [List.take_length] at HXE
      have HB2 := hid' (HB0.out.trans (HB.out.mono HB0.out.size))
      go_wp2_with fail
      · go_ret
        refine ⟨_, rfl, HB2.out, fun h1 h2 => ?_, fun h => ?_⟩
        · have h3 := HXE.out h2
          have e1 : ¬ (4096 : Int) < bl.length := by omega
          have e2 : ¬ (8192 : Int) < x := by omega
          simp [e1, e2]
        · apply Classical.byContradiction
          intro hno
          have e1 : (4096 : Int) < bl.length := by omega
          simp [e1] at h
      · go_ret
        exact .inr ⟨rfl, HB2.out, fun h => by omega⟩
end
section
open Go Go.RowKit Go.Maps
set_option linter.unusedVariables false
set_option linter.unusedSimpArgs false
/-- A loop: its header, where its blocks lie. -/
structure Lo where
  h : Nat
  sv : Value
def Lo.cells (x : Lo) : List Value := [.int .i64 x.h, x.sv]
theorem lo2 (x : Lo) : (Lo.cells x).length = 2 := rfl
theorem infL : (Try.prog.info? 41).map (fun i => (i.zero, i.size, i.bytes)) = some (some (.agg #[.int .i64 0, .slice none 0 0]), 2, 32) := by kernel_rfl
/-- Loops in memory. -/
structure LoG (bl : List Bl) (B : Nat) (v : Value) (ls : List Lo) (W : World) : Prop where
  own : Own 41 2 Lo.cells W B v ls
  el : ∀ x, x ∈ ls → Own 3 1 icell W B x.sv (inL (LoopIn bl x.h) bl.length)
theorem LoG.on {bl : List Bl} {B : Nat} {v : Value} {ls : List Lo} {W W' : World} (h : LoG bl B v ls W) (hb : Below W.heap.size W W') : LoG bl B v ls W' :=
  ⟨(Kept.of_below (S := fun _ => False) hb).owns h.own (fun _ _ e => e), fun x hx => (Kept.of_below (S := fun _ => False) hb).owns (h.el x hx) (fun _ _ e => e)⟩
theorem LoG.app {bl : List Bl} {B q hd : Nat} {v sv : Value} {ls : List Lo} {W : World} (h : LoG bl B v ls W) (hB : B ≤ W.heap.size) (hs : Own 3 1 icell W B sv (inL (LoopIn bl hd) bl.length)) (hq : W.heap[q]? = some (.cells #[.int .i64 hd, sv] 41 (0, 0))) (hl : (ls.length + 1) * 32 ≤ 140737488355328) :
    ∃ b cap w', (∀ ty, (Builtin.append_ #[38, 38] ty #[v, .slice (some ⟨q, 0, none⟩) 1 1]).run Try.prog W = .ok (.slice (some ⟨b, 0, none⟩) (ls.length + 1) cap) w') ∧ LoG bl B (.slice (some ⟨b, 0, none⟩) (ls.length + 1) cap) (ls ++ [⟨hd, sv⟩]) w' ∧ Below B W w' := by
  have hqlt := (Array.getElem?_eq_some_iff.1 hq).1
  have hsrc : Src Lo.cells W (.slice (some ⟨q, 0, none⟩) 1 1) [⟨hd, sv⟩] := .inr ⟨q, 0, 1, rfl, hqlt, Nat.le_refl _, fun j u hj => by
    rw [Nat.zero_add, cell_of_row W q j _ 41 (0, 0) hq]
    simpa [flat, Lo.cells] using hj⟩
  obtain ⟨ao, cp, esv, _⟩ := own_len hs
  obtain ⟨v', w', h1, h2, h3, h4⟩ := append_own2 (f := Lo.cells) (st := 38) (et := 41) (bytes := 32) lo2 (base := B) (w := W) (v := v) (x := .slice (some ⟨q, 0, none⟩) 1 1) (m := [⟨hd, sv⟩]) (fun y hy u hu => by
    obtain rfl := List.mem_singleton.1 hy
    simp only [Lo.cells, List.mem_cons, List.not_mem_nil, or_false] at hu
    rcases hu with rfl | rfl
    · rfl
    · rw [esv]; rfl) Try.underlying38 infL rfl (by decide) h.own hsrc (by simp only [List.length_singleton]; omega) (by simp only [List.length_singleton]; unfold maxLen; omega) hB 38
  have h2' := h2
  unfold Own at h2'
  rw [List.length_append, List.length_singleton] at h2'
  obtain ⟨b, cap, rfl⟩ := own_form h2'
  have K := grown_kept h3
  refine ⟨b, cap, w', fun ty => h1, ⟨h2, fun x hx => ?_⟩, K.below hB (fun k e => (World.ownsRow.lt h.own k e).1)⟩
  rcases List.mem_append.1 hx with hx | hx
  · exact own_ty2 (h.el x hx) h.own (by decide) K
  · obtain rfl := List.mem_singleton.1 hx
    exact own_ty2 hs h.own (by decide) K
theorem own_lower {W : World} {B B' : Nat} {e : TypeId} {z n : Nat} {v : Value} {xs : List Value} (h : W.ownsRow B e z v n xs) (hB : B' ≤ B) : W.ownsRow B' e z v n xs := by
  refine ⟨h.1, ?_⟩
  rcases h.2 with h2 | ⟨g, cap, cur, e1, hb, h3⟩
  · exact .inl h2
  · exact .inr ⟨g, cap, cur, e1, Nat.le_trans hB hb, h3⟩
/-- A loop has its header at h. -/
def Hb (bl : List Bl) (h : Nat) : Prop := ∃ p, BackE bl h p
/-- What Loops tells. -/
def LoR (bl : List Bl) (w : World) (e : Ending) (w' : World) : Prop :=
  (e = .returned (.slice none 0 0) ∧ ¬ (bl.length ≤ 4096 ∧ edgesF bl ≤ 8192) ∧ Below w.heap.size w w') ∨
  (∃ (v : Value) (ls : List Lo) (B : Nat), e = .returned v ∧ LoG bl B v ls w' ∧ ls.map (fun x => (x.h : Int)) = inL (Hb bl) bl.length ∧ Below w.heap.size w w')
/-- Both calls of the region. -/
structure LgC (bl : List Bl) (w1 : World) (s : Option (Nat × (Nat → Option Nat)) × Option (Nat × List Value)) (W : World) : Prop where
  below : Below w1.heap.size w1 W
  doms : ∀ q D, s.1 = some (q, D) → RowI W q bl.length (fun b => oi (D b)) ∧ DomOk bl D
  preds : ∀ rg vr, s.2 = some (rg, vr) → ∃ B, PM W B rg vr (rpF bl)
theorem LgC.on {bl : List Bl} {w1 : World} {s : Option (Nat × (Nat → Option Nat)) × Option (Nat × List Value)} {W W' : World} (h : LgC bl w1 s W) (hb : Below W.heap.size W W') : LgC bl w1 s W' :=
  ⟨below_on h.below hb h.below.size, fun q D e => ⟨(h.doms q D e).1.on hb, (h.doms q D e).2⟩, fun rg vr e => by
    obtain ⟨B, hP⟩ := h.preds rg vr e
    exact ⟨B, hP.on hb⟩⟩
theorem LgC.one {bl : List Bl} {w1 : World} {s2 : Option (Nat × List Value)} {W W' : World} {q : Nat} {D : Nat → Option Nat} (h : LgC bl w1 (none, s2) W) (hb : Below W.heap.size W W') (hR : RowI W' q bl.length (fun b => oi (D b))) (hD : DomOk bl D) : LgC bl w1 (some (q, D), s2) W' :=
  ⟨below_on h.below hb h.below.size, fun q' D' e => (by injection e with e; injection e with e1 e2; subst e1 e2; exact ⟨hR, hD⟩), fun rg vr e => by
    obtain ⟨B, hP⟩ := h.preds rg vr e
    exact ⟨B, hP.on hb⟩⟩
theorem LgC.two {bl : List Bl} {w1 : World} {s1 : Option (Nat × (Nat → Option Nat))} {W W' : World} {B rg : Nat} {vr : List Value} (h : LgC bl w1 (s1, none) W) (hb : Below W.heap.size W W') (hP : PM W' B rg vr (rpF bl)) : LgC bl w1 (s1, some (rg, vr)) W' :=
  ⟨below_on h.below hb h.below.size, fun q D e => ⟨(h.doms q D e).1.on hb, (h.doms q D e).2⟩, fun rg' vr' e => (by injection e with e; injection e with e1 e2; subst e1 e2; exact ⟨B, hP⟩)⟩
set_option maxRecDepth 20000 in
set_option maxHeartbeats 16000000 in
theorem loops20 {w : World} {f : Fn} (h : Fn.ok w f) : Calls Try.prog 20 #[f.val] w (LoR f.blocks w) := by
  have H32 : Hid (∀ W, Below w.heap.size w W → _) := fun W hW => isGreat32b (h.on hW)
  have H10 : Hid (∀ W, Below w.heap.size w W → Calls Try.prog 10 #[f.val] W (DomsR f.blocks W)) := fun W hW => doms10a (h.on hW)
  have H28 : Hid (∀ W, Below w.heap.size w W → Calls Try.prog 28 #[f.val] W (RpR f.blocks W)) := fun W hW => rpreds28 (h.on hW)
  have hbl := h.bl
  obtain ⟨nm, ps, rs, sl, bv, bl⟩ := f
  obtain ⟨bo, bc, eb⟩ := h.b.len
  dsimp only at *
  subst eb
  have hbl2 := hbl
  unfold big at hbl
  unfold Fn.val at *
  dsimp only at *
  clear h
  obtain ⟨w0, ew0⟩ : ∃ w0, w0 = w.alloc (.cells #[.string nm, .int .i64 ps, .int .i64 rs, .int .i64 sl, .slice bo bl.length bc] 24) := ⟨_, rfl⟩
  have HW0 := hid' ew0
  have HB0 : Hid (Below w.heap.size w w0) := by unfold Hid; rw [ew0]; exact below1 _ _
  have HBX : Hid (∀ W, Below w0.heap.size w0 W → _) := fun W hW => fbox (w := w) (W := W) (by rw [← ew0]; exact hW)
  clear ew0
  go_enter Try.func20, Try.ntmps20
  go_upto_region 1 with fail
  rw [← HW0.out]
  obtain ⟨_, _, i0, i1, i2, i3, i4⟩ := HBX.out w0 (Below.refl _ _)
  have h32 := hid' (H32.out w0 HB0.out)
  go_upto_region 3 with (go_at_call 32; refine h32.out.mono ?_; rintro e1 w1 ⟨R, rfl, hb1, hR, hR2⟩; have HB1 := hid' hb1; have HR := hid' hR; have HRN := hid' hR2; clear hb1 hR hR2; cases R)
  rotate_left 1
  · go_wp2_with fail
    go_ret
    exact .inl ⟨rfl, fun h => (by have := HR.out h.1 h.2; cases this), below_up HB0.out HB1.out⟩
  · have hsmall : bl.length ≤ 4096 := HRN.out (by first | rfl | trivial)
    clear i0 i1 i2 i3 i4 HR h32 HRN
    have hne := after_some w1
    have HXA : ∀ q : After w1, _ := fun q => HBX.out q.1 (below_on HB1.out q.2 HB1.out.size)
    have r0 := fun q : After w1 => (HXA q).2.2.1
    have r1 := fun q : After w1 => (HXA q).2.2.2.1
    have r2 := fun q : After w1 => (HXA q).2.2.2.2.1
    have r3 := fun q : After w1 => (HXA q).2.2.2.2.2.1
    have r4 := fun q : After w1 => (HXA q).2.2.2.2.2.2
    go_cut [3, 4] (fun av bv wx => ∃ q D rg vr, av = .slice (some ⟨q, 0, none⟩) bl.length bl.length ∧ bv = .slice (some ⟨rg, 0, none⟩) bl.length bl.length ∧ LgC bl w1 (some (q, D), some (rg, vr)) wx)
    case first =>
      refine region_pick (LgC bl w1) (none, none) 4 2 (fun k => decide (k ≠ 1 ∧ k ≠ 3)) [0, 2] mixed (by kernel_rfl) (by kernel_rfl) (by kernel_rfl) (by simp) rfl (by decide) (by kernel_rfl) ⟨bdw' (Below.refl _ _), fun _ _ e => (by cases e), fun _ _ e => (by cases e)⟩ (fun s W h => h.below) (fun s W W' h hb => h.on hb) (fun _ => ?_)
      simp only [List.filterMap_cons, List.filterMap_nil, List.getElem?_cons_zero, List.getElem?_cons_succ]
      repeat (
        refine wpFreeB_step (fun K hK => ?_)
        go_simp
        first
          | (refine hK _ ?_; clear hK K)
          | (apply Exists.intro
             refine ⟨fun _ => ?_, hK _ ?_⟩
             (with_reducible rfl)
             clear hK K))
      refine wpFreeB_nil ?_
      refine headF_step [1] (by kernel_rfl) (by simp) (fun i hi => ?_)
      obtain rfl : i = 1 := by simpa using hi
      refine ⟨by omega, .inl ⟨by decide, _, rfl, by simp [Region.wanted], fun w5 hw => ?_⟩⟩
      refine .inr ⟨10, #[.agg #[.string nm, .int .i64 ps, .int .i64 rs, .int .i64 sl, .slice bo bl.length bc]], ?_, (H10.out _ (below_up HB0.out (below_on HB1.out hw.below HB1.out.size))).mono ?_⟩
      · simp [execOp, resolve, invoke, Act.eval, Act.put, Deferred.ofValue, go_sem, Try.func10]
      rintro e3 w3 ⟨q, D, rfl, _, hRI, hDO, hb3⟩
      refine ⟨_, (some (q, D), none), rfl, LgC.one hw hb3 hRI hDO, ?_⟩
      clear hRI hDO hb3 hw
      refine headF_step [3] (by kernel_rfl) (by simp) (fun i hi => ?_)
      obtain rfl : i = 3 := by simpa using hi
      refine ⟨by omega, .inl ⟨by decide, _, rfl, by simp [Region.wanted], fun w5 hw => ?_⟩⟩
      refine .inr ⟨28, #[.agg #[.string nm, .int .i64 ps, .int .i64 rs, .int .i64 sl, .slice bo bl.length bc]], ?_, (H28.out _ (below_up HB0.out (below_on HB1.out hw.below HB1.out.size))).mono ?_⟩
      · simp [execOp, resolve, invoke, Act.eval, Act.put, Deferred.ofValue, go_sem, Try.func28]
      rintro e4 w4 ⟨rg, vr, rfl, hPR, hb4⟩
      refine ⟨_, (some (q, D), some (rg, vr)), rfl, LgC.two hw hb4 hPR, ?_⟩
      clear hPR hb4 hw
      refine ⟨by kernel_rfl, fun w9 hw9 => ?_⟩
      have HW9 := hid' hw9
      clear hw9
      go_wp2_with fail
      go_meet
      exact ⟨q, D, rg, vr, rfl, rfl, HW9.out⟩
    case rest =>
      obtain ⟨q, D, rg, vr, rfl, rfl, hC⟩ := hcut
      obtain ⟨hRI, hDO⟩ := hC.doms q D rfl
      obtain ⟨Bp, hPR⟩ := hC.preds rg vr rfl
      have HRI := hid' hRI
      have HDO := hid' hDO
      have HPR := hid' hPR
      have HBC := hid' (below_on HB1.out hC.below HB1.out.size)
      obtain ⟨_, _, c0, c1, c2, c3, c4⟩ := HBX.out wc HBC.out
      clear hRI hDO hPR hC r0 r1 r2 r3 r4 HXA
      go_wp2_with fail
      go_loopw [5, 17] (fun lv iv wr => ∃ (k : Nat) (ls : List Lo) (ou : Value), ou = lv ∧ k ≤ bl.length ∧ iv = .int .i64 k ∧ LoG bl wc.heap.size ou ls wr ∧ ls.map (fun x => (x.h : Int)) = inL (Hb bl) k ∧ Below wc.heap.size wc wr) (fun _ iv _ => bl.length - (intOf iv).toNat)
      case atStart => exact ⟨0, [], _, rfl, Nat.zero_le _, rfl, ⟨World.ownsRow_nil _ _ _ _, fun x hx => by simp at hx⟩, rfl, Below.refl _ _⟩
      case round =>
        obtain ⟨k, ls, ou, rfl, hk, rfl, hL, hls, hB⟩ := hrel
        have HL := hid' hL
        have HLS := hid' hls
        have HB := hid' hB
        clear hL hls hB
        by_cases hkn : k < bl.length
        · have h35 := back35 HDO.out (HRI.out.on HB.out) (HPR.out.on HB.out) hbl2 hkn
          have H35 := hid' h35
          have hlsl : ls.length ≤ 4096 := by
            have h1 := congrArg List.length HLS.out
            rw [List.length_map] at h1
            have h2 := inL_len (Hb bl) k
            omega
          clear h35
          go_upto_region 9 with (go_at_call 35; refine H35.out.mono ?_; rintro e5 w5 ⟨v5, l5, rfl, hO5, hl5, hm5, hb5⟩)
          have HO5 := hid' hO5
          have HB5 := hid' hb5
          obtain ⟨ao5, cp5, ev5, _⟩ := own_len hO5
          rw [ints_len] at ev5
          subst ev5
          by_cases h0 : l5.length = 0
          · have hno : ¬ Hb bl k := fun ⟨p, hp⟩ => by
              have := (hm5 p).2 hp
              rw [List.eq_nil_of_length_eq_zero h0] at this
              simp at this
            have HN : Hid (ls.map (fun x => (x.h : Int)) = inL (Hb bl) (k + 1)) := by unfold Hid; rw [inL_no hno]; exact HLS.out
            have HL5 := hid' (HL.out.on hb5)
            have t1 : ¬ ((0 : Int) < (l5.length : Int)) := by omega
            clear hO5 hb5 hno hm5
            go_wp2_with fail
            go_roundw
            case rel => exact ⟨k + 1, ls, _, rfl, by omega, by go_num, HL5.out, HN.out, below_on HB.out HB5.out HB.out.size⟩
            case measure => simp [intOf]; omega
          · have hyes : Hb bl k := by
              obtain ⟨p, hp⟩ := List.exists_mem_of_length_pos (by omega : 0 < l5.length)
              exact ⟨p, (hm5 p).1 hp⟩
            have h36 := body36 (HPR.out.on HB.out) hsmall hkn hb5 hO5 hl5 hm5
            have H36 := hid' h36
            have HN : Hid (ls.map (fun x => (x.h : Int)) ++ [(k : Int)] = inL (Hb bl) (k + 1)) := by unfold Hid; rw [inL_yes hyes, HLS.out]
            have t1 : ((0 : Int) < (l5.length : Int)) := by omega
            clear hO5 hb5 hyes hm5 h36
            go_wp2_with (first | (go_at_call 36; refine H36.out.mono ?_; rintro e6 w6 ⟨v6, rfl, hO6, hb6⟩; have HO6 := hid' hO6; have HB6 := hid' hb6; obtain ⟨ao6, cp6, ev6, _⟩ := own_len hO6; subst ev6; clear hO6 hb6) | (at_builtin; refine of_mark ?_))
            unfold Mark
            obtain ⟨wq, ewq⟩ : ∃ wq, wq = w6.alloc (.cells #[.int .i64 (k : Int), .slice ao6 (inL (LoopIn bl k) bl.length).length cp6] 41) := ⟨_, rfl⟩
            have hbq : Below w6.heap.size w6 wq := by rw [ewq]; exact below1 _ _
            have hqq : wq.heap[w6.heap.size]? = some (.cells #[.int .i64 (k : Int), .slice ao6 (inL (LoopIn bl k) bl.length).length cp6] 41 (0, 0)) := by rw [ewq]; exact heap_alloc_new _ _
            have hB6 := below_on HB.out HB6.out HB.out.size
            have hBq := below_on hB6 hbq hB6.size
            obtain ⟨b7, cap7, w7, hr7, hL7, hB7⟩ := ((HL.out.on HB6.out).on hbq).app hBq.size ((Kept.of_below (S := fun _ => False) hbq).owns (own_lower HO6.out HB.out.size) (fun _ _ e => e)) hqq (by omega)
            have HN7 : Hid ((ls ++ [(⟨k, .slice ao6 (inL (LoopIn bl k) bl.length).length cp6⟩ : Lo)]).map (fun x : Lo => (x.h : Int)) = inL (Hb bl) (k + 1)) := by
              unfold Hid
              rw [List.map_append, ← HN.out]
              rfl
            have HR7 := hid' (hr7 38)
            rw [ewq] at HR7
            have HL7 := hid' hL7
            have HB7 := hid' (hBq.trans hB7)
            clear hbq hqq hB6 hBq hr7 hL7 hB7 ewq
            generalize (inL (LoopIn bl k) bl.length).length = fl at *
            refine wpList_append_run rfl (.tmp 27) (.tmp 34) rfl ou (.slice (some ⟨w6.heap.size, 0, none⟩) 1 1) _ (by rfl) (by rfl) HR7.out ?_
            go_wp2_with fail
            go_roundw
            case rel => exact ⟨k + 1, _, _, rfl, by omega, by go_num, HL7.out, HN7.out, HB7.out⟩
            case measure => simp [intOf]; omega
        · have e : k = bl.length := by omega
          subst e
          have hfin := below_up HB0.out (below_on HBC.out HB.out HBC.out.size)
          go_wp2_with fail
          go_ret
          exact .inr ⟨ou, ls, wc.heap.size, rfl, HL.out, HLS.out, hfin⟩
end
end Go.Proofs.Ytgkaeoieclegjaa
