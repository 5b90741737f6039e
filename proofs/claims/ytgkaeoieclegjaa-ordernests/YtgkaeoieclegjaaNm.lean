/- The document's Loops: what its rounds keep. The document's Loops: the walk. The law OrderLoops. Loops that meet; the law OrderNests. The law OrderNests. -/
import Derived.Test.YtgkaeoieclegjaaLd
import Derived.Test.YtgkaeoieclegjaaFi
namespace Go.Proofs.Ytgkaeoieclegjaa
section
section
open Go Go.RowKit Go.Maps
set_option linter.unusedVariables false
set_option linter.unusedSimpArgs false
/-- The sources of back edges among the first i predecessors. -/
def Sr (bl : List Bl) (h : Nat) (pl : List Int) (i x : Nat) : Prop := (∃ j, j < i ∧ pl[j]? = some (x : Int)) ∧ TabB bl h x
theorem sr_next {bl : List Bl} {h i p x : Nat} {pl : List Int} (hp : pl[i]? = some (p : Int)) : Sr bl h pl (i + 1) x ↔ Sr bl h pl i x ∨ (x = p ∧ TabB bl h p) := by
  constructor
  · rintro ⟨⟨j, hj, hx⟩, ht⟩
    by_cases e : j = i
    · subst e
      rw [hp] at hx
      injection hx with hx
      obtain rfl : x = p := by omega
      exact .inr ⟨rfl, ht⟩
    · exact .inl ⟨⟨j, by omega, hx⟩, ht⟩
  · rintro (⟨⟨j, hj, hx⟩, ht⟩ | ⟨rfl, ht⟩)
    · exact ⟨⟨j, by omega, hx⟩, ht⟩
    · exact ⟨⟨i, by omega, hp⟩, ht⟩
theorem sr_all {bl : List Bl} {h x : Nat} (hh : h < bl.length) : Sr bl h ((predsF bl).getD h []) ((predsF bl).getD h []).length x ↔ BackE bl h x := by
  constructor
  · rintro ⟨⟨j, hj, hx⟩, ht⟩
    obtain ⟨m, h1, h2, h3⟩ := (predsF_mem bl hh).1 (List.mem_of_getElem? hx)
    obtain rfl : x = m := by omega
    exact ⟨h1, h3, ht⟩
  · rintro ⟨h1, h2, ht⟩
    have hm : (x : Int) ∈ (predsF bl).getD h [] := (predsF_mem bl hh).2 ⟨x, h1, rfl, h2⟩
    obtain ⟨j, hj, e⟩ := List.getElem_of_mem hm
    exact ⟨⟨j, hj, by rw [List.getElem?_eq_getElem hj, e]⟩, ht⟩
/-- What the marks keep. -/
structure FxI (bl : List Bl) (h : Nat) (F : Nat → Bool) : Prop where
  yes : ∀ x, x < bl.length → F x = true → LoopIn bl h x
  head : F h = true
  back : ∀ p, BackE bl h p → F p = true
/-- Closed at b: among its first i predecessors. -/
def Cl (bl : List Bl) (h : Nat) (F : Nat → Bool) (b : Nat) (pl : List Int) (i : Nat) : Prop := F b = true → b ≠ h → ∀ j y : Nat, j < i → pl[j]? = some (y : Int) → WayB bl y → F y = true
/-- In the midst of a pass: it began with F0. -/
structure PaI (bl : List Bl) (h : Nat) (F0 F : Nat → Bool) (tu : Bool) (b : Nat) : Prop where
  fx : FxI bl h F
  up : tu = true → unm F bl.length < unm F0 bl.length
  same : tu = false → F = F0 ∧ ∀ b', b' < b → Cl bl h F b' ((predsF bl).getD b' []) ((predsF bl).getD b' []).length
  le : unm F bl.length ≤ unm F0 bl.length
theorem FxI.mark {bl : List Bl} {h b y : Nat} {F : Nat → Bool} (H : FxI bl h F) (hb : b < bl.length) (hF : F b = true) (hne : b ≠ h) (hy : y < bl.length) (he : (b : Int) ∈ succN bl y) (hw : WayB bl y) : FxI bl h (Dfs.upd F y true) := by
  have up : ∀ x, F x = true → Dfs.upd F y true x = true := fun x hx => by
    by_cases e : x = y
    · subst e; exact Dfs.upd_same _ _ _
    · rw [Dfs.upd_ne _ _ e]; exact hx
  refine ⟨fun x hx hFx => ?_, up h H.head, fun p hp => up p (H.back p hp)⟩
  by_cases e : x = y
  · subst e
    exact (H.yes b hb hF).pred hne hy he hw
  · rw [Dfs.upd_ne _ _ e] at hFx
    exact H.yes x hx hFx
theorem FxI.done {bl : List Bl} {h : Nat} {F : Nat → Bool} (H : FxI bl h F) (hh : h < bl.length) (hc : ∀ b, b < bl.length → Cl bl h F b ((predsF bl).getD b []) ((predsF bl).getD b []).length) {x : Nat} (hx : x < bl.length) : F x = true ↔ LoopIn bl h x := by
  refine ⟨H.yes x hx, fun hl => ?_⟩
  have := hl (fun y => F y = true ∧ y < bl.length) ⟨H.head, hh⟩ (fun p hp => ⟨H.back p hp, hp.1⟩) (fun b y hb hne hy he hw => by
    have hm : (y : Int) ∈ (predsF bl).getD b [] := (predsF_mem bl hb.2).2 ⟨y, hy, rfl, he⟩
    obtain ⟨j, hj, e⟩ := List.getElem_of_mem hm
    exact ⟨hc b hb.2 hb.1 hne j y hj (by rw [List.getElem?_eq_getElem hj, e]) hw, hy⟩)
  exact this.1
/-- What the document's Loops tells. -/
def LdR (bl : List Bl) (w : World) (e : Ending) (w' : World) : Prop :=
  ∃ (v : Value) (ls : List Lo) (B : Nat), e = .returned v ∧ LoG bl B v ls w' ∧ ls.map (fun x => (x.h : Int)) = inL (Hb bl) bl.length ∧ Below w.heap.size w w'
end
section
open Go Go.RowKit Go.Maps
set_option linter.unusedVariables false
set_option linter.unusedSimpArgs false
def boolV : Value → Nat
  | .bool true => 1
  | _ => 0
/-- What lies below: the table, what is reached, the predecessors. -/
structure LdM (bl : List Bl) (tg : Nat) (gs : Nat → Nat) (t : Nat → Nat → Bool) (rb pg : Nat) (W : World) : Prop where
  tab : TabM W bl.length bl.length tg gs t
  re : ∀ j, j < bl.length → W.cell? ⟨rb, j, none⟩ = some (.bool (reN bl j))
  pr : ∀ x, x < bl.length → ∃ ao cap, W.cell? ⟨pg, x, none⟩ = some (.slice ao ((predsF bl).getD x []).length cap) ∧ Src icell W (.slice ao ((predsF bl).getD x []).length cap) ((predsF bl).getD x [])
theorem LdM.on {bl : List Bl} {tg : Nat} {gs : Nat → Nat} {t : Nat → Nat → Bool} {rb pg : Nat} {W W' : World} (h : LdM bl tg gs t rb pg W) (hb : Below W.heap.size W W') : LdM bl tg gs t rb pg W' :=
  ⟨h.tab.on hb, fun j hj => keep_cell (h.re j hj) hb, fun x hx => by
    obtain ⟨ao, cap, h1, h2⟩ := h.pr x hx
    exact ⟨ao, cap, keep_cell h1 hb, h2.on hb⟩⟩
theorem LdM.el {bl : List Bl} {tg : Nat} {gs : Nat → Nat} {t : Nat → Nat → Bool} {rb pg : Nat} {W : World} (h : LdM bl tg gs t rb pg W) {x i : Nat} (hx : x < bl.length) (hi : i < ((predsF bl).getD x []).length) :
    ∃ pb poff cap p, W.cell? ⟨pg, x, none⟩ = some (.slice (some ⟨pb, poff, none⟩) ((predsF bl).getD x []).length cap) ∧ ((predsF bl).getD x []).length ≤ cap ∧ W.cell? ⟨pb, poff + i, none⟩ = some (.int .i64 (p : Nat)) ∧ ((predsF bl).getD x [])[i]? = some (p : Int) ∧ p < bl.length ∧ (x : Int) ∈ succN bl p := by
  obtain ⟨ao, cap, h1, h2⟩ := h.pr x hx
  obtain ⟨aoS, capS, eS, hcS⟩ := h2.ints
  injection eS with eS1 _ eS3
  subst eS1 eS3
  obtain ⟨pb, poff, rfl, _, hple, hpcell⟩ := hcS i hi
  have q0 := hpcell W (Below.refl _ _)
  obtain ⟨p, hpn, ep, hpe⟩ := (predsF_mem bl hx).1 (List.getElem_mem hi)
  rw [ep] at q0
  exact ⟨pb, poff, cap, p, h1, hple, q0, by rw [List.getElem?_eq_getElem hi, ep], hpn, hpe⟩
theorem preds_len {bl : List Bl} {x : Nat} (hx : x < bl.length) : ((predsF bl).getD x []).length ≤ bl.length + 1 := by
  have h1 : x < (predsF bl).length := by rw [predsF_len]; exact hx
  have e : (predsF bl).getD x [] = (predsF bl)[x] := by simp [h1]
  rw [e]
  exact (predsF_bound bl (List.getElem_mem h1)).2
set_option maxRecDepth 20000 in
set_option maxHeartbeats 16000000 in
theorem loops21 {w : World} {f : Fn} (h : Fn.ok w f) : Calls Try.prog 21 #[f.val] w (LdR f.blocks w) := by
  have H15 : Hid (∀ W, Below w.heap.size w W → Calls Try.prog 15 #[f.val] W (TabR f.blocks W)) := fun W hW => table15 (h.on hW)
  have H24 : Hid (∀ W, Below w.heap.size w W → Calls Try.prog 24 #[f.val] W (RchR f.blocks W)) := fun W hW => reached17 (h.on hW)
  have H34 : Hid (∀ W, Below w.heap.size w W → Calls Try.prog 34 #[f.val] W (PredR f.blocks W)) := fun W hW => preds15 (h.on hW)
  have hbl := h.bl
  obtain ⟨nm, ps, rs, sl, bv, bl⟩ := f
  obtain ⟨bo, bc, eb⟩ := h.b.len
  dsimp only at *
  subst eb
  have hbl2 := hbl
  unfold big at hbl
  unfold Fn.val at *
  dsimp only at *
  clear h
  obtain ⟨w0, ew0⟩ : ∃ w0, w0 = w.alloc (.cells #[.string nm, .int .i64 ps, .int .i64 rs, .int .i64 sl, .slice bo bl.length bc] 24) := ⟨_, rfl⟩
  have HW0 := hid' ew0
  have HB0 : Hid (Below w.heap.size w w0) := by unfold Hid; rw [ew0]; exact below1 _ _
  have HBX : Hid (∀ W, Below w0.heap.size w0 W → _) := fun W hW => fbox (w := w) (W := W) (by rw [← ew0]; exact hW)
  clear ew0
  go_enter Try.func21, Try.ntmps21
  go_upto_region 1 with fail
  rw [← HW0.out]
  obtain ⟨_, _, i0, i1, i2, i3, i4⟩ := HBX.out w0 (Below.refl _ _)
  go_upto_region 2 with (go_at_call 15; refine (H15.out _ HB0.out).mono ?_; rintro e1 w1 ⟨tg, tcap, gs, t, rfl, htc, hT, ht, hb1⟩; have HT := hid' hT; have Ht := hid' ht; have HB1 := hid' hb1; clear hT ht hb1)
  obtain ⟨_, _, j0, j1, j2, j3, j4⟩ := HBX.out w1 HB1.out
  clear i0 i1 i2 i3 i4
  go_upto_region 3 with (go_at_call 24; refine (H24.out _ (below_up HB0.out HB1.out)).mono ?_; rintro e1 w2 ⟨ra, rcap, rfl, hsrc, hb2, hge, B0, hown⟩; have HRO := hid' hown; have HB2 := hid' (below_up HB1.out hb2); have HT2 := hid' (HT.out.on hb2); clear hsrc hb2 hge hown)
  obtain ⟨_, _, i0, i1, i2, i3, i4⟩ := HBX.out w2 HB2.out
  clear j0 j1 j2 j3 j4
  go_upto_region 4 with (go_at_call 34; refine (H34.out _ (below_up HB0.out HB2.out)).mono ?_; rintro e1 w3 ⟨pg, vp, rfl, hP, hb3⟩; have HP := hid' hP; have HB3 := hid' (below_up HB2.out hb3); have HT3 := hid' (HT2.out.on hb3); have HRO3 := hid' ((Kept.of_below (S := fun _ => False) hb3).owns HRO.out (fun _ _ e => e)); clear hP hb3)
  obtain ⟨_, _, j0, j1, j2, j3, j4⟩ := HBX.out w3 HB3.out
  clear i0 i1 i2 i3 i4 HT HT2 HRO
  have hrl := reach_len bl
  have hppl : (predsF bl).length = bl.length := predsF_len bl
  by_cases hn0 : bl.length = 0
  · have t1 : ¬ ((0 : Int) < (bl.length : Int)) := by omega
    have ho4 : Own 41 2 Lo.cells (w3.alloc (.cells #[] 41)) w3.heap.size (.slice (some ⟨w3.heap.size, 0, none⟩) 0 0) [] := ⟨rfl, .inr ⟨w3.heap.size, 0, #[], rfl, Nat.le_refl _, heap_alloc_new _ _, Nat.le_refl _, Nat.zero_le _, by simp, by simp; rfl⟩⟩
    have HO4 := hid' ho4
    have HNL : Hid (([] : List Lo).map (fun x : Lo => (x.h : Int)) = inL (Hb bl) bl.length) := by unfold Hid; rw [hn0]; rfl
    obtain ⟨_, _, k0, k1, k2, k3, k4⟩ := HBX.out _ (below_up HB3.out (below1 w3 (.cells #[] 41)))
    clear ho4
    go_wp2_with fail
    go_loopw [6, 7] (fun lv iv wr => lv = .slice (some ⟨w3.heap.size, 0, none⟩) 0 0 ∧ iv = .int .i64 0 ∧ wr = w3.alloc (.cells #[] 41)) (fun _ _ _ => 0)
    case atStart => exact ⟨rfl, rfl, rfl⟩
    case round =>
      obtain ⟨rfl, rfl, rfl⟩ := hrel
      have hfin := below_up HB0.out (below_up HB3.out (below1 w3 (.cells #[] 41)))
      go_wp2_with fail
      go_ret
      exact ⟨_, [], w3.heap.size, rfl, ⟨HO4.out, fun x hx => by simp at hx⟩, HNL.out, hfin⟩
  · have hrw : ∃ rb, ra = some ⟨rb, 0, none⟩ ∧ bl.length ≤ rcap ∧ LdM bl tg gs t rb pg w3 := by
      obtain ⟨rb, rbc, era, hrb, hrble, hrbcell⟩ := own_cells4 HRO3.out hrl (by omega)
      refine ⟨rb, era, hrble, HT3.out, fun j hj => hrbcell j hj, fun x hx => ?_⟩
      obtain ⟨ao, cap, _, h1, h2⟩ := HP.out.read (k := x) (by omega)
      have e : (predsF bl).getD x [] = (predsF bl)[x] := by simp [hppl, hx]
      rw [e]
      exact ⟨ao, cap, h1, h2⟩
    obtain ⟨rb, rfl, hrble, hLM⟩ := hrw
    have HLM := hid' hLM
    have ho4 : Own 41 2 Lo.cells (w3.alloc (.cells #[] 41)) w3.heap.size (.slice (some ⟨w3.heap.size, 0, none⟩) 0 0) [] := ⟨rfl, .inr ⟨w3.heap.size, 0, #[], rfl, Nat.le_refl _, heap_alloc_new _ _, Nat.le_refl _, Nat.zero_le _, by simp, by simp; rfl⟩⟩
    have hL4 : LoG bl w3.heap.size (.slice (some ⟨w3.heap.size, 0, none⟩) 0 0) [] (w3.alloc (.cells #[] 41)) := ⟨ho4, fun x hx => by simp at hx⟩
    have HL4 := hid' hL4
    have HB4 := hid' (below1 w3 (.cells #[] 41))
    clear ho4 hL4 hLM HRO3 HP HT3
    go_wp2_with fail
    generalize w3.alloc (.cells #[] 41) = w4 at *
    go_loopw [6, 7] (fun lv iv wr => ∃ (k : Nat) (ls : List Lo) (ou : Value), ou = lv ∧ k ≤ bl.length ∧ iv = .int .i64 k ∧ LoG bl w3.heap.size ou ls wr ∧ ls.map (fun x => (x.h : Int)) = inL (Hb bl) k ∧ Below w3.heap.size w3 wr) (fun _ iv _ => bl.length - (intOf iv).toNat)
    case atStart => exact ⟨0, [], _, rfl, Nat.zero_le _, rfl, HL4.out, rfl, HB4.out⟩
    case round =>
      obtain ⟨h, ls, ou, rfl, hk, rfl, hL, hls, hB⟩ := hrel
      have HL := hid' hL
      have HLS := hid' hls
      have HB := hid' hB
      have hBr := below_up HB3.out hB
      obtain ⟨_, _, c0, c1, c2, c3, c4⟩ := HBX.out wr hBr
      clear hL hls hB j0 j1 j2 j3 j4
      by_cases hh : h < bl.length
      · obtain ⟨w5, hm5, hR5, hb5, hs5⟩ := make_bools wr (n := bl.length) (by unfold big; omega)
        have HR5 := hid' hR5
        have HB5 := hid' hb5
        have HX5 := hid' (below_on HB.out hb5 HB.out.size)
        have hgW : w3.heap.size ≤ wr.heap.size := HB.out.size
        clear hR5 hb5 hBr
        go_upto_region 9 with fail
        clear c0 c1 c2 c3 c4 hm5
        generalize wr = wA at *
        have HLW : Hid (∀ W, Below wA.heap.size wA W → LdM bl tg gs t rb pg W) := fun W hW => HLM.out.on (below_on HB.out hW HB.out.size)
        have HBW : Hid (∀ W, Below wA.heap.size wA W → _) := fun W hW => HBX.out W (below_up HB3.out (below_on HB.out hW HB.out.size))
        have HSA := hid' (fun x => sr_all (bl := bl) (h := h) (x := x) hh)
        have hplh := preds_len hh
        generalize hpl : (predsF bl).getD h [] = pl at *
        have HPL := hid' hpl
        clear hpl
        go_wp2_with fail
        go_loopw [9, 10] (fun sv iv wr => ∃ (i : Nat) (F : Nat → Bool) (s : Bool), i ≤ pl.length ∧ sv = .bool s ∧ iv = .int .i64 i ∧ RowB wr wA.heap.size bl.length F ∧ (∀ x, F x = true ↔ Sr bl h pl i x) ∧ (s = true ↔ ∃ x, Sr bl h pl i x) ∧ Below wA.heap.size wA wr) (fun _ iv _ => pl.length - (intOf iv).toNat)
        case atStart => exact ⟨0, _, false, Nat.zero_le _, rfl, rfl, HR5.out, fun x => ⟨fun e => (by cases e), fun ⟨⟨j, hj, _⟩, _⟩ => by omega⟩, ⟨fun e => (by cases e), fun ⟨x, ⟨j, hj, _⟩, _⟩ => by omega⟩, HB5.out⟩
        case round =>
          obtain ⟨i, F, s, hi, rfl, rfl, hR, hF, hs, hb⟩ := hrel
          have HR := hid' hR
          have HF := hid' hF
          have HS := hid' hs
          have HBA := hid' hb
          have hM := HLW.out _ hb
          clear hR hF hs hb
          by_cases hil : i < pl.length
          · obtain ⟨pb, poff, cap, p, q0, q1, q2, q3, hpn, hpe⟩ := hM.el hh (by rw [HPL.out]; exact hil)
            rw [HPL.out] at q0 q1 q3
            have q4 := hM.re p hpn
            have q5 := hM.tab.out h hh
            have q6 := (hM.tab.row h hh).cell hpn
            have q7 := HR.out.cell hpn
            have q8 := HR.out.fro p
            have hwp := reach_way (bl := bl) (by omega) (b := p)
            have htp := Ht.out h p hh hpn
            have NX := fun x => sr_next (bl := bl) (h := h) (x := x) q3
            have stay : ¬ TabB bl h p → (∀ x, F x = true ↔ Sr bl h pl (i + 1) x) ∧ (s = true ↔ ∃ x, Sr bl h pl (i + 1) x) := fun hno => by
              have e : ∀ x, Sr bl h pl (i + 1) x ↔ Sr bl h pl i x := fun x => (NX x).trans ⟨fun h => h.resolve_right (fun h2 => hno h2.2), .inl⟩
              exact ⟨fun x => (HF.out x).trans (e x).symm, HS.out.trans ⟨fun ⟨x, hx⟩ => ⟨x, (e x).2 hx⟩, fun ⟨x, hx⟩ => ⟨x, (e x).1 hx⟩⟩⟩
            have turn : TabB bl h p → (∀ x, Dfs.upd F p true x = true ↔ Sr bl h pl (i + 1) x) ∧ (∃ x, Sr bl h pl (i + 1) x) := fun hy => by
              refine ⟨fun x => ?_, p, (NX p).2 (.inr ⟨rfl, hy⟩)⟩
              rw [NX x]
              by_cases e : x = p
              · subst e
                rw [Dfs.upd_same]
                exact ⟨fun _ => .inr ⟨rfl, hy⟩, fun _ => rfl⟩
              · rw [Dfs.upd_ne _ _ e, HF.out x]
                exact ⟨.inl, fun h => h.resolve_right (fun h2 => e h2.1)⟩
            clear hM q3 hpe NX
            cases hre : reN bl p with
            | false =>
              rw [hre] at q4
              have HST := hid' (stay (fun ht => by have := hwp.2 ht.2.1; rw [hre] at this; cases this))
              clear hre stay turn hwp htp
              go_wp2_with fail
              go_roundw
              case rel => exact ⟨i + 1, F, s, by omega, rfl, by go_num, HR.out, HST.out.1, HST.out.2, HBA.out⟩
              case measure => simp [intOf]; omega
            | true =>
              rw [hre] at q4
              cases htt : t h p with
              | false =>
                rw [htt] at q6
                have HST := hid' (stay (fun ht => by have := htp.2 ht; rw [htt] at this; cases this))
                clear hre htt stay turn hwp htp
                go_wp2_with fail
                go_roundw
                case rel => exact ⟨i + 1, F, s, by omega, rfl, by go_num, HR.out, HST.out.1, HST.out.2, HBA.out⟩
                case measure => simp [intOf]; omega
              | true =>
                rw [htt] at q6
                have HTU := hid' (turn (htp.1 htt))
                clear hre htt stay turn hwp htp
                go_wp2_with fail
                go_roundw
                case rel => exact ⟨i + 1, _, true, by omega, rfl, by go_num, HR.out.set p true, HTU.out.1, ⟨fun _ => HTU.out.2, fun _ => by first | rfl | trivial⟩, HBA.out.trans ((setK _ wA.heap.size p _).below HBA.out.size (fun q e => by subst e; exact Nat.le_refl _))⟩
                case measure => simp [intOf]; omega
          · have e : i = pl.length := by omega
            subst e
            have HBK : Hid (∀ x, F x = true ↔ BackE bl h x) := fun x => (HF.out x).trans (HSA.out x)
            obtain ⟨ao, cap, r0, _⟩ := hM.pr h hh
            rw [HPL.out] at r0
            cases s with
            | false =>
              have hno : ¬ Hb bl h := fun ⟨p, hp⟩ => by
                have := HS.out.2 ⟨p, (HSA.out p).2 hp⟩
                cases this
              have HN : Hid (ls.map (fun x => (x.h : Int)) = inL (Hb bl) (h + 1)) := by unfold Hid; rw [inL_no hno]; exact HLS.out
              clear hno hM
              go_wp2_with fail
              go_roundw
              case rel => exact ⟨h + 1, ls, _, rfl, by omega, by go_num, HL.out.on HBA.out, HN.out, below_on HB.out HBA.out HB.out.size⟩
              case measure => simp [intOf]; omega
            | true =>
              have hyes : Hb bl h := by
                obtain ⟨x, hx⟩ := HS.out.1 (by first | rfl | trivial)
                exact ⟨x, (HSA.out x).1 hx⟩
              have HN : Hid (ls.map (fun x => (x.h : Int)) ++ [(h : Int)] = inL (Hb bl) (h + 1)) := by unfold Hid; rw [inL_yes hyes, HLS.out]
              have hfx : FxI bl h (Dfs.upd F h true) := by
                refine ⟨fun x hx hFx => ?_, Dfs.upd_same _ _ _, fun p hp => ?_⟩
                · by_cases e : x = h
                  · subst e; exact .head
                  · rw [Dfs.upd_ne _ _ e] at hFx
                    exact .back ((HBK.out x).1 hFx)
                · by_cases e : p = h
                  · subst e; exact Dfs.upd_same _ _ _
                  · rw [Dfs.upd_ne _ _ e]
                    exact (HBK.out p).2 hp
              have HFX := hid' hfx
              have q7 := HR.out.cell hh
              have q8 := HR.out.fro h
              have HROW := hid' (HR.out.set h true)
              have HBX2 := hid' (HBA.out.trans ((setK wr wA.heap.size h (.bool true)).below HBA.out.size (fun q e => by subst e; exact Nat.le_refl _)))
              clear hyes hfx hM HF HBK
              go_upto_region 19 with fail
              clear q7 q8 r0
              generalize wr.setCell ⟨wA.heap.size, h, none⟩ (.bool true) = wM at *
              clear HR HS HBA HSA HR5 HB5 HX5
              go_wp2_with fail
              go_loopw [12] (fun tv wr => ∃ (F : Nat → Bool) (tu : Bool), tv = .bool tu ∧ RowB wr wA.heap.size bl.length F ∧ FxI bl h F ∧ (tu = false → ∀ b, b < bl.length → Cl bl h F b ((predsF bl).getD b []) ((predsF bl).getD b []).length) ∧ Below wA.heap.size wA wr) (fun tv wr => unm (cellB wr wA.heap.size) bl.length * 2 + boolV tv)
              case atStart => exact ⟨_, true, rfl, HROW.out, HFX.out, fun e => (by cases e), HBX2.out⟩
              case round =>
                obtain ⟨F, tu, rfl, hR, hfx, hcl, hb⟩ := hrel
                have HR := hid' hR
                have HFX := hid' hfx
                have HCL := hid' hcl
                have HBA := hid' hb
                have HU : Hid (unm (cellB wr wA.heap.size) bl.length = unm F bl.length) := unm_congr fun x hx => cellB_is HR.out hx
                clear hR hfx hcl hb
                cases tu with
                | false =>
                  have HDN : Hid (inL (fun x => F x = true) bl.length = inL (LoopIn bl h) bl.length) := inL_congr fun x hx => HFX.out.done hh (HCL.out (by first | rfl | trivial)) hx
                  have hn6 := heap_alloc_new wr (.cells #[.int .i64 (h : Int), .slice none 0 0] 41)
                  have hb6 := below1 wr (.cells #[.int .i64 (h : Int), .slice none 0 0] 41)
                  have HN6 := hid' hn6
                  have HB6 := hid' hb6
                  clear hn6 hb6
                  go_upto_region 33 with fail
                  generalize wr.alloc (.cells #[.int .i64 (h : Int), .slice none 0 0] 41) = w6 at *
                  generalize wr = wC at *
                  go_wp2_with fail
                  go_loopw [17] (fun iv wr => ∃ (i : Nat) (sv : Value), i ≤ bl.length ∧ iv = .int .i64 i ∧ wr.heap[wC.heap.size]? = some (.cells #[.int .i64 (h : Int), sv] 41 (0, 0)) ∧ Own 3 1 icell wr wC.heap.size sv (inL (fun x => F x = true) i) ∧ Below wC.heap.size wC wr) (fun iv _ => bl.length - (intOf iv).toNat)
                  case atStart => exact ⟨0, _, Nat.zero_le _, rfl, HN6.out, World.ownsRow_nil _ _ _ _, HB6.out⟩
                  case round =>
                    obtain ⟨i, sv, hi, rfl, hbox, hO, hb⟩ := hrel
                    have HBO := hid' hbox
                    have HO := hid' hO
                    have HBC := hid' hb
                    have HRr := hid' (HR.out.on hb)
                    have hBA := below_on HBA.out hb HBA.out.size
                    have HBAr := hid' hBA
                    obtain ⟨_, _, c0, c1, c2, c3, c4⟩ := HBW.out _ hBA
                    have hcell := fun o => cell_of_row wr wC.heap.size o _ 41 (0, 0) hbox
                    have b0 := hcell 0
                    have b1 := hcell 1
                    simp only [List.getElem?_toArray, List.getElem?_cons_zero, List.getElem?_cons_succ] at b0 b1
                    clear hbox hO hb hBA hcell
                    by_cases hin : i < bl.length
                    · have qi := HRr.out.cell hin
                      cases hFi : F i with
                      | false =>
                        rw [hFi] at qi
                        have HN1 : Hid (inL (fun x => F x = true) (i + 1) = inL (fun x => F x = true) i) := inL_no (P := fun x => F x = true) (fun e => by rw [hFi] at e; cases e)
                        clear hFi
                        go_wp2_with fail
                        go_roundw
                        case rel => exact ⟨i + 1, sv, by omega, by go_num, HBO.out, by rw [HN1.out]; exact HO.out, HBC.out⟩
                        case measure => simp [intOf]; omega
                      | true =>
                        rw [hFi] at qi
                        have HN1 : Hid (inL (fun x => F x = true) (i + 1) = inL (fun x => F x = true) i ++ [(i : Int)]) := inL_yes (P := fun x => F x = true) hFi
                        have hll := inL_len (fun x => F x = true) i
                        obtain ⟨wq, ewq⟩ : ∃ wq, wq = wr.alloc (.cells #[.int .i64 (i : Int)] 3) := ⟨_, rfl⟩
                        have hbq : Below wr.heap.size wr wq := by rw [ewq]; exact below1 _ _
                        have hqq : wq.heap[wr.heap.size]? = some (.cells #[.int .i64 (i : Int)] 3 (0, 0)) := by rw [ewq]; exact heap_alloc_new _ _
                        have hBq := below_on HBC.out hbq HBC.out.size
                        have hOq := (Kept.of_below (S := fun _ => False) hbq).owns HO.out (fun _ _ e => e)
                        have hboxq := (hbq.block _ (Array.getElem?_eq_some_iff.1 HBO.out).1).trans HBO.out
                        obtain ⟨b7, cap7, w7, hr7, hO7, hB7, hK7⟩ := app_int hOq hBq.size hqq (by omega)
                        rw [← HN1.out] at hO7
                        have hbox7 := grown_r (W' := w7) hOq hboxq (by decide) hK7
                        have hcell7 := fun o => cell_of_row w7 wC.heap.size o _ 41 (0, 0) hbox7
                        have d1 := hcell7 1
                        simp only [List.getElem?_toArray, List.getElem?_cons_zero, List.getElem?_cons_succ] at d1
                        have df := frozen_of_row w7 wC.heap.size 1 _ 41 hbox7
                        have hlb : wC.heap.size < wr.heap.size := (Array.getElem?_eq_some_iff.1 HBO.out).1
                        have HFI : Hid ((w7.setCell ⟨wC.heap.size, 1, none⟩ (.slice (some ⟨b7, 0, none⟩) ((inL (fun x => F x = true) i).length + 1) cap7)).heap[wC.heap.size]? = some (.cells #[.int .i64 (h : Int), .slice (some ⟨b7, 0, none⟩) ((inL (fun x => F x = true) i).length + 1) cap7] 41 (0, 0)) ∧ Own 3 1 icell (w7.setCell ⟨wC.heap.size, 1, none⟩ (.slice (some ⟨b7, 0, none⟩) ((inL (fun x => F x = true) i).length + 1) cap7)) wC.heap.size (.slice (some ⟨b7, 0, none⟩) ((inL (fun x => F x = true) i).length + 1) cap7) (inL (fun x => F x = true) (i + 1)) ∧ Below wC.heap.size wC (w7.setCell ⟨wC.heap.size, 1, none⟩ (.slice (some ⟨b7, 0, none⟩) ((inL (fun x => F x = true) i).length + 1) cap7))) := by
                          have hBw7 := hBq.trans hB7
                          refine ⟨?_, own_ty hO7 hbox7 (by decide) (setK w7 wC.heap.size 1 _), hBw7.trans ((setK w7 wC.heap.size 1 _).below hBw7.size (fun q e => by subst e; exact Nat.le_refl _))⟩
                          rw [heap_setCell_same w7 wC.heap.size 1 _ 41 _ hbox7]
                          rfl
                        have HR7 := hid' (hr7 26)
                        rw [ewq] at HR7
                        clear hbq hqq hBq hOq hboxq hr7 hO7 hB7 hK7 hbox7 hcell7 ewq hFi hlb
                        generalize (inL (fun x => F x = true) i).length = fl at *
                        go_wp2_with (at_builtin; refine of_mark ?_)
                        unfold Mark
                        refine wpList_append_run rfl (.tmp 136) (.tmp 138) rfl sv (.slice (some ⟨wr.heap.size, 0, none⟩) 1 1) _ (by rfl) (by rfl) HR7.out ?_
                        go_wp2_with fail
                        go_roundw
                        case rel => exact ⟨i + 1, _, by omega, by go_num, HFI.out.1, HFI.out.2.1, HFI.out.2.2⟩
                        case measure => simp [intOf]; omega
                    · have e : i = bl.length := by omega
                      subst e
                      have hOf := HO.out
                      rw [HDN.out] at hOf
                      obtain ⟨ao6, cp6, ev6, _⟩ := own_len hOf
                      subst ev6
                      have hlsl : ls.length ≤ bl.length := by
                        have h1 := congrArg List.length HLS.out
                        rw [List.length_map] at h1
                        have h2 := inL_len (Hb bl) h
                        omega
                      obtain ⟨wq, ewq⟩ : ∃ wq, wq = wr.alloc (.cells #[.int .i64 (h : Int), .slice ao6 (inL (LoopIn bl h) bl.length).length cp6] 41) := ⟨_, rfl⟩
                      have hbq : Below wr.heap.size wr wq := by rw [ewq]; exact below1 _ _
                      have hqq : wq.heap[wr.heap.size]? = some (.cells #[.int .i64 (h : Int), .slice ao6 (inL (LoopIn bl h) bl.length).length cp6] 41 (0, 0)) := by rw [ewq]; exact heap_alloc_new _ _
                      have hB3 := below_on HB.out HBAr.out HB.out.size
                      have hBq := below_on hB3 hbq hB3.size
                      obtain ⟨b7, cap7, w7, hr7, hL7, hB7⟩ := ((HL.out.on HBAr.out).on hbq).app hBq.size ((Kept.of_below (S := fun _ => False) hbq).owns (own_lower hOf (Nat.le_trans hgW HBA.out.size)) (fun _ _ e => e)) hqq (by omega)
                      have HN7 : Hid ((ls ++ [(⟨h, .slice ao6 (inL (LoopIn bl h) bl.length).length cp6⟩ : Lo)]).map (fun x : Lo => (x.h : Int)) = inL (Hb bl) (h + 1)) := by
                        unfold Hid
                        rw [List.map_append, ← HN.out]
                        rfl
                      have HR7 := hid' (hr7 38)
                      rw [ewq] at HR7
                      have HL7 := hid' hL7
                      have HB7 := hid' (hBq.trans hB7)
                      clear hbq hqq hB3 hBq hr7 hL7 hB7 ewq hOf
                      generalize (inL (LoopIn bl h) bl.length).length = fl at *
                      go_wp2_with (at_builtin; refine of_mark ?_)
                      unfold Mark
                      refine wpList_append_run rfl (.tmp 141) (.tmp 143) rfl ou (.slice (some ⟨wr.heap.size, 0, none⟩) 1 1) _ (by rfl) (by rfl) HR7.out ?_
                      go_wp2_with fail
                      go_roundw
                      case rel => exact ⟨h + 1, _, _, rfl, by omega, by go_num, HL7.out, HN7.out, HB7.out⟩
                      case measure => simp [intOf]; omega
                | true =>
                  go_wp2_with fail
                  go_loopw [12, 13] (fun tv bv wr => ∃ (b : Nat) (F1 : Nat → Bool) (tu : Bool), b ≤ bl.length ∧ bv = .int .i64 b ∧ tv = .bool tu ∧ RowB wr wA.heap.size bl.length F1 ∧ PaI bl h F F1 tu b ∧ Below wA.heap.size wA wr) (fun _ bv _ => bl.length - (intOf bv).toNat)
                  case atStart => exact ⟨0, F, false, Nat.zero_le _, rfl, rfl, HR.out, ⟨HFX.out, fun e => (by cases e), fun _ => ⟨rfl, fun b' hb' => by omega⟩, Nat.le_refl _⟩, HBA.out⟩
                  case round =>
                    obtain ⟨b, F1, tu, hb, rfl, rfl, hR, hP, hbb⟩ := hrel
                    have HR1 := hid' hR
                    have HP1 := hid' hP
                    have HB1 := hid' hbb
                    obtain ⟨_, _, c0, c1, c2, c3, c4⟩ := HBW.out _ hbb
                    clear hR hP hbb
                    by_cases hbn : b < bl.length
                    · go_wp2_with fail
                      go_loopw [12, 14] (fun tv iv wr => ∃ (i : Nat) (F2 : Nat → Bool) (tu : Bool), i ≤ ((predsF bl).getD b []).length ∧ iv = .int .i64 i ∧ tv = .bool tu ∧ RowB wr wA.heap.size bl.length F2 ∧ PaI bl h F F2 tu b ∧ (tu = false → Cl bl h F2 b ((predsF bl).getD b []) i) ∧ Below wA.heap.size wA wr) (fun _ iv _ => ((predsF bl).getD b []).length - (intOf iv).toNat)
                      case atStart => exact ⟨0, F1, tu, Nat.zero_le _, rfl, rfl, HR1.out, HP1.out, fun _ _ _ j y hj => by omega, HB1.out⟩
                      case round =>
                        obtain ⟨i, F2, tu, hi, rfl, rfl, hR, hP, hC, hbb⟩ := hrel
                        have HR2 := hid' hR
                        have HP2 := hid' hP
                        have HC2 := hid' hC
                        have HB2 := hid' hbb
                        have hM := HLW.out _ hbb
                        have qb := hR.cell hbn
                        have hpb := preds_len hbn
                        have ends : ((F2 b = false ∨ b = h) ∨ i = ((predsF bl).getD b []).length) → PaI bl h F F2 tu (b + 1) := fun he => by
                          refine ⟨hP.fx, hP.up, fun e => ⟨(hP.same e).1, fun b' hb' => ?_⟩, hP.le⟩
                          by_cases e2 : b' = b
                          · subst e2
                            rcases he with (he | he) | he
                            · intro h1
                              rw [he] at h1
                              cases h1
                            · exact fun _ h2 => absurd he h2
                            · rw [← he]
                              exact hC e
                          · exact (hP.same e).2 b' (by omega)
                        clear hR hP hC hbb c0 c1 c2 c3 c4
                        cases hFb : F2 b with
                        | false =>
                          rw [hFb] at qb
                          have HE := hid' (ends (.inl (.inl hFb)))
                          clear ends hFb hM
                          go_wp2_with fail
                          go_roundw
                          case rel => exact ⟨b + 1, F2, tu, by omega, by go_num, rfl, HR2.out, HE.out, HB2.out⟩
                          case measure => simp [intOf]; omega
                        | true =>
                          rw [hFb] at qb
                          by_cases hbh : b = h
                          · have t1 : ((b : Int) != h) = false := by simp [hbh]
                            have HE := hid' (ends (.inl (.inr hbh)))
                            clear ends hFb hM hbh
                            go_wp2_with fail
                            go_roundw
                            case rel => exact ⟨b + 1, F2, tu, by omega, by go_num, rfl, HR2.out, HE.out, HB2.out⟩
                            case measure => simp [intOf]; omega
                          · have t1 : ((b : Int) != h) = true := bne_iff_ne.2 (by omega)
                            by_cases hil : i < ((predsF bl).getD b []).length
                            · obtain ⟨pb, poff, cap, p, q0, q1, q2, q3, hpn, hpe⟩ := hM.el hbn hil
                              have q4 := hM.re p hpn
                              have q7 := HR2.out.cell hpn
                              have q8 := HR2.out.fro p
                              have hwp := reach_way (bl := bl) (by omega) (b := p)
                              have t2 : ((i : Int) < (((predsF bl).getD b []).length : Int)) := by omega
                              have hll := preds_len hbn
                              have stay : (WayB bl p → F2 p = true) → (tu = false → Cl bl h F2 b ((predsF bl).getD b []) (i + 1)) := fun hpp e h1 h2 j y hj hjy hy => by
                                by_cases e2 : j = i
                                · subst e2
                                  rw [q3] at hjy
                                  injection hjy with hjy
                                  obtain rfl : y = p := by omega
                                  exact hpp hy
                                · exact HC2.out e h1 h2 j y (by omega) hjy hy
                              cases hre : reN bl p with
                              | false =>
                                rw [hre] at q4
                                have HST := hid' (stay (fun hw => by have := hwp.2 hw; rw [hre] at this; cases this))
                                clear ends hFb hM hbh stay hwp hre q3 hpe
                                generalize ((predsF bl).getD b []).length = ll at *
                                go_wp2_with fail
                                go_roundw
                                case rel => exact ⟨i + 1, F2, tu, by omega, by go_num, rfl, HR2.out, HP2.out, HST.out, HB2.out⟩
                                case measure => simp [intOf]; omega
                              | true =>
                                rw [hre] at q4
                                cases hFp : F2 p with
                                | true =>
                                  rw [hFp] at q7
                                  have HST := hid' (stay (fun _ => hFp))
                                  clear ends hFb hM hbh stay hwp hre q3 hpe hFp
                                  generalize ((predsF bl).getD b []).length = ll at *
                                  go_wp2_with fail
                                  go_roundw
                                  case rel => exact ⟨i + 1, F2, tu, by omega, by go_num, rfl, HR2.out, HP2.out, HST.out, HB2.out⟩
                                  case measure => simp [intOf]; omega
                                | false =>
                                  rw [hFp] at q7
                                  have hls := unm_less hpn hFp
                                  have HPN : Hid (PaI bl h F (Dfs.upd F2 p true) true b) := by
                                    have hle := HP2.out.le
                                    exact ⟨HP2.out.fx.mark hbn hFb hbh hpn hpe (hwp.1 hre), fun _ => by omega, fun e => (by cases e), by omega⟩
                                  clear ends hFb hM hbh stay hwp hre q3 hpe hFp hls
                                  generalize ((predsF bl).getD b []).length = ll at *
                                  go_wp2_with fail
                                  go_roundw
                                  case rel => exact ⟨i + 1, _, true, by omega, by go_num, rfl, HR2.out.set p true, HPN.out, fun e => (by cases e), HB2.out.trans ((setK _ wA.heap.size p _).below HB2.out.size (fun q e => by subst e; exact Nat.le_refl _))⟩
                                  case measure => simp [intOf]; omega
                            · have e : i = ((predsF bl).getD b []).length := by omega
                              have HE := hid' (ends (.inr e))
                              obtain ⟨ao, cap, r0, _⟩ := hM.pr b hbn
                              have t2 : ¬ ((i : Int) < (((predsF bl).getD b []).length : Int)) := by omega
                              clear ends hFb hM hbh e
                              generalize ((predsF bl).getD b []).length = ll at *
                              go_wp2_with fail
                              go_roundw
                              case rel => exact ⟨b + 1, F2, tu, by omega, by go_num, rfl, HR2.out, HE.out, HB2.out⟩
                              case measure => simp [intOf]; omega
                    · have e : b = bl.length := by omega
                      subst e
                      have HU1 : Hid (unm (cellB wr wA.heap.size) bl.length = unm F1 bl.length) := unm_congr fun x hx => cellB_is HR1.out hx
                      have HCN : Hid (tu = false → ∀ b, b < bl.length → Cl bl h F1 b ((predsF bl).getD b []) ((predsF bl).getD b []).length) := fun e b hb => (HP1.out.same e).2 b hb
                      go_wp2_with fail
                      go_roundw
                      case rel => exact ⟨F1, tu, rfl, HR1.out, HP1.out.fx, HCN.out, HB1.out⟩
                      case measure =>
                        rw [HU1.out, HU.out]
                        cases tu with
                        | true =>
                          have h9 := HP1.out.up (by first | rfl | trivial)
                          show unm F1 bl.length * 2 + 1 < unm F bl.length * 2 + 1
                          omega
                        | false =>
                          have h9 := HP1.out.le
                          show unm F1 bl.length * 2 + 0 < unm F bl.length * 2 + 1
                          omega
      · have e : h = bl.length := by omega
        subst e
        have hfin := below_up HB0.out (below_up HB3.out HB.out)
        go_wp2_with fail
        go_ret
        exact ⟨ou, ls, w3.heap.size, rfl, HL.out, HLS.out, hfin⟩
end
section
open Go Go.RowKit Go.Maps
set_option linter.unusedVariables false
set_option linter.unusedSimpArgs false
theorem end_two5 {n : Nat} {rs : Int} {x : Bl} (h : endF n rs x = true) : x.to.length ≤ 2 := by
  unfold endF at h
  split at h
  · simp only [Bool.and_eq_true, decide_eq_true_eq] at h
    omega
  · split at h
    · simp only [Bool.and_eq_true, decide_eq_true_eq] at h
      omega
    · split at h
      · simp only [Bool.and_eq_true, decide_eq_true_eq] at h
        omega
      · cases h
theorem edges_small5 {n : Nat} {rs : Int} : ∀ {l : List Bl}, (∀ x ∈ l, endF n rs x = true) → edgesF l ≤ l.length * 2
  | [], _ => by simp [edgesF]
  | x :: l, h => by
    have h1 := edges_small5 (l := l) (fun y hy => h y (by simp [hy]))
    have h2 := end_two5 (h x (by simp))
    have e : edgesF (x :: l) = x.to.length + edgesF l := by simp [edgesF]
    rw [e, List.length_cons]
    omega
/-- A loop's cells. -/
theorem LoG.read {bl : List Bl} {B : Nat} {v : Value} {ls : List Lo} {W : World} (h : LoG bl B v ls W) {i : Nat} (hi : i < ls.length) : ∃ b cap ao cp, v = .slice (some ⟨b, 0, none⟩) ls.length cap ∧ ls.length ≤ cap ∧ W.cell? ⟨b, i * 2, none⟩ = some (.int .i64 ls[i].h) ∧ W.cell? ⟨b, i * 2 + 1, none⟩ = some (.slice ao (inL (LoopIn bl ls[i].h) bl.length).length cp) ∧ Src icell W (.slice ao (inL (LoopIn bl ls[i].h) bl.length).length cp) (inL (LoopIn bl ls[i].h) bl.length) := by
  obtain ⟨n', en⟩ : ∃ n', ls.length = n' + 1 := ⟨ls.length - 1, by omega⟩
  have h2 := h.own
  unfold Own at h2
  obtain ⟨ao0, cap0, e0, hle⟩ := own_len h2
  have h3 := h2
  rw [en] at h3
  obtain ⟨b, cap, e1⟩ := own_form h3
  rw [← en] at e1
  subst e1
  injection e0 with _ _ e0
  subst e0
  have hel := h.el _ (List.getElem_mem hi)
  obtain ⟨ao, cp, esv, _⟩ := own_len hel
  have hs := Own.src ic1 hel
  rw [esv] at hs
  have c0 := flat_get lo2 ls i 0 hi (by omega)
  have c1 := flat_get lo2 ls i 1 hi (by omega)
  simp only [Lo.cells, List.getElem?_cons_zero, List.getElem?_cons_succ, Nat.add_zero] at c0 c1
  refine ⟨b, cap, ao, cp, rfl, hle, ?_, ?_, hs⟩
  · rw [World.ownsRow.cellAt h2 (i * 2) (by omega)]
    exact c0
  · rw [World.ownsRow.cellAt h2 (i * 2 + 1) (by omega)]
    rw [← esv]
    exact c1
set_option maxRecDepth 20000 in
set_option maxHeartbeats 16000000 in
theorem loops5 {w : World} {f : Fn} (hf : Fn.ok w f) : Calls Try.prog 5 #[f.val] w fun e w' => e = .returned (.bool true) ∧ Below w.heap.size w w' := by
  have HOK := hid' hf
  have hb0 : Below w.heap.size w (w.alloc (.cells #[.string f.nm, .int .i64 f.params, .int .i64 f.regs, .int .i64 f.slots, f.bv] 24)) := below1 _ _
  have h9 := hid' (bare9 (hf.on hb0))
  have hbl : f.blocks.length * 64 ≤ big := hf.bl
  obtain ⟨nm, ps, rs, sl, bv, bl⟩ := f
  obtain ⟨bo, bc, eb⟩ := hf.b.len
  dsimp only at *
  subst eb
  unfold big at hbl
  unfold Fn.val at *
  dsimp only at *
  clear hf hb0
  have hs0 : (w.alloc (.cells #[.string nm, .int .i64 ps, .int .i64 rs, .int .i64 sl, .slice bo bl.length bc] 24)).heap.size = w.heap.size + 1 := by simp
  have hn0 := heap_alloc_new w (.cells #[.string nm, .int .i64 ps, .int .i64 rs, .int .i64 sl, .slice bo bl.length bc] 24)
  have HB0 := hid' (below1 w (.cells #[.string nm, .int .i64 ps, .int .i64 rs, .int .i64 sl, .slice bo bl.length bc] 24))
  go_enter Try.func5, Try.ntmps5
  go_upto_region 2 with (go_at_call 9; refine h9.out.mono ?_; rintro e1 w9 ⟨hv, rfl, hown, hb9⟩; obtain ⟨ho, hcap, ehv⟩ := (Own.src bl4 hown).len; subst ehv; have hbox := (hb9.block w.heap.size (by rw [hs0]; omega)).trans hn0; have hf0 := frozen_of_row w9 w.heap.size 0 _ 24 hbox; have hf1 := frozen_of_row w9 w.heap.size 1 _ 24 hbox; have hf2 := frozen_of_row w9 w.heap.size 2 _ 24 hbox; have hf3 := frozen_of_row w9 w.heap.size 3 _ 24 hbox; have hf4 := frozen_of_row w9 w.heap.size 4 _ 24 hbox; have hc := fun o => cell_of_row w9 w.heap.size o _ 24 (0, 0) hbox; have hc0 := hc 0; have hc1 := hc 1; have hc2 := hc 2; have hc3 := hc 3; have hc4 := hc 4; simp at hc0 hc1 hc2 hc3 hc4; rw [hs0] at hown; have HBG := hid' (bg_begin HOK.out hbox (below_up HB0.out hb9) hown); have HCV := hid' (bare_cv (bl := bl)); have HNN : Hid (bl.length * 64 ≤ big → (List.map bareB bl).length * 64 ≤ big) := (fun h => (by rw [List.length_map]; exact h)); clear hown hb9 hbox hc; dsimp only at HBG HNN; generalize List.map bareB bl = bb at *)
  have HBG2 := HBG.out
  unfold put5 at HBG2
  have hbb : bb.length * 64 ≤ big := HNN.out (by unfold big; omega)
  clear HBG hc0 hc1 hc2 hc3 hc4 hf0 hf1 hf2 hf3 hf4 hs0 hn0 HB0 h9 HNN
  generalize ((((w9.setCell ⟨w.heap.size, 0, none⟩ (.string ⟨#[]⟩)).setCell ⟨w.heap.size, 1, none⟩ (.int .i64 0)).setCell ⟨w.heap.size, 2, none⟩ (.int .i64 1)).setCell ⟨w.heap.size, 3, none⟩ (.int .i64 0)).setCell ⟨w.heap.size, 4, none⟩ (.slice ho bb.length hcap) = w2 at *
  have HBG := hid' HBG2
  obtain ⟨c0, c1, c2, c3, c4⟩ := HBG2.cells
  have hbw := HBG2.below
  clear HBG2 w9 HOK
  have H11 : Hid (∀ W, Below w2.heap.size w2 W → Calls Try.prog 11 #[.agg #[.string ⟨#[]⟩, .int .i64 0, .int .i64 1, .int .i64 0, .slice ho bb.length hcap]] W (MayR bb W)) := fun W hW => may11 (HBG.out.ok.on hW) HCV.out
  have h20 := loops20 HBG.out.ok
  have H21 : Hid (∀ W, Below w2.heap.size w2 W → Calls Try.prog 21 #[.agg #[.string ⟨#[]⟩, .int .i64 0, .int .i64 1, .int .i64 0, .slice ho bb.length hcap]] W (LdR bb W)) := fun W hW => loops21 (HBG.out.ok.on hW)
  unfold Fn.val at h20
  dsimp only at h20
  have H20 := hid' h20
  clear h20
  have hbb2 := hbb
  unfold big at hbb
  go_wp2_with (go_at_call 20; refine H20.out.mono ?_; rintro e1 w4 (⟨rfl, hgr, hb4⟩ | ⟨v1, ls1, B1, rfl, hL1, hm1, hb4⟩) <;> refine of_mark ?_)
  all_goals unfold Mark
  · have HB4 := hid' hb4
    obtain ⟨d0, d1, d2, d3, d4⟩ := (HBG.out.on HB4.out).cells
    clear c0 c1 c2 c3 c4 hb4
    go_wp2_with (go_at_call 11; refine (H11.out _ HB4.out).mono ?_; rintro e1 w5 ⟨R, rfl, hR, hb5⟩; refine of_mark ?_)
    unfold Mark
    have HB5 := hid' (below_up HB4.out hb5)
    cases R with
    | true =>
      exfalso
      obtain ⟨h1, _, h3⟩ := hR rfl
      have := edges_small5 h3
      exact hgr ⟨by omega, by omega⟩
    | false =>
      clear hR hgr hb5
      go_wp2_with (go_at_call 12; refine (awake12 _).mono ?_; rintro e1 w6 ⟨rfl, hb6⟩)
      go_ret
      exact ⟨rfl, below_up (below_up hbw HB5.out) hb6⟩
  · have HB4 := hid' hb4
    have HL1 := hid' hL1
    have HM1 := hid' hm1
    obtain ⟨d0, d1, d2, d3, d4⟩ := (HBG.out.on HB4.out).cells
    clear c0 c1 c2 c3 c4 hb4 hL1 hm1
    go_wp2_with (go_at_call 11; refine (H11.out _ HB4.out).mono ?_; rintro e1 w5 ⟨R, rfl, hR, hb5⟩; refine of_mark ?_)
    unfold Mark
    have HB5 := hid' (below_up HB4.out hb5)
    have HL5 := hid' (HL1.out.on hb5)
    obtain ⟨c0, c1, c2, c3, c4⟩ := (HBG.out.on HB5.out).cells
    clear d0 d1 d2 d3 d4 hb5 HL1
    cases R with
    | false =>
      clear hR
      go_wp2_with (go_at_call 12; refine (awake12 _).mono ?_; rintro e1 w6 ⟨rfl, hb6⟩)
      go_ret
      exact ⟨rfl, below_up (below_up hbw HB5.out) hb6⟩
    | true =>
      clear hR
      go_wp2_with (go_at_call 21; refine (H21.out _ HB5.out).mono ?_; rintro e1 w6 ⟨v2, ls2, B2, rfl, hL2, hm2, hb6⟩; refine of_mark ?_)
      unfold Mark
      have HB6 := hid' (below_up HB5.out hb6)
      have HL6 := hid' (HL5.out.on hb6)
      have HL2 := hid' hL2
      have HM2 := hid' hm2
      have hll : ls2.length = ls1.length := by
        have h1 := congrArg List.length HM1.out
        have h2 := congrArg List.length hm2
        rw [List.length_map] at h1 h2
        omega
      have hlsl : ls1.length ≤ bb.length := by
        have h1 := congrArg List.length HM1.out
        rw [List.length_map] at h1
        have h2 := inL_len (Hb bb) bb.length
        omega
      obtain ⟨ao1, cp1, e1, _⟩ := own_len HL6.out.own
      obtain ⟨ao2, cp2, e2, _⟩ := own_len HL2.out.own
      rw [hll] at e2
      subst e1 e2
      have HLL := hid' hll
      clear hb6 hL2 hm2 hll HL5 c0 c1 c2 c3 c4
      go_wp2_with fail
      go_loopw [5] (fun i wr => ∃ k : Nat, k ≤ ls1.length ∧ i = .int .i64 k ∧ Below w6.heap.size w6 wr) (fun i _ => ls1.length - (intOf i).toNat)
      case atStart => exact ⟨0, Nat.zero_le _, rfl, Below.refl _ _⟩
      case round =>
        obtain ⟨k, hk, rfl, hbr⟩ := hrel
        have HBR := hid' hbr
        clear hbr
        by_cases hkl : k < ls1.length
        · obtain ⟨b1, cap1, ao3, cp3, f1, hle1, q0, q1, hs1⟩ := (HL6.out.on HBR.out).read hkl
          obtain ⟨b2, cap2, ao4, cp4, f2, hle2, r0, r1, hs2⟩ := (HL2.out.on HBR.out).read (i := k) (by rw [HLL.out]; exact hkl)
          rw [HLL.out] at f2 hle2
          have heq : ls2[k]'(by rw [HLL.out]; exact hkl) = ⟨ls1[k].h, (ls2[k]'(by rw [HLL.out]; exact hkl)).sv⟩ := by
            have h1 : (ls1.map (fun x => (x.h : Int)))[k]'(by simpa using hkl) = (ls2.map (fun x => (x.h : Int)))[k]'(by rw [List.length_map, HLL.out]; exact hkl) := by
              have h2 := HM1.out.trans HM2.out.symm
              exact List.getElem_of_eq h2 _
            simp only [List.getElem_map] at h1
            have h3 : ls1[k].h = (ls2[k]'(by rw [HLL.out]; exact hkl)).h := by omega
            rw [h3]
          rw [heq] at r0 r1 hs2
          dsimp only at r0 r1 hs2
          injection f1 with f1 _ f3
          injection f2 with f2 _ f4
          subst f1 f3 f2 f4
          have hfl := inL_len (LoopIn bb ls1[k].h) bb.length
          have hne := after_some wr
          have y0 : ∀ s : After wr, s.1.cell? ⟨b1, k * 2, none⟩ = some (.int .i64 ls1[k].h) := fun s => keep_cell q0 s.2
          have y1 : ∀ s : After wr, s.1.cell? ⟨b1, k * 2 + 1, none⟩ = some (.slice ao3 (inL (LoopIn bb ls1[k].h) bb.length).length cp3) := fun s => keep_cell q1 s.2
          have z0 : ∀ s : After wr, s.1.cell? ⟨b2, k * 2, none⟩ = some (.int .i64 ls1[k].h) := fun s => keep_cell r0 s.2
          have z1 : ∀ s : After wr, s.1.cell? ⟨b2, k * 2 + 1, none⟩ = some (.slice ao4 (inL (LoopIn bb ls1[k].h) bb.length).length cp4) := fun s => keep_cell r1 s.2
          have ee : eqL (inL (LoopIn bb ls1[k].h) bb.length) (inL (LoopIn bb ls1[k].h) bb.length) = true := decide_eq_true rfl
          have KA : ∀ s : After wr, _ := fun s => Calls.after s (sameInts18 (hs1.on s.2) (hs2.on s.2) (by unfold big; omega) (by unfold big; omega))
          simp only [ee] at KA
          clear q0 q1 r0 r1 hs1 hs2 heq ee hfl
          generalize (inL (LoopIn bb ls1[k].h) bb.length).length = fl at *
          generalize ls1[k].h = hd at *
          have t1 : ((hd : Int) != hd) = false := by simp
          go_wp2_with fail
          refine region_after 24 mixed (by kernel_rfl) ?_
          simp only [List.take_succ_cons, List.take_zero, List.drop_succ_cons, List.drop_zero]
          repeat (first | go_big_quiet_step (with_reducible exact KA _) | quiet_step (with_reducible exact KA _))
          refine wpQuiet_nil ?_
          intro w9 hb9
          have HB9 := hid' (below_up HBR.out hb9)
          clear KA y0 y1 z0 z1 hb9
          go_wp2_with fail
          go_roundw
          case rel => exact ⟨k + 1, by omega, by go_num, HB9.out⟩
          case measure => simp [intOf]; omega
        · have e : k = ls1.length := by omega
          subst e
          go_wp2_with (go_at_call 12; refine (awake12 _).mono ?_; rintro e1 w9 ⟨rfl, hb9⟩)
          go_ret
          exact ⟨rfl, below_up (below_up (below_up hbw HB6.out) HBR.out) hb9⟩
end
end
section
open Go Go.RowKit Go.Maps
set_option linter.unusedVariables false
set_option linter.unusedSimpArgs false
theorem way_lt {bl : List Bl} (hn : 0 < bl.length) {b : Nat} (h : WayB bl b) : b < bl.length := by
  rcases W.inv h with ⟨e, _⟩ | ⟨_, _, e, _⟩
  · omega
  · exact (toL_mem.1 e).1
/-- A header dominates its loop's blocks. -/
theorem loop_tab {bl : List Bl} {h x : Nat} (hb : Hb bl h) (hx : LoopIn bl h x) : TabB bl h x := by
  obtain ⟨p, hp⟩ := hb
  refine hx (fun x => TabB bl h x) (tab_self hp.2.2.1) (fun q hq => hq.2.2) (fun b y hP hne hy he hw => ?_)
  refine tab_dom.2 ⟨hP.1, hw, fun hway => (tab_dom.1 hP).2.2 ?_⟩
  exact .snoc hway (toL_mem.2 ⟨way_lt (by omega) hP.2.1, he⟩) hne
/-- Of two that dominate one, one dominates the other. -/
theorem dom_lin {bl : List Bl} {a b x : Nat} (ha : TabB bl a x) (hb : TabB bl b x) (hne : a ≠ b) : DomB bl a b ∨ DomB bl b a := by
  apply Classical.byContradiction
  intro hno
  have h1 : W (fun x y => some y ∈ toL bl.length (succN bl x)) (fun z => z ≠ a) 0 b := Classical.byContradiction fun h => hno (.inl h)
  have h2 : W (fun x y => some y ∈ toL bl.length (succN bl x)) (fun z => z ≠ b) 0 a := Classical.byContradiction fun h => hno (.inr h)
  have key : ∀ y, WayB bl y → W (fun x y => some y ∈ toL bl.length (succN bl x)) (fun z => z ≠ a) 0 y ∨ W (fun x y => some y ∈ toL bl.length (succN bl x)) (fun z => z ≠ b) 0 y := fun y hy => by
    unfold WayB at hy
    induction hy using W.ind with
    | nil _ =>
      by_cases e : (0 : Nat) = a
      · exact .inr (.nil (fun e2 => hne (by omega)))
      · exact .inl (.nil e)
    | @snoc c d hc e _ ih =>
      rcases ih with ih | ih
      · by_cases e2 : d = a
        · subst e2; exact .inr h2
        · exact .inl (.snoc ih e e2)
      · by_cases e2 : d = b
        · subst e2; exact .inl h1
        · exact .inr (.snoc ih e e2)
  rcases key x ha.2.1 with h | h
  · exact (tab_dom.1 ha).2.2 h
  · exact (tab_dom.1 hb).2.2 h
/-- What a block dominates strictly does not dominate it. -/
theorem dom_miss {bl : List Bl} {a b : Nat} (h : DomB bl a b) (hne : a ≠ b) (hw : WayB bl a) : W (fun x y => some y ∈ toL bl.length (succN bl x)) (fun z => z ≠ b) 0 a := by
  have key : ∀ y, WayB bl y → W (fun x y => some y ∈ toL bl.length (succN bl x)) (fun z => z ≠ a ∧ z ≠ b) 0 y ∨ W (fun x y => some y ∈ toL bl.length (succN bl x)) (fun z => z ≠ b) 0 a ∨ W (fun x y => some y ∈ toL bl.length (succN bl x)) (fun z => z ≠ a) 0 b := fun y hy => by
    unfold WayB at hy
    have mono : ∀ {S : Nat → Prop} {c : Nat}, (∀ z, z ≠ a ∧ z ≠ b → S z) → W (fun x y => some y ∈ toL bl.length (succN bl x)) (fun z => z ≠ a ∧ z ≠ b) 0 c → W (fun x y => some y ∈ toL bl.length (succN bl x)) S 0 c := fun hS hc => by
      induction hc using W.ind with
      | nil s => exact .nil (hS _ s)
      | snoc _ e s ih => exact .snoc ih e (hS _ s)
    induction hy using W.ind with
    | nil _ =>
      by_cases e : (0 : Nat) = a
      · subst e
        exact .inr (.inl (.nil hne))
      · by_cases e2 : (0 : Nat) = b
        · subst e2
          exact .inr (.inr (.nil e))
        · exact .inl (.nil ⟨e, e2⟩)
    | @snoc c d hc e _ ih =>
      rcases ih with ih | ih
      · by_cases e1 : d = a
        · subst e1
          exact .inr (.inl (.snoc (mono (fun z hz => hz.2) ih) e hne))
        · by_cases e2 : d = b
          · subst e2
            exact .inr (.inr (.snoc (mono (fun z hz => hz.1) ih) e e1))
          · exact .inl (.snoc ih e ⟨e1, e2⟩)
      · exact .inr ih
  rcases key a hw with h1 | h1 | h1
  · exact absurd rfl h1.last.1
  · exact h1
  · exact absurd h1 h
/-- Two loops that meet: one has the other's header. -/
theorem loops_meet {bl : List Bl} {h1 h2 x : Nat} (b1 : Hb bl h1) (b2 : Hb bl h2) (x1 : LoopIn bl h1 x) (x2 : LoopIn bl h2 x) : LoopIn bl h1 h2 ∨ LoopIn bl h2 h1 := by
  have key : ∀ {h1 h2 : Nat}, Hb bl h1 → Hb bl h2 → LoopIn bl h1 x → LoopIn bl h2 x → h1 ≠ h2 → DomB bl h1 h2 → LoopIn bl h1 h2 := fun {h1 h2} b1 b2 x1 x2 hne hd => by
    apply Classical.byContradiction
    intro hno
    have t1 := loop_tab b1 x1
    have t2 := loop_tab b2 x2
    have hn : 0 < bl.length := by
      obtain ⟨p, hp⟩ := b1
      have := hp.1
      omega
    have hm := dom_miss hd hne t1.1
    have hall : ∀ y, WayB bl y → LoopIn bl h1 y → W (fun x y => some y ∈ toL bl.length (succN bl x)) (fun z => z ≠ h2) 0 y := fun y hy => by
      unfold WayB at hy
      induction hy using W.ind with
      | nil _ =>
        intro hl
        exact .nil fun e => hno (by rw [← e]; exact hl)
      | @snoc c d hc e _ ih =>
        intro hl
        by_cases e1 : d = h1
        · subst e1; exact hm
        · have hcw : WayB bl c := hc
          have hcl := hl.pred e1 (way_lt hn hcw) (toL_mem.1 e).2 hcw
          exact .snoc (ih hcl) e (fun e2 => hno (by rw [← e2]; exact hl))
    exact (tab_dom.1 t2).2.2 (hall x t1.2.1 x1)
  by_cases hne : h1 = h2
  · subst hne
    exact .inl .head
  · rcases dom_lin (loop_tab b1 x1) (loop_tab b2 x2) hne with hd | hd
    · exact .inl (key b1 b2 x1 x2 hne hd)
    · exact .inr (key b2 b1 x2 x1 (fun e => hne e.symm) hd)
theorem inL_has {P : Nat → Prop} {n b : Nat} (hb : b < n) (h : P b) : (b : Int) ∈ inL P n := by
  unfold inL
  exact List.mem_map.2 ⟨b, List.mem_filter.2 ⟨List.mem_range.2 hb, by simpa using h⟩, rfl⟩
theorem tab_domsI2 {bl : List Bl} {a b : Nat} (ha : a < bl.length) (hb : b < bl.length) : TabB bl a b ↔ DomsI bl a b := by
  rw [tab_dom]
  constructor
  · rintro ⟨h1, h2, h3⟩
    exact ⟨a, b, rfl, rfl, ha, hb, h1, h2, h3⟩
  · rintro ⟨c, d, h1, h2, h3, h4, h5, h6, h7⟩
    obtain rfl : c = a := by omega
    obtain rfl : d = b := by omega
    exact ⟨h5, h6, h7⟩
/-- A block of a loop in memory. -/
theorem LoG.elem {bl : List Bl} {B : Nat} {v : Value} {ls : List Lo} {W : World} (h : LoG bl B v ls W) {i k : Nat} (hi : i < ls.length) (hk : k < (inL (LoopIn bl ls[i].h) bl.length).length) : ∃ b cap pb poff cp x, v = .slice (some ⟨b, 0, none⟩) ls.length cap ∧ ls.length ≤ cap ∧ W.cell? ⟨b, i * 2, none⟩ = some (.int .i64 ls[i].h) ∧ W.cell? ⟨b, i * 2 + 1, none⟩ = some (.slice (some ⟨pb, poff, none⟩) (inL (LoopIn bl ls[i].h) bl.length).length cp) ∧ (inL (LoopIn bl ls[i].h) bl.length).length ≤ cp ∧ W.cell? ⟨pb, poff + k, none⟩ = some (.int .i64 (x : Nat)) ∧ (inL (LoopIn bl ls[i].h) bl.length)[k]? = some (x : Int) ∧ x < bl.length ∧ LoopIn bl ls[i].h x := by
  obtain ⟨b, cap, ao, cp, e, hle, c0, c1, hs⟩ := h.read hi
  obtain ⟨aoS, capS, eS, hcS⟩ := hs.ints
  injection eS with eS1 _ eS3
  subst eS1 eS3
  obtain ⟨pb, poff, rfl, _, hple, hpcell⟩ := hcS k hk
  have q0 := hpcell W (Below.refl _ _)
  obtain ⟨x, hx, ex, hl⟩ := inL_mem (List.getElem_mem hk)
  rw [ex] at q0
  exact ⟨b, cap, pb, poff, cp, x, e, hle, c0, c1, hple, q0, by rw [List.getElem?_eq_getElem hk, ex], hx, hl⟩
end
section
open Go Go.RowKit Go.Maps
set_option linter.unusedVariables false
set_option linter.unusedSimpArgs false
set_option maxRecDepth 20000 in
set_option maxHeartbeats 16000000 in
theorem nests7 {w : World} {f : Fn} (hf : Fn.ok w f) : Calls Try.prog 7 #[f.val] w fun e w' => e = .returned (.bool true) ∧ Below w.heap.size w w' := by
  have HOK := hid' hf
  have hb0 : Below w.heap.size w (w.alloc (.cells #[.string f.nm, .int .i64 f.params, .int .i64 f.regs, .int .i64 f.slots, f.bv] 24)) := below1 _ _
  have h9 := hid' (bare9 (hf.on hb0))
  have hbl : f.blocks.length * 64 ≤ big := hf.bl
  obtain ⟨nm, ps, rs, sl, bv, bl⟩ := f
  obtain ⟨bo, bc, eb⟩ := hf.b.len
  dsimp only at *
  subst eb
  unfold big at hbl
  unfold Fn.val at *
  dsimp only at *
  clear hf hb0
  have hs0 : (w.alloc (.cells #[.string nm, .int .i64 ps, .int .i64 rs, .int .i64 sl, .slice bo bl.length bc] 24)).heap.size = w.heap.size + 1 := by simp
  have hn0 := heap_alloc_new w (.cells #[.string nm, .int .i64 ps, .int .i64 rs, .int .i64 sl, .slice bo bl.length bc] 24)
  have HB0 := hid' (below1 w (.cells #[.string nm, .int .i64 ps, .int .i64 rs, .int .i64 sl, .slice bo bl.length bc] 24))
  go_enter Try.func7, Try.ntmps7
  go_upto_region 2 with (go_at_call 9; refine h9.out.mono ?_; rintro e1 w9 ⟨hv, rfl, hown, hb9⟩; obtain ⟨ho, hcap, ehv⟩ := (Own.src bl4 hown).len; subst ehv; have hbox := (hb9.block w.heap.size (by rw [hs0]; omega)).trans hn0; have hf0 := frozen_of_row w9 w.heap.size 0 _ 24 hbox; have hf1 := frozen_of_row w9 w.heap.size 1 _ 24 hbox; have hf2 := frozen_of_row w9 w.heap.size 2 _ 24 hbox; have hf3 := frozen_of_row w9 w.heap.size 3 _ 24 hbox; have hf4 := frozen_of_row w9 w.heap.size 4 _ 24 hbox; have hc := fun o => cell_of_row w9 w.heap.size o _ 24 (0, 0) hbox; have hc0 := hc 0; have hc1 := hc 1; have hc2 := hc 2; have hc3 := hc 3; have hc4 := hc 4; simp at hc0 hc1 hc2 hc3 hc4; rw [hs0] at hown; have HBG := hid' (bg_begin HOK.out hbox (below_up HB0.out hb9) hown); have HCV := hid' (bare_cv (bl := bl)); have HNN : Hid (bl.length * 64 ≤ big → (List.map bareB bl).length * 64 ≤ big) := (fun h => (by rw [List.length_map]; exact h)); clear hown hb9 hbox hc; dsimp only at HBG HNN; generalize List.map bareB bl = bb at *)
  have HBG2 := HBG.out
  unfold put5 at HBG2
  have hbb : bb.length * 64 ≤ big := HNN.out (by unfold big; omega)
  clear HBG hc0 hc1 hc2 hc3 hc4 hf0 hf1 hf2 hf3 hf4 hs0 hn0 HB0 h9 HNN
  generalize ((((w9.setCell ⟨w.heap.size, 0, none⟩ (.string ⟨#[]⟩)).setCell ⟨w.heap.size, 1, none⟩ (.int .i64 0)).setCell ⟨w.heap.size, 2, none⟩ (.int .i64 1)).setCell ⟨w.heap.size, 3, none⟩ (.int .i64 0)).setCell ⟨w.heap.size, 4, none⟩ (.slice ho bb.length hcap) = w2 at *
  have HBG := hid' HBG2
  obtain ⟨c0, c1, c2, c3, c4⟩ := HBG2.cells
  have hbw := HBG2.below
  clear HBG2 w9 HOK
  have H11 := hid' (may11 HBG.out.ok HCV.out)
  have H20 : Hid (∀ W, Below w2.heap.size w2 W → Calls Try.prog 20 #[.agg #[.string ⟨#[]⟩, .int .i64 0, .int .i64 1, .int .i64 0, .slice ho bb.length hcap]] W (LoR bb W)) := fun W hW => loops20 (HBG.out.ok.on hW)
  have H16 : Hid (∀ W, Below w2.heap.size w2 W → ∀ (a b : Int) (R : Bool), (R = true ↔ DomsI bb a b) → Calls Try.prog 16 #[.agg #[.string ⟨#[]⟩, .int .i64 0, .int .i64 1, .int .i64 0, .slice ho bb.length hcap], .int .i64 a, .int .i64 b] W fun e w' => e = .returned (.bool R) ∧ Below W.heap.size W w') := fun W hW a b R h => dominates16 (HBG.out.ok.on hW) a b h
  unfold Fn.val at H11
  dsimp only at H11
  go_upto_region 4 with (go_at_call 11; refine H11.out.mono ?_; rintro e1 w3 ⟨R, rfl, hR, hb3⟩; have HB3 := hid' hb3; have HMR := hid' hR; clear hR hb3; cases R)
  · go_wp2_with (go_at_call 12; refine (awake12 _).mono ?_; rintro e1 w4 ⟨rfl, hb4⟩)
    go_ret
    exact ⟨rfl, below_up (below_up hbw HB3.out) hb4⟩
  · obtain ⟨d0, d1, d2, d3, d4⟩ := (HBG.out.on HB3.out).cells
    have hmay := HMR.out (by first | rfl | trivial)
    have hsm : bb.length ≤ 48 ∧ edgesF bb ≤ 8192 := by
      obtain ⟨h1, _, h3⟩ := hmay
      have := edges_small5 h3
      omega
    clear c0 c1 c2 c3 c4 HMR hmay
    go_upto_region 5 with (go_at_call 20; refine (H20.out _ HB3.out).mono ?_; rintro e1 w5 (⟨rfl, hgr, hb5⟩ | ⟨v5, ls, B5, rfl, hL, hm, hb5⟩) <;> refine of_mark ?_)
    all_goals unfold Mark
    · exact absurd ⟨by omega, hsm.2⟩ hgr
    have HL := hid' hL
    have HM := hid' hm
    have HB5 := hid' (below_up HB3.out hb5)
    clear hL hm hb5
    obtain ⟨ao5, cp5, e5, _⟩ := own_len HL.out.own
    subst e5
    have HHD : Hid (∀ i (hi : i < ls.length), ls[i].h < bb.length ∧ Hb bb ls[i].h) := fun i hi => by
      have h1 : (ls[i].h : Int) ∈ ls.map (fun x => (x.h : Int)) := List.mem_map.2 ⟨ls[i], List.getElem_mem hi, rfl⟩
      rw [HM.out] at h1
      obtain ⟨b, hb, e, h2⟩ := inL_mem h1
      have e' : b = ls[i].h := by omega
      subst e'
      exact ⟨hb, h2⟩
    have hml : ls.length ≤ 48 := by
      have h1 := congrArg List.length HM.out
      rw [List.length_map] at h1
      have h2 := inL_len (Hb bb) bb.length
      omega
    clear d0 d1 d2 d3 d4 H11 H20 HM
    go_wp2_with fail
    go_loopw [4] (fun iv wr => ∃ i : Nat, i ≤ ls.length ∧ iv = .int .i64 i ∧ Below w5.heap.size w5 wr) (fun iv _ => ls.length - (intOf iv).toNat)
    case atStart => exact ⟨0, Nat.zero_le _, rfl, Below.refl _ _⟩
    case round =>
      obtain ⟨i, hi, rfl, hbz⟩ := hrel
      have HBZ := hid' hbz
      clear hbz
      by_cases hil : i < ls.length
      · obtain ⟨vb, vcap, _, _, ev, hvle, _⟩ := HL.out.read hil
        injection ev with ev1 _ ev3
        subst ev1 ev3
        have HRD : Hid (∀ W, Below w5.heap.size w5 W → ∀ i (hi : i < ls.length), ∃ ao cp, W.cell? ⟨vb, i * 2, none⟩ = some (.int .i64 ls[i].h) ∧ W.cell? ⟨vb, i * 2 + 1, none⟩ = some (.slice ao (inL (LoopIn bb ls[i].h) bb.length).length cp)) := fun W hW i hi => by
          obtain ⟨b, cap, ao, cp, e, _, q0, q1, _⟩ := (HL.out.on hW).read hi
          injection e with e1 _ _
          injection e1 with e1
          injection e1 with e1
          subst e1
          exact ⟨ao, cp, q0, q1⟩
        have HEL : Hid (∀ W, Below w5.heap.size w5 W → ∀ i (hi : i < ls.length) k, k < (inL (LoopIn bb ls[i].h) bb.length).length → ∃ pb poff cp x, W.cell? ⟨vb, i * 2, none⟩ = some (.int .i64 ls[i].h) ∧ W.cell? ⟨vb, i * 2 + 1, none⟩ = some (.slice (some ⟨pb, poff, none⟩) (inL (LoopIn bb ls[i].h) bb.length).length cp) ∧ (inL (LoopIn bb ls[i].h) bb.length).length ≤ cp ∧ W.cell? ⟨pb, poff + k, none⟩ = some (.int .i64 (x : Nat)) ∧ (inL (LoopIn bb ls[i].h) bb.length)[k]? = some (x : Int) ∧ x < bb.length ∧ LoopIn bb ls[i].h x) := fun W hW i hi k hk => by
          obtain ⟨b, cap, pb, poff, cp, x, e, _, q0, q1, q2, q3, q4, q5, q6⟩ := (HL.out.on hW).elem hi hk
          injection e with e1 _ _
          injection e1 with e1
          injection e1 with e1
          subst e1
          exact ⟨pb, poff, cp, x, q0, q1, q2, q3, q4, q5, q6⟩
        obtain ⟨hin, hib⟩ := HHD.out i hil
        have hLi := inL_len (LoopIn bb ls[i].h) bb.length
        go_wp2_with fail
        go_loopw [5] (fun kv wr => ∃ k : Nat, k ≤ (inL (LoopIn bb ls[i].h) bb.length).length ∧ kv = .int .i64 k ∧ Below w5.heap.size w5 wr) (fun kv _ => (inL (LoopIn bb ls[i].h) bb.length).length - (intOf kv).toNat)
        case atStart => exact ⟨0, Nat.zero_le _, rfl, HBZ.out⟩
        case round =>
          obtain ⟨k, hk, rfl, hbz⟩ := hrel
          have HBZ := hid' hbz
          clear hbz
          by_cases hkl : k < (inL (LoopIn bb ls[i].h) bb.length).length
          · obtain ⟨pb, poff, cp, x, q0, q1, q2, q3, _, hxn, hxl⟩ := HEL.out wr HBZ.out i hil k hkl
            have HB2 : Hid (Below w2.heap.size w2 wr) := below_up HB5.out HBZ.out
            have hne := after_some wr
            have y0 : ∀ s : After wr, s.1.cell? ⟨vb, i * 2, none⟩ = some (.int .i64 ls[i].h) := fun s => keep_cell q0 s.2
            have y1 : ∀ s : After wr, s.1.cell? ⟨vb, i * 2 + 1, none⟩ = some (.slice (some ⟨pb, poff, none⟩) (inL (LoopIn bb ls[i].h) bb.length).length cp) := fun s => keep_cell q1 s.2
            have y2 : ∀ s : After wr, s.1.cell? ⟨pb, poff + k, none⟩ = some (.int .i64 (x : Nat)) := fun s => keep_cell q3 s.2
            have bx := fun s : After wr => (HBG.out.on (below_up HB2.out s.2)).cells
            have x0 := fun s : After wr => (bx s).1
            have x1 := fun s : After wr => (bx s).2.1
            have x2 := fun s : After wr => (bx s).2.2.1
            have x3 := fun s : After wr => (bx s).2.2.2.1
            have x4 := fun s : After wr => (bx s).2.2.2.2
            have KA : ∀ s : After wr, _ := fun s => Calls.after s (H16.out s.1 (below_up HB2.out s.2) ls[i].h x true ⟨fun _ => (tab_domsI2 hin hxn).1 (loop_tab hib hxl), fun _ => rfl⟩)
            clear bx q3 hxl
            generalize (inL (LoopIn bb ls[i].h) bb.length).length = li at *
            generalize ls[i].h = hd at *
            go_wp2_with fail
            refine region_after 15 mixed (by kernel_rfl) ?_
            simp only [List.take_succ_cons, List.take_zero, List.drop_succ_cons, List.drop_zero]
            repeat (first | go_big_quiet_step (with_reducible exact KA _) | quiet_step (with_reducible exact KA _))
            refine wpQuiet_nil ?_
            intro w9 hb9
            have HB9 := hid' (below_up HBZ.out hb9)
            clear KA y0 y1 y2 x0 x1 x2 x3 x4 hb9
            go_wp2_with fail
            go_roundw
            case rel => exact ⟨k + 1, by omega, by go_num, HB9.out⟩
            case measure => simp [intOf]; omega
          · have e : k = (inL (LoopIn bb ls[i].h) bb.length).length := by omega
            obtain ⟨aoi, cpi, q0, q1⟩ := HRD.out wr HBZ.out i hil
            have hkk : ¬ ((k : Int) < ((inL (LoopIn bb ls[i].h) bb.length).length : Int)) := by omega
            clear e
            go_wp2_with fail
            go_loopw [6] (fun jv wr => ∃ j : Nat, j ≤ ls.length ∧ jv = .int .i64 j ∧ Below w5.heap.size w5 wr) (fun jv _ => ls.length - (intOf jv).toNat)
            case atStart => exact ⟨0, Nat.zero_le _, rfl, HBZ.out⟩
            case round =>
              obtain ⟨j, hj, rfl, hbz⟩ := hrel
              have HBZ := hid' hbz
              clear hbz q0 q1
              by_cases hjl : j < ls.length
              · obtain ⟨hjn, hjb⟩ := HHD.out j hjl
                have hLj := inL_len (LoopIn bb ls[j].h) bb.length
                have HFIN : Hid (∀ me he : Bool, (me = true → ∃ x, LoopIn bb ls[i].h x ∧ LoopIn bb ls[j].h x) → (he = false → (∀ k', k' < (inL (LoopIn bb ls[i].h) bb.length).length → (inL (LoopIn bb ls[i].h) bb.length)[k']? ≠ some (ls[j].h : Int)) ∧ ∀ m', m' < (inL (LoopIn bb ls[j].h) bb.length).length → (inL (LoopIn bb ls[j].h) bb.length)[m']? ≠ some (ls[i].h : Int)) → me = true → he = true) := fun me he h1 h2 hme => by
                  cases he with
                  | true => rfl
                  | false =>
                    exfalso
                    obtain ⟨x, x1, x2⟩ := h1 hme
                    obtain ⟨n1, n2⟩ := h2 rfl
                    rcases loops_meet hib hjb x1 x2 with hl | hl
                    · obtain ⟨k', hk', e⟩ := List.getElem_of_mem (inL_has hjn hl)
                      exact n1 k' hk' (by rw [List.getElem?_eq_getElem hk', e])
                    · obtain ⟨k', hk', e⟩ := List.getElem_of_mem (inL_has hin hl)
                      exact n2 k' hk' (by rw [List.getElem?_eq_getElem hk', e])
                go_wp2_with fail
                go_loopw [7, 8, 9] (fun mev hev kv wr => ∃ (k : Nat) (me he : Bool), k ≤ (inL (LoopIn bb ls[i].h) bb.length).length ∧ mev = .bool me ∧ hev = .bool he ∧ kv = .int .i64 k ∧ (me = true → ∃ x, LoopIn bb ls[i].h x ∧ LoopIn bb ls[j].h x) ∧ (he = false → ∀ k', k' < k → (inL (LoopIn bb ls[i].h) bb.length)[k']? ≠ some (ls[j].h : Int)) ∧ Below w5.heap.size w5 wr) (fun _ _ kv _ => (inL (LoopIn bb ls[i].h) bb.length).length - (intOf kv).toNat)
                case atStart => exact ⟨0, false, false, Nat.zero_le _, rfl, rfl, rfl, fun e => (by cases e), fun _ k' hk' => by omega, HBZ.out⟩
                case round =>
                  obtain ⟨k, me, he, hk, rfl, rfl, rfl, hme, hhe, hbz⟩ := hrel
                  have HBZ := hid' hbz
                  have HME := hid' hme
                  have HHE := hid' hhe
                  obtain ⟨aoi, cpi, p0, p1⟩ := HRD.out wr hbz i hil
                  clear hbz hme hhe
                  by_cases hkl : k < (inL (LoopIn bb ls[i].h) bb.length).length
                  · have hkk : ((k : Int) < ((inL (LoopIn bb ls[i].h) bb.length).length : Int)) := by omega
                    go_wp2_with fail
                    go_loopw [7, 10] (fun mev mv wr => ∃ (m : Nat) (me : Bool), m ≤ (inL (LoopIn bb ls[j].h) bb.length).length ∧ mev = .bool me ∧ mv = .int .i64 m ∧ (me = true → ∃ x, LoopIn bb ls[i].h x ∧ LoopIn bb ls[j].h x) ∧ Below w5.heap.size w5 wr) (fun _ mv _ => (inL (LoopIn bb ls[j].h) bb.length).length - (intOf mv).toNat)
                    case atStart => exact ⟨0, me, Nat.zero_le _, rfl, rfl, HME.out, HBZ.out⟩
                    case round =>
                      obtain ⟨m, me, hm, rfl, rfl, hme, hbz⟩ := hrel
                      have HBZ := hid' hbz
                      have HME := hid' hme
                      clear hbz hme p0 p1
                      by_cases hml2 : m < (inL (LoopIn bb ls[j].h) bb.length).length
                      · have hmm : ((m : Int) < ((inL (LoopIn bb ls[j].h) bb.length).length : Int)) := by omega
                        obtain ⟨pb, poff, cp, x, q0, q1, q2, q3, _, hxn, hxl⟩ := HEL.out _ HBZ.out i hil k hkl
                        obtain ⟨pb2, poff2, cp2, y, r0, r1, r2, r3, _, hyn, hyl⟩ := HEL.out _ HBZ.out j hjl m hml2
                        have HXL := hid' hxl
                        have HYL := hid' hyl
                        clear hxl hyl hxn hyn
                        cases me with
                        | true =>
                          have HN : Hid (∃ x, LoopIn bb ls[i].h x ∧ LoopIn bb ls[j].h x) := HME.out (by first | rfl | trivial)
                          generalize (inL (LoopIn bb ls[i].h) bb.length).length = li at *
                          generalize (inL (LoopIn bb ls[j].h) bb.length).length = lj at *
                          go_wp2_with fail
                          go_quiet (fail)
                          have HBQ := hid' (bdrew HBZ.out nq)
                          go_wp2_with fail
                          go_roundw
                          case rel => exact ⟨m + 1, true, by omega, rfl, by go_num, fun _ => HN.out, HBQ.out⟩
                          case measure => simp [intOf]; omega
                        | false =>
                          by_cases hxy : x = y
                          · have HN : Hid (∃ x, LoopIn bb ls[i].h x ∧ LoopIn bb ls[j].h x) := ⟨x, HXL.out, by rw [hxy]; exact HYL.out⟩
                            have t1 : ((x : Int) == y) = true := beq_iff_eq.2 (by omega)
                            clear hxy HXL HYL
                            generalize (inL (LoopIn bb ls[i].h) bb.length).length = li at *
                            generalize (inL (LoopIn bb ls[j].h) bb.length).length = lj at *
                            go_wp2_with fail
                            go_quiet (fail)
                            have HBQ := hid' (bdrew HBZ.out nq)
                            go_wp2_with fail
                            go_roundw
                            case rel => exact ⟨m + 1, true, by omega, rfl, by go_num, fun _ => HN.out, HBQ.out⟩
                            case measure => simp [intOf]; omega
                          · have t1 : ((x : Int) == y) = false := beq_eq_false_iff_ne.2 (by omega)
                            clear hxy HXL HYL
                            generalize (inL (LoopIn bb ls[i].h) bb.length).length = li at *
                            generalize (inL (LoopIn bb ls[j].h) bb.length).length = lj at *
                            go_wp2_with fail
                            go_quiet (fail)
                            have HBQ := hid' (bdrew HBZ.out nq)
                            go_wp2_with fail
                            go_roundw
                            case rel => exact ⟨m + 1, false, by omega, rfl, by go_num, fun e => (by cases e), HBQ.out⟩
                            case measure => simp [intOf]; omega
                      · have hmm : ¬ ((m : Int) < ((inL (LoopIn bb ls[j].h) bb.length).length : Int)) := by omega
                        obtain ⟨aoj, cpj, r0, r1⟩ := HRD.out _ HBZ.out j hjl
                        obtain ⟨pb, poff, cp, x, q0, q1, q2, q3, q4, hxn, hxl⟩ := HEL.out _ HBZ.out i hil k hkl
                        clear hxl hxn
                        have stay : (he = false → x ≠ ls[j].h → ∀ k', k' < k + 1 → (inL (LoopIn bb ls[i].h) bb.length)[k']? ≠ some (ls[j].h : Int)) := fun e hne k' hk' => by
                          by_cases e2 : k' = k
                          · subst e2
                            rw [q4]
                            intro e3
                            injection e3 with e3
                            exact hne (by omega)
                          · exact HHE.out e k' (by omega)
                        have HST := hid' stay
                        clear stay q4
                        cases he with
                        | true =>
                          go_wp2_with fail
                          go_quiet (fail)
                          have HBQ := hid' (bdrew HBZ.out nq)
                          go_wp2_with fail
                          go_roundw
                          case rel => exact ⟨k + 1, me, true, by omega, rfl, rfl, by go_num, HME.out, fun e => (by cases e), HBQ.out⟩
                          case measure => simp [intOf]; omega
                        | false =>
                          by_cases hxy : x = ls[j].h
                          · have t1 : ((x : Int) == (ls[j].h : Int)) = true := beq_iff_eq.2 (by omega)
                            clear hxy HST
                            go_wp2_with fail
                            go_quiet (fail)
                            have HBQ := hid' (bdrew HBZ.out nq)
                            go_wp2_with fail
                            go_roundw
                            case rel => exact ⟨k + 1, me, true, by omega, rfl, rfl, by go_num, HME.out, fun e => (by cases e), HBQ.out⟩
                            case measure => simp [intOf]; omega
                          · have t1 : ((x : Int) == (ls[j].h : Int)) = false := beq_eq_false_iff_ne.2 (by omega)
                            have HS2 := hid' (HST.out (by first | rfl | trivial) hxy)
                            clear hxy HST
                            go_wp2_with fail
                            go_quiet (fail)
                            have HBQ := hid' (bdrew HBZ.out nq)
                            go_wp2_with fail
                            go_roundw
                            case rel => exact ⟨k + 1, me, false, by omega, rfl, rfl, by go_num, HME.out, fun _ => HS2.out, HBQ.out⟩
                            case measure => simp [intOf]; omega
                  · have hkk : ¬ ((k : Int) < ((inL (LoopIn bb ls[i].h) bb.length).length : Int)) := by omega
                    have HH2 : Hid (he = false → ∀ k', k' < (inL (LoopIn bb ls[i].h) bb.length).length → (inL (LoopIn bb ls[i].h) bb.length)[k']? ≠ some (ls[j].h : Int)) := fun e k' hk' => HHE.out e k' (by omega)
                    go_wp2_with fail
                    go_loopw [8, 11] (fun hev mv wr => ∃ (m : Nat) (he : Bool), m ≤ (inL (LoopIn bb ls[j].h) bb.length).length ∧ hev = .bool he ∧ mv = .int .i64 m ∧ (he = false → (∀ k', k' < (inL (LoopIn bb ls[i].h) bb.length).length → (inL (LoopIn bb ls[i].h) bb.length)[k']? ≠ some (ls[j].h : Int)) ∧ ∀ m', m' < m → (inL (LoopIn bb ls[j].h) bb.length)[m']? ≠ some (ls[i].h : Int)) ∧ Below w5.heap.size w5 wr) (fun _ mv _ => (inL (LoopIn bb ls[j].h) bb.length).length - (intOf mv).toNat)
                    case atStart => exact ⟨0, he, Nat.zero_le _, rfl, rfl, fun e => ⟨HH2.out e, fun m' hm' => by omega⟩, HBZ.out⟩
                    case round =>
                      obtain ⟨m, he, hm, rfl, rfl, hhe, hbz⟩ := hrel
                      have HBZ := hid' hbz
                      have HHF := hid' hhe
                      clear hbz hhe p0 p1
                      by_cases hml2 : m < (inL (LoopIn bb ls[j].h) bb.length).length
                      · have hmm : ((m : Int) < ((inL (LoopIn bb ls[j].h) bb.length).length : Int)) := by omega
                        obtain ⟨aoi2, cpi2, q0, q1⟩ := HRD.out _ HBZ.out i hil
                        obtain ⟨pb, poff, cp, y, r0, r1, r2, r3, r4, hyn, hyl⟩ := HEL.out _ HBZ.out j hjl m hml2
                        have stay : he = false → y ≠ ls[i].h → (∀ k', k' < (inL (LoopIn bb ls[i].h) bb.length).length → (inL (LoopIn bb ls[i].h) bb.length)[k']? ≠ some (ls[j].h : Int)) ∧ ∀ m', m' < m + 1 → (inL (LoopIn bb ls[j].h) bb.length)[m']? ≠ some (ls[i].h : Int) := fun e hne => by
                          refine ⟨(HHF.out e).1, fun m' hm' => ?_⟩
                          by_cases e2 : m' = m
                          · subst e2
                            rw [r4]
                            intro e3
                            injection e3 with e3
                            exact hne (by omega)
                          · exact (HHF.out e).2 m' (by omega)
                        have HST := hid' stay
                        clear stay r4 hyn hyl
                        cases he with
                        | true =>
                          go_wp2_with fail
                          go_quiet (fail)
                          have HBQ := hid' (bdrew HBZ.out nq)
                          go_wp2_with fail
                          go_roundw
                          case rel => exact ⟨m + 1, true, by omega, rfl, by go_num, fun e => (by cases e), HBQ.out⟩
                          case measure => simp [intOf]; omega
                        | false =>
                          by_cases hxy : y = ls[i].h
                          · have t1 : ((y : Int) == (ls[i].h : Int)) = true := beq_iff_eq.2 (by omega)
                            clear hxy HST
                            go_wp2_with fail
                            go_quiet (fail)
                            have HBQ := hid' (bdrew HBZ.out nq)
                            go_wp2_with fail
                            go_roundw
                            case rel => exact ⟨m + 1, true, by omega, rfl, by go_num, fun e => (by cases e), HBQ.out⟩
                            case measure => simp [intOf]; omega
                          · have t1 : ((y : Int) == (ls[i].h : Int)) = false := beq_eq_false_iff_ne.2 (by omega)
                            have HS2 := hid' (HST.out (by first | rfl | trivial) hxy)
                            clear hxy HST
                            go_wp2_with fail
                            go_quiet (fail)
                            have HBQ := hid' (bdrew HBZ.out nq)
                            go_wp2_with fail
                            go_roundw
                            case rel => exact ⟨m + 1, false, by omega, rfl, by go_num, fun _ => HS2.out, HBQ.out⟩
                            case measure => simp [intOf]; omega
                      · have hmm : ¬ ((m : Int) < ((inL (LoopIn bb ls[j].h) bb.length).length : Int)) := by omega
                        obtain ⟨aoj, cpj, r0, r1⟩ := HRD.out _ HBZ.out j hjl
                        have hend := HFIN.out me he HME.out (fun e => ⟨(HHF.out e).1, fun m' hm' => (HHF.out e).2 m' (by omega)⟩)
                        cases me with
                        | false =>
                          clear hend
                          go_wp2_with fail
                          go_roundw
                          case rel => exact ⟨j + 1, by omega, by go_num, HBZ.out⟩
                          case measure => simp [intOf]; omega
                        | true =>
                          have hhe : he = true := hend (by first | rfl | trivial)
                          subst hhe
                          clear hend
                          go_wp2_with fail
                          go_roundw
                          case rel => exact ⟨j + 1, by omega, by go_num, HBZ.out⟩
                          case measure => simp [intOf]; omega
              · have e : j = ls.length := by omega
                subst e
                go_wp2_with fail
                go_roundw
                case rel => exact ⟨i + 1, by omega, by go_num, HBZ.out⟩
                case measure => simp [intOf]; omega
      · have e : i = ls.length := by omega
        subst e
        go_wp2_with (go_at_call 12; refine (awake12 _).mono ?_; rintro e1 w9 ⟨rfl, hb9⟩)
        go_ret
        exact ⟨rfl, below_up (below_up (below_up hbw HB5.out) HBZ.out) hb9⟩
end
end Go.Proofs.Ytgkaeoieclegjaa
