/- The document's table in memory. The document's Table. -/
import Derived.Test.YtgkaeoieclegjaaWo
import Derived.Test.YtgkaeoieclegjaaBf
namespace Go.Proofs.Ytgkaeoieclegjaa
section
open Go Go.RowKit Go.Maps
set_option linter.unusedVariables false
set_option linter.unusedSimpArgs false
/-- The table, to be read. -/
structure TabM (W : World) (n a : Nat) (og : Nat) (gs : Nat → Nat) (t : Nat → Nat → Bool) : Prop where
  out : ∀ j, j < a → W.cell? ⟨og, j, none⟩ = some (.slice (some ⟨gs j, 0, none⟩) n n)
  row : ∀ j, j < a → RowB W (gs j) n (t j)
theorem TabM.on {W W' : World} {n a og : Nat} {gs : Nat → Nat} {t : Nat → Nat → Bool} (h : TabM W n a og gs t) (hb : Below W.heap.size W W') : TabM W' n a og gs t :=
  ⟨fun j hj => keep_cell (h.out j hj) hb, fun j hj => (h.row j hj).on hb⟩
/-- The table, as it grows: an own row of rows. -/
structure TbG (W : World) (B n a : Nat) (v : Value) (gs : Nat → Nat) (t : Nat → Nat → Bool) : Prop where
  own : Own 34 1 vcell W B v ((List.range a).map (fun j => Value.slice (some ⟨gs j, 0, none⟩) n n))
  row : ∀ j, j < a → RowB W (gs j) n (t j)
theorem TbG.on {W W' : World} {B n a : Nat} {v : Value} {gs : Nat → Nat} {t : Nat → Nat → Bool} (h : TbG W B n a v gs t) (hb : Below W.heap.size W W') : TbG W' B n a v gs t :=
  ⟨(Kept.of_below (S := fun _ => False) hb).owns h.own (fun _ _ e => e), fun j hj => (h.row j hj).on hb⟩
theorem TbG.kept {S : Nat → Prop} {W W' : World} {B n a : Nat} {v : Value} {gs : Nat → Nat} {t : Nat → Nat → Bool} (h : TbG W B n a v gs t) (hk : Kept S W W') (h1 : ∀ b, v.ownBlock = some b → ¬ S b) (h2 : ∀ j, j < a → ¬ S (gs j)) : TbG W' B n a v gs t :=
  ⟨hk.owns h.own h1, fun j hj => (h.row j hj).kept hk (h2 j hj)⟩
theorem infR : (Try.prog.info? 34).map (fun i => (i.zero, i.size, i.bytes)) = some (some (.slice none 0 0), 1, 24) := by kernel_rfl
/-- A row more. -/
theorem TbG.app {W : World} {B n a g q : Nat} {v : Value} {gs : Nat → Nat} {t : Nat → Nat → Bool} {f : Nat → Bool} (h : TbG W B n a v gs t) (hB : B ≤ W.heap.size) (hg : RowB W g n f) (hq : W.heap[q]? = some (.cells #[.slice (some ⟨g, 0, none⟩) n n] 34 (0, 0))) (ha : (a + 1) * 24 ≤ 140737488355328) :
    ∃ b cap w', (∀ ty, (Builtin.append_ #[31, 31] ty #[v, .slice (some ⟨q, 0, none⟩) 1 1]).run Try.prog W = .ok (.slice (some ⟨b, 0, none⟩) (a + 1) cap) w') ∧ TbG w' B n (a + 1) (.slice (some ⟨b, 0, none⟩) (a + 1) cap) (Dfs.upd gs a g) (fun j => if j = a then f else t j) ∧ Below B W w' ∧ Kept (fun k => ∀ c, W.heap[k]? ≠ some (.cells c 4 (0, 0))) W w' := by
  have hqlt := (Array.getElem?_eq_some_iff.1 hq).1
  have hsrc : Src vcell W (.slice (some ⟨q, 0, none⟩) 1 1) [Value.slice (some ⟨g, 0, none⟩) n n] := .inr ⟨q, 0, 1, rfl, hqlt, Nat.le_refl _, fun j u hj => by
    rw [Nat.zero_add, cell_of_row W q j _ 34 (0, 0) hq]
    simpa [flat, vcell] using hj⟩
  have hlen : ((List.range a).map (fun j => Value.slice (some ⟨gs j, 0, none⟩) n n)).length = a := by simp
  obtain ⟨v', w', h1, h2, h3, h4⟩ := append_own2 (f := vcell) (st := 31) (et := 34) (bytes := 24) vc1 (base := B) (w := W) (v := v) (x := .slice (some ⟨q, 0, none⟩) 1 1) (m := [Value.slice (some ⟨g, 0, none⟩) n n]) (fun y hy u hu => by
    obtain rfl := List.mem_singleton.1 hy
    obtain rfl := List.mem_singleton.1 hu
    rfl) Try.underlying31 infR rfl (by decide) h.own hsrc (by rw [hlen]; simp only [List.length_singleton]; omega) (by rw [hlen]; simp only [List.length_singleton]; unfold maxLen; omega) hB 31
  have hl2 : ((List.range a).map (fun j => Value.slice (some ⟨gs j, 0, none⟩) n n) ++ [Value.slice (some ⟨g, 0, none⟩) n n]) = (List.range (a + 1)).map (fun j => Value.slice (some ⟨Dfs.upd gs a g j, 0, none⟩) n n) := by
    rw [List.range_succ, List.map_append]
    congr 1
    · refine List.map_congr_left fun j hj => ?_
      rw [Dfs.upd_ne _ _ (by have := List.mem_range.1 hj; omega)]
    · simp [Dfs.upd_same]
  rw [hl2] at h2
  have h2' := h2
  unfold Own at h2'
  rw [List.length_map, List.length_range] at h2'
  obtain ⟨b, cap, rfl⟩ := own_form h2'
  have K := grown_kept h3
  have hty : ∀ k c, W.heap[k]? = some (.cells c 4 (0, 0)) → v.ownBlock ≠ some k := fun k c hk e => by
    obtain ⟨cur, hc⟩ := own_block h.own e
    rw [hk] at hc
    injection hc with hc
    injection hc with _ e2
    cases e2
  refine ⟨b, cap, w', fun ty => h1, ⟨h2, fun j hj => ?_⟩, K.below hB (fun k e => (World.ownsRow.lt h.own k e).1), K.mono (fun k _ e c hc => hty k c hc e)⟩
  by_cases e : j = a
  · subst e
    rw [Dfs.upd_same, if_pos rfl]
    obtain ⟨c, hc⟩ := hg.ty
    exact hg.kept K (hty _ c hc)
  · rw [Dfs.upd_ne _ _ e, if_neg e]
    have hr := h.row j (by omega)
    obtain ⟨c, hc⟩ := hr.ty
    exact hr.kept K (hty _ c hc)
/-- The table's answer, plainly. -/
theorem tab_val {bl : List Bl} {a b : Nat} (hn : 0 < bl.length) {r : Bool} (hr : r = true ↔ ¬ DomB bl a b) : ((reN bl a && (reN bl b && (decide (a = b) || !r))) = true) ↔ TabB bl a b := by
  have h1 := reach_way (bl := bl) hn (b := a)
  have h2 := reach_way (bl := bl) hn (b := b)
  unfold TabB
  rw [← h1, ← h2]
  simp only [Bool.and_eq_true, Bool.or_eq_true, decide_eq_true_eq, Bool.not_eq_true']
  have h3 : r = false ↔ DomB bl a b := by
    cases r with
    | false => exact ⟨fun _ => Classical.byContradiction fun h => (by have := hr.2 h; cases this), fun _ => rfl⟩
    | true => exact ⟨fun h => (by cases h), fun h => absurd h (hr.1 rfl)⟩
  rw [h3]
/-- A row of bools of one's own, read. -/
theorem own_cells4 {W : World} {B : Nat} {ao : Option Addr} {cap n : Nat} {l : List Bool} (h : Own 4 1 bcl W B (.slice ao n cap) l) (hl : l.length = n) (hn : 0 < n) : ∃ g c, ao = some ⟨g, 0, none⟩ ∧ W.heap[g]? = some (.cells c 4 (0, 0)) ∧ n ≤ cap ∧ ∀ j, j < n → W.cell? ⟨g, j, none⟩ = some (.bool (l.getD j false)) := by
  obtain ⟨n', rfl⟩ : ∃ n', n = n' + 1 := ⟨n - 1, by omega⟩
  have h2 := h
  unfold Own at h2
  rw [hl] at h2
  obtain ⟨ao', cap', e', hle⟩ := own_len h2
  obtain ⟨g, capg, eg⟩ := own_form h2
  injection e' with e1 _ e3
  injection eg with eg _ egc
  subst eg e3
  obtain ⟨c, hc⟩ := own_block h2 (b := g) rfl
  refine ⟨g, c, rfl, hc, hle, fun j hj => ?_⟩
  have h3 := World.ownsRow.cellAt h2 j (by omega)
  rw [h3, flat_b, List.getElem?_map, List.getElem?_eq_getElem (by rw [hl]; exact hj)]
  simp [hl, hj]
theorem TbG.tab {W : World} {B n a b cap : Nat} {gs : Nat → Nat} {t : Nat → Nat → Bool} (h : TbG W B n a (.slice (some ⟨b, 0, none⟩) a cap) gs t) : TabM W n a b gs t := by
  refine ⟨fun j hj => ?_, h.row⟩
  have h1 := h.own
  unfold Own at h1
  rw [List.length_map, List.length_range, flat_v] at h1
  rw [World.ownsRow.cellAt h1 j (by omega)]
  simp [hj]
end
section
open Go Go.RowKit Go.Maps
set_option linter.unusedVariables false
set_option linter.unusedSimpArgs false
/-- What Table tells. -/
def TabR (bl : List Bl) (w : World) (e : Ending) (w' : World) : Prop :=
  ∃ (og cap : Nat) (gs : Nat → Nat) (t : Nat → Nat → Bool), e = .returned (.slice (some ⟨og, 0, none⟩) bl.length cap) ∧ bl.length ≤ cap ∧ TabM w' bl.length bl.length og gs t ∧ (∀ a b, a < bl.length → b < bl.length → (t a b = true ↔ TabB bl a b)) ∧ Below w.heap.size w w'
set_option maxRecDepth 20000 in
set_option maxHeartbeats 16000000 in
theorem table15 {w : World} {f : Fn} (h : Fn.ok w f) : Calls Try.prog 15 #[f.val] w (TabR f.blocks w) := by
  have H24 : Hid (∀ W, Below w.heap.size w W → Calls Try.prog 24 #[f.val] W (RchR f.blocks W)) := fun W hW => reached17 (h.on hW)
  have H30 : Hid (∀ W, Below w.heap.size w W → ∀ k, k < f.blocks.length → Calls Try.prog 30 #[f.val, .int .i64 (k : Nat)] W (WoR f.blocks k W)) := fun W hW k hk => without30 (h.on hW) hk
  have hbl := h.bl
  obtain ⟨nm, ps, rs, sl, bv, bl⟩ := f
  obtain ⟨bo, bc, eb⟩ := h.b.len
  dsimp only at *
  subst eb
  have hbl2 := hbl
  unfold big at hbl
  unfold Fn.val at *
  dsimp only at *
  clear h
  obtain ⟨w0, ew0⟩ : ∃ w0, w0 = w.alloc (.cells #[.string nm, .int .i64 ps, .int .i64 rs, .int .i64 sl, .slice bo bl.length bc] 24) := ⟨_, rfl⟩
  have HW0 := hid' ew0
  have HB0 : Hid (Below w.heap.size w w0) := by unfold Hid; rw [ew0]; exact below1 _ _
  have HBX : Hid (∀ W, Below w0.heap.size w0 W → _) := fun W hW => fbox (w := w) (W := W) (by rw [← ew0]; exact hW)
  have hz0 : w0.heap.size = w.heap.size + 1 := by rw [ew0]; simp
  clear ew0
  go_enter Try.func15, Try.ntmps15
  go_upto_region 2 with fail
  rw [← HW0.out]
  obtain ⟨w1, ew1⟩ : ∃ w1, w1 = w0.alloc (.cells #[] 34) := ⟨_, rfl⟩
  have hb1 : Below w0.heap.size w0 w1 := by rw [ew1]; exact below1 _ _
  have hh1 : w1.heap[w0.heap.size]? = some (.cells #[] 34 (0, 0)) := by rw [ew1]; exact heap_alloc_new _ _
  have hT1 : TbG w1 w0.heap.size bl.length 0 (.slice (some ⟨w0.heap.size, 0, none⟩) 0 0) (fun _ => 0) (fun _ _ => false) := ⟨⟨rfl, .inr ⟨w0.heap.size, 0, #[], rfl, Nat.le_refl _, hh1, Nat.le_refl _, Nat.zero_le _, by simp, by simp; rfl⟩⟩, fun j hj => by omega⟩
  rw [← ew1]
  have HB1 := hid' hb1
  obtain ⟨_, _, a0, a1, a2, a3, a4⟩ := HBX.out w1 hb1
  clear hh1 hb1 ew1
  go_upto_region 3 with (go_at_call 24; refine (H24.out _ (below_up HB0.out HB1.out)).mono ?_; rintro e1 w2 ⟨ra, rcap, rfl, hsrc, hb2, hge, B, hown⟩; have HB2 := hid' (below_up HB1.out hb2); have HT2 := hid' (hT1.on hb2); have HRO := hid' hown; clear hsrc hb2 hge hown hT1)
  have HRL := hid' (reach_len bl)
  clear a0 a1 a2 a3 a4
  go_wp2_with fail
  go_loopw [3, 5] (fun ov iv wr => ∃ (a : Nat) (gs : Nat → Nat) (t : Nat → Nat → Bool) (og cap : Nat), a ≤ bl.length ∧ iv = .int .i64 a ∧ ov = .slice (some ⟨og, 0, none⟩) a cap ∧ a ≤ cap ∧ TbG wr w0.heap.size bl.length a ov gs t ∧ (∀ j b, j < a → b < bl.length → (t j b = true ↔ TabB bl j b)) ∧ Own 4 1 bcl wr B (.slice ra bl.length rcap) (reachF bl) ∧ Below w0.heap.size w0 wr) (fun _ iv _ => bl.length - (intOf iv).toNat)
  case atStart => exact ⟨0, _, _, w0.heap.size, 0, Nat.zero_le _, rfl, by rw [hz0], Nat.le_refl _, by rw [← hz0]; exact HT2.out, fun j b hj _ => by omega, HRO.out, HB2.out⟩
  case round =>
    obtain ⟨a, gs, t, og, cap, ha, rfl, rfl, hac, hT, ht, hO, hB⟩ := hrel
    have HT := hid' hT
    have Ht := hid' ht
    have HO := hid' hO
    have HB := hid' hB
    obtain ⟨_, _, c0, c1, c2, c3, c4⟩ := HBX.out _ hB
    clear hT ht hO hB
    by_cases hal : a < bl.length
    · go_upto_region 7 with (go_at_call 30; refine (H30.out _ (below_up HB0.out HB.out) a hal).mono ?_; rintro e1 w4 ⟨rg, rc, f, rfl, hrc, hrl, hrcell, hrd, hb4⟩; have HB4 := hid' hb4; have HRC := hid' hrcell; have HRD := hid' hrd; clear hrcell hrd hb4)
      obtain ⟨w5, hm5, hR5, hb5, hs5⟩ := make_bools w4 (n := bl.length) (by unfold big; omega)
      obtain ⟨_, _, d0, d1, d2, d3, d4⟩ := HBX.out w4 (below_up HB.out HB4.out)
      have HR5 := hid' hR5
      have HB5 := hid' hb5
      clear hR5 hb5 c0 c1 c2 c3 c4
      go_upto_region 8 with fail
      have HB6 := hid' (below_up (below_up HB.out HB4.out) HB5.out)
      have hbn : 0 < bl.length := by omega
      obtain ⟨rb, rbc, era, hrb, hrble, hrbcell⟩ := own_cells4 HO.out HRL.out hbn
      subst era
      have HRA : Hid (∀ j, j < bl.length → w5.cell? ⟨rb, j, none⟩ = some (.bool (reN bl j))) := fun j hj => keep_cell (hrbcell j hj) (below_up HB4.out HB5.out)
      have HRC5 : Hid (∀ j, j < bl.length → w5.cell? ⟨rg, j, none⟩ = some (.bool (f j))) := fun j hj => keep_cell (HRC.out j hj) HB5.out
      have hrg4 : rg ≠ w4.heap.size := by omega
      have hrb4 : rb ≠ w4.heap.size := by
        have := (Array.getElem?_eq_some_iff.1 hrb).1
        have := HB4.out.size
        omega
      have hrb5 : rb < w5.heap.size := Nat.lt_of_lt_of_le (Array.getElem?_eq_some_iff.1 hrb).1 (Nat.le_trans HB4.out.size HB5.out.size)
      have hrg5 : rg < w5.heap.size := Nat.lt_of_lt_of_le hrl HB5.out.size
      have hfb : w.heap.size ≠ w4.heap.size := by
        have := HB0.out.size
        have := HB.out.size
        have := HB4.out.size
        omega
      clear hrb hrbcell hm5 hs5 d0 d1 d2 d3 d4
      go_wp2_with fail
      go_loopw [8] (fun iv wr2 => ∃ (b : Nat) (r : Nat → Bool), b ≤ bl.length ∧ iv = .int .i64 b ∧ RowB wr2 w4.heap.size bl.length r ∧ (∀ j, j < b → (r j = true ↔ TabB bl a j)) ∧ Kept (fun k => k = w4.heap.size) w5 wr2) (fun iv _ => bl.length - (intOf iv).toNat)
      case atStart => exact ⟨0, _, Nat.zero_le _, rfl, HR5.out, fun j hj => by omega, Kept.rfl _ _⟩
      case round =>
        obtain ⟨b, r, hb, rfl, hR, hr, hK⟩ := hrel
        have HR := hid' hR
        have Hr := hid' hr
        have HK := hid' hK
        have hbx : Below w0.heap.size w0 wr := HB6.out.trans (hK.below HB6.out.size (fun k e => by subst e; have := HB.out.size; have := HB4.out.size; omega))
        have HBX6 := hid' hbx
        obtain ⟨_, _, c0, c1, c2, c3, c4⟩ := HBX.out _ hbx
        clear hR hr hK hbx
        by_cases hbl : b < bl.length
        · have q1 := (HK.out.cell (o := a) hrb5 hrb4).trans (HRA.out a hal)
          have q2 := (HK.out.cell (o := b) hrb5 hrb4).trans (HRA.out b hbl)
          have q3 := (HK.out.cell (o := b) hrg5 hrg4).trans (HRC5.out b hbl)
          have q4 := HR.out.cell hbl
          have q5 := HR.out.fro b
          have hv := tab_val (bl := bl) (a := a) (b := b) hbn (HRD.out b hbl)
          have fin : ∀ x : Bool, (reN bl a && (reN bl b && (decide (a = b) || !f b))) = x → RowB (wr.setCell ⟨w4.heap.size, b, none⟩ (.bool x)) w4.heap.size bl.length (Dfs.upd r b x) ∧ (∀ j, j < b + 1 → (Dfs.upd r b x j = true ↔ TabB bl a j)) ∧ Kept (fun k => k = w4.heap.size) w5 (wr.setCell ⟨w4.heap.size, b, none⟩ (.bool x)) := fun x hx => by
            refine ⟨HR.out.set b x, fun j hj => ?_, HK.out.set (.inl rfl) _⟩
            by_cases e : j = b
            · subst e
              rw [Dfs.upd_same, ← hx]
              exact hv
            · rw [Dfs.upd_ne _ _ e]
              exact Hr.out j (by omega)
          have FIN := hid' fin
          clear hv fin
          cases hpa : reN bl a with
          | false =>
            rw [hpa] at q1
            have F := hid' (FIN.out false (by rw [hpa]; rfl))
            clear FIN
            go_wp2_with fail
            go_roundw
            case rel => exact ⟨b + 1, _, by omega, by go_num, F.out.1, F.out.2.1, F.out.2.2⟩
            case measure => simp [intOf]; omega
          | true =>
            rw [hpa] at q1
            cases hpb : reN bl b with
            | false =>
              rw [hpb] at q2
              have F := hid' (FIN.out false (by rw [hpa, hpb]; rfl))
              clear FIN
              go_wp2_with fail
              go_roundw
              case rel => exact ⟨b + 1, _, by omega, by go_num, F.out.1, F.out.2.1, F.out.2.2⟩
              case measure => simp [intOf]; omega
            | true =>
              rw [hpb] at q2
              by_cases hab : a = b
              · have t1 : ((a : Int) == b) = true := beq_iff_eq.2 (by omega)
                have F := hid' (FIN.out true (by rw [hpa, hpb, decide_eq_true hab]; rfl))
                clear FIN
                go_wp2_with fail
                go_roundw
                case rel => exact ⟨b + 1, _, by omega, by go_num, F.out.1, F.out.2.1, F.out.2.2⟩
                case measure => simp [intOf]; omega
              · have t1 : ((a : Int) == b) = false := beq_eq_false_iff_ne.2 (by omega)
                have F := hid' (FIN.out (!f b) (by rw [hpa, hpb, decide_eq_false hab]; simp))
                clear FIN
                go_wp2_with fail
                go_roundw
                case rel => exact ⟨b + 1, _, by omega, by go_num, F.out.1, F.out.2.1, F.out.2.2⟩
                case measure => simp [intOf]; omega
        · have e : b = bl.length := by omega
          subst e
          have HT4 := HT.out.on HB4.out
          have hog := (World.ownsRow.lt HT4.own og rfl).2
          have hgs := fun j hj => (HT4.row j hj).lt
          have HTr := (HT4.on HB5.out).kept HK.out (fun q e e2 => by
            have h1 : og = q := by injection e
            omega) (fun j hj e => by have := hgs j hj; omega)
          have HO5 := (Kept.of_below (S := fun _ => False) (below_up HB4.out HB5.out)).owns HO.out (fun _ _ e => e)
          have HOr := HK.out.owns HO5 (fun q e e2 => by
            have h1 : rb = q := by injection e
            omega)
          obtain ⟨wq, ewq⟩ : ∃ wq, wq = wr.alloc (.cells #[.slice (some ⟨w4.heap.size, 0, none⟩) bl.length bl.length] 34) := ⟨_, rfl⟩
          have hbq : Below wr.heap.size wr wq := by rw [ewq]; exact below1 _ _
          have hqq : wq.heap[wr.heap.size]? = some (.cells #[.slice (some ⟨w4.heap.size, 0, none⟩) bl.length bl.length] 34 (0, 0)) := by rw [ewq]; exact heap_alloc_new _ _
          have hBq := below_up HBX6.out hbq
          obtain ⟨b7, cap7, w7, hr7, hT7, hB7, hK7⟩ := (HTr.on hbq).app hBq.size (HR.out.on hbq) hqq (by omega)
          have hO7 := hK7.owns ((Kept.of_below (S := fun _ => False) hbq).owns HOr (fun _ _ e => e)) (fun q e hS => by
            obtain ⟨c, hc⟩ := own_block ((Kept.of_below (S := fun _ => False) hbq).owns HOr (fun _ _ e => e)) e
            exact hS c hc)
          obtain ⟨ao7, cp7, e7, hle7⟩ := own_len hT7.own
          rw [List.length_map, List.length_range] at e7 hle7
          injection e7 with e6 _ e7
          subst e6 e7
          have HT7 := hid' hT7
          have HO7 := hid' hO7
          have HB7 := hid' (hBq.trans hB7)
          have HR7 := hid' (hr7 31)
          rw [ewq] at HR7
          have HTT : Hid (∀ x y, x < a + 1 → y < bl.length → ((if x = a then r else t x) y = true ↔ TabB bl x y)) := fun x y hx hy => by
            by_cases e : x = a
            · subst e
              rw [if_pos rfl]
              exact Hr.out y hy
            · rw [if_neg e]
              exact Ht.out x y (by omega) hy
          clear HT4 hog hgs HTr HO5 HOr hbq hqq hBq hr7 hT7 hB7 hK7 hO7 ewq
          go_wp2_with (with_reducible refine stop_append ?_)
          unfold Mark
          refine wpList_append_run rfl (.tmp 58) (.tmp 60) rfl (.slice (some ⟨og, 0, none⟩) a cap) (.slice (some ⟨wr.heap.size, 0, none⟩) 1 1) _ (by rfl) (by rfl) HR7.out ?_
          go_wp2_with fail
          go_roundw
          case rel => exact ⟨a + 1, _, _, b7, cap7, by omega, by go_num, rfl, hle7, HT7.out, HTT.out, HO7.out, HB7.out⟩
          case measure => simp [intOf]; omega
    · have e : a = bl.length := by omega
      subst e
      have htab := HT.out.tab
      go_wp2_with fail
      go_ret
      exact ⟨og, cap, gs, t, rfl, hac, htab, fun x y hx hy => Ht.out x y hx hy, below_up HB0.out HB.out⟩
end
end Go.Proofs.Ytgkaeoieclegjaa
