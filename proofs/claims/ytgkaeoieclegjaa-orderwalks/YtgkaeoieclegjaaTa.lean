/- The document's Table. -/
import Derived.Test.YtgkaeoieclegjaaTm
namespace Go.Proofs.Ytgkaeoieclegjaa
open Go Go.RowKit Go.Maps
set_option linter.unusedVariables false
set_option linter.unusedSimpArgs false
/-- What Table tells. -/
def TabR (bl : List Bl) (w : World) (e : Ending) (w' : World) : Prop :=
  ∃ (og cap : Nat) (gs : Nat → Nat) (t : Nat → Nat → Bool), e = .returned (.slice (some ⟨og, 0, none⟩) bl.length cap) ∧ bl.length ≤ cap ∧ TabM w' bl.length bl.length og gs t ∧ (∀ a b, a < bl.length → b < bl.length → (t a b = true ↔ TabB bl a b)) ∧ Below w.heap.size w w'
set_option maxRecDepth 20000 in
set_option maxHeartbeats 16000000 in
theorem table15 {w : World} {f : Fn} (h : Fn.ok w f) : Calls Try.prog 15 #[f.val] w (TabR f.blocks w) := by
  have H24 : Hid (∀ W, Below w.heap.size w W → Calls Try.prog 24 #[f.val] W (RchR f.blocks W)) := fun W hW => reached17 (h.on hW)
  have H30 : Hid (∀ W, Below w.heap.size w W → ∀ k, k < f.blocks.length → Calls Try.prog 30 #[f.val, .int .i64 (k : Nat)] W (WoR f.blocks k W)) := fun W hW k hk => without30 (h.on hW) hk
  have hbl := h.bl
  obtain ⟨nm, ps, rs, sl, bv, bl⟩ := f
  obtain ⟨bo, bc, eb⟩ := h.b.len
  dsimp only at *
  subst eb
  have hbl2 := hbl
  unfold big at hbl
  unfold Fn.val at *
  dsimp only at *
  clear h
  obtain ⟨w0, ew0⟩ : ∃ w0, w0 = w.alloc (.cells #[.string nm, .int .i64 ps, .int .i64 rs, .int .i64 sl, .slice bo bl.length bc] 24) := ⟨_, rfl⟩
  have HW0 := hid' ew0
  have HB0 : Hid (Below w.heap.size w w0) := by unfold Hid; rw [ew0]; exact below1 _ _
  have HBX : Hid (∀ W, Below w0.heap.size w0 W → _) := fun W hW => fbox (w := w) (W := W) (by rw [← ew0]; exact hW)
  have hz0 : w0.heap.size = w.heap.size + 1 := by rw [ew0]; simp
  clear ew0
  go_enter Try.func15, Try.ntmps15
  go_upto_region 2 with fail
  rw [← HW0.out]
  obtain ⟨w1, ew1⟩ : ∃ w1, w1 = w0.alloc (.cells #[] 34) := ⟨_, rfl⟩
  have hb1 : Below w0.heap.size w0 w1 := by rw [ew1]; exact below1 _ _
  have hh1 : w1.heap[w0.heap.size]? = some (.cells #[] 34 (0, 0)) := by rw [ew1]; exact heap_alloc_new _ _
  have hT1 : TbG w1 w0.heap.size bl.length 0 (.slice (some ⟨w0.heap.size, 0, none⟩) 0 0) (fun _ => 0) (fun _ _ => false) := ⟨⟨rfl, .inr ⟨w0.heap.size, 0, #[], rfl, Nat.le_refl _, hh1, Nat.le_refl _, Nat.zero_le _, by simp, by simp; rfl⟩⟩, fun j hj => by omega⟩
  rw [← ew1]
  have HB1 := hid' hb1
  obtain ⟨_, _, a0, a1, a2, a3, a4⟩ := HBX.out w1 hb1
  clear hh1 hb1 ew1
  go_upto_region 3 with (go_at_call 24; refine (H24.out _ (below_up HB0.out HB1.out)).mono ?_; rintro e1 w2 ⟨ra, rcap, rfl, hsrc, hb2, hge, B, hown⟩; have HB2 := hid' (below_up HB1.out hb2); have HT2 := hid' (hT1.on hb2); have HRO := hid' hown; clear hsrc hb2 hge hown hT1)
  have HRL := hid' (reach_len bl)
  clear a0 a1 a2 a3 a4
  go_wp2_with fail
  go_loopw [3, 5] (fun ov iv wr => ∃ (a : Nat) (gs : Nat → Nat) (t : Nat → Nat → Bool) (og cap : Nat), a ≤ bl.length ∧ iv = .int .i64 a ∧ ov = .slice (some ⟨og, 0, none⟩) a cap ∧ a ≤ cap ∧ TbG wr w0.heap.size bl.length a ov gs t ∧ (∀ j b, j < a → b < bl.length → (t j b = true ↔ TabB bl j b)) ∧ Own 4 1 bcl wr B (.slice ra bl.length rcap) (reachF bl) ∧ Below w0.heap.size w0 wr) (fun _ iv _ => bl.length - (intOf iv).toNat)
  case atStart => exact ⟨0, _, _, w0.heap.size, 0, Nat.zero_le _, rfl, by rw [hz0], Nat.le_refl _, by rw [← hz0]; exact HT2.out, fun j b hj _ => by omega, HRO.out, HB2.out⟩
  case round =>
    obtain ⟨a, gs, t, og, cap, ha, rfl, rfl, hac, hT, ht, hO, hB⟩ := hrel
    have HT := hid' hT
    have Ht := hid' ht
    have HO := hid' hO
    have HB := hid' hB
    obtain ⟨_, _, c0, c1, c2, c3, c4⟩ := HBX.out _ hB
    clear hT ht hO hB
    by_cases hal : a < bl.length
    · go_upto_region 7 with (go_at_call 30; refine (H30.out _ (below_up HB0.out HB.out) a hal).mono ?_; rintro e1 w4 ⟨rg, rc, f, rfl, hrc, hrl, hrcell, hrd, hb4⟩; have HB4 := hid' hb4; have HRC := hid' hrcell; have HRD := hid' hrd; clear hrcell hrd hb4)
      obtain ⟨w5, hm5, hR5, hb5, hs5⟩ := make_bools w4 (n := bl.length) (by unfold big; omega)
      obtain ⟨_, _, d0, d1, d2, d3, d4⟩ := HBX.out w4 (below_up HB.out HB4.out)
      have HR5 := hid' hR5
      have HB5 := hid' hb5
      clear hR5 hb5 c0 c1 c2 c3 c4
      go_upto_region 8 with fail
      have HB6 := hid' (below_up (below_up HB.out HB4.out) HB5.out)
      have hbn : 0 < bl.length := by omega
      obtain ⟨rb, rbc, era, hrb, hrble, hrbcell⟩ := own_cells4 HO.out HRL.out hbn
      subst era
      have HRA : Hid (∀ j, j < bl.length → w5.cell? ⟨rb, j, none⟩ = some (.bool (reN bl j))) := fun j hj => keep_cell (hrbcell j hj) (below_up HB4.out HB5.out)
      have HRC5 : Hid (∀ j, j < bl.length → w5.cell? ⟨rg, j, none⟩ = some (.bool (f j))) := fun j hj => keep_cell (HRC.out j hj) HB5.out
      have hrg4 : rg ≠ w4.heap.size := by omega
      have hrb4 : rb ≠ w4.heap.size := by
        have := (Array.getElem?_eq_some_iff.1 hrb).1
        have := HB4.out.size
        omega
      have hrb5 : rb < w5.heap.size := Nat.lt_of_lt_of_le (Array.getElem?_eq_some_iff.1 hrb).1 (Nat.le_trans HB4.out.size HB5.out.size)
      have hrg5 : rg < w5.heap.size := Nat.lt_of_lt_of_le hrl HB5.out.size
      have hfb : w.heap.size ≠ w4.heap.size := by
        have := HB0.out.size
        have := HB.out.size
        have := HB4.out.size
        omega
      clear hrb hrbcell hm5 hs5 d0 d1 d2 d3 d4
      go_wp2_with fail
      go_loopw [8] (fun iv wr2 => ∃ (b : Nat) (r : Nat → Bool), b ≤ bl.length ∧ iv = .int .i64 b ∧ RowB wr2 w4.heap.size bl.length r ∧ (∀ j, j < b → (r j = true ↔ TabB bl a j)) ∧ Kept (fun k => k = w4.heap.size) w5 wr2) (fun iv _ => bl.length - (intOf iv).toNat)
      case atStart => exact ⟨0, _, Nat.zero_le _, rfl, HR5.out, fun j hj => by omega, Kept.rfl _ _⟩
      case round =>
        obtain ⟨b, r, hb, rfl, hR, hr, hK⟩ := hrel
        have HR := hid' hR
        have Hr := hid' hr
        have HK := hid' hK
        have hbx : Below w0.heap.size w0 wr := HB6.out.trans (hK.below HB6.out.size (fun k e => by subst e; have := HB.out.size; have := HB4.out.size; omega))
        have HBX6 := hid' hbx
        obtain ⟨_, _, c0, c1, c2, c3, c4⟩ := HBX.out _ hbx
        clear hR hr hK hbx
        by_cases hbl : b < bl.length
        · have q1 := (HK.out.cell (o := a) hrb5 hrb4).trans (HRA.out a hal)
          have q2 := (HK.out.cell (o := b) hrb5 hrb4).trans (HRA.out b hbl)
          have q3 := (HK.out.cell (o := b) hrg5 hrg4).trans (HRC5.out b hbl)
          have q4 := HR.out.cell hbl
          have q5 := HR.out.fro b
          have hv := tab_val (bl := bl) (a := a) (b := b) hbn (HRD.out b hbl)
          have fin : ∀ x : Bool, (reN bl a && (reN bl b && (decide (a = b) || !f b))) = x → RowB (wr.setCell ⟨w4.heap.size, b, none⟩ (.bool x)) w4.heap.size bl.length (Dfs.upd r b x) ∧ (∀ j, j < b + 1 → (Dfs.upd r b x j = true ↔ TabB bl a j)) ∧ Kept (fun k => k = w4.heap.size) w5 (wr.setCell ⟨w4.heap.size, b, none⟩ (.bool x)) := fun x hx => by
            refine ⟨HR.out.set b x, fun j hj => ?_, HK.out.set (.inl rfl) _⟩
            by_cases e : j = b
            · subst e
              rw [Dfs.upd_same, ← hx]
              exact hv
            · rw [Dfs.upd_ne _ _ e]
              exact Hr.out j (by omega)
          have FIN := hid' fin
          clear hv fin
          cases hpa : reN bl a with
          | false =>
            rw [hpa] at q1
            have F := hid' (FIN.out false (by rw [hpa]; rfl))
            clear FIN
            go_wp2_with fail
            go_roundw
            case rel => exact ⟨b + 1, _, by omega, by go_num, F.out.1, F.out.2.1, F.out.2.2⟩
            case measure => simp [intOf]; omega
          | true =>
            rw [hpa] at q1
            cases hpb : reN bl b with
            | false =>
              rw [hpb] at q2
              have F := hid' (FIN.out false (by rw [hpa, hpb]; rfl))
              clear FIN
              go_wp2_with fail
              go_roundw
              case rel => exact ⟨b + 1, _, by omega, by go_num, F.out.1, F.out.2.1, F.out.2.2⟩
              case measure => simp [intOf]; omega
            | true =>
              rw [hpb] at q2
              by_cases hab : a = b
              · have t1 : ((a : Int) == b) = true := beq_iff_eq.2 (by omega)
                have F := hid' (FIN.out true (by rw [hpa, hpb, decide_eq_true hab]; rfl))
                clear FIN
                go_wp2_with fail
                go_roundw
                case rel => exact ⟨b + 1, _, by omega, by go_num, F.out.1, F.out.2.1, F.out.2.2⟩
                case measure => simp [intOf]; omega
              · have t1 : ((a : Int) == b) = false := beq_eq_false_iff_ne.2 (by omega)
                have F := hid' (FIN.out (!f b) (by rw [hpa, hpb, decide_eq_false hab]; simp))
                clear FIN
                go_wp2_with fail
                go_roundw
                case rel => exact ⟨b + 1, _, by omega, by go_num, F.out.1, F.out.2.1, F.out.2.2⟩
                case measure => simp [intOf]; omega
        · have e : b = bl.length := by omega
          subst e
          have HT4 := HT.out.on HB4.out
          have hog := (World.ownsRow.lt HT4.own og rfl).2
          have hgs := fun j hj => (HT4.row j hj).lt
          have HTr := (HT4.on HB5.out).kept HK.out (fun q e e2 => by
            have h1 : og = q := by injection e
            omega) (fun j hj e => by have := hgs j hj; omega)
          have HO5 := (Kept.of_below (S := fun _ => False) (below_up HB4.out HB5.out)).owns HO.out (fun _ _ e => e)
          have HOr := HK.out.owns HO5 (fun q e e2 => by
            have h1 : rb = q := by injection e
            omega)
          obtain ⟨wq, ewq⟩ : ∃ wq, wq = wr.alloc (.cells #[.slice (some ⟨w4.heap.size, 0, none⟩) bl.length bl.length] 34) := ⟨_, rfl⟩
          have hbq : Below wr.heap.size wr wq := by rw [ewq]; exact below1 _ _
          have hqq : wq.heap[wr.heap.size]? = some (.cells #[.slice (some ⟨w4.heap.size, 0, none⟩) bl.length bl.length] 34 (0, 0)) := by rw [ewq]; exact heap_alloc_new _ _
          have hBq := below_up HBX6.out hbq
          obtain ⟨b7, cap7, w7, hr7, hT7, hB7, hK7⟩ := (HTr.on hbq).app hBq.size (HR.out.on hbq) hqq (by omega)
          have hO7 := hK7.owns ((Kept.of_below (S := fun _ => False) hbq).owns HOr (fun _ _ e => e)) (fun q e hS => by
            obtain ⟨c, hc⟩ := own_block ((Kept.of_below (S := fun _ => False) hbq).owns HOr (fun _ _ e => e)) e
            exact hS c hc)
          obtain ⟨ao7, cp7, e7, hle7⟩ := own_len hT7.own
          rw [List.length_map, List.length_range] at e7 hle7
          injection e7 with e6 _ e7
          subst e6 e7
          have HT7 := hid' hT7
          have HO7 := hid' hO7
          have HB7 := hid' (hBq.trans hB7)
          have HR7 := hid' (hr7 31)
          rw [ewq] at HR7
          have HTT : Hid (∀ x y, x < a + 1 → y < bl.length → ((if x = a then r else t x) y = true ↔ TabB bl x y)) := fun x y hx hy => by
            by_cases e : x = a
            · subst e
              rw [if_pos rfl]
              exact Hr.out y hy
            · rw [if_neg e]
              exact Ht.out x y (by omega) hy
          clear HT4 hog hgs HTr HO5 HOr hbq hqq hBq hr7 hT7 hB7 hK7 hO7 ewq
          go_wp2_with (with_reducible refine stop_append ?_)
          unfold Mark
          refine wpList_append_run rfl (.tmp 58) (.tmp 60) rfl (.slice (some ⟨og, 0, none⟩) a cap) (.slice (some ⟨wr.heap.size, 0, none⟩) 1 1) _ (by rfl) (by rfl) HR7.out ?_
          go_wp2_with fail
          go_roundw
          case rel => exact ⟨a + 1, _, _, b7, cap7, by omega, by go_num, rfl, hle7, HT7.out, HTT.out, HO7.out, HB7.out⟩
          case measure => simp [intOf]; omega
    · have e : a = bl.length := by omega
      subst e
      have htab := HT.out.tab
      go_wp2_with fail
      go_ret
      exact ⟨og, cap, gs, t, rfl, hac, htab, fun x y hx hy => Ht.out x y hx hy, below_up HB0.out HB.out⟩
end Go.Proofs.Ytgkaeoieclegjaa
