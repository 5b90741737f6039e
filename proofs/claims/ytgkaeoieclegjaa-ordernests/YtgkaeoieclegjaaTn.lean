/- The document's Doms. -/
import Derived.Test.YtgkaeoieclegjaaTa
namespace Go.Proofs.Ytgkaeoieclegjaa
open Go Go.RowKit Go.Maps
set_option linter.unusedVariables false
set_option linter.unusedSimpArgs false
theorem near_lt {t : Nat → Nat → Bool} {b : Nat} : ∀ {k c : Nat}, near t b k = some c → c < k
  | 0, c, h => by cases h
  | k + 1, c, h => by
    unfold near at h
    split at h
    · split at h
      · injection h with h
        omega
      · have := near_lt h
        omega
    · split at h
      · injection h with h
        omega
      · have := near_lt h
        omega
theorem near_no {t : Nat → Nat → Bool} {b k : Nat} (h : ¬ (k ≠ b ∧ t k b = true)) : near t b (k + 1) = near t b k := by
  conv => lhs; unfold near
  rw [if_neg fun h2 => h ⟨h2.1, h2.2.1⟩]
theorem near_first {t : Nat → Nat → Bool} {b k : Nat} (h : k ≠ b) (h2 : t k b = true) (h3 : near t b k = none) : near t b (k + 1) = some k := by
  conv => lhs; unfold near
  rw [h3, if_pos ⟨h, h2, rfl⟩]
theorem near_turn {t : Nat → Nat → Bool} {b k c : Nat} (h : k ≠ b) (h2 : t k b = true) (h3 : near t b k = some c) : near t b (k + 1) = if t c k = true then some k else some c := by
  conv => lhs; unfold near
  rw [h3]
  by_cases e : t c k = true
  · rw [if_pos e, if_pos ⟨h, h2, e⟩]
  · rw [if_neg e, if_neg fun h4 => e h4.2.2]
/-- What the document's Doms tells. -/
def DocR (bl : List Bl) (w : World) (e : Ending) (w' : World) : Prop :=
  ∃ (v : Value) (l : List Int), e = .returned v ∧ Src icell w' v l ∧ l.length = bl.length ∧ (∀ D, DomOk bl D → l = (List.range bl.length).map (fun b => oi (D b))) ∧ Below w.heap.size w w'
theorem TabM.cut {W : World} {n og : Nat} {gs : Nat → Nat} {t : Nat → Nat → Bool} (h : TabM W n n og gs t) : TabM W n n og gs (fun a b => t a b && (decide (a < n) && decide (b < n))) :=
  ⟨h.out, fun j hj => (h.row j hj).congr (fun i hi => by simp [hj, hi])⟩
/-- An int more. -/
theorem app_int {W : World} {B q : Nat} {v : Value} {l : List Int} {x : Int} (h : Own 3 1 icell W B v l) (hB : B ≤ W.heap.size) (hq : W.heap[q]? = some (.cells #[.int .i64 x] 3 (0, 0))) (ha : (l.length + 1) * 8 ≤ 140737488355328) :
    ∃ b cap w', (∀ ty, (Builtin.append_ #[26, 26] ty #[v, .slice (some ⟨q, 0, none⟩) 1 1]).run Try.prog W = .ok (.slice (some ⟨b, 0, none⟩) (l.length + 1) cap) w') ∧ Own 3 1 icell w' B (.slice (some ⟨b, 0, none⟩) (l.length + 1) cap) (l ++ [x]) ∧ Below B W w' ∧ Kept (fun k => v.ownBlock = some k) W w' := by
  have hqlt := (Array.getElem?_eq_some_iff.1 hq).1
  have hsrc : Src icell W (.slice (some ⟨q, 0, none⟩) 1 1) [x] := .inr ⟨q, 0, 1, rfl, hqlt, Nat.le_refl _, fun j u hj => by
    rw [Nat.zero_add, cell_of_row W q j _ 3 (0, 0) hq]
    simpa [flat, icell] using hj⟩
  obtain ⟨v', w', h1, h2, h3, h4⟩ := append_own2 (f := icell) (st := 26) (et := 3) (bytes := 8) ic1 (base := B) (w := W) (v := v) (x := .slice (some ⟨q, 0, none⟩) 1 1) (m := [x]) (fun y hy u hu => by
    obtain rfl := List.mem_singleton.1 hu
    rfl) Try.underlying26 info3 rfl (by decide) h hsrc (by simp only [List.length_singleton]; omega) (by simp only [List.length_singleton]; unfold maxLen; omega) hB 26
  have h2' := h2
  unfold Own at h2'
  rw [List.length_append, List.length_singleton] at h2'
  obtain ⟨b, cap, rfl⟩ := own_form h2'
  have K := grown_kept h3
  exact ⟨b, cap, w', fun ty => h1, h2, K.below hB (fun k e => (World.ownsRow.lt h k e).1), K⟩
set_option maxRecDepth 20000 in
set_option maxHeartbeats 16000000 in
theorem doms14 {w : World} {f : Fn} (h : Fn.ok w f) : Calls Try.prog 14 #[f.val] w (DocR f.blocks w) := by
  have H15 : Hid (∀ W, Below w.heap.size w W → Calls Try.prog 15 #[f.val] W (TabR f.blocks W)) := fun W hW => table15 (h.on hW)
  have hbl := h.bl
  obtain ⟨nm, ps, rs, sl, bv, bl⟩ := f
  obtain ⟨bo, bc, eb⟩ := h.b.len
  dsimp only at *
  subst eb
  unfold big at hbl
  unfold Fn.val at *
  dsimp only at *
  clear h
  obtain ⟨w0, ew0⟩ : ∃ w0, w0 = w.alloc (.cells #[.string nm, .int .i64 ps, .int .i64 rs, .int .i64 sl, .slice bo bl.length bc] 24) := ⟨_, rfl⟩
  have HW0 := hid' ew0
  have HB0 : Hid (Below w.heap.size w w0) := by unfold Hid; rw [ew0]; exact below1 _ _
  have HBX : Hid (∀ W, Below w0.heap.size w0 W → _) := fun W hW => fbox (w := w) (W := W) (by rw [← ew0]; exact hW)
  clear ew0
  go_enter Try.func14, Try.ntmps14
  go_upto_region 1 with fail
  rw [← HW0.out]
  obtain ⟨_, _, i0, i1, i2, i3, i4⟩ := HBX.out w0 (Below.refl _ _)
  go_upto_region 2 with (go_at_call 15; refine (H15.out _ HB0.out).mono ?_; rintro e1 w2 ⟨tg, tcap, gs, t, rfl, htc, hT, ht, hb2⟩)
  have htd : ∀ D, DomOk bl D → ∀ b, b < bl.length → near (fun a b => t a b && (decide (a < bl.length) && decide (b < bl.length))) b bl.length = D b := fun D hD b hb => near_dom hD (fun a b ha hb => by
    simp only [ha, hb, decide_true, Bool.and_true]
    exact ht a b ha hb) (fun a b e => by
    simp only [Bool.and_eq_true, decide_eq_true_eq] at e
    exact e.2) hb
  have hT2 := hT.cut
  generalize (fun a b => t a b && (decide (a < bl.length) && decide (b < bl.length))) = t' at *
  have HT := hid' hT2
  have HTD := hid' htd
  have HB2 := hid' hb2
  clear hT hT2 htd ht hb2
  obtain ⟨_, _, a0, a1, a2, a3, a4⟩ := HBX.out _ HB2.out
  go_upto_region 3 with fail
  have ho3 : Own 3 1 icell (w2.alloc (.cells #[] 3)) w2.heap.size (.slice (some ⟨w2.heap.size, 0, none⟩) 0 0) [] := ⟨rfl, .inr ⟨w2.heap.size, 0, #[], rfl, Nat.le_refl _, heap_alloc_new _ _, Nat.le_refl _, Nat.zero_le _, by simp, by simp; rfl⟩⟩
  have hb3 := below1 w2 (.cells #[] 3)
  have HO3 := hid' ho3
  have HB3 := hid' hb3
  clear ho3 hb3 a0 a1 a2 a3 a4
  generalize w2.alloc (.cells #[] 3) = w3 at *
  go_wp2_with fail
  go_loopw [4, 5] (fun ov bv wr => ∃ (b og cap : Nat) (l : List Int), b ≤ bl.length ∧ bv = .int .i64 b ∧ ov = .slice (some ⟨og, 0, none⟩) b cap ∧ l = (List.range b).map (fun b => oi (near t' b bl.length)) ∧ Own 3 1 icell wr w2.heap.size ov l ∧ Below w2.heap.size w2 wr) (fun _ bv _ => bl.length - (intOf bv).toNat)
  case atStart => exact ⟨0, w2.heap.size, 0, [], Nat.zero_le _, rfl, rfl, rfl, HO3.out, HB3.out⟩
  case round =>
    obtain ⟨b, og, cap, l, hb, rfl, rfl, hl, hO, hB⟩ := hrel
    have HL := hid' hl
    have HO := hid' hO
    have HB := hid' hB
    have HTr := hid' (HT.out.on hB)
    obtain ⟨_, _, c0, c1, c2, c3, c4⟩ := HBX.out _ (below_up HB2.out hB)
    clear hl hO hB
    by_cases hbl1 : b < bl.length
    · go_wp2_with fail
      go_loop [6, 7] (fun mv av => ∃ a : Nat, a ≤ bl.length ∧ av = .int .i64 a ∧ mv = .int .i64 (oi (near t' b a))) (fun _ av => bl.length - (intOf av).toNat)
      case atStart => exact ⟨0, Nat.zero_le _, rfl, rfl⟩
      case round =>
        obtain ⟨a, ha, rfl, rfl⟩ := hrel
        by_cases hal : a < bl.length
        · have q0 := HTr.out.out a hal
          have q1 := (HTr.out.row a hal).cell hbl1
          by_cases hab : a = b
          · have t1 : ((a : Int) != b) = false := by simp [hab]
            have HN := hid' (near_no (t := t') (b := b) (k := a) (fun h => h.1 hab))
            clear hab
            go_wp2_with fail
            go_round
            case rel => exact ⟨a + 1, by omega, by go_num, by rw [HN.out]⟩
            case measure => simp [intOf]; omega
          · have t1 : ((a : Int) != b) = true := bne_iff_ne.2 (by omega)
            cases htab : t' a b with
            | false =>
              rw [htab] at q1
              have HN := hid' (near_no (t := t') (b := b) (k := a) (fun h => (by rw [htab] at h; cases h.2)))
              clear hab htab
              go_wp2_with fail
              go_round
              case rel => exact ⟨a + 1, by omega, by go_num, by rw [HN.out]⟩
              case measure => simp [intOf]; omega
            | true =>
              rw [htab] at q1
              cases hn : near t' b a with
              | none =>
                have HN := hid' (near_first hab htab hn)
                rw [oi_none]
                clear hab htab hn
                go_wp2_with fail
                go_round
                case rel => exact ⟨a + 1, by omega, by go_num, by rw [HN.out, oi_some]⟩
                case measure => simp [intOf]; omega
              | some c =>
                have hca := near_lt hn
                have hcl : c < bl.length := by omega
                have HN := hid' (near_turn hab htab hn)
                have q2 := HTr.out.out c hcl
                have q3 := (HTr.out.row c hcl).cell hal
                have t2 : ¬ ((c : Int) < 0) := by omega
                rw [oi_some]
                clear hab htab hn
                cases htc : t' c a with
                | false =>
                  rw [htc] at q3
                  have HN2 : Hid (near t' b (a + 1) = some c) := by unfold Hid; rw [HN.out, htc]; rfl
                  clear htc
                  go_wp2_with fail
                  go_round
                  case rel => exact ⟨a + 1, by omega, by go_num, by rw [HN2.out, oi_some]⟩
                  case measure => simp [intOf]; omega
                | true =>
                  rw [htc] at q3
                  have HN2 : Hid (near t' b (a + 1) = some a) := by unfold Hid; rw [HN.out, htc]; rfl
                  clear htc
                  go_wp2_with fail
                  go_round
                  case rel => exact ⟨a + 1, by omega, by go_num, by rw [HN2.out, oi_some]⟩
                  case measure => simp [intOf]; omega
        · have e : a = bl.length := by omega
          subst e
          have hll : l.length = b := by rw [HL.out]; simp
          obtain ⟨x, hx⟩ : ∃ x, x = oi (near t' b bl.length) := ⟨_, rfl⟩
          have hl2 : l ++ [x] = (List.range (b + 1)).map (fun b => oi (near t' b bl.length)) := by rw [hx, HL.out, List.range_succ, List.map_append]; rfl
          rw [← hx]
          obtain ⟨wq, ewq⟩ : ∃ wq, wq = wr.alloc (.cells #[.int .i64 x] 3) := ⟨_, rfl⟩
          have hbq : Below wr.heap.size wr wq := by rw [ewq]; exact below1 _ _
          have hqq : wq.heap[wr.heap.size]? = some (.cells #[.int .i64 x] 3 (0, 0)) := by rw [ewq]; exact heap_alloc_new _ _
          have hBq := below_up HB.out hbq
          obtain ⟨b7, cap7, w7, hr7, hO7, hB7, hK7⟩ := app_int ((Kept.of_below (S := fun _ => False) hbq).owns HO.out (fun _ _ e => e)) hBq.size hqq (by omega)
          rw [hll] at hr7 hO7
          have HR7 := hid' (hr7 26)
          rw [ewq] at HR7
          have HO7 := hid' hO7
          have HB7 := hid' (hBq.trans hB7)
          have HL2 := hid' hl2
          clear hx hl2 hbq hqq hBq hr7 hO7 hB7 hK7 ewq hll
          go_wp2_with (with_reducible refine stop_append ?_)
          unfold Mark
          refine wpList_append_run rfl (.tmp 51) (.tmp 53) rfl (.slice (some ⟨og, 0, none⟩) b cap) (.slice (some ⟨wr.heap.size, 0, none⟩) 1 1) _ (by rfl) (by rfl) HR7.out ?_
          go_wp2_with fail
          go_roundw
          case rel => exact ⟨b + 1, b7, cap7, _, by omega, by go_num, rfl, HL2.out, HO7.out, HB7.out⟩
          case measure => simp [intOf]; omega
    · have e : b = bl.length := by omega
      subst e
      have hsrc := Own.src ic1 HO.out
      go_wp2_with fail
      go_ret
      exact ⟨_, l, rfl, hsrc, by rw [HL.out]; simp, fun D hD => by
        rw [HL.out]
        exact List.map_congr_left fun b hb => by rw [HTD.out D hD b (List.mem_range.1 hb)], below_up HB0.out (HB2.out.trans (HB.out.mono HB2.out.size))⟩
end Go.Proofs.Ytgkaeoieclegjaa
