/- ScopeBlocks's walk, its loops. -/
import Derived.Test.YthdphldagfeepaaBlocksW
namespace Go.Proofs.Ythdphldagfeepaa
open Go.RowKit Go.Maps
set_option linter.unusedVariables false
set_option linter.unusedSimpArgs false

set_option maxHeartbeats 16000000 in
set_option maxRecDepth 20000 in
theorem blocks4 {w : World} {v v2 : Value} {l l2 : List Ac} (h : Src Ac.cells w v l) (h2 : Src Ac.cells w v2 l2) (hok : ∀ a ∈ l, a.ok) (hok2 : ∀ a ∈ l2, a.ok) (hl : l.length * 32 ≤ 140737488351232) (hl2 : l2.length * 32 ≤ 140737488351232) :
    Calls Try.prog 4 #[v, v2] w fun e w' => e = .returned (.bool true) ∧ Below w.heap.size w w' := by
  obtain ⟨ao, cap, rfl, hf⟩ := h.form ac3
  obtain ⟨ao2, cap2, rfl, hf2⟩ := h2.form ac3
  have HF := hid' hf
  have HF2 := hid' hf2
  have HO := hid' hok
  have HO2 := hid' hok2
  have hll : l.length ≤ 4398046510976 := by omega
  have hll2 : l2.length ≤ 4398046510976 := by omega
  have HL := hid' hl
  clear hf h hok hl hf2 h2 hok2 hl2
  go_enter Try.func4, Try.ntmps4
  go_wp2_with (first
    | (go_at_call 6; refine (new6 w).mono ?_; rintro e1 w1 ⟨rfl, hS1, hB1⟩; replace hS1 := hid' hS1; replace hB1 := hid' hB1)
    | (go_at_call 7; refine (rnew7 _).mono ?_; rintro e2 w2 ⟨rfl, hR2, hw2⟩; subst hw2; clear hR2; have hM := hid' (mid_made hS1.out hB1.out)))
  go_loopw [7] (fun i wr => ∃ k : Nat, k ≤ l.length ∧ i = .int .i64 k ∧ Mid w (w.heap.size + 1) w1.heap.size k wr) (fun i _ => l.length - (intOf i).toNat)
  case atStart => exact ⟨0, Nat.zero_le _, rfl, hM.out⟩
  case round =>
    obtain ⟨k, hk, rfl, hmid⟩ := hrel
    have HM := hid' hmid
    clear hmid hM
    by_cases hlt : k < l.length
    · obtain ⟨b, off, rfl, hbl, hcp, hc⟩ := HF.out k hlt
      have hB : Below w.heap.size w wr := by obtain ⟨_, _, _, _, _, _, _, hb⟩ := HM.out; exact hb
      obtain ⟨c0, c1, c2⟩ := ac_cells (hc wr hB)
      have HP := hid' (play_mid HM.out l[k] (HO.out _ (List.getElem_mem hlt)) (by have := HL.out; omega))
      clear hc hB
      generalize l[k] = a at *
      obtain ⟨d, s, x⟩ := a
      dsimp only at *
      go_wp2_with (go_at_call 8; (with_reducible refine (HP.out).mono ?_); rintro e3 w3 ⟨rfl, hM3⟩; replace hM3 := hid' hM3)
      go_roundw
      case rel => exact ⟨k + 1, by omega, by go_num, hM3.out⟩
      case measure => simp [intOf]; omega
    · have e : k = l.length := by omega
      subst e
      obtain ⟨n, g, L, hS, hR, hr, hL, hb⟩ := HM.out
      have hlL : L.length * 32 ≤ 140737488351232 := by have := HL.out; omega
      have hnn := hS.hi
      have H9 := hid' (depth9' hS)
      have HE := hid' (enter_in hS hR hb (by omega))
      have HR := hid' hr
      have HLL := hid' hlL
      clear hS hR hr hb HM hS1 hB1 hlL hL
      generalize w1.heap.size = q at *
      go_wp2_with (first
        | (go_at_call 9; (with_reducible refine (H9.out).mono ?_); rintro e4 w4 ⟨rfl, hw⟩; have hv := hw.symm; clear hw; subst hv)
        | (go_at_call 13; (with_reducible refine (HE.out).mono ?_); rintro e5 w5 ⟨rfl, hI⟩; replace hI := hid' hI))
      clear H9 HE
      go_loopw [9] (fun i wr => ∃ k n' : Nat, k ≤ l2.length ∧ i = .int .i64 k ∧ n + 1 ≤ n' ∧ n' ≤ n + 1 + k ∧ In w (w.heap.size + 1) q (l.length + 2 + k) n g L n' wr) (fun i _ => l2.length - (intOf i).toNat)
      case atStart => exact ⟨0, n + 1, Nat.zero_le _, rfl, Nat.le_refl _, Nat.le_refl _, hI.out⟩
      case round =>
        clear hI
        obtain ⟨k, n', hk, rfl, hn1, hn2, hin⟩ := hrel
        have HI := hid' hin
        clear hin
        by_cases hlt : k < l2.length
        · obtain ⟨b, off, rfl, hbl, hcp, hc⟩ := HF2.out k hlt
          have HB : Hid (Below w.heap.size w wr) := by obtain ⟨_, _, _, _, hb⟩ := HI.out; exact hb
          obtain ⟨c0, c1, c2⟩ := ac_cells (hc wr HB.out)
          have hA := HO2.out _ (List.getElem_mem hlt)
          have H9 := hid' (depth_in HI.out)
          have HC : Hid (∀ W, Below w.heap.size w W → _) := fun W hW => ac_cells (hc W hW)
          clear hc
          generalize l2[k] = a at *
          obtain ⟨d, s, x⟩ := a
          have HA := hid' hA
          clear hA
          dsimp only at *
          by_cases h2 : d = 2
          · by_cases hd : n' = n + 1
            · subst h2 hd
              go_wp2_with (go_at_call 9; (with_reducible refine (H9.out).mono ?_); rintro e4 w4 ⟨rfl, hw⟩; have hv := hw.symm; clear hw; subst hv)
              go_roundw
              case rel => exact ⟨k + 1, n + 1, by omega, by go_num, by omega, by omega, HI.out.more (by omega)⟩
              case measure => simp [intOf]; omega
            · have hd' : n + 2 ≤ n' := by omega
              subst h2
              have hst := stN_in (d := 2) hn1 (by omega)
              have HP : Hid (Calls Try.prog 8 _ _ _) := play_in HI.out (.inr rfl) ⟨2, s, x⟩ HA.out (by omega) hn1 (by omega)
              have HN : Hid (Calls Try.prog 7 #[] wr.drew fun e w' => e = .returned (.pointer (some ⟨wr.heap.size, 0, none⟩)) ∧ w' = (wr.alloc refO).drew) := (rnew7 wr.drew).mono fun e w' h => ⟨h.1, h.2.2⟩
              obtain ⟨r0, r1, r2⟩ := HC.out (wr.alloc refO) (HB.out.trans ((box_below _ _).mono HB.out.size))
              dsimp only at *
              go_wp2_with (go_at_call 9; (with_reducible refine (H9.out).mono ?_); rintro e4 w4 ⟨rfl, hw⟩; have hv := hw.symm; clear hw; subst hv)
              go_region_with (first
                | (go_at_call 7; (with_reducible refine (HN.out).mono ?_); rintro e6 w6 ⟨rfl, hw⟩; subst hw)
                | (go_at_call 8; (with_reducible refine (HP.out).mono ?_); rintro e7 w7 ⟨b7, rfl, hI7⟩; replace hI7 := hid' hI7))
              all_goals
                go_wp2
                go_roundw
                case rel => exact ⟨k + 1, _, by omega, by go_num, hst.1, by omega, hI7.out⟩
                case measure => simp [intOf]; omega
          · have h2' : (d == 2) = false := by simpa using h2
            have hst := stN_in (d := d) hn1 (by intro h; exact absurd h h2)
            have HP : Hid (Calls Try.prog 8 _ _ _) := play_in HI.out (.inr rfl) ⟨d, s, x⟩ HA.out (by omega) hn1 (by intro h; exact absurd h h2)
            have HN : Hid (Calls Try.prog 7 #[] wr.drew fun e w' => e = .returned (.pointer (some ⟨wr.heap.size, 0, none⟩)) ∧ w' = (wr.alloc refO).drew) := (rnew7 wr.drew).mono fun e w' h => ⟨h.1, h.2.2⟩
            obtain ⟨r0, r1, r2⟩ := HC.out (wr.alloc refO) (HB.out.trans ((box_below _ _).mono HB.out.size))
            dsimp only at *
            go_wp2_with (go_at_call 9; (with_reducible refine (H9.out).mono ?_); rintro e4 w4 ⟨rfl, hw⟩; have hv := hw.symm; clear hw; subst hv)
            go_region_with (first
              | (go_at_call 7; (with_reducible refine (HN.out).mono ?_); rintro e6 w6 ⟨rfl, hw⟩; subst hw)
              | (go_at_call 8; (with_reducible refine (HP.out).mono ?_); rintro e7 w7 ⟨b7, rfl, hI7⟩; replace hI7 := hid' hI7))
            all_goals
              go_wp2
              go_roundw
              case rel => exact ⟨k + 1, _, by omega, by go_num, hst.1, by omega, hI7.out⟩
              case measure => simp [intOf]; omega
        · have e : k = l2.length := by omega
          subst e
          go_wp2
          have HI2 := hid' HI.out
          clear HI
          go_loopw [10] (fun i wr => ∃ j n' : Nat, i = .int .i64 j ∧ n ≤ n' ∧ n' + j ≤ n + 1 + l2.length ∧ In w (w.heap.size + 1) q (l.length + 2 + l2.length) n g L n' wr) (fun i _ => l2.length + 1 - (intOf i).toNat)
          case atStart => exact ⟨0, n', rfl, by omega, by omega, HI2.out⟩
          case round =>
            clear HI2 hn1 hn2
            obtain ⟨j, m', rfl, hm1, hm2, hin⟩ := hrel
            have HI := hid' hin
            have H9 := hid' (depth_in hin)
            clear hin
            by_cases hj : j ≤ l2.length
            · by_cases hn : n < m'
              · obtain ⟨k', rfl⟩ : ∃ k', m' = k' + 2 := ⟨m' - 2, by omega⟩
                have HLv := hid' (leave_in HI.out (by omega))
                go_wp2_with (first
                  | (go_at_call 9; (with_reducible refine (H9.out).mono ?_); rintro e4 w4 ⟨rfl, hw⟩; have hv := hw.symm; clear hw; subst hv)
                  | (go_at_call 14; (with_reducible refine (HLv.out).mono ?_); rintro e6 w6 ⟨c6, rfl, hI6⟩; replace hI6 := hid' hI6))
                go_roundw
                case rel => exact ⟨j + 1, k' + 1, by go_num, by omega, by omega, hI6.out⟩
                case measure => simp [intOf]; omega
              · have e : m' = n := by omega
                subst e
                go_wp2_with (go_at_call 9; (with_reducible refine (H9.out).mono ?_); rintro e4 w4 ⟨rfl, hw⟩; have hv := hw.symm; clear hw; subst hv)
                clear H9
                have HB : Hid (Below w.heap.size w wr) := by obtain ⟨_, _, _, _, hb⟩ := HI.out; exact hb
                have H9 := hid' (depth_in HI.out)
                have HFI : Hid (∀ s : ByteArray, s.size ≤ 140737488351232 → _) := fun s hs => finds_in HI.out HR.out (by omega) HLL.out s hs
                go_loop [11] (fun i => ∃ k : Nat, k ≤ l.length + l2.length ∧ i = .int .i64 k) (fun i => l.length + l2.length - (intOf i).toNat)
                case atStart => exact ⟨0, Nat.zero_le _, rfl⟩
                case round =>
                  obtain ⟨k, hk, rfl⟩ := hrel
                  by_cases hlt : k < l.length
                  · obtain ⟨b, off, rfl, hbl, hcp, hc⟩ := HF.out k hlt
                    obtain ⟨c0, c1, c2⟩ := ac_cells (hc wr HB.out)
                    obtain ⟨fa, fb, f10, f11⟩ := HFI.out l[k].nm (HO.out _ (List.getElem_mem hlt)).1
                    have H10 := hid' f10
                    have H11 := hid' f11
                    clear hc f10 f11
                    generalize l[k] = a at *
                    obtain ⟨d, s, x⟩ := a
                    dsimp only at *
                    go_wp2_with (first
                      | (go_at_call 10; (with_reducible refine (H10.out).mono ?_); rintro e1 w8 ⟨rfl, hw⟩; have hv := hw.symm; clear hw; subst hv)
                      | (go_at_call 11; (with_reducible refine (H11.out).mono ?_); rintro e2 w9 ⟨rfl, hw⟩; have hv := hw.symm; clear hw; subst hv))
                    go_round
                    case rel => exact ⟨k + 1, by omega, by go_num⟩
                    case measure => simp [intOf]; omega
                  · by_cases hlt2 : k < l.length + l2.length
                    · obtain ⟨m, rfl⟩ : ∃ m, k = l.length + m := ⟨k - l.length, by omega⟩
                      have hm : m < l2.length := by omega
                      obtain ⟨b, off, rfl, hbl, hcp, hc⟩ := HF2.out m hm
                      obtain ⟨c0, c1, c2⟩ := ac_cells (hc wr HB.out)
                      obtain ⟨fa, fb, f10, f11⟩ := HFI.out l2[m].nm (HO2.out _ (List.getElem_mem hm)).1
                      have H10 := hid' f10
                      have H11 := hid' f11
                      have hix : ((l.length + m : Nat) : Int) - (l.length : Int) = m := by omega
                      have hix2 : (l.length : Int) + (m : Int) - (l.length : Int) = m := by omega
                      clear hc f10 f11
                      generalize l2[m] = a at *
                      obtain ⟨d, s, x⟩ := a
                      dsimp only at *
                      go_wp2_with (first
                        | (go_at_call 10; (with_reducible refine (H10.out).mono ?_); rintro e1 w8 ⟨rfl, hw⟩; have hv := hw.symm; clear hw; subst hv)
                        | (go_at_call 11; (with_reducible refine (H11.out).mono ?_); rintro e2 w9 ⟨rfl, hw⟩; have hv := hw.symm; clear hw; subst hv))
                      go_round
                      case rel => exact ⟨l.length + m + 1, by omega, by go_num⟩
                      case measure => simp [intOf]; omega
                    · go_wp2_with (first
                        | (go_at_call 9; (with_reducible refine (H9.out).mono ?_); rintro e4 w4 ⟨rfl, hw⟩; have hv := hw.symm; clear hw; subst hv)
                        | (go_at_call 12; refine (awake12 _).mono ?_; rintro e3 w3 ⟨rfl, hb3⟩; replace hb3 := hid' hb3))
                      go_ret
                      exact ⟨rfl, HB.out.trans (hb3.out.mono HB.out.size)⟩
            · have e : m' = n := by omega
              subst e
              go_wp2
              clear H9
              have HB : Hid (Below w.heap.size w wr) := by obtain ⟨_, _, _, _, hb⟩ := HI.out; exact hb
              have H9 := hid' (depth_in HI.out)
              have HFI : Hid (∀ s : ByteArray, s.size ≤ 140737488351232 → _) := fun s hs => finds_in HI.out HR.out (by omega) HLL.out s hs
              go_loop [11] (fun i => ∃ k : Nat, k ≤ l.length + l2.length ∧ i = .int .i64 k) (fun i => l.length + l2.length - (intOf i).toNat)
              case atStart => exact ⟨0, Nat.zero_le _, rfl⟩
              case round =>
                obtain ⟨k, hk, rfl⟩ := hrel
                by_cases hlt : k < l.length
                · obtain ⟨b, off, rfl, hbl, hcp, hc⟩ := HF.out k hlt
                  obtain ⟨c0, c1, c2⟩ := ac_cells (hc wr HB.out)
                  obtain ⟨fa, fb, f10, f11⟩ := HFI.out l[k].nm (HO.out _ (List.getElem_mem hlt)).1
                  have H10 := hid' f10
                  have H11 := hid' f11
                  clear hc f10 f11
                  generalize l[k] = a at *
                  obtain ⟨d, s, x⟩ := a
                  dsimp only at *
                  go_wp2_with (first
                    | (go_at_call 10; (with_reducible refine (H10.out).mono ?_); rintro e1 w8 ⟨rfl, hw⟩; have hv := hw.symm; clear hw; subst hv)
                    | (go_at_call 11; (with_reducible refine (H11.out).mono ?_); rintro e2 w9 ⟨rfl, hw⟩; have hv := hw.symm; clear hw; subst hv))
                  go_round
                  case rel => exact ⟨k + 1, by omega, by go_num⟩
                  case measure => simp [intOf]; omega
                · by_cases hlt2 : k < l.length + l2.length
                  · obtain ⟨m, rfl⟩ : ∃ m, k = l.length + m := ⟨k - l.length, by omega⟩
                    have hm : m < l2.length := by omega
                    obtain ⟨b, off, rfl, hbl, hcp, hc⟩ := HF2.out m hm
                    obtain ⟨c0, c1, c2⟩ := ac_cells (hc wr HB.out)
                    obtain ⟨fa, fb, f10, f11⟩ := HFI.out l2[m].nm (HO2.out _ (List.getElem_mem hm)).1
                    have H10 := hid' f10
                    have H11 := hid' f11
                    have hix : ((l.length + m : Nat) : Int) - (l.length : Int) = m := by omega
                    have hix2 : (l.length : Int) + (m : Int) - (l.length : Int) = m := by omega
                    clear hc f10 f11
                    generalize l2[m] = a at *
                    obtain ⟨d, s, x⟩ := a
                    dsimp only at *
                    go_wp2_with (first
                      | (go_at_call 10; (with_reducible refine (H10.out).mono ?_); rintro e1 w8 ⟨rfl, hw⟩; have hv := hw.symm; clear hw; subst hv)
                      | (go_at_call 11; (with_reducible refine (H11.out).mono ?_); rintro e2 w9 ⟨rfl, hw⟩; have hv := hw.symm; clear hw; subst hv))
                    go_round
                    case rel => exact ⟨l.length + m + 1, by omega, by go_num⟩
                    case measure => simp [intOf]; omega
                  · go_wp2_with (first
                      | (go_at_call 9; (with_reducible refine (H9.out).mono ?_); rintro e4 w4 ⟨rfl, hw⟩; have hv := hw.symm; clear hw; subst hv)
                      | (go_at_call 12; refine (awake12 _).mono ?_; rintro e3 w3 ⟨rfl, hb3⟩; replace hb3 := hid' hb3))
                    go_ret
                    exact ⟨rfl, HB.out.trans (hb3.out.mono HB.out.size)⟩
end Go.Proofs.Ythdphldagfeepaa
