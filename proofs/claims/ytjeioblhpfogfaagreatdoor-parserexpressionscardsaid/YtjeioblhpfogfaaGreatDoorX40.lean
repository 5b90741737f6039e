/- The way to the next token, by the document. -/
import Derived.Test.YtjeioblhpfogfaaGreatDoorX00
import Derived.Lib.IndexLaws
set_option linter.unusedVariables false
set_option linter.unusedSimpArgs false
set_option maxRecDepth 20000
set_option maxHeartbeats 8000000
namespace Go.Proofs.YtjeioblhpfogfaaGreatDoorLx
open Go.RowKit

theorem lineN_ten {c : UInt8} {r : List UInt8} (h : c.toNat = 10) : lineN (c :: r) = 0 := by simp [lineN, h]
theorem lineN_ne {c : UInt8} {r : List UInt8} (h : ¬ c.toNat = 10) : lineN (c :: r) = lineN r + 1 := by
  unfold lineN
  rw [List.takeWhile_cons_of_pos (by simpa using h)]
  rfl
theorem occ_drop (l p : List UInt8) (a j : Nat) (h : a ≤ j) : Lib.occAt (l.drop a) p (j - a) = p.isPrefixOf (l.drop j) := by
  unfold Lib.occAt
  rw [List.drop_drop, show a + (j - a) = j by omega]

theorem pre_room {s : ByteArray} {a b : UInt8} {k : Nat} (h : [a, b].isPrefixOf ((lst s).drop k) = true) : k + 2 ≤ s.size := by
  have h2 := (List.isPrefixOf_iff_prefix.1 h).length_le
  rw [List.length_drop, lst_len] at h2
  simp only [List.length_cons, List.length_nil] at h2
  omega

theorem gap23 (s : ByteArray) (k0 : Nat) (h0 : k0 ≤ s.size) (hs : s.size < 4294967281) (w : World) :
    Calls Tryz.prog 69 #[.string s, .int .i64 (k0 : Int)] w fun e w' => e = .returned (.tuple #[.int .i64 ((k0 + (gap ((lst s).drop k0)).1 : Nat) : Int), .bool (gap ((lst s).drop k0)).2]) ∧ w' = w := by
  obtain ⟨A, hA⟩ : ∃ A, A = k0 + (gap ((lst s).drop k0)).1 := ⟨_, rfl⟩
  obtain ⟨B, hB⟩ : ∃ B, B = (gap ((lst s).drop k0)).2 := ⟨_, rfl⟩
  rw [← hA, ← hB]
  replace hA := hid hA
  replace hB := hid hB
  go_enter Tryz.func69, Tryz.ntmps69
  go_wp2
  go_loop [1] (fun i => ∃ k : Nat, k0 ≤ k ∧ k ≤ s.size ∧ i = .int .i64 k ∧ gap ((lst s).drop k0) = ((k - k0) + (gap ((lst s).drop k)).1, (gap ((lst s).drop k)).2)) (fun i => s.size - (intOf i).toNat)
  case atStart => exact ⟨k0, Nat.le_refl _, h0, rfl, by simp⟩
  case round =>
    obtain ⟨k, hk0, hk, rfl, hg⟩ := hrel
    have hgH := hid hg
    clear hg
    have hsz := lst_len s
    by_cases hlt : k < s.size
    · have hl := hid (lst_cons s k hlt)
      cases hbl : blank s[k]
      · have hb2 := hid hbl
        clear hbl
        have n1 : ((s[k].toNat : Int) == 32) = false := by (have := hb2.out; simp [blank] at this; simp; omega)
        have n2 : ((s[k].toNat : Int) == 9) = false := by (have := hb2.out; simp [blank] at this; simp; omega)
        have n3 : ((s[k].toNat : Int) == 10) = false := by (have := hb2.out; simp [blank] at this; simp; omega)
        have n4 : ((s[k].toNat : Int) == 13) = false := by (have := hb2.out; simp [blank] at this; simp; omega)
        cases hp : [47, 47].isPrefixOf ((lst s).drop k)
        · cases hq : [47, 42].isPrefixOf ((lst s).drop k)
          · have hst := hid (step_here hl.out hb2.out hp hq)
            go_wp2_with (first
              | (go_at_call 113; (with_reducible refine (is42 s _ [47, 47] rfl k hk (by omega) _).mono ?_); rintro e w1 ⟨rfl, rfl⟩)
              | (go_at_call 113; refine (is42 s _ [47, 42] rfl k hk (by omega) _).mono ?_; rintro e w1 ⟨rfl, rfl⟩))
            obtain ⟨e1, e2⟩ := gap_stop hk0 hgH.out (gap_here hst.out)
            refine bodyPost_ret (v := .tuple #[.int .i64 (k : Int), .bool true]) (by simp [results, Tryz.results69, go_sem]) rfl ⟨?_, rfl⟩
            exact ret_ib (by rw [hA.out, e1]) (by rw [hB.out, e2])
          · have h2 : k + 2 ≤ s.size := pre_room hq
            have hp' := hid hp
            have hq' := hid hq
            go_wp2_with (first
              | (go_at_call 113; (with_reducible refine (is42 s _ [47, 47] rfl k hk (by omega) _).mono ?_); rintro e w1 ⟨rfl, rfl⟩)
              | (go_at_call 113; refine (is42 s _ [47, 42] rfl k hk (by omega) _).mono ?_; rintro e w1 ⟨rfl, rfl⟩))
            go_loop [6] (fun i => ∃ j : Nat, k + 2 ≤ j ∧ j ≤ s.size ∧ i = .int .i64 j ∧ Lib.NoOcc ((lst s).drop (k + 2)) [42, 47] (j - (k + 2))) (fun i => s.size - (intOf i).toNat)
            case atStart => exact ⟨k + 2, Nat.le_refl _, by omega, vi (by omega), by rw [Nat.sub_self]; exact Lib.NoOcc.zero _ _⟩
            case round =>
              obtain ⟨j, hj0, hj, rfl, hn⟩ := hrel
              have hnH := hid hn
              clear hn
              by_cases hjl : j < s.size
              · cases ho : [42, 47].isPrefixOf ((lst s).drop j)
                · have ho2 := hid ho
                  go_wp2_with (go_at_call 113; refine (is42 s _ [42, 47] rfl j hj (by omega) _).mono ?_; rintro e w1 ⟨rfl, rfl⟩)
                  refine ⟨⟨j + 1, by omega, by omega, vi (by omega), ?_⟩, by simp [intOf]; omega⟩
                  have := hnH.out.succ (by rw [occ_drop _ _ _ _ hj0]; exact ho2.out)
                  rw [show j + 1 - (k + 2) = j - (k + 2) + 1 by omega]
                  exact this
                · have ho2 := hid ho
                  have hix : Hid (Lib.index ((lst s).drop (k + 2)) [42, 47] = (j - (k + 2) : Nat)) := Lib.index_hit hnH.out (by rw [List.length_drop]; omega) (by rw [occ_drop _ _ _ _ hj0]; exact ho)
                  have h3 := hid (pre_room ho)
                  have hst : Hid (gapStep ((lst s).drop k) = some (some (j + 2 - k))) := by
                    have h4 := step_shut hl.out hb2.out hp'.out hq'.out (by rw [List.drop_drop, hix.out]; omega)
                    rw [List.drop_drop, hix.out] at h4
                    rw [h4]
                    show some (some _) = some (some _)
                    congr 2
                    omega
                  go_wp2_with (go_at_call 113; refine (is42 s _ [42, 47] rfl j hj (by omega) _).mono ?_; rintro e w1 ⟨rfl, rfl⟩)
                  have hg' := gap_next hk0 hgH.out hst.out
                  rw [show k + (j + 2 - k) = j + 2 by omega] at hg'
                  have h3' := h3.out
                  exact ⟨⟨j + 2, by omega, by omega, vi (by omega), hg'⟩, by simp [intOf]; omega⟩
              · have hix : Lib.index ((lst s).drop (k + 2)) [42, 47] = -1 := Lib.index_past (by simp) hnH.out (by rw [List.length_drop]; simp only [List.length_cons, List.length_nil]; omega)
                have hst := hid (step_open hl.out hb2.out hp'.out hq'.out (by rw [List.drop_drop, hix]; omega))
                clear hix
                go_wp2
                obtain ⟨e1, e2⟩ := gap_stop hk0 hgH.out (gap_bad hst.out)
                refine bodyPost_ret (v := .tuple #[.int .i64 (k : Int), .bool false]) (by simp [results, Tryz.results69, go_sem]) rfl ⟨?_, rfl⟩
                exact ret_ib (by rw [hA.out, e1]) (by rw [hB.out, e2])
        · have hst := hid (step_line hl.out hb2.out hp)
          have hp' := hid hp
          go_wp2_with (go_at_call 113; refine (is42 s _ [47, 47] rfl k hk (by omega) _).mono ?_; rintro e w1 ⟨rfl, rfl⟩)
          go_loop [1] (fun i => ∃ j : Nat, k ≤ j ∧ j ≤ s.size ∧ i = .int .i64 j ∧ lineN ((lst s).drop k) = (j - k) + lineN ((lst s).drop j)) (fun i => s.size - (intOf i).toNat)
          case atStart => exact ⟨k, Nat.le_refl _, hk, rfl, by simp⟩
          case round =>
            obtain ⟨j, hj0, hj, rfl, hn⟩ := hrel
            have hnH := hid hn
            clear hn
            by_cases hjl : j < s.size
            · by_cases h10 : s[j].toNat = 10
              · have h10' : (s[j].toNat : Int) = 10 := by omega
                have e0 := hid (lineN_ten (r := (lst s).drop (j + 1)) h10)
                clear h10
                go_wp2
                have e1 := hnH.out
                rw [lst_cons s j hjl, e0.out] at e1
                have h5 := gapStep_len hst.out
                have hg' := gap_next hk0 hgH.out hst.out
                rw [e1, show k + (j - k + 0) = j by omega] at hg'
                rw [e1] at h5
                exact ⟨⟨j, by omega, by omega, rfl, hg'⟩, by simp [intOf]; omega⟩
              · have h10' : ((s[j].toNat : Int) != 10) = true := by simp; omega
                have e0 := hid (lineN_ne (r := (lst s).drop (j + 1)) h10)
                clear h10
                go_wp2
                refine ⟨⟨j + 1, by omega, by omega, vi (by omega), ?_⟩, by simp [intOf]; omega⟩
                rw [hnH.out, lst_cons s j hjl, e0.out]
                omega
            · go_wp2
              have e1 := hnH.out
              rw [lst_nil s j (by omega)] at e1
              have e1' : lineN ((lst s).drop k) = j - k := e1
              have h5 := gapStep_len hst.out
              have hg' := gap_next hk0 hgH.out hst.out
              rw [e1', show k + (j - k) = j by omega] at hg'
              rw [e1'] at h5
              exact ⟨⟨j, by omega, by omega, rfl, hg'⟩, by simp [intOf]; omega⟩
      · have hst := hid (step_blank hl.out hbl)
        have hor : (s[k].toNat : Int) = 32 ∨ (s[k].toNat : Int) = 9 ∨ (s[k].toNat : Int) = 10 ∨ (s[k].toNat : Int) = 13 := by simp [blank] at hbl; omega
        clear hbl
        rcases hor with h | h | h | h
        all_goals go_wp2
        all_goals exact ⟨⟨k + 1, by omega, by omega, vi (by omega), gap_next hk0 hgH.out hst.out⟩, by simp [intOf]; omega⟩
    · go_wp2
      obtain ⟨e1, e2⟩ := gap_stop hk0 hgH.out (gap_here (by rw [lst_nil s k (by omega)]; rfl))
      refine bodyPost_ret (v := .tuple #[.int .i64 (k : Int), .bool true]) (by simp [results, Tryz.results69, go_sem]) rfl ⟨?_, rfl⟩
      exact ret_ib (by rw [hA.out, e1]) (by rw [hB.out, e2])
end Go.Proofs.YtjeioblhpfogfaaGreatDoorLx
