/- The document's Check. -/
import Derived.Test.YtgnlplddppheiaaRChk
namespace Go.Proofs.Ytgnlplddppheiaa
open Go.RowKit Go.Maps
set_option linter.unusedVariables false

theorem sorted_all {w : World} {v : Value} {ls : List Ln} (h : IsLns w v ls) : Calls Try.prog 26 #[v, .int .i64 0, .int .i64 (ls.length : Nat)] w fun e w' => SortR w w' ls 0 ls.length e :=
  sorted26 ls.length 0 ls.length _ h (by omega) (by omega) (by omega)

theorem check12_long (ao : Option Addr) (n cap : Nat) (w : World) (hn : 262144 < n) :
    Calls Try.prog 12 #[.slice ao n cap] w fun e w' => e = .returned (.int .i64 3) ∧ w' = w := by
  have : (262144 : Int) < n := by omega
  go_enter Try.func12, Try.ntmps12
  go_wp2
  go_ret
  exact ⟨rfl, rfl⟩

set_option maxRecDepth 100000 in
set_option maxHeartbeats 4000000 in
theorem check12 {w : World} {v : Value} {ls : List Ln} (h : IsLns w v ls) : Calls Try.prog 12 #[v] w fun e w' => ∃ er, ErrIs ls er ∧ e = .returned (.int .i64 er) ∧ Below w.heap.size w w' := by
  have HL := hid' h
  have hwf := h.2.1
  have HW := hid' hwf
  obtain ⟨ao, cap, rfl, hform⟩ := h.form
  have HF := hid' hform
  have hn := h.1
  clear h hform hwf
  by_cases hbig : 262144 < ls.length
  · refine (check12_long ao _ cap w hbig).mono ?_
    rintro e w' ⟨rfl, rfl⟩
    exact ⟨3, .inl ⟨hbig, rfl⟩, rfl, Below.refl _ _⟩
  have hsm : ls.length ≤ 262144 := by omega
  go_enter Try.func12, Try.ntmps12
  go_wp2
  go_loopw [3] (fun i wr => ∃ k : Nat, k ≤ ls.length ∧ i = .int .i64 k ∧ (∀ j (h : j < ls.length), j < k → ls[j].ok = true) ∧ Below w.heap.size w wr) (fun i _ => ls.length - (intOf i).toNat)
  case atStart => exact ⟨0, Nat.zero_le _, rfl, fun j _ hj => by omega, Below.refl _ _⟩
  case round =>
    obtain ⟨k, hk, rfl, hok, hb⟩ := hrel
    have HK := hid' hok
    have HB := hid' hb
    clear hok hb
    by_cases hlt : k < ls.length
    · obtain ⟨b, rfl, hl, ha⟩ := HF.out k hlt
      obtain ⟨c0, c1, c2, c3, c4, c5, c6⟩ := ha.below HB.out hl k hlt
      have hx := HW.out ls[k] (List.getElem_mem hlt)
      have hC := line25 ls[k] hx.i0 hx.i1
      clear ha hx
      cases hq : ls[k].ok
      · rw [hq] at hC
        have HR : Hid (ErrIs ls 1) := .inr (.inl ⟨hsm, ⟨ls[k], List.getElem_mem hlt, hq⟩, rfl⟩)
        clear hq
        unfold Ln.val at hC
        go_wp2_with (go_at_call 25; refine (hC _).mono ?_; rintro e w1 ⟨rfl, hb1⟩)
        go_ret
        exact ⟨1, HR.out, rfl, below_on HB.out hb1⟩
      · rw [hq] at hC
        have HK2 : Hid (∀ j (h : j < ls.length), j < k + 1 → ls[j].ok = true) := fun j h hj => by
          by_cases e : j = k
          · subst e; exact hq
          · exact HK.out j h (by omega)
        clear hq
        unfold Ln.val at hC
        go_wp2_with (go_at_call 25; refine (hC _).mono ?_; rintro e w1 ⟨rfl, hb1⟩)
        have HB1 := hid' (below_on HB.out hb1)
        clear hb1 hC c0 c1 c2 c3 c4 c5 c6
        go_roundw
        case rel => exact ⟨k + 1, by omega, by go_num, HK2.out, HB1.out⟩
        case measure => simp [intOf]; omega
    · have HOK : Hid (∀ x ∈ ls, x.ok = true) := fun x hx => by
        obtain ⟨j, hj, e⟩ := List.getElem_of_mem hx
        subst e
        exact HK.out j hj (by omega)
      have : k = ls.length := by omega
      subst this
      clear HK
      go_wp2_with (go_at_call 26; refine (sorted_all (HL.out.below HB.out)).mono ?_; rintro e w2 ⟨sv, s, rfl, hs, hS, hb2, _⟩)
      have HS := hid' hS
      have HIS := hid' hs
      obtain ⟨so, scap, rfl, hsf⟩ := hs.form
      have HSF := hid' hsf
      have HB2 := hid' (below_on HB.out hb2)
      have hlenS := hS.len
      clear hS hs hsf hb2 HB
      go_loopw [5] (fun i wr => ∃ k : Nat, 1 ≤ k ∧ (k ≤ s.length ∨ k = 1) ∧ i = .int .i64 k ∧ (∀ j (h : j + 1 < s.length), j + 1 < k → labAt ls s[j + 1] ≠ labAt ls s[j]) ∧ Below w2.heap.size w2 wr) (fun i _ => s.length - (intOf i).toNat)
      case atStart => exact ⟨1, by omega, .inr rfl, rfl, fun j _ hj => by omega, Below.refl _ _⟩
      case round =>
        obtain ⟨k, hk1, hk2, rfl, hdf, hb⟩ := hrel
        have HD := hid' hdf
        have HB3 := hid' hb
        clear hdf hb
        by_cases hlt2 : k < s.length
        · obtain ⟨bs, os, rfl, hls, hcs⟩ := HSF.out k hlt2
          have m1 := (HS.out.mem _).1 (List.getElem_mem hlt2)
          have m2 := (HS.out.mem _).1 (List.getElem_mem (show k - 1 < s.length by omega))
          have x1 := (HB3.out.cell (p := ⟨bs, os + k, none⟩) hls).trans (hcs k hlt2)
          have x2 := (HB3.out.cell (p := ⟨bs, os + (k - 1), none⟩) hls).trans (hcs (k - 1) (by omega))
          obtain ⟨b, rfl, hl, ha⟩ := HF.out _ m1.2.1
          have hbw := HB2.out.trans (HB3.out.mono HB2.out.size)
          have y1 := (ha.below hbw hl _ m1.2.1).1
          have y2 := (ha.below hbw hl _ m2.2.1).1
          rw [← labAt_get m1.2.1] at y1
          rw [← labAt_get m2.2.1] at y2
          have j1 : s[k] < ls.length := m1.2.1
          have j2 : s[k - 1] < ls.length := m2.2.1
          clear ha hcs
          have z1 : ((k : Int) - 1).toNat = k - 1 := by omega
          have hkm : k - 1 < s.length := by omega
          obtain ⟨l1, el1⟩ : ∃ l, l = labAt ls s[k] := ⟨_, rfl⟩
          obtain ⟨l2, el2⟩ : ∃ l, l = labAt ls (s[k - 1]'hkm) := ⟨_, rfl⟩
          rw [← el1] at y1
          rw [← el2] at y2
          by_cases he : l1 = l2
          · have HR : Hid (ErrIs ls 60) := .inr (.inr (.inl ⟨hsm, HOK.out, .inl (not_nodup (i := s[k]) (j := s[k - 1]) (fun e => by
              have := (List.getElem_inj HS.out.nodup).1 e
              omega) m1.2.1 m2.2.1 m1.2.2 (by rw [← el1, ← el2]; exact he)), rfl⟩))
            clear m1 m2 el1 el2
            subst he
            generalize s[k - 1] = s2 at *
            generalize s[k] = s1 at *
            have HBW := hid' hbw
            clear hbw
            go_wp2
            go_quiet (fail)
            go_wp2
            go_ret
            exact ⟨60, HR.out, rfl, ⟨HBW.out.os, HBW.out.tape, HBW.out.output, HBW.out.size, HBW.out.block⟩⟩
          · have HD2 : Hid (∀ j (h : j + 1 < s.length), j + 1 < k + 1 → labAt ls s[j + 1] ≠ labAt ls s[j]) := fun j h hj => by
              by_cases e : j + 1 = k
              · subst e; rw [← el1]; intro e2; exact he (e2.trans el2.symm)
              · exact HD.out j h (by omega)
            clear m1 m2 el1 el2
            have he' : (l1 == l2) = false := by simpa using he
            generalize s[k - 1] = s2 at *
            generalize s[k] = s1 at *
            clear hbw
            go_wp2
            go_quiet (fail)
            go_wp2
            have HB4 : Hid (Below w2.heap.size w2 (wr.drewN nq)) := ⟨HB3.out.os, HB3.out.tape, HB3.out.output, HB3.out.size, HB3.out.block⟩
            clear x1 x2 y1 y2
            go_roundw
            case rel => exact ⟨k + 1, by omega, .inl (by omega), by go_num, HD2.out, HB4.out⟩
            case measure => simp [intOf]; omega
        · have HN : Hid (labL ls).Nodup := nodup_of HOK.out HS.out (fun j hj => HD.out j hj (by omega))
          clear HD HSF
          go_wp2
          have HBW := hid' (HB2.out.trans (HB3.out.mono HB2.out.size))
          have HIS2 := hid' (HIS.out.below HB3.out)
          have HL2 := hid' (HL.out.below HBW.out)
          clear HB3 HB2
          go_loopw [6] (fun i wq => ∃ k : Nat, k ≤ ls.length ∧ i = .int .i64 k ∧ wq = wr ∧ (∀ j (h : j < ls.length), j < k → ls[j].to ≠ 0 → ls[j].to ∈ labL ls)) (fun i _ => ls.length - (intOf i).toNat)
          case atStart => exact ⟨0, Nat.zero_le _, rfl, rfl, fun j _ hj => by omega⟩
          case round =>
            obtain ⟨k, hk, rfl, hw, hto⟩ := hrel
            subst hw
            have HT := hid' hto
            clear hto
            by_cases hlt3 : k < ls.length
            · obtain ⟨b, rfl, hl, ha⟩ := HF.out k hlt3
              have c6 := (ha.below HBW.out hl k hlt3).2.2.2.2.2.2
              have h0 := ok_to (HOK.out ls[k] (List.getElem_mem hlt3))
              clear ha
              by_cases ht : ls[k].to = 0
              · have HT2 : Hid (∀ j (h : j < ls.length), j < k + 1 → ls[j].to ≠ 0 → ls[j].to ∈ labL ls) := fun j h hj => by
                  by_cases e : j = k
                  · subst e; intro h; exact absurd ht h
                  · exact HT.out j h (by omega)
                rw [ht] at c6
                clear h0 ht
                go_wp2
                go_roundw
                case rel => exact ⟨k + 1, by omega, by go_num, by trivial, HT2.out⟩
                case measure => simp [intOf]; omega
              · have hp : 0 < ls[k].to := by omega
                obtain ⟨t, et⟩ : ∃ t, t = ls[k].to := ⟨_, rfl⟩
                rw [← et] at c6 hp
                have hFi := find27 (n := t) HL2.out HIS2.out HS.out
                have ET := hid' et
                clear h0 ht et
                go_wp2_with (go_at_call 27; refine hFi.mono ?_; rintro e w' ⟨r, rfl, hw, hres⟩; have hv := hw.symm; clear hw; subst hv; have HRES := hid' hres; clear hres; by_cases hr : r < 0)
                · have HR : Hid (ErrIs ls 60) := .inr (.inr (.inl ⟨hsm, HOK.out, .inr ⟨ls[k], List.getElem_mem hlt3, by rw [← ET.out]; omega, by rw [← ET.out]; exact find_out HRES.out hp hr⟩, rfl⟩))
                  clear hFi
                  go_wp2
                  go_ret
                  exact ⟨60, HR.out, rfl, HBW.out⟩
                · have HT2 : Hid (∀ j (h : j < ls.length), j < k + 1 → ls[j].to ≠ 0 → ls[j].to ∈ labL ls) := fun j h hj => by
                    by_cases e : j = k
                    · subst e; intro _; rw [← ET.out]; exact find_in HRES.out hp (by omega)
                    · exact HT.out j h (by omega)
                  clear hFi
                  go_wp2
                  go_roundw
                  case rel => exact ⟨k + 1, by omega, by go_num, by trivial, HT2.out⟩
                  case measure => simp [intOf]; omega
            · have HR : Hid (ErrIs ls 0) := .inr (.inr (.inr ⟨hsm, HOK.out, HN.out, fun x hx hx0 => by
                obtain ⟨j, hj, e⟩ := List.getElem_of_mem hx
                subst e
                exact HT.out j hj (by omega) hx0, rfl⟩))
              have : k = ls.length := by omega
              subst this
              go_wp2
              go_ret
              exact ⟨0, HR.out, rfl, HBW.out⟩
end Go.Proofs.Ytgnlplddppheiaa
