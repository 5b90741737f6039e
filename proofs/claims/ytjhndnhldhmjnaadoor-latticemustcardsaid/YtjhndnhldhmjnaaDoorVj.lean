/- The visit: it calls itself. -/
import Derived.Test.YtjhndnhldhmjnaaDoorVi
namespace Go.Proofs.YtjhndnhldhmjnaaDoor
open Go Go.RowKit Go.Maps
set_option linter.unusedVariables false
set_option linter.unusedSimpArgs false
set_option maxRecDepth 20000 in
set_option maxHeartbeats 8000000 in
theorem visit55 {w0 : World} {n : Nat} {sv : Value} {us : List Value} {I : List (List Int)} {gs b1 b2 b3 b4 : Nat} (hI : RowsI w0 sv us I) (hIn : I.length = n) (hn : n ≤ 4096) (hr : ∀ l ∈ I, ∀ x ∈ l, 0 ≤ x ∧ x < n) (hl : ∀ l ∈ I, l.length * 8 ≤ big) :
    ∀ (m : Nat) (w : World) (lv : Value) (S : Nat → Bool) (F : List Nat) (k : Nat), unseen S n ≤ m → F.length + unseen S n ≤ 65536 → k < n → VM w0 w n gs b1 b2 b3 b4 sv lv S F →
    Calls Tryd.prog 55 #[.int .i64 k, .pointer (some ⟨b1, 0, none⟩), .pointer (some ⟨b2, 0, none⟩), .pointer (some ⟨b3, 0, none⟩), .pointer (some ⟨b4, 0, none⟩)] w fun e w' => e = .returned (.tuple #[]) ∧ ∃ lv' S' M, VM w0 w' n gs b1 b2 b3 b4 sv lv' S' (F ++ M) ∧ VisR n S S' M ∧ S' k = true := by
  intro m
  induction m with
  | zero =>
    intro w lv S F k hm hle hk h
    have hS : S k = true := by
      cases e : S k with
      | true => rfl
      | false =>
        have := unseen_mark e n hk
        omega
    have c1 := h.c1.cell (i := 0) (by omega)
    have cs := h.row.cell hk
    rw [hS] at cs
    have H := hid' h
    clear h
    go_enter Tryd.func55, Tryd.ntmps55
    go_wp2_with fail
    refine bodyPost_ret (results_none rfl _ _ _) rfl ?_
    exact ⟨rfl, lv, S, [], by rw [List.append_nil]; exact H.out, VisR.rfl' n S, hS⟩
  | succ m ih =>
    intro w lv S F k hm hle hk h
    have c1 := h.c1.cell (i := 0) (by omega)
    have cs := h.row.cell hk
    have H := hid' h
    by_cases hS : S k = true
    · rw [hS] at cs
      clear h
      go_enter Tryd.func55, Tryd.ntmps55
      go_wp2_with fail
      refine bodyPost_ret (results_none rfl _ _ _) rfl ?_
      exact ⟨rfl, lv, S, [], by rw [List.append_nil]; exact H.out, VisR.rfl' n S, hS⟩
    · have hS' : S k = false := by simpa using hS
      rw [hS'] at cs
      have fs := h.row.fro k
      have c2 := h.c2.cell (i := 0) (by omega)
      have hum := unseen_mark hS' n hk
      obtain ⟨ao, cap, rfl, hf⟩ := hI.src.vals
      obtain ⟨b, o, rfl, hb1, hc1, hx⟩ := hf k (by rw [hI.len, hIn]; exact hk)
      have d1 := hx w h.below
      have ho := hI.el k (by rw [hI.len, hIn]; exact hk) (by rw [hIn]; exact hk)
      have hkI : k < I.length := by rw [hIn]; exact hk
      have hlu : us.length = n := by rw [hI.len, hIn]
      have htl := hl _ (List.getElem_mem hkI)
      have HTR := hid' (hr _ (List.getElem_mem hkI))
      obtain ⟨tt, tc, et, hft⟩ := ho.ints
      have HT := hid' hft
      rw [et] at d1
      rw [hlu] at c2
      unfold big at htl
      have V1 := hid' (h.mark k)
      have IH := hid' ih
      have d2 : (w.setCell ⟨gs, k, none⟩ (.bool true)).cell? ⟨b, o + k, none⟩ = some (.slice tt I[k].length tc) := by
        have := hx _ (h.mark k).below
        rw [et] at this
        exact this
      have e1 : (w.setCell ⟨gs, k, none⟩ (.bool true)).cell? ⟨b2, 0, none⟩ = some (.slice (some ⟨b, o, none⟩) n cap) := by
        have := (h.mark k).c2.cell (i := 0) (by omega)
        rw [hlu] at this
        exact this
      clear hf hx ho et hft h ih hr hl d1
      generalize I[k] = tos at *
      go_enter Tryd.func55, Tryd.ntmps55
      go_wp2_with fail
      generalize hW : w.setCell ⟨gs, k, none⟩ (.bool true) = W at *
      go_loopw [20] (fun i wr => ∃ (j : Nat) (lv' : Value) (S' : Nat → Bool) (M : List Nat), j ≤ tos.length ∧ i = .int .i64 j ∧ VM w0 wr n gs b1 b2 b3 b4 (.slice (some ⟨b, o, none⟩) us.length cap) lv' S' (F ++ M) ∧ VisR n (upd S k true) S' M) (fun i _ => tos.length - (intOf i).toNat)
      case atStart => exact ⟨0, lv, upd S k true, [], Nat.zero_le _, rfl, by rw [List.append_nil]; exact V1.out, VisR.rfl' _ _⟩
      case round =>
        obtain ⟨j, lv', S', M, hj, rfl, hV, hR⟩ := hrel
        have HV := hid' hV
        have HR := hid' hR
        have c3 := hV.c3.cell (i := 0) (by omega)
        by_cases hjt : j < tos.length
        · obtain ⟨tb, tof, rfl, htb, htc, hcx⟩ := HT.out j hjt
          have tcell := hcx wr hV.below
          obtain ⟨g0, g1⟩ := HTR.out _ (List.getElem_mem hjt)
          clear hcx hV hR
          generalize tos[j] = t at *
          obtain ⟨tn, rfl⟩ : ∃ tn : Nat, t = tn := ⟨t.toNat, by omega⟩
          have hcall := IH.out wr lv' S' (F ++ M) tn (by have := HR.out.le; omega) (by have := HR.out.le; rw [List.length_append]; omega) (by omega) HV.out
          go_wp2_with (go_at_call 55; refine hcall.mono ?_; rintro e9 w9 ⟨rfl, lv9, S9, M9, hV9, hR9, hS9⟩; have HV9 := hid' hV9; have HR9 := hid' hR9; clear hV9 hR9 hS9)
          refine ⟨⟨j + 1, lv9, S9, M ++ M9, by omega, by go_num, ?_, HR.out.trans HR9.out⟩, by simp [intOf]; omega⟩
          rw [← List.append_assoc]
          exact HV9.out
        · have e : j = tos.length := by omega
          subst e
          have hle2 : (F ++ M).length ≤ 65536 := by
            have := hR.le
            rw [List.length_append]
            omega
          have c4 := hV.c4.cell (i := 0) (by omega)
          obtain ⟨ao', cc', el⟩ := (Own.src ic1 hV.own).len
          obtain ⟨b7, cap7, w7, hr7, hc7, hf7, hV7⟩ := hV.push k hle2
          have HR7 := hid' hr7
          have HV7 := hid' hV7
          have HRM := hid' (hR.mark hk hS')
          have hSk : Hid (S' k = true) := by
            unfold Hid
            rw [hR.se k hk, upd_at]
            rfl
          clear hV hR hr7 hV7 HV HR el
          generalize (F ++ M).length + 1 = N7 at *
          go_wp2_with (at_builtin; refine wpList_append_run rfl _ _ rfl _ _ _ rfl rfl (HR7.out _) ?_)
          go_end0
          exact ⟨rfl, _, _, M ++ [k], by rw [← List.append_assoc]; exact HV7.out, HRM.out, hSk.out⟩
end Go.Proofs.YtjhndnhldhmjnaaDoor
