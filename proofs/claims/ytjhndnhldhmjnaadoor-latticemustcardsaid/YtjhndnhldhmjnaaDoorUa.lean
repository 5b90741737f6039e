/- A new set. -/
import Derived.Test.YtjhndnhldhmjnaaDoorUs
namespace Go.Proofs.YtjhndnhldhmjnaaDoor
open Go Go.RowKit Go.Maps
set_option linter.unusedVariables false
set_option linter.unusedSimpArgs false
set_option maxRecDepth 20000 in
set_option maxHeartbeats 4000000 in
theorem newSet17 {w : World} {v : Value} {l : List Int} (h : Src icell w v l) (hl : l.length * 8 ≤ big) :
    Calls Tryd.prog 17 #[v] w fun e w' => ∃ sv xs, e = .returned sv ∧ SetIs w' sv xs ∧ (∀ k, memL xs k = newB l k) ∧ Below w.heap.size w w' := by
  obtain ⟨ao, cap, rfl, hf⟩ := h.ints
  have HF := hid' hf
  unfold big at hl
  obtain ⟨w0, ew0⟩ : ∃ w0, w0 = w.alloc (.cells #[.slice none 0 0] 49) := ⟨_, rfl⟩
  have hb0 : Below w.heap.size w w0 := by rw [ew0]; exact below1 _ _
  have HB0 := hid' hb0
  have hlt0 : w.heap.size < w0.heap.size := by rw [ew0]; simp
  have hbx : w0.cell? ⟨w.heap.size, 0, none⟩ = some (.slice none 0 0) := by rw [ew0]; simp
  have hfx : w0.frozen? ⟨w.heap.size, 0, none⟩ = false := by rw [ew0]; simp
  have HBX := hid' hbx
  have HFX := hid' hfx
  clear hf h hb0 hbx hfx
  go_enter Tryd.func17, Tryd.ntmps17
  go_upto_region 1 with fail
  rw [← ew0]
  clear ew0
  go_wp2_with fail
  go_loopw [3, 11] (fun sv iv wr => ∃ j : Nat, j ≤ l.length ∧ iv = .int .i64 j ∧ sv = .int .i64 (szF (l.take j)) ∧ wr = w0) (fun _ iv _ => l.length - (intOf iv).toNat)
  case atStart => exact ⟨0, Nat.zero_le _, rfl, rfl, rfl⟩
  case round =>
    obtain ⟨j, hj, rfl, rfl, e0⟩ := hrel
    have e0' := e0.symm
    clear e0
    subst e0'
    have hsz := (szF_ok (l.take j)).1
    by_cases hlt : j < l.length
    · obtain ⟨b, off, rfl, hb1, hc1, hx⟩ := HF.out j hlt
      have c0 := hx w0 HB0.out
      have SN := szF_snoc l j hlt
      clear hx
      generalize l[j] = n at *
      have KM := fun W => mayBeIn35 W n
      by_cases hin : 0 ≤ n ∧ n < 65536
      · rw [if_pos hin] at SN
        rw [decide_eq_true hin] at KM
        obtain ⟨nn, rfl⟩ : ∃ nn : Nat, n = nn := ⟨n.toNat, by omega⟩
        rw [Int.toNat_natCast] at SN
        by_cases ho : szF (l.take j) ≤ nn + 1
        · have e : szF (l.take (j + 1)) = nn + 1 := by rw [SN]; omega
          have E := hid' e
          clear e SN
          go_wp2_with (go_at_call 35; refine (KM _).mono ?_; rintro e9 w9 ⟨rfl, rfl⟩)
          exact ⟨⟨j + 1, by omega, by go_num, by rw [E.out]; go_num, by trivial⟩, by simp [intOf]; omega⟩
        · have e : szF (l.take (j + 1)) = szF (l.take j) := by rw [SN]; omega
          have E := hid' e
          clear e SN
          go_wp2_with (go_at_call 35; refine (KM _).mono ?_; rintro e9 w9 ⟨rfl, rfl⟩)
          exact ⟨⟨j + 1, by omega, by go_num, by rw [E.out, if_neg (by omega)], by trivial⟩, by simp [intOf]; omega⟩
      · rw [if_neg hin] at SN
        rw [decide_eq_false hin] at KM
        have E := hid' SN
        clear SN
        go_wp2_with (go_at_call 35; refine (KM _).mono ?_; rintro e9 w9 ⟨rfl, rfl⟩)
        exact ⟨⟨j + 1, by omega, by go_num, by rw [E.out], by trivial⟩, by simp [intOf]; omega⟩
    · have e : j = l.length := by omega
      subst e
      rw [List.take_length] at hsz ⊢
      have KR := rowFor36 w0 (szF l) hsz
      have OK := hid' (szF_ok l).2.1
      have hm : words (szF l) ≤ 1024 := by unfold words; omega
      generalize eS : szF l = S at *
      go_wp2_with (go_at_call 36; refine KR.mono ?_; rintro e9 w9 ⟨rfl, hR9, hB9, hs9⟩; have HR9 := hid' hR9; have HB9 := hid' hB9; clear hR9 hB9)
      go_loopw [26] (fun iv wz => ∃ (j : Nat) (f : Nat → Wd), j ≤ l.length ∧ iv = .int .i64 j ∧ RowU wz w0.heap.size (words S) f ∧ (∀ k, k / 64 < words S → inQ f k = newB (l.take j) k) ∧ Below w0.heap.size w0 wz) (fun iv _ => l.length - (intOf iv).toNat)
      case atStart => exact ⟨0, _, Nat.zero_le _, rfl, HR9.out, fun k _ => by unfold inQ newB; simp, HB9.out⟩
      case round =>
        obtain ⟨j, f, hj, rfl, hR, hq, hB⟩ := hrel
        have HR := hid' hR
        have HQ := hid' hq
        have HB := hid' hB
        clear hR hq hB
        by_cases hlt : j < l.length
        · obtain ⟨b, off, rfl, hb1, hc1, hx⟩ := HF.out j hlt
          have c0 := hx wr (below_up HB0.out HB.out)
          have SN := hid' (newB_snoc l j hlt)
          have hOK := OK.out _ (List.getElem_mem hlt)
          clear hx
          generalize l[j] = n at *
          have KM := fun W => mayBeIn35 W n
          by_cases hin : 0 ≤ n ∧ n < 65536
          · rw [decide_eq_true hin] at KM
            obtain ⟨nn, rfl⟩ : ∃ nn : Nat, n = nn := ⟨n.toNat, by omega⟩
            have hnS := hOK hin.1 hin.2
            rw [Int.toNat_natCast] at hnS
            have hnw : nn / 64 < words S := by unfold words; omega
            have KA := add37 (cp := words S) HR.out hnw hm
            go_wp2_with (first
              | (go_at_call 35; refine (KM _).mono ?_; rintro e9 w9 ⟨rfl, rfl⟩)
              | (go_at_call 37; refine KA.mono ?_; rintro e8 w8 ⟨rfl, d8, rfl⟩))
            have HD : Hid (RowU ((w9.drewN d8).setCell ⟨w0.heap.size, nn / 64, none⟩ (uv (f (nn / 64) ||| bitW nn))) w0.heap.size (words S) (upd f (nn / 64) (f (nn / 64) ||| bitW nn))) := RowU.set (w := w9.drewN d8) HR.out _ _
            refine ⟨⟨j + 1, _, by omega, by go_num, HD.out, fun k hk => ?_, (bdrew HB.out d8).setCell (Nat.le_refl _) _⟩, by simp [intOf]; omega⟩
            rw [inQ_add, SN.out, HQ.out k hk]
            by_cases c : k = nn
            · subst c
              have : k < 65536 := by omega
              simp [this]
            · have : ¬ ((k : Int) = (nn : Int)) := by omega
              simp [c, this]
          · rw [decide_eq_false hin] at KM
            go_wp2_with (go_at_call 35; refine (KM _).mono ?_; rintro e9 w9 ⟨rfl, rfl⟩)
            refine ⟨⟨j + 1, f, by omega, by go_num, HR.out, fun k hk => ?_, HB.out⟩, by simp [intOf]; omega⟩
            rw [SN.out, HQ.out k hk]
            by_cases c : (k : Int) = n
            · have : ¬ k < 65536 := fun h => hin (by omega)
              simp [this]
            · simp [c]
        · have e : j = l.length := by omega
          subst e
          rw [List.take_length] at HQ
          have bx : wr.cell? ⟨w.heap.size, 0, none⟩ = some (.slice none 0 0) := keep_cell HBX.out HB.out
          have fx : wr.frozen? ⟨w.heap.size, 0, none⟩ = false := (HB.out.frozen (p := ⟨w.heap.size, 0, none⟩) hlt0).trans HFX.out
          go_wp2_with fail
          refine bodyPost_ret (v := .agg #[.slice (some ⟨w0.heap.size, 0, none⟩) (words S) (words S)]) (by simp [results, Tryd.results17, go_sem, bx]) rfl ?_
          have hR2 : RowU (wr.setCell ⟨w.heap.size, 0, none⟩ (.slice (some ⟨w0.heap.size, 0, none⟩) (words S) (words S))) w0.heap.size (words S) f := HR.out.other (by omega)
          subst eS
          obtain ⟨n1, n2⟩ := new_can HQ.out
          exact ⟨_, _, rfl, ⟨⟨_, rfl, hR2.src⟩, n1, by simpa using hm⟩, n2, (below_up HB0.out HB.out).setCell (Nat.le_refl _) _⟩
end Go.Proofs.YtjhndnhldhmjnaaDoor
