/- Members that may be; a copy of a text. -/
import Derived.Test.YtmcadffagnbiaaaTyChk
import Derived.Lib.UnsafeStr
import Derived.Deep.DeepCutAuto
import Derived.Deep.CutBlock
namespace Go.Proofs.Ytmcadffagnbiaaa
open Go.RowKit Go.Maps
set_option linter.unusedVariables false
set_option linter.unusedSimpArgs false

theorem below_on {B : Nat} {a b c : World} (h : Below B a b) (k : Below b.heap.size b c) (hB : B ≤ b.heap.size) : Below B a c := h.trans (k.mono hB)

/-- A member that may be. -/
def okM (m : Mb) : Bool := (scalF m.ty.k || m.ty.k == 4) && mayF m.ty 0
def fine (l : List Mb) (k : Nat) : Prop := ∀ i (hi : i < l.length), i < k → okM l[i] = true ∧ findF l[i].nm (l.take i) < 0
def goodL (l : List Mb) : Prop := fine l l.length ∧ 0 < l.length

set_option maxHeartbeats 8000000 in
theorem may33 {w : World} {v : Value} {l : List Mb} (h : Src Mb.cells w v l) (hl : l.length ≤ 1000) :
    Calls Try.prog 33 #[v] w fun e w' => ∃ b : Bool, e = .returned (.bool b) ∧ (b = true ↔ goodL l) ∧ Below w.heap.size w w' := by
  have HS0 := hid' h
  obtain ⟨ao, cap, rfl, hf⟩ := h.form mb6
  have HF := hid' hf
  clear hf h
  go_enter Try.func33, Try.ntmps33
  go_wp2
  go_loopw [7] (fun i wr => ∃ k : Nat, k ≤ l.length ∧ i = .int .i64 k ∧ fine l k ∧ Below w.heap.size w wr) (fun i _ => l.length - (intOf i).toNat)
  case atStart => exact ⟨0, Nat.zero_le _, rfl, fun j _ hj => by omega, Below.refl _ _⟩
  case round =>
    obtain ⟨k, hk, rfl, hok, hb⟩ := hrel
    have HK := hid' hok
    have HB := hid' hb
    clear hok hb
    by_cases hlt : k < l.length
    · obtain ⟨b, off, rfl, hbl, hcp, hc⟩ := HF.out k hlt
      obtain ⟨c0, c1, c2, c3, c4, c5⟩ := mb_cells (hc wr HB.out)
      clear hc
      have hkc : k ≤ cap := by omega
      have hkc' : (k : Int) ≤ (cap : Int) := by omega
      have H15 := fun W => scal15 l[k].ty W
      have H13 := fun W => check13 l[k].ty 0 W
      have HO : Hid (okM l[k] = ((scalF l[k].ty.k || l[k].ty.k == 4) && mayF l[k].ty 0)) := rfl
      have HN0 : Hid (∀ W, Below w.heap.size w W → Calls Try.prog 39 #[.slice (some ⟨b, off, none⟩) k cap, .string l[k].nm] W fun e w' => e = .returned (.int .i64 (findF l[k].nm (l.take k))) ∧ Below W.heap.size W w') :=
        fun W hW => named39 ((HS0.out.on hW).take k (by omega) cap (by omega)) _ (by simp; omega)
      have HL : Hid (∀ j (hj : j < l.length), j = k → okM l[j] = okM l[k] ∧ findF l[j].nm (l.take j) = findF l[k].nm (l.take k)) := fun j hj e => by subst e; exact ⟨rfl, rfl⟩
      generalize findF l[k].nm (l.take k) = F at *
      generalize okM l[k] = ok at *
      generalize l[k] = m at *
      obtain ⟨nm, ⟨tk, te, tn, ts⟩, pl⟩ := m
      dsimp only at *
      unfold Ty.val at *
      generalize mayF _ _ = q at *
      have hbad : Hid (ok = false ∨ 0 ≤ F → ¬ goodL l) := fun h1 h2 => by
        obtain ⟨a1, a2⟩ := h2.1 k hlt hlt
        obtain ⟨e1, e2⟩ := HL.out k hlt rfl
        rw [e1] at a1
        rw [e2] at a2
        rcases h1 with h1 | h1
        · rw [h1] at a1; cases a1
        · omega
      generalize scalF tk = sc at *
      cases sc
      · by_cases h4 : tk = 4
        · subst h4
          cases q
          · have HBad : Hid (¬ goodL l) := hbad.out (.inl (by rw [HO.out]; simp))
            go_wp2_with (first
              | (go_at_call 15; refine (H15 _).mono ?_; rintro e1 w1 ⟨rfl, hb1⟩; obtain ⟨hc1, hf1⟩ := bcell hb1; have hs1 := hb1.size)
              | (go_at_call 13; refine (H13 _).mono ?_; rintro e2 w2 ⟨rfl, hb2⟩; obtain ⟨hc2, hf2⟩ := bcell hb2))
            go_ret
            exact ⟨false, rfl, ⟨fun h => Bool.noConfusion h, fun h => absurd h HBad.out⟩, below_on (below_on (HB.out.alloc HB.out.size _) hb1 (by have := HB.out.size; simp; omega)) hb2 (by have := HB.out.size; simp at hs1; omega)⟩
          · have HOk : Hid (ok = true) := by unfold Hid; rw [HO.out]; simp
            go_wp2_with (first
              | (go_at_call 15; refine (H15 _).mono ?_; rintro e1 w1 ⟨rfl, hb1⟩; obtain ⟨hc1, hf1⟩ := bcell hb1; have hs1 := hb1.size)
              | (go_at_call 13; refine (H13 _).mono ?_; rintro e2 w2 ⟨rfl, hb2⟩; obtain ⟨hc2, hf2⟩ := bcell hb2))
            have hB2 : Below w.heap.size w w2 := below_on (below_on (HB.out.alloc HB.out.size _) hb1 (by have := HB.out.size; simp; omega)) hb2 (by have := HB.out.size; simp at hs1; omega)
            have q0 : ∀ t : After w2, t.1.cell? ⟨wr.heap.size, 0, none⟩ = some (.string nm) := fun t => by
              rw [t.2.cell (p := ⟨wr.heap.size, 0, none⟩) (by have := hb2.size; simp at hs1; simp; omega), hc2 _ _ (by simp at hs1; omega), hc1 _ _ (by simp)]
              simp [go_sem]
            have K39 : ∀ t : After w2, _ := fun t => Calls.after t (HN0.out t.1 (below_on hB2 t.2 hB2.size))
            have HB2 := hid' hB2
            clear hB2 hb1 hb2 hc1 hc2 hf1 hf2 hs1 c0 c1 c2 c3 c4 c5 H15 H13
            have hne := after_some w2
            refine region_after 6 mixed (by kernel_rfl) ?_
            simp only [List.take_succ_cons, List.take_zero, List.drop_succ_cons, List.drop_zero]
            repeat quiet_step (with_reducible exact K39 _)
            refine wpQuiet_nil ?_
            intro w3 hb3
            have HB3 : Hid (Below w.heap.size w w3) := below_on HB2.out hb3 HB2.out.size
            clear hb3 q0 K39 hne
            by_cases hF : 0 ≤ F
            · have HBad : Hid (¬ goodL l) := hbad.out (.inr hF)
              go_wp2
              go_ret
              exact ⟨false, rfl, ⟨fun h => Bool.noConfusion h, fun h => absurd h HBad.out⟩, HB3.out⟩
            · have HN : Hid (fine l (k + 1)) := fun j hj hjk => by
                by_cases e : j = k
                · obtain ⟨e1, e2⟩ := HL.out j hj e
                  rw [e1, e2]
                  exact ⟨HOk.out, by omega⟩
                · exact HK.out j hj (by omega)
              go_wp2
              go_roundw
              case rel => exact ⟨k + 1, by omega, by go_num, HN.out, HB3.out⟩
              case measure => simp [intOf]; omega
        · have HBad : Hid (¬ goodL l) := hbad.out (.inl (by rw [HO.out]; simp [h4]))
          go_wp2_with (first
            | (go_at_call 15; refine (H15 _).mono ?_; rintro e1 w1 ⟨rfl, hb1⟩; obtain ⟨hc1, hf1⟩ := bcell hb1; have hs1 := hb1.size)
            | (go_at_call 13; refine (H13 _).mono ?_; rintro e2 w2 ⟨rfl, hb2⟩; obtain ⟨hc2, hf2⟩ := bcell hb2))
          go_ret
          exact ⟨false, rfl, ⟨fun h => Bool.noConfusion h, fun h => absurd h HBad.out⟩, below_on (HB.out.alloc HB.out.size _) hb1 (by have := HB.out.size; simp; omega)⟩
      · cases q
        · have HBad : Hid (¬ goodL l) := hbad.out (.inl (by rw [HO.out]; simp))
          go_wp2_with (first
            | (go_at_call 15; refine (H15 _).mono ?_; rintro e1 w1 ⟨rfl, hb1⟩; obtain ⟨hc1, hf1⟩ := bcell hb1; have hs1 := hb1.size)
            | (go_at_call 13; refine (H13 _).mono ?_; rintro e2 w2 ⟨rfl, hb2⟩; obtain ⟨hc2, hf2⟩ := bcell hb2))
          go_ret
          exact ⟨false, rfl, ⟨fun h => Bool.noConfusion h, fun h => absurd h HBad.out⟩, below_on (below_on (HB.out.alloc HB.out.size _) hb1 (by have := HB.out.size; simp; omega)) hb2 (by have := HB.out.size; simp at hs1; omega)⟩
        · have HOk : Hid (ok = true) := by unfold Hid; rw [HO.out]; simp
          go_wp2_with (first
            | (go_at_call 15; refine (H15 _).mono ?_; rintro e1 w1 ⟨rfl, hb1⟩; obtain ⟨hc1, hf1⟩ := bcell hb1; have hs1 := hb1.size)
            | (go_at_call 13; refine (H13 _).mono ?_; rintro e2 w2 ⟨rfl, hb2⟩; obtain ⟨hc2, hf2⟩ := bcell hb2))
          have hB2 : Below w.heap.size w w2 := below_on (below_on (HB.out.alloc HB.out.size _) hb1 (by have := HB.out.size; simp; omega)) hb2 (by have := HB.out.size; simp at hs1; omega)
          have q0 : ∀ t : After w2, t.1.cell? ⟨wr.heap.size, 0, none⟩ = some (.string nm) := fun t => by
            rw [t.2.cell (p := ⟨wr.heap.size, 0, none⟩) (by have := hb2.size; simp at hs1; simp; omega), hc2 _ _ (by simp at hs1; omega), hc1 _ _ (by simp)]
            simp [go_sem]
          have K39 : ∀ t : After w2, _ := fun t => Calls.after t (HN0.out t.1 (below_on hB2 t.2 hB2.size))
          have HB2 := hid' hB2
          clear hB2 hb1 hb2 hc1 hc2 hf1 hf2 hs1 c0 c1 c2 c3 c4 c5 H15 H13
          have hne := after_some w2
          refine region_after 6 mixed (by kernel_rfl) ?_
          simp only [List.take_succ_cons, List.take_zero, List.drop_succ_cons, List.drop_zero]
          repeat quiet_step (with_reducible exact K39 _)
          refine wpQuiet_nil ?_
          intro w3 hb3
          have HB3 : Hid (Below w.heap.size w w3) := below_on HB2.out hb3 HB2.out.size
          clear hb3 q0 K39 hne
          by_cases hF : 0 ≤ F
          · have HBad : Hid (¬ goodL l) := hbad.out (.inr hF)
            go_wp2
            go_ret
            exact ⟨false, rfl, ⟨fun h => Bool.noConfusion h, fun h => absurd h HBad.out⟩, HB3.out⟩
          · have HN : Hid (fine l (k + 1)) := fun j hj hjk => by
              by_cases e : j = k
              · obtain ⟨e1, e2⟩ := HL.out j hj e
                rw [e1, e2]
                exact ⟨HOk.out, by omega⟩
              · exact HK.out j hj (by omega)
            go_wp2
            go_roundw
            case rel => exact ⟨k + 1, by omega, by go_num, HN.out, HB3.out⟩
            case measure => simp [intOf]; omega
    · have e : k = l.length := by omega
      subst e
      have HR := HK.out
      go_wp2
      go_ret
      refine ⟨decide (0 < l.length), by congr 2, ?_, HB.out⟩
      rw [decide_eq_true_iff]
      exact ⟨fun h => ⟨HR, h⟩, fun h => h.2⟩
end Go.Proofs.Ytmcadffagnbiaaa
