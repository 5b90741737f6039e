/- A mark's token, by the document. -/
import Derived.Test.YtfnekmhhhjdeiaaRTok
namespace Go.Proofs.Ytfnekmhhhjdeiaa
open Go.RowKit
set_option linter.unusedVariables false

set_option maxRecDepth 20000 in
set_option maxHeartbeats 8000000 in
theorem token24_mark (s : ByteArray) (p : Nat) (hp : p < s.size) (hs : s.size < 4294967281) (hl : letr s[p] = false) (hd : dig s[p] = false) (hm1 : ¬ s[p].toNat = 34) (hm2 : ¬ s[p].toNat = 39) (w : World) :
    Calls Try.prog 24 #[.string s, .int .i64 (p : Int)] w fun e w' => TokP p (markF ((lst s).drop p)) e ∧ Below w.heap.size w w' := by
  have hp' : (p : Int) < s.size := by omega
  have a3' : ((s[p].toNat : Int) == 34) = false := by simp; omega
  have a4' : ((s[p].toNat : Int) == 39) = false := by simp; omega
  clear hm1 hm2
  obtain ⟨X, hX⟩ : ∃ X, X = markF ((lst s).drop p) := ⟨_, rfl⟩
  rw [← hX]
  replace hX := hid hX
  have hlen : 1 ≤ ((lst s).drop p).length := by rw [List.length_drop, lst_len]; omega
  replace hlen := hid hlen
  go_enter Try.func24, Try.ntmps24
  go_wp2_with (first
    | (go_at_call 27; refine (letter27 _ _).mono ?_; rintro e w1 ⟨rfl, rfl⟩)
    | (go_at_call 28; refine (digit28 _ _).mono ?_; rintro e w1 ⟨rfl, rfl⟩)
    | (go_at_call 45; refine (marks45 _).mono ?_; rintro e w1 ⟨rfl, rfl⟩))
  obtain ⟨W0, hW0⟩ : ∃ W0, W0 = (w.alloc zBox).alloc (.cells marksA 9) := ⟨_, rfl⟩
  have hB0 : Below (w.alloc box0).heap.size (w.alloc box0) W0 := by rw [hW0]; exact below_box _ _
  have hat0 : Hid (∀ k, k < 43 → W0.cell? ⟨w.heap.size + 1, k, none⟩ = some (.string (strL (marksL.getD k [])))) := fun k hlt => by
    have h1 : ((w.alloc zBox).alloc (.cells marksA 9)).cell? ⟨(w.alloc zBox).heap.size, k, none⟩ = some (.string (strL (marksL.getD k []))) := (World.cell?_alloc_at _ _ _ _ rfl).trans (marksA_at k hlt)
    rw [show (w.alloc zBox).heap.size = w.heap.size + 1 by simp, ← hW0] at h1
    exact h1
  have hl0 : w.heap.size + 1 < W0.heap.size := by rw [hW0]; simp
  rw [← hW0]
  clear hW0
  obtain ⟨⟨k0, k1, k2, k3, k4, k5⟩, hz, hB, hlz⟩ := zkept hB0
  have z0 := hz 0
  have z1 := hz 1
  have z2 := hz 2
  have z3 := hz 3
  have z4 := hz 4
  have z5 := hz 5
  have hBd : Hid (∀ n, Below w.heap.size w (W0.drewN n)) := fun n => hB.trans ⟨rfl, rfl, rfl, Nat.le_refl _, fun _ _ => rfl⟩
  clear hz hB0 hB
  go_loopw [10] (fun i wr => ∃ k d : Nat, k ≤ 43 ∧ i = .int .i64 k ∧ (∀ j, j < k → (marksL.getD j []).isPrefixOf ((lst s).drop p) = false) ∧ wr = W0.drewN d) (fun i _ => 43 - (intOf i).toNat)
  case atStart => exact ⟨0, 0, Nat.zero_le _, rfl, fun j h => by omega, rfl⟩
  case round =>
    obtain ⟨k, d, hk, rfl, hno, rfl⟩ := hrel
    have HN := hid hno
    clear hno
    by_cases hlt : k < 43
    · have hlt' : (k : Int) < 43 := by omega
      have hat := hat0.out k hlt
      have hml := marks_le ⟨k, hlt⟩
      have hsz := strL_size (marksL.getD k [])
      have hci := fun w => is42 s (strL (marksL.getD k [])) (marksL.getD k []) (strL_list _) p (by omega) (by omega) w
      have hfs := fun h => find_some (l := (lst s).drop p) hlt h HN.out
      have hfH := hid hfs
      clear hfs
      dsimp only at hml
      generalize hM : marksL.getD k [] = m at *
      have HM := hid hM
      clear hM
      cases hpre : m.isPrefixOf ((lst s).drop p)
      · rw [hpre] at hci
        replace hpre := hid hpre
        go_wp2_with (go_at_call 42; (with_reducible refine (hci _).mono ?_); rintro e w1 ⟨rfl, rfl⟩)
        go_roundw
        case rel =>
          refine ⟨k + 1, d, by omega, vi (by omega), fun j hj => ?_, rfl⟩
          by_cases e : j = k
          · subst e; rw [HM.out]; exact hpre.out
          · exact HN.out j (by omega)
        case measure => simp [intOf]; omega
      · rw [hpre] at hci
        have hfin := hfH.out hpre
        rw [← hX.out] at hfin
        replace hfin := hid hfin
        have hml1 := hml.2
        clear hfH hpre hml
        obtain ⟨T, hT⟩ : ∃ T, T = strL m := ⟨_, rfl⟩
        rw [← hT] at hat hsz hci
        replace hT := hid hT
        have hsz' : (T.size : Int) ≤ 3 := by omega
        go_wp2_with (go_at_call 42; (with_reducible refine (hci _).mono ?_); rintro e w1 ⟨rfl, rfl⟩)
        refine region_quiet_tail (C := fun w' => ∃ n, w' = W0.drewN n) 13 mixed (by kernel_rfl) ⟨d + 1, rfl⟩ ?_
        simp only [List.take_succ_cons, List.take_zero, List.drop_succ_cons, List.drop_zero]
        repeat quiet_step (fail)
        refine wpQuiet_nil ?_
        rintro _ ⟨nr, rfl⟩
        go_wp2
        rw [hfin.out]
        refine bodyPost_ret (v := .tuple #[.agg #[.int .i64 4, .string T, .int .u32 0, .bool false, .int .i64 (p : Int), .int .i64 ((p : Int) + m.length)], .bool true]) (by simp [results, Try.results24, go_sem, k0, k1, k2, k3, k4, k5]) rfl ⟨?_, below_set6 (hBd.out _) _ _ _ _ _ _⟩
        rw [hT.out, show (p : Int) + (m.length : Int) = ((p + m.length : Nat) : Int) by omega]
        rfl
    · have : k = 43 := by omega
      subst this
      have hfin := find_none hlen.out HN.out
      rw [← hX.out] at hfin
      replace hfin := hid hfin
      go_wp2
      rw [hfin.out]
      exact bodyPost_ret (v := .tuple #[zeroV, .bool false]) (by simp [results, Try.results24, go_sem, zeroV, k0, k1, k2, k3, k4, k5]) rfl ⟨tokP_none, below_set6 (hBd.out _) _ _ _ _ _ _⟩
end Go.Proofs.Ytfnekmhhhjdeiaa
