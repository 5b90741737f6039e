/- Any image step by step, where machines are made. -/
import Derived.Test.YtimbnlcegcmfiaaStepsAll
namespace Go.Proofs.Ytimbnlcegcmfiaa
open Go.RowKit
set_option linter.unusedVariables false

set_option maxRecDepth 20000 in
set_option maxHeartbeats 4000000 in
theorem steps3_ok (m : Im) (x : ByteArray) (st : Nat) (hst : st < 65536) (h : m.may = true) (hi : x.size ≤ 1048576) (w : World) :
    Calls Try.prog 3 #[m.val, .string x, .int .u16 (st : Int)] w fun e w' => e = .returned (.bool true) ∧ Below w.heap.size w w' := by
  have hO : Hid (∀ k, Ok (stepN k (initS m x))) := stepN_ok (initS_ok h hi)
  have hl : Hid (∀ k, (stepN k (initS m x)).out.length ≤ k) := stepN_out rfl
  have hK : Hid (∀ k, KindOk (stepN k (initS m x))) := stepN_kind (.inl rfl)
  have hn9 := new9_yes m x h hi
  have hn10 := rnew10_yes m x h hi
  generalize initS m x = s0 at *
  haveI := after_some
  go_enter Try.func3, Try.ntmps3
  go_wp2_with (first
    | (go_at_call 9; refine (hn9 _).mono ?_; rintro e w1 ⟨p, rfl, hm1⟩; have hb1 := (by obtain ⟨_, _, _, _, _, _, hb⟩ := hm1; exact hb : Below _ _ w1); obtain ⟨hc1, hf1⟩ := bcell hb1)
    | (go_at_call 10; refine (hn10 _).mono ?_; rintro e w2 ⟨p', rfl, hm2⟩; have hb2 := (by obtain ⟨_, _, _, _, _, _, hb⟩ := hm2; exact hb : Below _ _ w2)))
  have hB := hb1.trans (hb2.mono hb1.size)
  have k := box_after hB
  have k0 := fun t => (k t).1
  have k1 := fun t => (k t).2.1
  have k2 := fun t => (k t).2.2.1
  have k3 := fun t => (k t).2.2.2.1
  have k4 := fun t => (k t).2.2.2.2
  clear k
  obtain ⟨L, rfl, rfl, hL, hH⟩ := half_new (below_box w _) hm1 (Below.refl _ _) hm2 (Nat.le_refl _)
  clear hn9 hn10 hm1 hm2 hB hb1 hc1 hf1
  refine region_after 16 mixed (by kernel_rfl) ?_
  simp only [List.take_succ_cons, List.take_zero, List.drop_succ_cons, List.drop_zero]
  repeat quiet_step (first
    | exact Calls.after _ (check11_yes m h _)
    | exact Calls.after _ (check12_yes m h _))
  refine wpQuiet_nil ?_
  intro w3 hb3
  replace hH := hH.below hb3
  clear hb2 hb3 k0 k1 k2 k3 k4
  go_wp2
  go_loopw [11] (fun i wr => ∃ k : Nat, k ≤ st ∧ k ≤ 3000 ∧ i = .int .i64 k ∧ Half w m L (stepN k s0) (stepN k s0) wr) (fun i _ => st - (intOf i).toNat)
  case atStart => exact ⟨0, Nat.zero_le _, Nat.zero_le _, rfl, hH⟩
  case round =>
    obtain ⟨k, hk1, hk2, rfl, hHk⟩ := hrel
    clear hH
    have hOk := hid (hO.out k)
    have hlk := hid (hl.out k)
    have hKk := hid (hK.out k)
    have hsucc : Hid (stepF (stepN k s0) = stepN (k + 1) s0) := rfl
    generalize hs : stepN k s0 = s at *
    have c23 := hHk.c23
    have c24 := hHk.c24
    have hpl := hHk.plt
    have h14 := fun n => (hHk.drewN n).ended14 hKk.out
    have h15 := fun n => (hHk.drewN n).pc15
    by_cases hlt : k < st ∧ k < 3000
    · obtain ⟨hlt1, hlt2⟩ := hlt
      have hlt1' : (k : Int) < st := by omega
      have hlt2' : (k : Int) < 3000 := by omega
      generalize hkb : (!decide (s.kind = 3)) = b at c24 h14
      go_wp2
      go_quiet (first
        | (with_reducible exact Calls.quiet_of_same (h14 _))
        | (with_reducible exact Calls.quiet_of_same (h15 _)))
      go_wp2
      go_loopw [12] (fun i wi => ∃ j : Nat, j ≤ 16 ∧ i = .int .i64 j ∧ Half w m L s s wi) (fun i _ => 16 - (intOf i).toNat)
      case atStart => exact ⟨0, Nat.zero_le _, rfl, hHk.drewN nq⟩
      case round =>
        obtain ⟨j, hj, rfl, hHi⟩ := hrel
        clear h14 h15 c23 c24 hHk hpl
        have hpl := hHi.plt
        by_cases hjt : j < 16
        · have hjt' : (j : Int) < 16 := by omega
          have cr := hHi.reg j hjt
          have h16 := fun q => (hHi.drewN q).reg16 j hjt
          go_wp2
          go_quiet (with_reducible exact Calls.quiet_of_same (h16 _))
          go_wp2
          go_roundw
          case rel => exact ⟨j + 1, by omega, by go_num, hHi.drewN nq⟩
          case measure => simp [intOf]; omega
        · have hle : s.out.length ≤ 1000000 := Nat.le_trans hlk.out (by omega)
          have h17 := hHi.step17 hL hOk.out hle
          go_wp2_with (first
            | (go_at_call 17; refine h17.mono ?_; rintro e w4 ⟨rfl, hH4⟩; have h18 := hH4.rstep18 hL hOk.out hle)
            | (go_at_call 18; refine h18.mono ?_; rintro e w5 ⟨rfl, hH5⟩; rw [hsucc.out] at hH5; have c5 := hH5.c24; have hpl5 := hH5.plt; clear h18 hH4))
          · go_roundw
            case rel => exact ⟨k + 1, by omega, by omega, by go_num, hH5⟩
            case measure => simp [intOf]; omega
          · have hE := hH5
            have hKE := hid (hK.out (k + 1))
            generalize stepN (k + 1) s0 = t at hE hKE
            clear hH5 c5 hpl5
            refine region_first 4 mixed (by kernel_rfl) (by simp) (by kernel_rfl) ?_
            simp only [List.take_succ_cons, List.take_zero, List.drop_succ_cons, List.drop_zero]
            refine wpThen_step (fun K' hK' => ?_)
            go_simp
            refine hK' _ _ ?_
            clear hK' K'
            refine wpThen_step (fun K' hK' => ?_)
            go_simp
            refine (Half.memory19 (Half.drewN hE 1)).mono ?_
            rintro e wm ⟨tp, tr, rfl, hmem, hbm⟩
            refine hK' _ _ ?_
            clear hK' K'
            have hF := (Half.drewN hE 1).below hbm
            clear hE hmem hbm
            refine wpThen_step (fun K' hK' => ?_)
            go_simp
            refine hK' _ _ ?_
            clear hK' K'
            refine wpThen_step (fun K' hK' => ?_)
            go_simp
            refine hK' _ _ ?_
            clear hK' K'
            refine wpThen_nil ?_
            refine ⟨fun w' => ∃ n, w' = wm.drewN n, ⟨0, rfl⟩, ?_⟩
            have c23 := hF.c23
            have c24 := hF.c24
            have hpl := hF.plt
            have h14 := fun n => (hF.drewN n).ended14 hKE.out
            have h15 := fun n => (hF.drewN n).pc15
            have h16 := fun n => reg16_off (-1) (.inl (by decide)) (wm.drewN n) L.p
            have h16' := fun n => reg16_off 16 (.inr (by decide)) (wm.drewN n) L.p
            generalize hkb : (!decide (t.kind = 3)) = bE at c24 h14
            repeat quiet_step (first
              | (with_reducible exact Calls.quiet_of_same (h14 _))
              | (with_reducible exact Calls.quiet_of_same (h15 _))
              | (with_reducible exact Calls.quiet_of_same (h16 _))
              | (with_reducible exact Calls.quiet_of_same (h16' _)))
            refine wpQuiet_nil ?_
            rintro _ ⟨nq, rfl⟩
            have hG := hF.drewN nq
            clear hF c23 c24 hpl h14 h15 h16 h16'
            go_wp2_with (first
              | (go_at_call 19; refine hG.memory19.mono ?_; rintro e wn ⟨tp2, tr2, rfl, hmem2, hbn⟩; have hJ := hG.below hbn; have hby := bytes20 hmem2; have c6 := hJ.c6; have q0 := hJ.q0; have hcv := hJ.conv; have hpl := hJ.plt; clear hG hmem2 hbn)
              | (go_at_call 20; refine hby.mono ?_; rintro e wx ⟨rfl, rfl⟩; clear hby)
              | (go_at_call 21; refine hJ.end21.mono ?_; rintro e wy ⟨rfl, hby⟩; replace hJ := hJ.below hby; clear hby)
              | (go_at_call 22; refine hJ.rend22.mono ?_; rintro e wz ⟨rfl, hbz⟩; replace hJ := hJ.below hbz; clear hbz)
              | (go_at_call 13; refine (awake13 _).mono ?_; rintro e wq ⟨rfl, hbq⟩; replace hJ := hJ.below hbq; clear hbq))
            go_ret
            exact ⟨rfl, hJ.out⟩
          · go_roundw
            case rel => exact ⟨k + 1, by omega, by omega, by go_num, hH5⟩
            case measure => simp [intOf]; omega
    · have hE := hHk
      have hKE := hKk
      clear hHk hKk c23 c24 hpl h14 h15
      obtain ⟨t, rfl⟩ : ∃ t, t = s := ⟨_, rfl⟩
      have hlt' : st ≤ k ∨ 3000 ≤ k := by omega
      by_cases hlt1 : k < st
      · have hlt1' : (k : Int) < st := by omega
        have hlt2' : (3000 : Int) ≤ k := by omega
        clear hlt hlt'
        go_wp2
        refine region_first 4 mixed (by kernel_rfl) (by simp) (by kernel_rfl) ?_
        simp only [List.take_succ_cons, List.take_zero, List.drop_succ_cons, List.drop_zero]
        refine wpThen_step (fun K' hK' => ?_)
        go_simp
        refine hK' _ _ ?_
        clear hK' K'
        refine wpThen_step (fun K' hK' => ?_)
        go_simp
        refine (Half.memory19 (Half.drewN hE 1)).mono ?_
        rintro e wm ⟨tp, tr, rfl, hmem, hbm⟩
        refine hK' _ _ ?_
        clear hK' K'
        have hF := (Half.drewN hE 1).below hbm
        clear hE hmem hbm
        refine wpThen_step (fun K' hK' => ?_)
        go_simp
        refine hK' _ _ ?_
        clear hK' K'
        refine wpThen_step (fun K' hK' => ?_)
        go_simp
        refine hK' _ _ ?_
        clear hK' K'
        refine wpThen_nil ?_
        refine ⟨fun w' => ∃ n, w' = wm.drewN n, ⟨0, rfl⟩, ?_⟩
        have c23 := hF.c23
        have c24 := hF.c24
        have hpl := hF.plt
        have h14 := fun n => (hF.drewN n).ended14 hKE.out
        have h15 := fun n => (hF.drewN n).pc15
        have h16 := fun n => reg16_off (-1) (.inl (by decide)) (wm.drewN n) L.p
        have h16' := fun n => reg16_off 16 (.inr (by decide)) (wm.drewN n) L.p
        generalize hkb : (!decide (t.kind = 3)) = bE at c24 h14
        repeat quiet_step (first
          | (with_reducible exact Calls.quiet_of_same (h14 _))
          | (with_reducible exact Calls.quiet_of_same (h15 _))
          | (with_reducible exact Calls.quiet_of_same (h16 _))
          | (with_reducible exact Calls.quiet_of_same (h16' _)))
        refine wpQuiet_nil ?_
        rintro _ ⟨nq, rfl⟩
        have hG := hF.drewN nq
        clear hF c23 c24 hpl h14 h15 h16 h16'
        go_wp2_with (first
          | (go_at_call 19; refine hG.memory19.mono ?_; rintro e wn ⟨tp2, tr2, rfl, hmem2, hbn⟩; have hJ := hG.below hbn; have hby := bytes20 hmem2; have c6 := hJ.c6; have q0 := hJ.q0; have hcv := hJ.conv; have hpl := hJ.plt; clear hG hmem2 hbn)
          | (go_at_call 20; refine hby.mono ?_; rintro e wx ⟨rfl, rfl⟩; clear hby)
          | (go_at_call 21; refine hJ.end21.mono ?_; rintro e wy ⟨rfl, hby⟩; replace hJ := hJ.below hby; clear hby)
          | (go_at_call 22; refine hJ.rend22.mono ?_; rintro e wz ⟨rfl, hbz⟩; replace hJ := hJ.below hbz; clear hbz)
          | (go_at_call 13; refine (awake13 _).mono ?_; rintro e wq ⟨rfl, hbq⟩; replace hJ := hJ.below hbq; clear hbq))
        go_ret
        exact ⟨rfl, hJ.out⟩
      · have hlt1' : (st : Int) ≤ k := by omega
        clear hlt hlt'
        go_wp2
        refine region_first 4 mixed (by kernel_rfl) (by simp) (by kernel_rfl) ?_
        simp only [List.take_succ_cons, List.take_zero, List.drop_succ_cons, List.drop_zero]
        refine wpThen_step (fun K' hK' => ?_)
        go_simp
        refine hK' _ _ ?_
        clear hK' K'
        refine wpThen_step (fun K' hK' => ?_)
        go_simp
        refine (Half.memory19 (Half.drewN hE 1)).mono ?_
        rintro e wm ⟨tp, tr, rfl, hmem, hbm⟩
        refine hK' _ _ ?_
        clear hK' K'
        have hF := (Half.drewN hE 1).below hbm
        clear hE hmem hbm
        refine wpThen_step (fun K' hK' => ?_)
        go_simp
        refine hK' _ _ ?_
        clear hK' K'
        refine wpThen_step (fun K' hK' => ?_)
        go_simp
        refine hK' _ _ ?_
        clear hK' K'
        refine wpThen_nil ?_
        refine ⟨fun w' => ∃ n, w' = wm.drewN n, ⟨0, rfl⟩, ?_⟩
        have c23 := hF.c23
        have c24 := hF.c24
        have hpl := hF.plt
        have h14 := fun n => (hF.drewN n).ended14 hKE.out
        have h15 := fun n => (hF.drewN n).pc15
        have h16 := fun n => reg16_off (-1) (.inl (by decide)) (wm.drewN n) L.p
        have h16' := fun n => reg16_off 16 (.inr (by decide)) (wm.drewN n) L.p
        generalize hkb : (!decide (t.kind = 3)) = bE at c24 h14
        repeat quiet_step (first
          | (with_reducible exact Calls.quiet_of_same (h14 _))
          | (with_reducible exact Calls.quiet_of_same (h15 _))
          | (with_reducible exact Calls.quiet_of_same (h16 _))
          | (with_reducible exact Calls.quiet_of_same (h16' _)))
        refine wpQuiet_nil ?_
        rintro _ ⟨nq, rfl⟩
        have hG := hF.drewN nq
        clear hF c23 c24 hpl h14 h15 h16 h16'
        go_wp2_with (first
          | (go_at_call 19; refine hG.memory19.mono ?_; rintro e wn ⟨tp2, tr2, rfl, hmem2, hbn⟩; have hJ := hG.below hbn; have hby := bytes20 hmem2; have c6 := hJ.c6; have q0 := hJ.q0; have hcv := hJ.conv; have hpl := hJ.plt; clear hG hmem2 hbn)
          | (go_at_call 20; refine hby.mono ?_; rintro e wx ⟨rfl, rfl⟩; clear hby)
          | (go_at_call 21; refine hJ.end21.mono ?_; rintro e wy ⟨rfl, hby⟩; replace hJ := hJ.below hby; clear hby)
          | (go_at_call 22; refine hJ.rend22.mono ?_; rintro e wz ⟨rfl, hbz⟩; replace hJ := hJ.below hbz; clear hbz)
          | (go_at_call 13; refine (awake13 _).mono ?_; rintro e wq ⟨rfl, hbq⟩; replace hJ := hJ.below hbq; clear hbq))
        go_ret
        exact ⟨rfl, hJ.out⟩

theorem steps3 (m : Im) (x : ByteArray) (st : Int) (hw : (Lit.int .u16 st).wf = true) (w : World) : Calls Try.prog 3 #[m.val, .string x, .int .u16 st] w fun e w' => e = .returned (.bool true) ∧ Below w.heap.size w w' := by
  have hb : 0 ≤ st ∧ st < 65536 := by
    simp [Lit.wf, IntKind.min, IntKind.max, IntKind.signed, IntKind.bits] at hw
    omega
  cases h : m.may
  · exact steps3_arg m x st h w
  · by_cases hi : x.size ≤ 1048576
    · have := steps3_ok m x st.toNat (by omega) h hi w
      rw [show ((st.toNat : Nat) : Int) = st by omega] at this
      exact this
    · exact steps3_long m x st h hi w
end Go.Proofs.Ytimbnlcegcmfiaa
