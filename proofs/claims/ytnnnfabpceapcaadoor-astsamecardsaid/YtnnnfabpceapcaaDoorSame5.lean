/- The law of likeness, where awake is so. -/
import Derived.Test.YtnnnfabpceapcaaDoorSame4
import Derived.Test.YtnnnfabpceapcaaDoorLawS
namespace Go.Proofs.YtnnnfabpceapcaaDoor
open Go.RowKit
set_option linter.unusedVariables false

section
variable {cb n cb' n' : Nat} {w : World} {x y : NdH} {kv kv' : Value} {ks ls : List Tr}
set_option maxHeartbeats 2000000 in
theorem same11_ne (hK : Ks cb n w kv ks) (hL : Ks cb' n' w kv' ls) (hz : szT (Tr.node x ks) ≤ 262144) (hz' : szT (Tr.node y ls) ≤ 262144) (hne : szT (Tr.node x ks) ≠ szT (Tr.node y ls)) :
    Calls Tryd.prog 11 #[ndV x kv, ndV y kv'] w fun e w' => e = .returned (.bool false) ∧ Below w.heap.size w w' := by
  have H1 : Hid (∀ W, Below w.heap.size w W → Calls Tryd.prog 6 #[ndV x kv] W fun e w' => e = .returned (.int .i64 (szT (Tr.node x ks) : Int)) ∧ Below W.heap.size W w') := fun W hW => by
    have := size6 (x := x) (hK.below hW)
    unfold szR at this
    rw [if_pos hz] at this
    exact this
  have H2 : Hid (∀ W, Below w.heap.size w W → Calls Tryd.prog 6 #[ndV y kv'] W fun e w' => e = .returned (.int .i64 (szT (Tr.node y ls) : Int)) ∧ Below W.heap.size W w') := fun W hW => by
    have := size6 (x := y) (hL.below hW)
    unfold szR at this
    rw [if_pos hz'] at this
    exact this
  have hp := szT_pos (Tr.node x ks)
  generalize szT (Tr.node x ks) = Z at *
  generalize szT (Tr.node y ls) = Z' at *
  unfold ndV at H1 H2 ⊢
  have hzz : ((Z : Int) == 0) = false := by simp; omega
  have hzn : ((Z : Int) == (Z' : Int)) = false := by simp; omega
  clear hK hL
  obtain ⟨W0, hW0⟩ : ∃ W0, W0 = ((w.alloc (.cells #[.int .i64 x.kind, .string x.str, .int .u32 x.num, .bool x.flag, kv, .int .i64 x.pos] 25)).alloc (.cells #[.int .i64 y.kind, .string y.str, .int .u32 y.num, .bool y.flag, kv', .int .i64 y.pos] 25)) := ⟨_, rfl⟩
  have hb0 : Below w.heap.size w W0 := by rw [hW0]; exact (below1 _ _).alloc (by simp) _
  have HBX : Hid (∀ W, Below W0.heap.size W0 W → NdAt W (w.heap.size + 1) 0 y kv' ∧ w.heap.size + 1 < W.heap.size) := fun W h => by
    have hs0 : W0.heap.size = w.heap.size + 1 + 1 := by rw [hW0]; simp
    have nb : NdAt W0 (w.heap.size + 1) 0 y kv' := by rw [hW0]; refine ⟨?_, ?_, ?_, ?_, ?_, ?_⟩ <;> simp [go_sem]
    exact ⟨nb.below h (by omega), by have := h.size; omega⟩
  have HB0 := hid' hb0
  clear hb0
  go_enter Tryd.func11, Tryd.ntmps11
  go_wp2_with (first
    | (go_at_call 6; refine (H2.out w1 (below_on HB0.out hb1.out)).mono ?_; rintro e w2 ⟨rfl, hb2⟩; replace hb2 := hid' hb2)
    | (go_at_call 6; rw [← hW0]; refine (H1.out W0 HB0.out).mono ?_; rintro e w1 ⟨rfl, hb1⟩; obtain ⟨⟨b0, b1, b2, b3, b4, b5⟩, blt⟩ := HBX.out w1 hb1; replace hb1 := hid' hb1))
  all_goals go_ret
  all_goals exact ⟨rfl, below_on HB0.out (below_on hb1.out hb2.out)⟩
theorem same11_any (hK : Ks cb n w kv ks) (hL : Ks cb' n' w kv' ls) (hz : szT (Tr.node x ks) ≤ 262144) (hz' : szT (Tr.node y ls) ≤ 262144) :
    Calls Tryd.prog 11 #[ndV x kv, ndV y kv'] w fun e w' => e = .returned (.bool (sameT (Tr.node x ks) (Tr.node y ls))) ∧ Below w.heap.size w w' := by
  by_cases h : szT (Tr.node x ks) = szT (Tr.node y ls)
  · exact same11 hK hL hz h.symm
  · have : sameT (Tr.node x ks) (Tr.node y ls) = false := by
      cases hq : sameT (Tr.node x ks) (Tr.node y ls) with
      | false => rfl
      | true => exact absurd (same_sz _ _ _ (Nat.le_refl _) (by rw [isT_node]; exact hK.isL) (by rw [isT_node]; exact hL.isL) hq) h
    rw [this]
    exact same11_ne hK hL hz hz' h

set_option maxHeartbeats 4000000 in
theorem same4 (hA : ∀ W, Below w.heap.size w W → Calls Tryd.prog 10 #[] W fun e w' => e = .returned (.bool true) ∧ Below W.heap.size W w') (hK : Ks cb n w kv ks) (hL : Ks cb' n' w kv' ls) :
    Calls Tryd.prog 4 #[ndV x kv, ndV y kv'] w fun e w' => e = .returned (.bool true) ∧ Below w.heap.size w w' := by
  have tK : isT (Tr.node x ks) = true := by rw [isT_node]; exact hK.isL
  have tL : isT (Tr.node y ls) = true := by rw [isT_node]; exact hL.isL
  have h7 : Hid (∀ W, Below w.heap.size w W → Calls Tryd.prog 7 #[ndV x kv] W fun e w' => e = .returned (.int .i64 (szR (Tr.node x ks) : Int)) ∧ Below W.heap.size W w') := fun W hb => size7 (hK.below hb)
  have h7' : Hid (∀ W, Below w.heap.size w W → Calls Tryd.prog 7 #[ndV y kv'] W fun e w' => e = .returned (.int .i64 (szR (Tr.node y ls) : Int)) ∧ Below W.heap.size W w') := fun W hb => size7 (hL.below hb)
  have hsym : sameT (Tr.node y ls) (Tr.node x ks) = sameT (Tr.node x ks) (Tr.node y ls) := by
    rw [Bool.eq_iff_iff]
    exact ⟨same_comm _ _ _ (Nat.le_refl _) tL tK, same_comm _ _ _ (Nat.le_refl _) tK tL⟩
  have hself : sameT (Tr.node x ks) (Tr.node x ks) = true := same_self _ _ (Nat.le_refl _) tK
  have h12 : Hid (∀ W, Below w.heap.size w W → Calls Tryd.prog 12 #[ndV x kv, ndV y kv'] W fun e w' => e = .returned (.bool (sameT (Tr.node x ks) (Tr.node y ls))) ∧ Below W.heap.size W w') := fun W hb => same12 _ _ (hK.below hb) (hL.below hb)
  have h11 : Hid (szT (Tr.node x ks) ≤ 262144 → szT (Tr.node y ls) ≤ 262144 → ∀ W, Below w.heap.size w W → Calls Tryd.prog 11 #[ndV x kv, ndV y kv'] W fun e w' => e = .returned (.bool (sameT (Tr.node x ks) (Tr.node y ls))) ∧ Below W.heap.size W w') := fun z1 z2 W hb => same11_any (hK.below hb) (hL.below hb) z1 z2
  have h11' : Hid (szT (Tr.node x ks) ≤ 262144 → szT (Tr.node y ls) ≤ 262144 → ∀ W, Below w.heap.size w W → Calls Tryd.prog 11 #[ndV y kv', ndV x kv] W fun e w' => e = .returned (.bool (sameT (Tr.node x ks) (Tr.node y ls))) ∧ Below W.heap.size W w') := fun z1 z2 W hb => by
    rw [← hsym]
    exact same11_any (hL.below hb) (hK.below hb) z2 z1
  have h11s : Hid (szT (Tr.node x ks) ≤ 262144 → ∀ W, Below w.heap.size w W → Calls Tryd.prog 11 #[ndV x kv, ndV x kv] W fun e w' => e = .returned (.bool true) ∧ Below W.heap.size W w') := fun z1 W hb => by
    rw [← hself]
    exact same11_any (hK.below hb) (hK.below hb) z1 z1
  have HA := hid' hA
  have p1 := szT_pos (Tr.node x ks)
  have p2 := szT_pos (Tr.node y ls)
  clear hK hL hA hsym hself tK tL
  unfold szR at h7 h7'
  generalize sameT (Tr.node x ks) (Tr.node y ls) = r at *
  generalize szT (Tr.node x ks) = Z at *
  generalize szT (Tr.node y ls) = Z' at *
  unfold ndV at h7 h7' h12 h11 h11' h11s ⊢
  obtain ⟨w0, hw0⟩ : ∃ w0, w0 = (w.alloc (.cells #[.int .i64 x.kind, .string x.str, .int .u32 x.num, .bool x.flag, kv, .int .i64 x.pos] 25)).alloc (.cells #[.int .i64 y.kind, .string y.str, .int .u32 y.num, .bool y.flag, kv', .int .i64 y.pos] 25) := ⟨_, rfl⟩
  have hb0 : Below w.heap.size w w0 := by rw [hw0]; exact (below1 _ _).alloc (by simp) _
  have HBX : Hid (∀ W, Below w0.heap.size w0 W → NdAt W w.heap.size 0 x kv ∧ NdAt W (w.heap.size + 1) 0 y kv' ∧ w.heap.size + 1 < W.heap.size) := fun W h => by
    have hs0 : w0.heap.size = w.heap.size + 1 + 1 := by rw [hw0]; simp
    have na : NdAt w0 w.heap.size 0 x kv := by rw [hw0]; refine ⟨?_, ?_, ?_, ?_, ?_, ?_⟩ <;> simp [go_sem]
    have nb : NdAt w0 (w.heap.size + 1) 0 y kv' := by rw [hw0]; refine ⟨?_, ?_, ?_, ?_, ?_, ?_⟩ <;> simp [go_sem]
    exact ⟨na.below h (by omega), nb.below h (by omega), by have := h.size; omega⟩
  have HB0 := hid' hb0
  by_cases hz : Z ≤ 262144
  rotate_left
  · rw [if_neg hz] at h7
    go_enter Tryd.func4, Tryd.ntmps4
    go_wp2_with (first
      | (go_at_call 10; refine (HA.out w1 (below_on HB0.out hb1.out)).mono ?_; rintro e w2 ⟨rfl, hb2⟩; replace hb2 := hid' hb2)
      | (go_at_call 7; rw [← hw0]; refine (h7.out w0 HB0.out).mono ?_; rintro e w1 ⟨rfl, hb1⟩; replace hb1 := hid' hb1))
    go_ret
    exact ⟨rfl, below_on HB0.out (below_on hb1.out hb2.out)⟩
  rw [if_pos hz] at h7
  have hzz : ((Z : Int) == 0) = false := by simp; omega
  by_cases hz' : Z' ≤ 262144
  rotate_left
  · rw [if_neg hz'] at h7'
    go_enter Tryd.func4, Tryd.ntmps4
    go_wp2_with (first
      | (go_at_call 10; refine (HA.out w2 (below_on HB0.out (below_on hb1.out hb2.out))).mono ?_; rintro e w3 ⟨rfl, hb3⟩; replace hb3 := hid' hb3)
      | (go_at_call 7; refine (h7'.out w1 (below_on HB0.out hb1.out)).mono ?_; rintro e w2 ⟨rfl, hb2⟩; replace hb2 := hid' hb2)
      | (go_at_call 7; rw [← hw0]; refine (h7.out w0 HB0.out).mono ?_; rintro e w1 ⟨rfl, hb1⟩; obtain ⟨⟨a0, a1, a2, a3, a4, a5⟩, ⟨b0, b1, b2, b3, b4, b5⟩, blt⟩ := HBX.out w1 hb1; replace hb1 := hid' hb1))
    go_ret
    exact ⟨rfl, below_on HB0.out (below_on hb1.out (below_on hb2.out hb3.out))⟩
  rw [if_pos hz'] at h7'
  have hzz' : ((Z' : Int) == 0) = false := by simp; omega
  replace h11 := hid' (h11.out hz hz')
  replace h11' := hid' (h11'.out hz hz')
  replace h11s := hid' (h11s.out hz)
  clear hb0
  go_enter Tryd.func4, Tryd.ntmps4
  go_wp2_with (first
    | (go_at_call 7; refine (h7'.out w1 (below_on HB0.out hb1.out)).mono ?_; rintro e w2 ⟨rfl, hb2⟩; replace hb2 := hid' hb2)
    | (go_at_call 7; rw [← hw0]; refine (h7.out w0 HB0.out).mono ?_; rintro e w1 ⟨rfl, hb1⟩; obtain ⟨⟨a0, a1, a2, a3, a4, a5⟩, ⟨b0, b1, b2, b3, b4, b5⟩, blt⟩ := HBX.out w1 hb1; replace hb1 := hid' hb1))
  have hbw : Below w.heap.size w w2 := below_on HB0.out (below_on hb1.out hb2.out)
  have ha : ∀ t : After w2, Below w.heap.size w t.1 := fun t => below_on hbw t.2
  have hx : ∀ t : After w2, NdAt t.1 w.heap.size 0 x kv ∧ NdAt t.1 (w.heap.size + 1) 0 y kv' ∧ w.heap.size + 1 < t.1.heap.size := fun t => HBX.out t.1 (below_on (below_on hb1.out hb2.out) t.2)
  have H12 := fun t : After w2 => Calls.after t (h12.out t.1 (ha t))
  have H11 := fun t : After w2 => Calls.after t (h11.out t.1 (ha t))
  have H11' := fun t : After w2 => Calls.after t (h11'.out t.1 (ha t))
  have H11s := fun t : After w2 => Calls.after t (h11s.out t.1 (ha t))
  have H10 := fun t : After w2 => Calls.after t (HA.out t.1 (ha t))
  have q0 := fun t => (hx t).1.1
  have q1 := fun t => (hx t).1.2.1
  have q2 := fun t => (hx t).1.2.2.1
  have q3 := fun t => (hx t).1.2.2.2.1
  have q4 := fun t => (hx t).1.2.2.2.2.1
  have q5 := fun t => (hx t).1.2.2.2.2.2
  have r0 := fun t => (hx t).2.1.1
  have r1 := fun t => (hx t).2.1.2.1
  have r2 := fun t => (hx t).2.1.2.2.1
  have r3 := fun t => (hx t).2.1.2.2.2.1
  have r4 := fun t => (hx t).2.1.2.2.2.2.1
  have r5 := fun t => (hx t).2.1.2.2.2.2.2
  simp only [Nat.zero_add] at q1 q2 q3 q4 q5 r1 r2 r3 r4 r5
  have HBW := hid' hbw
  clear hx hbw ha h7 h7' h12 h11 h11' h11s HA HBX HB0 hw0
  have hne := after_some w2
  refine region_after 24 mixed (by kernel_rfl) ?_
  simp only [List.take_succ_cons, List.take_zero, List.drop_succ_cons, List.drop_zero]
  repeat quiet_step (first | with_reducible exact H12 _ | with_reducible exact H11 _ | with_reducible exact H11' _ | with_reducible exact H11s _ | with_reducible exact H10 _)
  refine wpQuiet_nil ?_
  intro w5 hb5
  clear H12 H11 H11' H11s H10 q0 q1 q2 q3 q4 q5 r0 r1 r2 r3 r4 r5
  have HB5 := hid' hb5
  clear hb5
  go_wp2
  go_ret
  exact ⟨rfl, below_on HBW.out HB5.out⟩
end
end Go.Proofs.YtnnnfabpceapcaaDoor
