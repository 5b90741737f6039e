/- pushGroup, where it goes to both halves. -/
import Derived.Test.YtgnlplddppheiaaPushB
import Derived.Test.YtgnlplddppheiaaQuiet
namespace Go.Proofs.Ytgnlplddppheiaa
open Go.RowKit
set_option linter.unusedVariables false

theorem mixed : Try.prog.follows .mixedOrders = true := by kernel_rfl

theorem hid {x : Prop} (h : x) : Hid x := h

/-- What pushGroup does to a part of the tree. -/
def PushOk (T : TT) : Prop := ∀ (tb n k o : Nat) (h : Nat → Int) (v : Value) (dn L : List Nat) (w : World), IsTree w tb n h → w.ownsRow 0 3 1 v L.length (ints L) → v.ownBlock ≠ some tb → L.length + (lvs T).length ≤ 3000000 → 1 ≤ k → n ≤ 4000000 → Fit n T k →
  dn.length ≤ 1000000 → o ≤ 1000000 → Apart T → (∀ b ∈ (lvs T), b.low ≤ b.high) → Inv h dn L T k 0 →
  Calls Try.prog 53 #[.slice (some ⟨tb, 0, none⟩) n n, .int .i64 k, .int .i64 o, v] w fun e w' => ∃ v' h' new, e = .returned v' ∧ IsTree w' tb n h' ∧ w'.ownsRow 0 3 1 v' (L ++ new).length (ints (L ++ new)) ∧ Push h dn L T k o h' new ∧
      Kept (fun b => b = tb ∨ v.ownBlock = some b) w w' ∧ (v'.ownBlock = v.ownBlock ∨ ∃ b, v'.ownBlock = some b ∧ w.heap.size ≤ b)

theorem ne_of_loc {v v' : Value} {tb s : Nat} (hv : v.ownBlock ≠ some tb) (ht : tb < s) (h : v'.ownBlock = v.ownBlock ∨ ∃ b, v'.ownBlock = some b ∧ s ≤ b) : v'.ownBlock ≠ some tb := by
  rcases h with h | ⟨b, h, hb⟩
  · rw [h]; exact hv
  · rw [h]; intro e; simp at e; omega

set_option maxRecDepth 100000 in
set_option maxHeartbeats 4000000 in
theorem push_both {s : Nat} {u : Unit} {l r : TT} (hl : PushOk l) (hr : PushOk r) {tb n k o : Nat} {h : Nat → Int} {v : Value} {dn L : List Nat} {w : World} (ht : IsTree w tb n h) (ho : w.ownsRow 0 3 1 v L.length (ints L)) (hv : v.ownBlock ≠ some tb) (hL : L.length + (lvs (.inner s u none l r)).length ≤ 3000000)
    (k1 : 1 ≤ k) (hn : n ≤ 4000000) (hf : Fit n (.inner s u none l r) k) (hd : dn.length ≤ 1000000) (ho2 : o ≤ 1000000) (hT : Apart (.inner s u none l r)) (hlh : ∀ b ∈ (lvs (.inner s u none l r)), b.low ≤ b.high) (hi : Inv h dn L (.inner s u none l r) k 0)
    (h1 : h (7 * k + 1) ≤ o) (h4 : (o : Int) < h (7 * k + 4)) (h5 : h (7 * k + 2) ≤ o → (o : Int) < h (7 * k + 3) → h (7 * k + 5) ≤ 0) :
    Calls Try.prog 53 #[.slice (some ⟨tb, 0, none⟩) n n, .int .i64 k, .int .i64 o, v] w fun e w' => ∃ v' h' new, e = .returned v' ∧ IsTree w' tb n h' ∧ w'.ownsRow 0 3 1 v' (L ++ new).length (ints (L ++ new)) ∧ Push h dn L (.inner s u none l r) k o h' new ∧
      Kept (fun b => b = tb ∨ v.ownBlock = some b) w w' ∧ (v'.ownBlock = v.ownBlock ∨ ∃ b, v'.ownBlock = some b ∧ w.heap.size ≤ b) := by
  obtain ⟨fk, fl, fr⟩ := hf
  have fl' := fl.lt
  have fr' := fr.lt
  have c0 := ht.cell fk (show 0 < 7 by omega)
  have c1 := ht.cell fk (show 1 < 7 by omega)
  have c2 := ht.cell fk (show 2 < 7 by omega)
  have c3 := ht.cell fk (show 3 < 7 by omega)
  have c4 := ht.cell fk (show 4 < 7 by omega)
  have c5 := ht.cell fk (show 5 < 7 by omega)
  have c6 := ht.cell fk (show 6 < 7 by omega)
  have a0 : h (7 * k) = -1 := by unfold Inv at hi; exact hi.2.2.1
  simp only [Nat.add_zero, a0] at c0
  obtain ⟨x6, e6⟩ : ∃ x, x = h (7 * k + 6) := ⟨_, rfl⟩
  rw [← e6] at c6
  have HT : Hid (IsTree w tb n h) := ht
  clear ht
  have HI : Hid (Inv h dn L (.inner s u none l r) k 0) := hi
  clear hi
  have H5 : Hid (h (7 * k + 2) ≤ o → (o : Int) < h (7 * k + 3) → h (7 * k + 5) ≤ 0) := h5
  clear h5
  have E6 := hid e6
  clear e6
  generalize hx1 : h (7 * k + 1) = x1 at *
  generalize hx2 : h (7 * k + 2) = x2 at *
  generalize hx3 : h (7 * k + 3) = x3 at *
  generalize hx4 : h (7 * k + 4) = x4 at *
  generalize hx5 : h (7 * k + 5) = x5 at *
  clear hx1 hx2 hx3 hx4 hx5
  have P2 : Hid (¬ (x2 ≤ o ∧ (o : Int) < x3 ∧ 0 < x5)) := fun ⟨p, q, s⟩ => by have := H5.out p q; omega
  clear H5
  have wr2 : IntKind.i64.wrap (2 * (k : Int)) = 2 * (k : Int) := by simp [IntKind.wrap, IntKind.bits, IntKind.signed]; omega
  have wr3 : IntKind.i64.wrap (2 * (k : Int) + 1) = 2 * (k : Int) + 1 := by simp [IntKind.wrap, IntKind.bits, IntKind.signed]; omega
  have i2 : 0 ≤ 2 * (k : Int) ∧ 2 * (k : Int) < n := by omega
  have i3 : 0 ≤ 2 * (k : Int) + 1 ∧ 2 * (k : Int) + 1 < n := by omega
  have n2 : (2 * (k : Int)).toNat = 2 * k := by omega
  have n3 : (2 * (k : Int) + 1).toNat = 2 * k + 1 := by omega
  have hi := HI.out
  obtain ⟨d1, d2⟩ := hi.down k1
  unfold Inv at hi
  obtain ⟨a1, a2, a3, a4, a5, a6, a7, a8, a9, a10, a11, a12⟩ := hi
  have B1 := hid (a11.room_le (by omega) (fun b hb => hlh b (by simp [lvs, hb])))
  have B2 := hid (a12.room_le (by omega) (fun b hb => hlh b (by simp [lvs, hb])))
  rw [← E6.out] at d1 d2 B1 B2
  have X6 : Hid (0 ≤ x6) := by rw [E6.out]; exact a1
  clear a1 a2 a3 a4 a5 a6 a7 a8 a9 a10 a11 a12
  have D1 := hid d1
  have D2 := hid d2
  clear d1 d2
  have far6 : Hid (takeH h (2 * k) x6 (7 * k + 6) = x6) := by rw [takeH_far _ _ _ (by omega) (by omega)]; exact E6.out.symm
  have lr : Hid (∀ b ∈ (lvs r), ∀ c ∈ (lvs l), c.ix ≠ b.ix) := fun b hb c hc => hT.both hc hb
  have hT1 := hid hT.left
  have hT2 := hid hT.right
  have hlen : Hid (L.length + (lvs l).length + (lvs r).length ≤ 3000000) := by simp [lvs] at hL; unfold Hid; omega
  have Hl : Hid (∀ W : World, IsTree W tb n (takeH (takeH h (2 * k) x6) (2 * k + 1) x6) → W.ownsRow 0 3 1 v L.length (ints L) →
      Calls Try.prog 53 #[.slice (some ⟨tb, 0, none⟩) n n, .int .i64 (2 * (k : Int)), .int .i64 o, v] W fun e w' => ∃ v' h' new, e = .returned v' ∧ IsTree w' tb n h' ∧ w'.ownsRow 0 3 1 v' (L ++ new).length (ints (L ++ new)) ∧ Push (takeH (takeH h (2 * k) x6) (2 * k + 1) x6) dn L l (2 * k) o h' new ∧
        Kept (fun b => b = tb ∨ v.ownBlock = some b) W w' ∧ (v'.ownBlock = v.ownBlock ∨ ∃ b, v'.ownBlock = some b ∧ W.heap.size ≤ b)) := fun W hW hO => by
    have := hl tb n (2 * k) o _ v dn L W hW hO hv (by have := hlen.out; omega) (by omega) hn fl hd ho2 hT1.out (fun b hb => hlh b (by simp [lvs, hb])) D1.out
    rwa [show ((2 * k : Nat) : Int) = 2 * (k : Int) by omega] at this
  have Hr : Hid (∀ (W : World) (h3 : Nat → Int) (v3 : Value) (n1 : List Nat), IsTree W tb n h3 → W.ownsRow 0 3 1 v3 (L ++ n1).length (ints (L ++ n1)) → v3.ownBlock ≠ some tb → Push (takeH (takeH h (2 * k) x6) (2 * k + 1) x6) dn L l (2 * k) o h3 n1 →
      Calls Try.prog 53 #[.slice (some ⟨tb, 0, none⟩) n n, .int .i64 (2 * (k : Int) + 1), .int .i64 o, v3] W fun e w' => ∃ v' h' new, e = .returned v' ∧ IsTree w' tb n h' ∧ w'.ownsRow 0 3 1 v' ((L ++ n1) ++ new).length (ints ((L ++ n1) ++ new)) ∧ Push h3 dn (L ++ n1) r (2 * k + 1) o h' new ∧
        Kept (fun b => b = tb ∨ v3.ownBlock = some b) W w' ∧ (v'.ownBlock = v3.ownBlock ∨ ∃ b, v'.ownBlock = some b ∧ W.heap.size ≤ b)) := fun W h3 v3 n1 hW hO hv3 hP => by
    have := hr tb n (2 * k + 1) o _ v3 dn (L ++ n1) W hW hO hv3 (by have := hlen.out; have := hP.len; simp; omega) (by omega) hn fr hd ho2 hT2.out (fun b hb => hlh b (by simp [lvs, hb])) (by
      refine (D2.out.congr (fun i j hij hj => hP.far _ (fun e => ?_))).more (fun b hb e => ?_)
      · rw [show (7 * i + j) / 7 = i by omega] at e
        exact anc_apart k1 e hij
      · obtain ⟨c, hc, e', _⟩ := hP.forced _ e
        exact lr.out b hb c hc e')
    rwa [show ((2 * k + 1 : Nat) : Int) = 2 * (k : Int) + 1 by omega] at this
  have cases3 : (x2 ≤ o ∧ (o : Int) < x3 ∧ ¬ 0 < x5) ∨ (x2 ≤ o ∧ ¬ (o : Int) < x3) ∨ ¬ x2 ≤ o := by
    by_cases p2 : x2 ≤ o
    · by_cases p3 : (o : Int) < x3
      · exact .inl ⟨p2, p3, fun e => P2.out ⟨p2, p3, e⟩⟩
      · exact .inr (.inl ⟨p2, p3⟩)
    · exact .inr (.inr p2)
  clear P2 hL
  rcases cases3 with ⟨p2, p3, p5⟩ | ⟨p2, p3⟩ | p2
  all_goals
    go_enter Try.func53, Try.ntmps53
    go_wp2
    refine region_quiet_tail (C := fun w' => ∃ n, w' = w.drewN n) 8 mixed (by kernel_rfl) ⟨1, rfl⟩ ?_
    simp only [List.take_succ_cons, List.take_zero, List.drop_succ_cons, List.drop_zero]
    repeat quiet_step (fail)
    refine wpQuiet_nil ?_
    rintro _ ⟨nq, rfl⟩
    have T0 : IsTree (w.drewN nq) tb n h := HT.out
    have R1 := take_tree (m := x6) T0 fl' (by have := B1.out; have := X6.out; omega) (by have := B1.out; have := X6.out; omega) (by have := B1.out; have := X6.out; omega) (by have := B1.out; have := X6.out; omega)
    have K0 : Hid (Kept (fun b => b = tb) w (w.drewN nq)) := (Kept.rfl _ w).drewN nq
    clear T0
    go_wp2_with (go_at_call 61; refine R1.mono ?_; rintro e w1 ⟨rfl, T1, K1⟩)
    have c6' := T1.cell fk (show 6 < 7 by omega)
    rw [far6.out] at c6'
    clear R1 c0 c1 c2 c3 c4 c5 c6
    refine region_quiet_tail (C := fun w' => ∃ n, w' = w1.drewN n) 9 mixed (by kernel_rfl) ⟨1, rfl⟩ ?_
    simp only [List.take_succ_cons, List.take_zero, List.drop_succ_cons, List.drop_zero]
    repeat quiet_step (fail)
    refine wpQuiet_nil ?_
    rintro _ ⟨nr, rfl⟩
    have T1' : IsTree (w1.drewN nr) tb n (takeH h (2 * k) x6) := T1
    have R2 := take_tree (m := x6) T1' fr' (by rw [takeH_far _ _ _ (by omega) (by omega)]; have := B2.out; have := X6.out; omega) (by rw [takeH_far _ _ _ (by omega) (by omega)]; have := B2.out; have := X6.out; omega) (by rw [takeH_far _ _ _ (by omega) (by omega)]; have := B2.out; have := X6.out; omega) (by rw [takeH_far _ _ _ (by omega) (by omega)]; have := B2.out; have := X6.out; omega)
    have K1' : Hid (Kept (fun b => b = tb) w (w1.drewN nr)) := (K0.out.trans K1).drewN nr
    clear T1' T1 K1 K0 c6'
    go_wp2_with (first
      | (go_at_call 61; refine R2.mono ?_; rintro e w2 ⟨rfl, T2, K2⟩; have K2' : Hid (Kept (fun b => b = tb) w w2) := K1'.out.trans K2; have O2 := K2'.out.owns ho (fun b hb e => hv (e ▸ hb)))
      | (go_at_call 53; (with_reducible refine (Hl.out _ T2 O2).mono ?_); rintro e w3 ⟨v3, h3, n1, rfl, T3, O3, P3, K3, L3⟩; have ne3 : v3.ownBlock ≠ some tb := ne_of_loc hv T2.lt L3)
      | (go_at_call 53; (with_reducible refine (Hr.out _ _ _ _ T3 O3 ne3 P3).mono ?_); rintro e w4 ⟨v4, h4, n2, rfl, T4, O4, P4, K4, L4⟩))
    have q0 : ∀ t : After w4, t.1.cell? ⟨tb, 2 * k * 7, none⟩ = some (.int .i64 (h4 (7 * (2 * k) + 0))) := fun t => (t.2.cell (p := ⟨tb, 2 * k * 7, none⟩) T4.lt).trans (T4.cell (j := 0) fl' (by omega))
    have q1 : ∀ t : After w4, t.1.cell? ⟨tb, 2 * k * 7 + 1, none⟩ = some (.int .i64 (h4 (7 * (2 * k) + 1))) := fun t => (t.2.cell (p := ⟨tb, 2 * k * 7 + 1, none⟩) T4.lt).trans (T4.cell fl' (by omega))
    have q2 : ∀ t : After w4, t.1.cell? ⟨tb, 2 * k * 7 + 2, none⟩ = some (.int .i64 (h4 (7 * (2 * k) + 2))) := fun t => (t.2.cell (p := ⟨tb, 2 * k * 7 + 2, none⟩) T4.lt).trans (T4.cell fl' (by omega))
    have q3 : ∀ t : After w4, t.1.cell? ⟨tb, 2 * k * 7 + 3, none⟩ = some (.int .i64 (h4 (7 * (2 * k) + 3))) := fun t => (t.2.cell (p := ⟨tb, 2 * k * 7 + 3, none⟩) T4.lt).trans (T4.cell fl' (by omega))
    have q4 : ∀ t : After w4, t.1.cell? ⟨tb, 2 * k * 7 + 4, none⟩ = some (.int .i64 (h4 (7 * (2 * k) + 4))) := fun t => (t.2.cell (p := ⟨tb, 2 * k * 7 + 4, none⟩) T4.lt).trans (T4.cell fl' (by omega))
    have q5 : ∀ t : After w4, t.1.cell? ⟨tb, 2 * k * 7 + 5, none⟩ = some (.int .i64 (h4 (7 * (2 * k) + 5))) := fun t => (t.2.cell (p := ⟨tb, 2 * k * 7 + 5, none⟩) T4.lt).trans (T4.cell fl' (by omega))
    have q6 : ∀ t : After w4, t.1.cell? ⟨tb, 2 * k * 7 + 6, none⟩ = some (.int .i64 (h4 (7 * (2 * k) + 6))) := fun t => (t.2.cell (p := ⟨tb, 2 * k * 7 + 6, none⟩) T4.lt).trans (T4.cell fl' (by omega))
    have s0 : ∀ t : After w4, t.1.cell? ⟨tb, (2 * k + 1) * 7, none⟩ = some (.int .i64 (h4 (7 * (2 * k + 1) + 0))) := fun t => (t.2.cell (p := ⟨tb, (2 * k + 1) * 7, none⟩) T4.lt).trans (T4.cell (j := 0) fr' (by omega))
    have s1 : ∀ t : After w4, t.1.cell? ⟨tb, (2 * k + 1) * 7 + 1, none⟩ = some (.int .i64 (h4 (7 * (2 * k + 1) + 1))) := fun t => (t.2.cell (p := ⟨tb, (2 * k + 1) * 7 + 1, none⟩) T4.lt).trans (T4.cell fr' (by omega))
    have s2 : ∀ t : After w4, t.1.cell? ⟨tb, (2 * k + 1) * 7 + 2, none⟩ = some (.int .i64 (h4 (7 * (2 * k + 1) + 2))) := fun t => (t.2.cell (p := ⟨tb, (2 * k + 1) * 7 + 2, none⟩) T4.lt).trans (T4.cell fr' (by omega))
    have s3 : ∀ t : After w4, t.1.cell? ⟨tb, (2 * k + 1) * 7 + 3, none⟩ = some (.int .i64 (h4 (7 * (2 * k + 1) + 3))) := fun t => (t.2.cell (p := ⟨tb, (2 * k + 1) * 7 + 3, none⟩) T4.lt).trans (T4.cell fr' (by omega))
    have s4 : ∀ t : After w4, t.1.cell? ⟨tb, (2 * k + 1) * 7 + 4, none⟩ = some (.int .i64 (h4 (7 * (2 * k + 1) + 4))) := fun t => (t.2.cell (p := ⟨tb, (2 * k + 1) * 7 + 4, none⟩) T4.lt).trans (T4.cell fr' (by omega))
    have s5 : ∀ t : After w4, t.1.cell? ⟨tb, (2 * k + 1) * 7 + 5, none⟩ = some (.int .i64 (h4 (7 * (2 * k + 1) + 5))) := fun t => (t.2.cell (p := ⟨tb, (2 * k + 1) * 7 + 5, none⟩) T4.lt).trans (T4.cell fr' (by omega))
    have s6 : ∀ t : After w4, t.1.cell? ⟨tb, (2 * k + 1) * 7 + 6, none⟩ = some (.int .i64 (h4 (7 * (2 * k + 1) + 6))) := fun t => (t.2.cell (p := ⟨tb, (2 * k + 1) * 7 + 6, none⟩) T4.lt).trans (T4.cell fr' (by omega))
    have HT4 := hid T4
    have HT2 := hid T2.lt
    clear T4 T3 T2
    have hne := after_some w4
    refine region_after 14 mixed (by kernel_rfl) ?_
    simp only [List.take_succ_cons, List.take_zero, List.drop_succ_cons, List.drop_zero]
    repeat quiet_step (exact Calls.after _ (both60 _ _ _ _ _ _ _ _ _ _ _ _ _ _ _))
    refine wpQuiet_nil ?_
    intro w5 hb5
    have T5 : IsTree w5 tb n h4 := (Kept.of_below (S := fun _ => False) hb5).row HT4.out (fun e => e)
    have d0 := T5.cell fk (show 0 < 7 by omega); have d1 := T5.cell fk (show 1 < 7 by omega); have d2 := T5.cell fk (show 2 < 7 by omega); have d3 := T5.cell fk (show 3 < 7 by omega); have d4 := T5.cell fk (show 4 < 7 by omega); have d5 := T5.cell fk (show 5 < 7 by omega); have d6 := T5.cell fk (show 6 < 7 by omega)
    have f := T5.free
    simp only [Nat.add_zero] at d0
    have HT5 := hid T5
    clear T5 q0 q1 q2 q3 q4 q5 q6 s0 s1 s2 s3 s4 s5 s6
    go_wp2
    go_ret
    have PP := Push.node (by omega) k1 hT hlh HI.out (by rw [← E6.out]; exact P3) P4
    have KA : Kept (fun b => b = tb ∨ v.ownBlock = some b) w w3 := (K2'.out.mono (fun _ _ e => .inl e)).trans K3
    have KB := KA.ahead K4 (fun i hi e => e.elim .inl (fun e => by
      rcases L3 with L3 | ⟨b, L3, hb⟩
      · exact .inr (L3 ▸ e)
      · rw [L3] at e
        have := K2'.out.size
        simp at e
        omega))
    refine ⟨v4, _, n1 ++ n2, rfl, HT5.out.put k _ _ _ _ _ _ _, ?_, PP, ?_, ?_⟩
    · rw [← List.append_assoc]
      exact Kept.owns (S := fun b => b = tb) (Kept.put7 (S := fun b => b = tb) (Kept.of_below hb5) rfl _ _ _ _ _ _ _) O4 (fun b hb e => ne_of_loc ne3 (Nat.lt_of_lt_of_le HT2.out K3.size) L4 (e ▸ hb))
    · exact Kept.put7 (KB.trans (Kept.of_below hb5)) (.inl rfl) _ _ _ _ _ _ _
    · rcases L4 with L4 | ⟨b, L4, hb⟩
      · rcases L3 with L3 | ⟨b, L3, hb⟩
        · exact .inl (L4.trans L3)
        · exact .inr ⟨b, L4.trans L3, Nat.le_trans K2'.out.size hb⟩
      · exact .inr ⟨b, L4, Nat.le_trans KA.size hb⟩

/-- pushGroup, whatever the tree. -/
theorem pushOk : ∀ T : TT, PushOk T
  | .leaf => fun tb n k o h v dn L w ht ho hv hL k1 hn hf hd ho2 hT hlh hi => by
    unfold Inv at hi
    refine (push_skip (o := o) (v := v) ht hf.lt hn (.inl (by omega))).mono ?_
    rintro e w' ⟨rfl, rfl⟩
    exact ⟨v, h, [], rfl, ht, by simpa using ho, Push.skip (by unfold Inv; exact hi) (by simp [lvs]), Kept.rfl _ _, .inl rfl⟩
  | .inner s u (some b) x y => fun tb n k o h v dn L w ht ho hv hL k1 hn hf hd ho2 hT hlh hi => by
    have hI := hi
    have hb := hi.bounds b (by simp [lvs])
    have hr := hi.room_le (by omega) hlh
    by_cases hs : (o : Int) < h (7 * k + 1) ∨ h (7 * k + 4) ≤ o
    · refine (push_skip (o := o) (v := v) ht hf.lt hn hs).mono ?_
      rintro e w' ⟨rfl, rfl⟩
      exact ⟨v, h, [], rfl, ht, by simpa using ho, Push.skip hI (fun c hc hn' => by have := hi.bounds c hc hn'; omega), Kept.rfl _ _, .inl rfl⟩
    · unfold Inv at hi
      rcases hi.2.2 with ⟨e, e0, e1, e2, e3, e4, e5, e6⟩ | ⟨_, e1, _⟩
      · by_cases h5 : 0 < h (7 * k + 5)
        · refine (push_take (o := o) (v := v) ht hf.lt hn (by omega) (by omega) (by omega) (by omega) h5 (by omega) (by omega) (by omega)).mono ?_
          rintro e w' ⟨rfl, h1, h2⟩
          exact ⟨v, _, [], rfl, h1, by simpa using h2.owns ho (fun b hb e => hv (e ▸ hb)), Push.take k1 hI (fun c hc _ => by simp [lvs] at hc; subst hc; omega) h5, h2.mono (fun _ _ e => .inl e), .inl rfl⟩
        · refine (push_gone (o := o) (x := b.ix) ht ho hv (by omega) hf.lt hn e0 (by omega) (by omega) (by omega) (by omega) h5).mono ?_
          rintro e w' ⟨v', rfl, h1, h2, h3, h4⟩
          exact ⟨v', _, [b.ix], rfl, h1, h2, Push.gone hI (by assumption) (by omega) (by omega), h3, h4⟩
      · omega
  | .inner s u none l r => fun tb n k o h v dn L w ht ho hv hL k1 hn hf hd ho2 hT hlh hi => by
    have hr := hi.room_le (by omega) hlh
    by_cases hs : (o : Int) < h (7 * k + 1) ∨ h (7 * k + 4) ≤ o
    · refine (push_skip (o := o) (v := v) ht hf.lt hn hs).mono ?_
      rintro e w' ⟨rfl, rfl⟩
      exact ⟨v, h, [], rfl, ht, by simpa using ho, Push.skip hi (fun c hc hn' => by have := hi.bounds c hc hn'; omega), Kept.rfl _ _, .inl rfl⟩
    · by_cases hc : h (7 * k + 2) ≤ o ∧ (o : Int) < h (7 * k + 3) ∧ 0 < h (7 * k + 5)
      · refine (push_take (o := o) (v := v) ht hf.lt hn (by omega) (by omega) hc.1 hc.2.1 hc.2.2 (by omega) (by omega) (by omega)).mono ?_
        rintro e w' ⟨rfl, h1, h2⟩
        exact ⟨v, _, [], rfl, h1, by simpa using h2.owns ho (fun b hb e => hv (e ▸ hb)), Push.take k1 hi (fun c hc' hn' => by have := hi.bounds c hc' hn'; omega) hc.2.2, h2.mono (fun _ _ e => .inl e), .inl rfl⟩
      · exact push_both (pushOk l) (pushOk r) ht ho hv hL k1 hn hf hd ho2 hT hlh hi (by omega) (by omega) (fun p q => by omega)
end Go.Proofs.Ytgnlplddppheiaa
