/- A node's turn. -/
import Derived.Test.YtjhndnhldhmjnaaDoorSmX
namespace Go.Proofs.YtjhndnhldhmjnaaDoor
open Go Go.RowKit Go.Maps
set_option linter.unusedVariables false
set_option linter.unusedSimpArgs false
theorem Prb.joinTo_snoc (P : Prb Wd) (v : Wd) : ∀ (l : List Nat) (t : Nat) (i : Nat → Wd) (st : Nat → Bool),
    P.joinTo v (l ++ [t]) i st = if P.L.join ((P.joinTo v l i st).1 t) v = (P.joinTo v l i st).1 t then P.joinTo v l i st else (upd (P.joinTo v l i st).1 t (P.L.join ((P.joinTo v l i st).1 t) v), upd (P.joinTo v l i st).2 t true)
  | [], t, i, st => by
    show (if P.L.join (i t) v = i t then P.joinTo v [] i st else P.joinTo v [] (upd i t (P.L.join (i t) v)) (upd st t true)) = _
    by_cases h : P.L.join ((P.joinTo v [] i st).1 t) v = (P.joinTo v [] i st).1 t
    · have h2 : P.L.join (i t) v = i t := h
      rw [if_pos h, if_pos h2]
    · have h2 : ¬ P.L.join (i t) v = i t := h
      rw [if_neg h, if_neg h2]
      rfl
  | s :: l, t, i, st => by
    rw [List.cons_append, Prb.joinTo]
    by_cases c : P.L.join (i s) v = i s
    · rw [if_pos c, Prb.joinTo_snoc P v l]
      have : P.joinTo v (s :: l) i st = P.joinTo v l i st := by rw [Prb.joinTo, if_pos c]
      rw [this]
    · rw [if_neg c, Prb.joinTo_snoc P v l]
      have : P.joinTo v (s :: l) i st = P.joinTo v l (upd i s (P.L.join (i s) v)) (upd st s true) := by rw [Prb.joinTo, if_neg c]
      rw [this]
/-- What a solver's parts are to one another. -/
structure CnOk (c : Cn) : Prop where
  n : c.P.n ≤ 4096
  len : c.I.length = c.P.n
  inn : ∀ l ∈ c.I, ∀ x ∈ l, 0 ≤ x ∧ x < c.P.n
  le : ∀ l ∈ c.I, l.length * 8 ≤ big
  pl : ∀ k, k < c.P.n → c.pl k < c.P.n
  inj : ∀ x y, x < c.P.n → y < c.P.n → c.pl x = c.pl y → x = y
  F : c.F.length = c.P.n
  back : ∀ k, k < c.P.n → c.F.getD (c.pl k) 0 = k
  too : ∀ j, j < c.P.n → c.F.getD j 0 < c.P.n ∧ c.pl (c.F.getD j 0) = j
/-- Of each node whether it waits. -/
def stF (c : Cn) (qs : Nat → Wd) (x : Nat) : Bool := inQ qs (c.pl x)
theorem stF_add {c : Cn} (hc : CnOk c) (qs : Nat → Wd) {k x : Nat} (hk : k < c.P.n) (hx : x < c.P.n) : stF c (upd qs (c.pl k / 64) (qs (c.pl k / 64) ||| bitW (c.pl k))) x = upd (stF c qs) k true x := by
  unfold stF
  rw [inQ_add]
  by_cases e : x = k
  · subst e
    rw [upd_at, decide_eq_true rfl, Bool.true_or]
  · rw [upd_ne _ _ e, decide_eq_false (fun h => e (hc.inj x k hx hk h)), Bool.false_or]
theorem stF_del {c : Cn} (hc : CnOk c) (qs : Nat → Wd) {k x : Nat} (hk : k < c.P.n) (hx : x < c.P.n) : stF c (upd qs (c.pl k / 64) (qs (c.pl k / 64) &&& ~~~bitW (c.pl k))) x = upd (stF c qs) k false x := by
  unfold stF
  rw [inQ_del]
  by_cases e : x = k
  · subst e
    rw [upd_at, decide_eq_true rfl]
    rfl
  · rw [upd_ne _ _ e, decide_eq_false (fun h => e (hc.inj x k hx hk h))]
    rfl
/-- Successors of a node. -/
def Cn.tos (c : Cn) (k : Nat) : List Nat := (c.I.getD k []).map Int.toNat
/-- What a turn of node k makes. -/
def FlR (c : Cn) (k : Nat) (i o qs i' o' qs' : Nat → Wd) : Prop :=
  o' = upd o k (c.P.flow k (i k)) ∧ ((c.P.flow k (i k) = o k ∧ i' = i ∧ qs' = qs) ∨
    (c.P.flow k (i k) ≠ o k ∧ i' = (c.P.joinTo (c.P.flow k (i k)) (c.tos k) i (stF c qs)).1 ∧ ∀ x, x < c.P.n → stF c qs' x = (c.P.joinTo (c.P.flow k (i k)) (c.tos k) i (stF c qs)).2 x))
theorem SM.all {c : Cn} {w0 w : World} {i o qs : Nat → Wd} {a : Nat} (h : SM c w0 w i o qs a) :
    w.cell? ⟨c.p, 4, none⟩ = some (.func (.func c.fj) #[] #[]) ∧ w.cell? ⟨c.p, 5, none⟩ = some (.func (.func c.fe) #[] #[]) ∧ w.cell? ⟨c.p, 6, none⟩ = some (.func (.func c.ff) #[] #[.pointer (some ⟨c.q.2, 0, none⟩)]) ∧
    w.cell? ⟨c.p, 7, none⟩ = some (.slice (some ⟨c.gs, 0, none⟩) c.P.n c.P.n) ∧ w.cell? ⟨c.p, 9, none⟩ = some (.slice (some ⟨c.gp, 0, none⟩) c.P.n c.P.n) ∧
    w.cell? ⟨c.p, 12, none⟩ = some (.slice (some ⟨c.gi, 0, none⟩) c.P.n c.P.n) ∧ w.cell? ⟨c.p, 13, none⟩ = some (.slice (some ⟨c.go, 0, none⟩) c.P.n c.P.n) :=
  ⟨h.cellAt 4 (by omega), h.cellAt 5 (by omega), h.cellAt 6 (by omega), h.cellAt 7 (by omega), h.cellAt 9 (by omega), h.cellAt 12 (by omega), h.cellAt 13 (by omega)⟩
set_option maxRecDepth 20000 in
set_option maxHeartbeats 8000000 in
theorem flow51 {c : Cn} {w0 w : World} {i o qs : Nat → Wd} {a : Nat} (h : SM c w0 w i o qs a) (hc : CnOk c) (hf : FnsOk c.P w0 c.q c.fs c.fj c.fe c.ff) {k : Nat} (hk : k < c.P.n) :
    Calls Tryd.prog 51 #[.pointer (some ⟨c.p, 0, none⟩), .int .i64 k] w fun e w' => e = .returned (.tuple #[]) ∧ ∃ i' o' qs', SM c w0 w' i' o' qs' a ∧ FlR c k i o qs i' o' qs' := by
  have hn := hc.n
  have ej := hf.ej
  have ee := hf.ee
  have ef := hf.ef
  have H := hid' h
  have HF := hid' hf
  obtain ⟨c4, c5, c6, c7, c9, c12, c13⟩ := h.all
  have ri := h.ri.cell hk
  have ro := h.ro.cell hk
  have hne := after_some w
  have kc : ∀ t : After w, ∀ b off, b < w.heap.size → t.1.cell? ⟨b, off, none⟩ = w.cell? ⟨b, off, none⟩ := fun t b off hb => t.2.cell (p := ⟨b, off, none⟩) hb
  have lp := h.box.lt
  have li := h.ri.lt
  have lo := h.ro.lt
  have KF : ∀ t : After w, Calls Tryd.prog c.ff #[.int .i64 k, uv (i k), .pointer (some ⟨c.q.2, 0, none⟩)] t.1 _ := fun t => Calls.after t ((HF.out.cf t.1 (below_on H.out.below t.2 H.out.below.size) k hk (i k)).mono fun _ w' ⟨h1, d, h2⟩ => ⟨h1, by rw [h2]; exact bdrew (Below.refl _ _) d⟩)
  unfold uv at ri ro KF
  clear h hf
  go_enter Tryd.func51, Tryd.ntmps51
  go_wp2_with fail
  refine region_after 18 mixed (by kernel_rfl) ?_
  simp only [List.take_succ_cons, List.take_zero, List.drop_succ_cons, List.drop_zero]
  repeat (first | go_big_quiet_step (with_reducible exact KF _) | quiet_step (with_reducible exact KF _))
  refine wpQuiet_nil ?_
  intro w6 hb6
  have H6 := H.out.on hb6
  have f6 := H6.ro.fro k
  have r6 := H6.ro.cell hk
  have H7 : Hid (SM c w0 (w6.setCell ⟨c.go, k, none⟩ (.int .u64 ((c.P.flow k (i k)).toNat : Nat))) i (upd o k (c.P.flow k (i k))) qs a) := H6.setO k (c.P.flow k (i k))
  unfold uv at r6
  clear H6 KF hne kc c4 c5 c6 c7 c9 c12 c13 ri ro H lp li lo
  go_upto_region 3 with fail
  generalize (w6.setCell ⟨c.go, k, none⟩ (.int .u64 ((c.P.flow k (i k)).toNat : Nat))) = W1 at *
  clear f6 r6 hb6
  obtain ⟨c4, c5, c6, c7, c9, c12, c13⟩ := H7.out.all
  have ro := H7.out.ro.cell hk
  rw [upd_at] at ro
  have hfl : Hid (c.P.flow k (i k) = c.P.flow k (i k)) := rfl
  generalize eV : c.P.flow k (i k) = V at *
  have EV := hid' eV
  clear hfl eV
  by_cases heq : V = o k
  · have hd : decide (V = o k) = true := decide_eq_true heq
    have KE : ∀ d, Calls Tryd.prog c.fe #[uv V, uv (o k)] (W1.drewN d) fun e W' => e = .returned (.bool true) ∧ ∃ m, W' = (W1.drewN d).drewN m := fun d => by
      have := HF.out.ce (W1.drewN d) V (o k)
      rw [hd] at this
      exact this
    have HEQ := hid' heq
    clear hd heq
    unfold uv at KE ro
    go_quiet (exact Calls.quiet_of (KE _))
    clear KE
    go_wp2_with fail
    refine bodyPost_ret (results_none rfl _ _ _) rfl ?_
    exact ⟨rfl, i, _, qs, H7.out.drew _, by rw [EV.out], .inl ⟨by rw [EV.out]; exact HEQ.out, rfl, rfl⟩⟩
  · have hd : decide (V = o k) = false := decide_eq_false heq
    have KE : ∀ d, Calls Tryd.prog c.fe #[uv V, uv (o k)] (W1.drewN d) fun e W' => e = .returned (.bool false) ∧ ∃ m, W' = (W1.drewN d).drewN m := fun d => by
      have := HF.out.ce (W1.drewN d) V (o k)
      rw [hd] at this
      exact this
    have HEQ := hid' heq
    clear hd heq
    unfold uv at KE ro
    go_quiet (exact Calls.quiet_of (KE _))
    clear KE
    have H8 := hid' (H7.out.drew nq)
    generalize W1.drewN nq = W2 at *
    clear H7 c4 c5 c6 c7 c9 c12 c13 ro
    have hS := H8.out.suc
    have hkI : k < c.I.length := by rw [hc.len]; exact hk
    have hku : k < c.us.length := by rw [hS.len]; exact hkI
    have c7 := H8.out.all.2.2.2.1
    have s7 : W2.cell? ⟨c.gs, k, none⟩ = some c.us[k] := by
      have := World.ownsRow.cellAt hS.row k (by omega)
      rw [this, List.getElem?_eq_getElem hku]
    have hel := (hS.el k hku hkI).src ic1
    obtain ⟨tt, tc, et, hft⟩ := hel.ints
    have HTR := hid' (hc.inn _ (List.getElem_mem hkI))
    have htl := hc.le _ (List.getElem_mem hkI)
    have HTO : Hid (c.tos k = c.I[k].map Int.toNat) := by
      unfold Hid Cn.tos
      simp [hkI]
    have HT : Hid (∀ (j : Nat) (hj : j < c.I[k].length), ∃ b off, tt = some ⟨b, off, none⟩ ∧ b < W2.heap.size ∧ ∀ W' i' o' q', SM c w0 W' i' o' q' a → W'.cell? ⟨b, off + j, none⟩ = some (.int .i64 c.I[k][j])) := fun j hj => by
      obtain ⟨b, off, e1, e2, e3, e4⟩ := hft j hj
      refine ⟨b, off, e1, e2, fun W' i' o' q' hW => ?_⟩
      have h2 := (hW.suc.el k hku hkI).src ic1
      obtain ⟨tt', tc', et', hft'⟩ := h2.ints
      rw [et] at et'
      injection et' with x1 x2 x3
      obtain ⟨b', off', y1, y2, y3, y4⟩ := hft' j hj
      rw [← x1, e1] at y1
      injection y1 with y1
      injection y1 with z1 z2 z3
      subst z1 z2
      exact y4 W' (Below.refl _ _)
    rw [et] at s7
    unfold big at htl
    clear hS hel et hft
    generalize c.I[k] = tos at *
    go_wp2_with fail
    go_loopw [59] (fun iv wr => ∃ (j : Nat) (i' qs' : Nat → Wd), j ≤ tos.length ∧ iv = .int .i64 j ∧ SM c w0 wr i' (upd o k V) qs' a ∧ i' = (c.P.joinTo V ((tos.take j).map Int.toNat) i (stF c qs)).1 ∧ ∀ x, x < c.P.n → stF c qs' x = (c.P.joinTo V ((tos.take j).map Int.toNat) i (stF c qs)).2 x) (fun iv _ => tos.length - (intOf iv).toNat)
    case atStart => exact ⟨0, i, qs, Nat.zero_le _, rfl, H8.out, rfl, fun x _ => rfl⟩
    case round =>
      obtain ⟨j, i', qs', hj, rfl, hM, hi', hq'⟩ := hrel
      have HM := hid' hM
      have HI' := hid' hi'
      have HQ' := hid' hq'
      clear hM hi' hq'
      by_cases hjt : j < tos.length
      · obtain ⟨tb, tof, rfl, htb, hcx⟩ := HT.out j hjt
        have tcell := hcx wr _ _ _ HM.out
        obtain ⟨g0, g1⟩ := HTR.out _ (List.getElem_mem hjt)
        have HSN : Hid ((tos.take (j + 1)).map Int.toNat = (tos.take j).map Int.toNat ++ [tos[j].toNat]) := by
          unfold Hid
          rw [take_snoc tos j hjt, List.map_append]
          rfl
        clear hcx
        generalize tos[j] = t at *
        obtain ⟨tn, rfl⟩ : ∃ tn : Nat, t = tn := ⟨t.toNat, by omega⟩
        rw [Int.toNat_natCast] at HSN
        have htn : tn < c.P.n := by omega
        obtain ⟨c4, c5, c6, c7, c9, c12, c13⟩ := HM.out.all
        have ro := HM.out.ro.cell hk
        rw [upd_at] at ro
        have ri := HM.out.ri.cell htn
        have fi := HM.out.ri.fro tn
        have JS := hid' (c.P.joinTo_snoc V ((tos.take j).map Int.toNat) tn i (stF c qs))
        rw [← HSN.out, ← HI'.out] at JS
        generalize eJ : c.P.L.join (i' tn) V = J at *
        have KJ : ∀ W, Calls Tryd.prog c.fj #[uv (i' tn), uv V] W fun e W' => e = .returned (uv J) ∧ ∃ m, W' = W.drewN m := fun W => by
          have := HF.out.cj W (i' tn) V
          rw [eJ] at this
          exact this
        by_cases hje : J = i' tn
        · have hd : decide (J = i' tn) = true := decide_eq_true hje
          have KE : ∀ W, Calls Tryd.prog c.fe #[uv J, uv (i' tn)] W fun e W' => e = .returned (.bool true) ∧ ∃ m, W' = W.drewN m := fun W => by
            have := HF.out.ce W J (i' tn)
            rw [hd] at this
            exact this
          have HJ := hid' hje
          clear hd hje eJ
          unfold uv at KE KJ ri ro
          go_wp2_with fail
          go_quiet (exact Calls.quiet_of (KJ _))
          have HM5 := hid' (HM.out.drew nq)
          clear c4 c5 c6 c7 c9 c12 c13 ro ri fi tcell
          generalize wr.drewN nq = W5 at *
          obtain ⟨c4, c5, c6, c7, c9, c12, c13⟩ := HM5.out.all
          have ri := HM5.out.ri.cell htn
          have fi := HM5.out.ri.fro tn
          unfold uv at ri
          go_wp2_with fail
          go_quiet (exact Calls.quiet_of (KE _))
          go_wp2_with fail
          rw [if_pos HJ.out] at JS
          refine ⟨⟨j + 1, i', qs', by omega, by go_num, HM5.out.drew _, by rw [JS.out]; exact HI'.out, fun x hx => by rw [JS.out]; exact HQ'.out x hx⟩, by simp [intOf]; omega⟩
        · have hd : decide (J = i' tn) = false := decide_eq_false hje
          have KE : ∀ W, Calls Tryd.prog c.fe #[uv J, uv (i' tn)] W fun e W' => e = .returned (.bool false) ∧ ∃ m, W' = W.drewN m := fun W => by
            have := HF.out.ce W J (i' tn)
            rw [hd] at this
            exact this
          have HJ := hid' hje
          clear hd hje eJ
          unfold uv at KE KJ ri ro
          go_wp2_with fail
          go_quiet (exact Calls.quiet_of (KJ _))
          have HM5 := hid' (HM.out.drew nq)
          clear c4 c5 c6 c7 c9 c12 c13 ro ri fi tcell
          generalize wr.drewN nq = W5 at *
          obtain ⟨c4, c5, c6, c7, c9, c12, c13⟩ := HM5.out.all
          have ri := HM5.out.ri.cell htn
          have fi := HM5.out.ri.fro tn
          unfold uv at ri
          go_wp2_with fail
          go_quiet (exact Calls.quiet_of (KE _))
          go_upto_region 10 with fail
          have H6 : Hid (SM c w0 ((W5.drewN nq).setCell ⟨c.gi, tn, none⟩ (.int .u64 (J.toNat : Nat))) (upd i' tn J) (upd o k V) qs' a) := (HM5.out.drew nq).setI tn J
          clear HM5 HM c4 c5 c6 c7 c9 c12 c13 ri fi KE KJ
          generalize ((W5.drewN nq).setCell ⟨c.gi, tn, none⟩ (.int .u64 (J.toNat : Nat))) = W6 at *
          have c9 := H6.out.all.2.2.2.2.1
          have rp := H6.out.plc.cell htn
          have hne := after_some W6
          have kc : ∀ t : After W6, ∀ b off, b < W6.heap.size → t.1.cell? ⟨b, off, none⟩ = W6.cell? ⟨b, off, none⟩ := fun t b off hb => t.2.cell (p := ⟨b, off, none⟩) hb
          have lp := H6.out.box.lt
          have lq := H6.out.plc.lt
          refine region_after 10 mixed (by kernel_rfl) ?_
          simp only [List.take_succ_cons, List.take_zero, List.drop_succ_cons, List.drop_zero]
          repeat (first | go_big_quiet_step (fail) | quiet_step (fail))
          refine wpQuiet_nil ?_
          intro w8 hb8
          have H8 := hid' (H6.out.on hb8)
          clear hne kc lp lq c9 rp hb8 H6
          have KA := add49 H8.out.qu (k := c.pl tn) (hc.pl tn htn) (by omega)
          go_wp2_with (go_at_call 49; refine KA.mono ?_; rintro e9 w9 ⟨rfl, d9, rfl⟩)
          have HZ := (H8.out.drew d9).addQ (hc.pl tn htn)
          rw [if_neg HJ.out] at JS
          refine ⟨⟨j + 1, upd i' tn J, _, by omega, by go_num, HZ, by rw [JS.out], fun x hx => ?_⟩, by simp [intOf]; omega⟩
          rw [JS.out, stF_add hc _ htn hx]
          show upd (stF c qs') tn true x = upd _ tn true x
          by_cases e : x = tn
          · subst e; rw [upd_at, upd_at]
          · rw [upd_ne _ _ e, upd_ne _ _ e]; exact HQ'.out x hx
      · have e : j = tos.length := by omega
        subst e
        rw [List.take_length, ← HTO.out] at HI' HQ'
        go_wp2_with fail
        go_end0
        exact ⟨rfl, i', _, qs', HM.out, by rw [EV.out], .inr ⟨by rw [EV.out]; exact HEQ.out, by rw [EV.out]; exact HI'.out, by rw [EV.out]; exact HQ'.out⟩⟩
end Go.Proofs.YtjhndnhldhmjnaaDoor
