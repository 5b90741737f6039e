/- The law TypesLie. -/
import Derived.Test.YtmcadffagnbiaaaSpr
namespace Go.Proofs.Ytmcadffagnbiaaa
open Go.RowKit Go.Maps
set_option linter.unusedVariables false
set_option linter.unusedSimpArgs false

theorem runS_append (rs : List Rc) (l : List Mb) : ∀ m : List Mb, ∃ t, (runS rs (l ++ m)).d = (runS rs l).d ++ t := by
  have : ∀ (m : List Mb) (s : SS), ∃ t, (m.foldl (stepS rs) s).d = s.d ++ t := fun m => by
    induction m with
    | nil => intro s; exact ⟨[], by simp⟩
    | cons x m ih => intro s; obtain ⟨t, ht⟩ := ih (stepS rs s x); exact ⟨[⟨x.nm, x.ty, s.z⟩] ++ t, by rw [List.foldl_cons, ht]; simp [stepS]⟩
  intro m
  obtain ⟨t, ht⟩ := this m (runS rs l)
  exact ⟨t, by rw [runS, List.foldl_append]; exact ht⟩
theorem runS_get (rs : List Rc) (l : List Mb) (k : Nat) (hk : k < l.length) : (runS rs l).d[k]? = some ⟨l[k].nm, l[k].ty, (runS rs (l.take k)).z⟩ := by
  obtain ⟨t, ht⟩ := runS_append rs (l.take (k + 1)) (l.drop (k + 1))
  rw [List.take_append_drop] at ht
  rw [ht, take_snoc l k hk, runS_snoc]
  have e : (runS rs (l.take k)).d.length = k := by rw [runS_len, List.length_take]; omega
  simp only [stepS]
  rw [List.append_assoc, List.getElem?_append_right (by omega), e, Nat.sub_self]
  rfl

theorem not_sized {n : Nat} (hn : n = 5 ∨ n = 7) {w : World} {v : Value} {ao : Option Addr} {m cap : Nat} (h : ∀ W, Below w.heap.size w W → Calls Try.prog 8 #[.slice ao m cap] W fun e w' => e = .returned (.bool false) ∧ w' = W) :
    Calls Try.prog n #[v, .slice ao m cap] w fun e w' => e = .returned (.bool true) ∧ Below w.heap.size w w' := by
  have H := hid' h
  clear h
  rcases hn with rfl | rfl
  · go_enter Try.func5, Try.ntmps5
    go_wp2_with (first
      | (go_at_call 8; refine (H.out _ (Below.refl _ _)).mono ?_; rintro e1 w1 ⟨rfl, rfl⟩)
      | (go_at_call 9; refine (awake9 _).mono ?_; rintro e2 w2 ⟨rfl, hb2⟩))
    go_ret
    exact ⟨rfl, hb2⟩
  · go_enter Try.func7, Try.ntmps7
    go_wp2_with (first
      | (go_at_call 8; refine (H.out _ (Below.refl _ _)).mono ?_; rintro e1 w1 ⟨rfl, rfl⟩)
      | (go_at_call 9; refine (awake9 _).mono ?_; rintro e2 w2 ⟨rfl, hb2⟩))
    go_ret
    exact ⟨rfl, hb2⟩

set_option maxRecDepth 20000 in
set_option maxHeartbeats 4000000 in
theorem lie7_err {w : World} {v : Value} {ao : Option Addr} {m cap : Nat} (h8 : ∀ W, Below w.heap.size w W → Calls Try.prog 8 #[.slice ao m cap] W fun e w' => e = .returned (.bool true) ∧ w' = W)
    (H : ∀ W, Below w.heap.size w W → Calls Try.prog 24 #[v, .slice ao m cap] W fun e w' => ∃ (a : Option Addr) (c : Nat) (er : Int), e = .returned (.tuple #[.slice a 0 c, .int .i64 0, .int .i64 er]) ∧ ¬ er = 0 ∧ Below W.heap.size W w') :
    Calls Try.prog 7 #[v, .slice ao m cap] w fun e w' => e = .returned (.bool true) ∧ Below w.heap.size w w' := by
  have HH := hid' H
  have H8 := hid' h8
  clear H h8
  go_enter Try.func7, Try.ntmps7
  go_wp2_with (first
    | (go_at_call 8; refine (H8.out _ (Below.refl _ _)).mono ?_; rintro e1 w1 ⟨rfl, rfl⟩)
    | (go_at_call 24; refine (HH.out _ (Below.refl _ _)).mono ?_; rintro e3 w3 ⟨a, c, er, rfl, hne, hb3⟩)
    | (go_at_call 9; refine (awake9 _).mono ?_; rintro e2 w2 ⟨rfl, hb2⟩))
  go_ret
  exact ⟨rfl, below_on hb3 hb2 hb3.size⟩

set_option maxRecDepth 20000 in
set_option maxHeartbeats 8000000 in
theorem lie7_ok {w : World} {ao rao : Option Addr} {cap rcap : Nat} {l : List Mb} {rs : List Rc} (hS : Src Mb.cells w (.slice ao l.length cap) l) (hsz : sizedR rs) (hl : l.length * 56 ≤ 140737488351232) (hok : okS rs l l.length) (hz : (runS rs l).z ≤ 65536)
    (h8 : ∀ W, Below w.heap.size w W → Calls Try.prog 8 #[.slice rao rs.length rcap] W fun e w' => e = .returned (.bool true) ∧ w' = W)
    (h10 : ∀ W, Below w.heap.size w W → ∀ t : Ty, Calls Try.prog 10 #[t.val, .slice rao rs.length rcap] W fun e w' => e = .returned (.tuple #[.int .i64 (szE t rs).1, .int .i64 (szE t rs).2]) ∧ Below W.heap.size W w')
    (H : ∀ W, Below w.heap.size w W → Calls Try.prog 24 #[.slice ao l.length cap, .slice rao rs.length rcap] W fun e w' => ∃ (a : Option Addr) (c : Nat), e = .returned (.tuple #[.slice a l.length c, .int .i64 (runS rs l).z, .int .i64 0]) ∧ Src Mb.cells w' (.slice a l.length c) (runS rs l).d ∧ Below W.heap.size W w') :
    Calls Try.prog 7 #[.slice ao l.length cap, .slice rao rs.length rcap] w fun e w' => e = .returned (.bool true) ∧ Below w.heap.size w w' := by
  have HH := hid' H
  have H8 := hid' h8
  have H10 := hid' h10
  have HOK := hid' hok
  have HSZ := hid' hsz
  obtain ⟨ao', cap', hv, hf⟩ := hS.form mb6
  obtain ⟨rfl, rfl⟩ : ao = ao' ∧ cap = cap' := by injection hv with a1 a2 a3; exact ⟨a1, a3⟩
  have HF := hid' hf
  obtain ⟨zz, hzz⟩ : ∃ zz, zz = (runS rs l).z := ⟨_, rfl⟩
  have HZZ := hid' hzz
  have hr0 := runS_le hsz l
  rw [← hzz] at hr0 hz HH
  obtain ⟨z0, _, z4⟩ := hr0
  have zt : Int.tmod zz 4 = 0 := by rw [Int.tmod_eq_emod_of_nonneg z0]; exact z4
  have zn : ¬ zz < 0 := by omega
  have zm : ¬ 65536 < zz := by omega
  clear H h8 h10 hok hsz hS hv hf hzz z4
  go_enter Try.func7, Try.ntmps7
  go_wp2_with (first
    | (go_at_call 8; refine (H8.out _ (Below.refl _ _)).mono ?_; rintro e1 w1 ⟨rfl, rfl⟩)
    | (go_at_call 24; refine (HH.out _ (Below.refl _ _)).mono ?_; rintro e3 w3 ⟨a, c, rfl, hs3, hb3⟩))
  obtain ⟨a', c', hv, hf⟩ := hs3.form mb6
  obtain ⟨rfl, rfl⟩ : a = a' ∧ c = c' := by injection hv with a1 a2 a3; exact ⟨a1, a3⟩
  have HG := hid' hf
  have HB3 := hid' hb3
  have hd := runS_len rs l
  clear hf hv hs3 hb3
  go_loopw [8, 9] (fun at' i wr => ∃ (k : Nat) (A : Int), k ≤ l.length ∧ i = .int .i64 k ∧ at' = .int .i64 A ∧ 0 ≤ A ∧ A ≤ (runS rs (l.take k)).z ∧ (runS rs (l.take k)).z ≤ A + 3 ∧ Below w3.heap.size w3 wr) (fun _ i _ => l.length - (intOf i).toNat)
  case atStart => exact ⟨0, 0, Nat.zero_le _, rfl, rfl, by omega, by simp [runS], by simp [runS], Below.refl _ _⟩
  case round =>
    obtain ⟨k, A, hk, rfl, rfl, a0, a1, a2, hb⟩ := hrel
    have HB := hid' hb
    have HW : Hid (Below w1.heap.size w1 wr) := below_on HB3.out HB.out HB3.out.size
    clear hb
    by_cases hlt : k < l.length
    · obtain ⟨b, off, rfl, hbl, hcp, hc⟩ := HF.out k hlt
      obtain ⟨b', off', rfl, hbl', hcp', hc'⟩ := HG.out k (by rw [hd]; exact hlt)
      have hget := runS_get rs l k hlt
      rw [List.getElem?_eq_getElem (by rw [hd]; exact hlt)] at hget
      have hget' := Option.some.inj hget
      rw [hget'] at hc'
      have HC : Hid (∀ W, Below w1.heap.size w1 W → _) := fun W hW => mb_cells (hc W hW)
      have HC' : Hid (∀ W, Below w3.heap.size w3 W → _) := fun W hW => mb_cells (hc' W hW)
      have hrun := runS_le HSZ.out (l.take k)
      have hszk := sz_le HSZ.out l[k].ty
      have hek := HOK.out k hlt hlt
      have HT : Hid (∀ W, Below w1.heap.size w1 W → Calls Try.prog 10 #[l[k].ty.val, .slice rao rs.length rcap] W fun e w' => e = .returned (.tuple #[.int .i64 (szE l[k].ty rs).1, .int .i64 0]) ∧ Below W.heap.size W w') := fun W hW => by have := H10.out W hW l[k].ty; rw [hek] at this; exact this
      have HZX : Hid ((runS rs (l.take (k + 1))).z = upF ((runS rs (l.take k)).z + (szE l[k].ty rs).1) 4) := by unfold Hid; rw [take_snoc l k hlt, runS_snoc]; rfl
      have hup := up_le (n := (runS rs (l.take k)).z + (szE l[k].ty rs).1) (u := 4) (by omega) (.inr rfl)
      have hzl : (runS rs (l.take k)).z ≤ 400000000000000000 := by have := hrun.2.1; rw [List.length_take] at this; omega
      have hz0 := hrun.1
      have hz4 := hrun.2.2
      clear hc hc' hget hget' hrun hek
      generalize upF ((runS rs (l.take k)).z + (szE l[k].ty rs).1) 4 = z' at *
      generalize (szE l[k].ty rs).1 = sz at *
      generalize (runS rs (l.take k)).z = z at *
      generalize l[k] = m at *
      obtain ⟨mn, ⟨tk, te, tn, ts⟩, mp⟩ := m
      unfold Ty.val at *
      dsimp only at *
      have hw1 : IntKind.i64.wrap (z - A) = z - A := by simp [IntKind.wrap, IntKind.bits, IntKind.signed]; omega
      have hw2 : IntKind.i64.wrap (z + sz) = z + sz := by simp [IntKind.wrap, IntKind.bits, IntKind.signed]; omega
      have g1 : ¬ z < A := by omega
      have g2 : ¬ 3 < z - A := by omega
      have g3 : Int.tmod z 4 = 0 := by rw [Int.tmod_eq_emod_of_nonneg hz0]; exact hz4
      have hlt' : (k : Int) < l.length := by omega
      have HA' : Hid (0 ≤ z + sz ∧ z + sz ≤ z' ∧ z' ≤ z + sz + 3) := by unfold Hid; omega
      obtain ⟨c0, c1, c2, c3, c4, c5⟩ := HC.out wr HW.out
      clear hz4 hup hszk a1 a2 hz
      go_wp2_with (go_at_call 10; refine (HT.out _ HW.out).mono ?_; rintro e4 w4 ⟨rfl, hb4⟩)
      clear c0 c1 c2 c3 c4 c5
      have HB4 : Hid (Below w3.heap.size w3 w4) := below_on HB.out hb4 HB.out.size
      have hx := fun t : After w4 => HC.out t.1 (below_on (below_on HB3.out HB4.out HB3.out.size) t.2 (by have := HB3.out.size; have := HB4.out.size; omega))
      have hy := fun t : After w4 => HC'.out t.1 (below_on HB4.out t.2 HB4.out.size)
      have q0 := fun t => (hx t).1
      have q1 := fun t => (hx t).2.1
      have q2 := fun t => (hx t).2.2.1
      have q3 := fun t => (hx t).2.2.2.1
      have q4 := fun t => (hx t).2.2.2.2.1
      have r0 := fun t => (hy t).1
      have r1 := fun t => (hy t).2.1
      have r2 := fun t => (hy t).2.2.1
      have r3 := fun t => (hy t).2.2.2.1
      have r4 := fun t => (hy t).2.2.2.2.1
      have r5 := fun t => (hy t).2.2.2.2.2
      have y5 : w4.cell? ⟨b', off' + k * 6 + 5, none⟩ = some (.int .i64 z) := (HC'.out w4 HB4.out).2.2.2.2.2
      clear hx hy hb4
      have hne := after_some w4
      have y5h := hid' y5
      clear y5
      refine region_after 55 mixed (by kernel_rfl) ?_
      simp only [List.take_succ_cons, List.take_zero, List.drop_succ_cons, List.drop_zero]
      repeat quiet_step (fail)
      refine wpQuiet_nil ?_
      intro w5 hb5
      have HB5 : Hid (Below w3.heap.size w3 w5) := below_on HB4.out hb5 HB4.out.size
      have y6 := keep_cell y5h.out hb5
      clear q0 q1 q2 q3 q4 r0 r1 r2 r3 r4 r5 hb5
      go_wp2_with fail
      go_roundw
      case rel =>
        obtain ⟨p0, p1, p2⟩ := HA'.out
        exact ⟨k + 1, z + sz, by omega, by go_num, rfl, p0, by rw [HZX.out]; exact p1, by rw [HZX.out]; exact p2, HB5.out⟩
      case measure => simp [intOf]; omega
    · have e : k = l.length := by omega
      subst e
      rw [List.take_length] at a1 a2
      rw [← HZZ.out] at a1 a2
      have hw1 : IntKind.i64.wrap (zz - A) = zz - A := by simp [IntKind.wrap, IntKind.bits, IntKind.signed]; omega
      have g1 : A ≤ zz := a1
      have g2 : zz - A < 4 := by omega
      clear HF HG HZZ a2
      go_wp2_with (go_at_call 9; refine (awake9 _).mono ?_; rintro e2 w2 ⟨rfl, hb2⟩)
      go_ret
      exact ⟨rfl, below_on HW.out hb2 HW.out.size⟩

theorem lie7 {w : World} {v rv : Value} {l : List Mb} {rs : List Rc} (h : Src Mb.cells w v l) (hr : Src Rc.cells w rv rs) (hns : ∀ m ∈ l, m.nm.size ≤ 140737488351232) (hl : l.length * 56 ≤ 140737488351232) (hrl : rs.length * 48 ≤ 140737488351232) :
    Calls Try.prog 7 #[v, rv] w fun e w' => e = .returned (.bool true) ∧ Below w.heap.size w w' := by
  obtain ⟨ao, cap, rfl⟩ := h.len
  obtain ⟨rao, rcap, rfl⟩ := hr.len
  have h8 := fun W (hW : Below w.heap.size w W) => sized8 (hr.on hW) (by omega)
  by_cases hsz : sizedR rs
  · have h8' : ∀ W, Below w.heap.size w W → Calls Try.prog 8 #[.slice rao rs.length rcap] W fun e w' => e = .returned (.bool true) ∧ w' = W := fun W hW => by
      have := h8 W hW
      rw [decide_eq_true (show ∀ x ∈ rs, 0 ≤ x.sz ∧ x.sz ≤ 65536 from hsz)] at this
      exact this
    by_cases hok : okS rs l l.length ∧ (runS rs l).z ≤ 65536
    · refine lie7_ok h hsz hl hok.1 hok.2 h8' (fun W hW t => size10 (hr.on hW) (by omega) t) (fun W hW => (spread24 (h.on hW) (hr.on hW) hns hl hrl hsz).mono ?_)
      rintro e w' ⟨rv, n, er, ms, rfl, hI, hs, hb⟩
      rcases hI with ⟨a, rfl, rfl, rfl⟩ | ⟨a, b, rfl, rfl, rfl⟩ | ⟨a, b, rfl, rfl, rfl⟩
      · exact absurd hok.1 a
      · omega
      · obtain ⟨a, c, rfl⟩ := hs.len
        rw [runS_len] at hs ⊢
        exact ⟨a, c, rfl, hs, hb⟩
    · refine lie7_err h8' (fun W hW => (spread24 (h.on hW) (hr.on hW) hns hl hrl hsz).mono ?_)
      rintro e w' ⟨rv, n, er, ms, rfl, hI, hs, hb⟩
      rcases hI with ⟨a, rfl, rfl, rfl⟩ | ⟨a, b, rfl, rfl, rfl⟩ | ⟨a, b, rfl, rfl, rfl⟩
      · obtain ⟨a, c, rfl⟩ := hs.len
        exact ⟨a, c, _, rfl, by decide, hb⟩
      · obtain ⟨a, c, rfl⟩ := hs.len
        exact ⟨a, c, _, rfl, by decide, hb⟩
      · exact absurd ⟨a, b⟩ hok
  · refine not_sized (.inr rfl) (fun W hW => ?_)
    have := h8 W hW
    rw [decide_eq_false (show ¬ ∀ x ∈ rs, 0 ≤ x.sz ∧ x.sz ≤ 65536 from hsz)] at this
    exact this
end Go.Proofs.Ytmcadffagnbiaaa
