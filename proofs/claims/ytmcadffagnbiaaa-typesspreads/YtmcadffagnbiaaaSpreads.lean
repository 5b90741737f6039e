/- The law TypesSpreads. -/
import Derived.Test.YtmcadffagnbiaaaRSpr
namespace Go.Proofs.Ytmcadffagnbiaaa
open Go.RowKit Go.Maps
set_option linter.unusedVariables false
set_option linter.unusedSimpArgs false

theorem sprR_len {rs : List Rc} {l ms : List Mb} {n er : Int} (h : SprIs rs l ms n er) : ms.length ≤ l.length := by
  rcases h with ⟨_, _, rfl, _⟩ | ⟨_, _, _, rfl, _⟩ | ⟨_, _, _, rfl, _⟩
  · simp
  · simp
  · rw [runS_len]; exact Nat.le_refl _

set_option maxRecDepth 100000 in
set_option maxHeartbeats 8000000 in
theorem spreads5_ok {w : World} {ao rao : Option Addr} {cap rcap : Nat} {l : List Mb} {rs : List Rc} (h : Src Mb.cells w (.slice ao l.length cap) l) (hr : Src Rc.cells w (.slice rao rs.length rcap) rs) (hns : ∀ m ∈ l, m.nm.size ≤ 140737488351232) (hl : l.length * 56 ≤ 140737488351232) (hrl : rs.length * 48 ≤ 140737488351232) (hsz : sizedR rs)
    (h8 : ∀ W, Below w.heap.size w W → Calls Try.prog 8 #[.slice rao rs.length rcap] W fun e w' => e = .returned (.bool true) ∧ w' = W) :
    Calls Try.prog 5 #[.slice ao l.length cap, .slice rao rs.length rcap] w fun e w' => e = .returned (.bool true) ∧ Below w.heap.size w w' := by
  obtain ⟨v1, W1, hr1, ho1, hg1, hloc1⟩ := append_own (st := 43) (et := 47) (base := w.heap.size) (v := .slice none 0 0) (l := []) mb6 mb1 Try.underlying43 info47 rfl (by decide) (World.ownsRow_nil _ _ _ _) h (by simp; omega) (by unfold maxLen; simp; omega) (Nat.le_refl _) 43
  rw [List.nil_append] at ho1
  have hB1 : Below w.heap.size w W1 := (Below.refl _ _).grown hg1 (Nat.le_refl _) (fun k hk => by simp [Value.ownBlock] at hk)
  have hs1 : Src Mb.cells W1 v1 l := Own.src mb6 ho1
  have H8 := hid' h8
  have H11 : Hid (Calls Try.prog 11 #[.slice rao rs.length rcap] W1 fun e w' => ∃ v', e = .returned v' ∧ Own 37 3 Rc.cells w' W1.heap.size v' rs ∧ Below W1.heap.size W1 w') := own11 (hr.on hB1) (by omega)
  have H24 : Hid (∀ W v2, Below W1.heap.size W1 W → Src Rc.cells W v2 rs → Calls Try.prog 24 #[v1, v2] W (SprR rs l W)) := fun W v2 hW h2 => spread24 (hs1.on hW) h2 hns hl hrl hsz
  have H25 : Hid (∀ W, Below w.heap.size w W → Calls Try.prog 25 #[.slice ao l.length cap, .slice rao rs.length rcap] W (SprR rs l W)) := fun W hW => spread25 (h.on hW) (hr.on hW) hl hrl hsz
  have HB1 := hid' hB1
  obtain ⟨ao1, cap1, rfl⟩ := hs1.len
  clear h8 h hr hns hsz ho1 hg1 hloc1 hB1 hs1
  go_enter Try.func5, Try.ntmps5
  go_wp2_with (first
    | (go_at_call 8; refine (H8.out _ (Below.refl _ _)).mono ?_; rintro e1 w0 ⟨rfl, rfl⟩)
    | (at_builtin; refine wpList_append_run rfl _ _ rfl _ _ _ rfl rfl hr1 ?_)
    | (go_at_call 11; refine H11.out.mono ?_; rintro e2 w2 ⟨v2, rfl, ho2, hb2⟩; have HS2 := hid' (Own.src rc3 ho2); replace hb2 := hid' hb2)
    | (go_at_call 24; refine (H24.out _ _ hb2.out HS2.out).mono ?_; rintro e3 w3 ⟨rv3, n3, er3, ms3, rfl, hI3, hs3, hb3⟩; have HI3 := hid' hI3; have HS3 := hid' hs3; replace hb3 := hid' (below_on (below_on HB1.out hb2.out HB1.out.size) hb3 (by have := HB1.out.size; have := hb2.out.size; omega)); clear hI3 hs3)
    | (go_at_call 25; refine (H25.out _ hb3.out).mono ?_; rintro e4 w4 ⟨rv4, n4, er4, ms4, rfl, hI4, hs4, hb4⟩; obtain ⟨hq1, hq2, hq3⟩ := hI4.unique HI3.out; subst hq1 hq2 hq3; have HS4 := hid' hs4; have HS3' := hid' (HS3.out.on hb4); replace hb4 := hid' (below_on hb3.out hb4 hb3.out.size); have hml := sprR_len hI4; clear hI4 hs4; obtain ⟨ao4, cap4, rfl⟩ := HS4.out.len; obtain ⟨ao3, cap3, rfl⟩ := HS3.out.len))
  obtain ⟨ao3', cap3', hv3, hf3⟩ := HS3'.out.form mb6
  obtain ⟨rfl, rfl⟩ : ao3 = ao3' ∧ cap3 = cap3' := by injection hv3 with a1 a2 a3; exact ⟨a1, a3⟩
  obtain ⟨ao4', cap4', hv4, hf4⟩ := HS4.out.form mb6
  obtain ⟨rfl, rfl⟩ : ao4 = ao4' ∧ cap4 = cap4' := by injection hv4 with a1 a2 a3; exact ⟨a1, a3⟩
  have HF3 := hid' hf3
  have HF4 := hid' hf4
  clear hf3 hf4 hv3 hv4
  go_loopw [12] (fun i wr => ∃ k : Nat, k ≤ ms4.length ∧ i = .int .i64 k ∧ Below w4.heap.size w4 wr) (fun i _ => ms4.length - (intOf i).toNat)
  case atStart => exact ⟨0, Nat.zero_le _, rfl, Below.refl _ _⟩
  case round =>
    obtain ⟨k, hk, rfl, hb⟩ := hrel
    have HB := hid' hb
    clear hb
    by_cases hlt : k < ms4.length
    · obtain ⟨b3, off3, rfl, hbl3, hcp3, hc3⟩ := HF3.out k hlt
      obtain ⟨b4, off4, rfl, hbl4, hcp4, hc4⟩ := HF4.out k hlt
      have hx := fun t : After wr => mb_cells (hc3 t.1 (below_on HB.out t.2 HB.out.size))
      have hy := fun t : After wr => mb_cells (hc4 t.1 (below_on HB.out t.2 HB.out.size))
      clear hc3 hc4
      generalize ms4[k] = m at *
      obtain ⟨mn, ⟨tk, te, tn, ts⟩, mp⟩ := m
      dsimp only at hx hy
      have q0 := fun t => (hx t).1
      have q1 := fun t => (hx t).2.1
      have q2 := fun t => (hx t).2.2.1
      have q3 := fun t => (hx t).2.2.2.1
      have q4 := fun t => (hx t).2.2.2.2.1
      have q5 := fun t => (hx t).2.2.2.2.2
      have r0 := fun t => (hy t).1
      have r1 := fun t => (hy t).2.1
      have r2 := fun t => (hy t).2.2.1
      have r3 := fun t => (hy t).2.2.2.1
      have r4 := fun t => (hy t).2.2.2.2.1
      have r5 := fun t => (hy t).2.2.2.2.2
      clear hx hy
      have hlt' : (k : Int) < ms4.length := by omega
      have hne := after_some wr
      go_wp2_with fail
      refine region_after 8 mixed (by kernel_rfl) ?_
      simp only [List.take_succ_cons, List.take_zero, List.drop_succ_cons, List.drop_zero]
      repeat quiet_step (fail)
      refine wpQuiet_nil ?_
      intro w5 hb5
      have HB5 : Hid (Below w4.heap.size w4 w5) := below_on HB.out hb5 HB.out.size
      clear q0 q1 q2 q3 q4 q5 r0 r1 r2 r3 r4 r5 hb5
      go_wp2_with fail
      go_roundw
      case rel => exact ⟨k + 1, by omega, by go_num, HB5.out⟩
      case measure => simp [intOf]; omega
    · have e : k = ms4.length := by omega
      subst e
      clear HF3 HF4
      go_wp2_with (go_at_call 9; refine (awake9 _).mono ?_; rintro e9 w9 ⟨rfl, hb9⟩)
      go_ret
      exact ⟨rfl, below_on (below_on hb4.out HB.out hb4.out.size) hb9 (by have := hb4.out.size; have := HB.out.size; omega)⟩
theorem spreads5 {w : World} {v rv : Value} {l : List Mb} {rs : List Rc} (h : Src Mb.cells w v l) (hr : Src Rc.cells w rv rs) (hns : ∀ m ∈ l, m.nm.size ≤ 140737488351232) (hl : l.length * 56 ≤ 140737488351232) (hrl : rs.length * 48 ≤ 140737488351232) :
    Calls Try.prog 5 #[v, rv] w fun e w' => e = .returned (.bool true) ∧ Below w.heap.size w w' := by
  obtain ⟨ao, cap, rfl⟩ := h.len
  obtain ⟨rao, rcap, rfl⟩ := hr.len
  have h8 := fun W (hW : Below w.heap.size w W) => sized8 (hr.on hW) (by omega)
  by_cases hsz : sizedR rs
  · refine spreads5_ok h hr hns hl hrl hsz (fun W hW => ?_)
    have := h8 W hW
    rw [decide_eq_true (show ∀ x ∈ rs, 0 ≤ x.sz ∧ x.sz ≤ 65536 from hsz)] at this
    exact this
  · refine not_sized (.inl rfl) (fun W hW => ?_)
    have := h8 W hW
    rw [decide_eq_false (show ¬ ∀ x ∈ rs, 0 ≤ x.sz ∧ x.sz ≤ 65536 from hsz)] at this
    exact this
end Go.Proofs.Ytmcadffagnbiaaa
