/- Check; Size, the program's and the document's. -/
import Derived.Test.YtmcadffagnbiaaaTyFit
import Derived.Test.YtmcadffagnbiaaaTyMay
import Derived.Test.YtmcadffagnbiaaaLst
import Derived.Test.YtmcadffagnbiaaaQuiet
namespace Go.Proofs.Ytmcadffagnbiaaa
open Go.RowKit Go.Maps
set_option linter.unusedVariables false
set_option linter.unusedSimpArgs false

theorem mixed : Try.prog.follows .mixedOrders = true := by kernel_rfl

theorem cnt_is (t : Ty) (r : Int) : mayF t r = (decide ((cntF t).e = t.e ∧ (cntF t).n = t.n ∧ (cntF t).s = t.s) && fitF t r) := by
  obtain ⟨k, e, n, s⟩ := t
  unfold mayF cntF fitF
  dsimp only
  by_cases h03 : k = 0 ∨ k = 1 ∨ k = 2 ∨ k = 3
  · rw [if_pos h03, if_pos h03, if_neg (by omega), if_neg (by omega), if_neg (by omega), Bool.eq_iff_iff]
    simp
    omega
  rw [if_neg h03, if_neg h03]
  generalize scalF e = q
  by_cases h4 : k = 4
  · rw [if_pos h4, if_pos h4, if_pos h4, Bool.eq_iff_iff]
    cases q
    · simp
    · simp
      omega
  rw [if_neg h4, if_neg h4, if_neg h4]
  by_cases h57 : k = 5 ∨ k = 7
  · rw [if_pos h57, if_neg (by omega), if_pos h57, if_neg (by omega), if_pos h57, Bool.eq_iff_iff]
    simp
    omega
  rw [if_neg h57]
  by_cases h6 : k = 6
  · rw [if_pos h6, if_pos h6, if_pos h6, Bool.eq_iff_iff]
    cases q
    · simp
    · simp
      omega
  rw [if_neg h6, if_neg h6, if_neg h6, if_neg h57, if_neg h57]
  simp
theorem cnt_k (t : Ty) : (cntF t).k = t.k := by
  unfold cntF
  split
  · rfl
  · split
    · rfl
    · split <;> rfl

theorem box4 {w : World} {k e n s : Int} (t : After (w.alloc (.cells #[.int .i64 k, .int .i64 e, .int .i64 n, .int .i64 s] 23))) :
    t.1.cell? ⟨w.heap.size, 0, none⟩ = some (.int .i64 k) ∧ t.1.cell? ⟨w.heap.size, 1, none⟩ = some (.int .i64 e) ∧ t.1.cell? ⟨w.heap.size, 2, none⟩ = some (.int .i64 n) ∧ t.1.cell? ⟨w.heap.size, 3, none⟩ = some (.int .i64 s) := by
  refine ⟨?_, ?_, ?_, ?_⟩ <;> (rw [t.2.cell (by simp)]; simp [go_sem])

set_option maxHeartbeats 4000000 in
theorem check13 (t : Ty) (r : Int) (w : World) : Calls Try.prog 13 #[t.val, .int .i64 r] w fun e w' => e = .returned (.int .i64 (if mayF t r then 0 else 1)) ∧ Below w.heap.size w w' := by
  have H29 : ∀ W, ∀ t' : After W, _ := fun W t' => Calls.after t' (cnt29 t t'.1)
  have H30 : ∀ W, ∀ t' : After W, _ := fun W t' => Calls.after t' (fit30 t r t'.1)
  obtain ⟨E, HE0⟩ : ∃ E, E = (if mayF t r then (0 : Int) else 1) := ⟨_, rfl⟩
  rw [← HE0]
  rw [cnt_is] at HE0
  have hk := cnt_k t
  generalize fitF t r = q at *
  generalize cntF t = c at *
  obtain ⟨k, e, n, s⟩ := t
  obtain ⟨k', e', n', s'⟩ := c
  unfold Ty.val at *
  dsimp only at *
  subst hk
  have HE := hid' HE0
  clear HE0
  have hx := fun t => box4 (w := w) (k := k') (e := e) (n := n) (s := s) t
  have q0 := fun t => (hx t).1
  have q1 := fun t => (hx t).2.1
  have q2 := fun t => (hx t).2.2.1
  have q3 := fun t => (hx t).2.2.2
  have hne := after_some (w.alloc (.cells #[.int .i64 k', .int .i64 e, .int .i64 n, .int .i64 s] 23))
  clear hx
  by_cases he : e' = e
  · subst he
    by_cases hn : n' = n
    · subst hn
      by_cases hs : s' = s
      · subst hs
        go_enter Try.func13, Try.ntmps13
        go_wp2
        refine region_after 9 mixed (by kernel_rfl) ?_
        simp only [List.take_succ_cons, List.take_zero, List.drop_succ_cons, List.drop_zero]
        repeat quiet_step (first | with_reducible exact H29 _ _ | with_reducible exact H30 _ _)
        refine wpQuiet_nil ?_
        intro w1 hb1
        have HB := hid' hb1
        clear hb1 q0 q1 q2 q3 H29 H30
        cases q
        all_goals
          go_wp2
          go_ret
          exact ⟨by rw [HE.out]; simp, (below1 _ _).trans (HB.out.mono (by simp))⟩
      · have HD : Hid (E = 1) := HE.out.trans (if_neg fun h => hs (by simp at h; exact h.1))
        have hs2 : ¬ s = s' := fun h => hs h.symm
        go_enter Try.func13, Try.ntmps13
        go_wp2
        refine region_after 9 mixed (by kernel_rfl) ?_
        simp only [List.take_succ_cons, List.take_zero, List.drop_succ_cons, List.drop_zero]
        repeat quiet_step (first | with_reducible exact H29 _ _ | with_reducible exact H30 _ _)
        refine wpQuiet_nil ?_
        intro w1 hb1
        have HB := hid' hb1
        clear hb1 q0 q1 q2 q3 H29 H30
        go_wp2
        go_ret
        exact ⟨by rw [HD.out]; rfl, (below1 _ _).trans (HB.out.mono (by simp))⟩
    · have HD : Hid (E = 1) := HE.out.trans (if_neg fun h => hn (by simp at h; exact h.1.1))
      have hn2 : ¬ n = n' := fun h => hn h.symm
      go_enter Try.func13, Try.ntmps13
      go_wp2
      refine region_after 9 mixed (by kernel_rfl) ?_
      simp only [List.take_succ_cons, List.take_zero, List.drop_succ_cons, List.drop_zero]
      repeat quiet_step (first | with_reducible exact H29 _ _ | with_reducible exact H30 _ _)
      refine wpQuiet_nil ?_
      intro w1 hb1
      have HB := hid' hb1
      clear hb1 q0 q1 q2 q3 H29 H30
      go_wp2
      go_ret
      exact ⟨by rw [HD.out]; rfl, (below1 _ _).trans (HB.out.mono (by simp))⟩
  · have HD : Hid (E = 1) := HE.out.trans (if_neg fun h => he (by simp at h; exact h.1.1))
    have he2 : ¬ e = e' := fun h => he h.symm
    go_enter Try.func13, Try.ntmps13
    go_wp2
    refine region_after 9 mixed (by kernel_rfl) ?_
    simp only [List.take_succ_cons, List.take_zero, List.drop_succ_cons, List.drop_zero]
    repeat quiet_step (first | with_reducible exact H29 _ _ | with_reducible exact H30 _ _)
    refine wpQuiet_nil ?_
    intro w1 hb1
    have HB := hid' hb1
    clear hb1 q0 q1 q2 q3 H29 H30
    go_wp2
    go_ret
    exact ⟨by rw [HD.out]; rfl, (below1 _ _).trans (HB.out.mono (by simp))⟩

/-- Sizes: what is told, and the error. -/
def recAt (l : List Rc) (s : Int) : Int := match l[s.toNat]? with | some r => r.sz | none => 0
def szE (t : Ty) (l : List Rc) : Int × Int :=
  if mayF t l.length then (if t.k = 1 ∨ t.k = 2 ∨ t.k = 3 then (byF t.k, 0) else if t.k = 4 then (t.n * byF t.e, 0) else if t.k = 5 then (recAt l t.s, 0) else (0, 1)) else (0, 1)
theorem by_or (k : Int) : byF k = 1 ∨ byF k = 4 := by unfold byF; split <;> simp
theorem may4 {e n s r : Int} (h : mayF ⟨4, e, n, s⟩ r = true) : 1 ≤ n ∧ n ≤ 1024 := by
  unfold mayF at h
  simp at h
  omega
theorem may5 {e n s r : Int} (h : mayF ⟨5, e, n, s⟩ r = true) : 0 ≤ s ∧ s < r := by
  unfold mayF at h
  simp at h
  omega
theorem after_box4 {w : World} {v : Value} {l : List Rc} (h : Src Rc.cells w v l) (k e n s : Int) : Src Rc.cells (w.alloc (.cells #[.int .i64 k, .int .i64 e, .int .i64 n, .int .i64 s] 23)) v l := h.on (below1 _ _)

set_option maxHeartbeats 8000000 in
theorem size10 {w : World} {v : Value} {l : List Rc} (h : Src Rc.cells w v l) (hl : l.length ≤ 9000000000000000000) (t : Ty) :
    Calls Try.prog 10 #[t.val, v] w fun e w' => e = .returned (.tuple #[.int .i64 (szE t l).1, .int .i64 (szE t l).2]) ∧ Below w.heap.size w w' := by
  obtain ⟨ao, cap, rfl, hf⟩ := h.form rc3
  have HF := hid' hf
  clear hf h
  have hC := check13 t (l.length : Nat)
  obtain ⟨R, HR0⟩ : ∃ R, R = szE t l := ⟨_, rfl⟩
  rw [← HR0]
  unfold szE at HR0
  have HE := hid' HR0
  clear HR0
  obtain ⟨k, e, n, s⟩ := t
  unfold Ty.val at *
  cases hm : mayF ⟨k, e, n, s⟩ (l.length : Nat)
  · rw [hm] at hC
    simp only [hm, Bool.false_eq_true, if_false] at hC HE
    clear hm
    dsimp only at *
    go_enter Try.func10, Try.ntmps10
    go_wp2_with (go_at_call 13; refine (hC _).mono ?_; rintro e1 w1 ⟨rfl, hb1⟩)
    go_ret2
    exact ⟨by rw [HE.out]; rfl, (below1 _ _).trans (hb1.mono (by simp))⟩
  rw [hm] at hC
  simp only [hm, if_true] at hC HE
  dsimp only at *
  by_cases h13 : k = 1 ∨ k = 2 ∨ k = 3
  · rw [if_pos h13] at HE
    clear hm
    have hB := fun w => by26 k w
    generalize byF k = u at *
    rcases h13 with rfl | rfl | rfl
    all_goals
      go_enter Try.func10, Try.ntmps10
      go_wp2_with (first
        | (go_at_call 13; refine (hC _).mono ?_; rintro e1 w1 ⟨rfl, hb1⟩; obtain ⟨hc1, hf1⟩ := bcell hb1)
        | (go_at_call 26; refine (hB _).mono ?_; rintro e2 w2 ⟨rfl, rfl⟩))
      go_ret2
      exact ⟨by rw [HE.out]; rfl, (below1 _ _).trans (hb1.mono (by simp))⟩
  rw [if_neg h13] at HE
  have h1 : ¬ k = 1 := by omega
  have h2 : ¬ k = 2 := by omega
  have h3 : ¬ k = 3 := by omega
  clear h13
  by_cases h4 : k = 4
  · subst h4
    rw [if_pos rfl] at HE
    obtain ⟨n0, n1⟩ := may4 hm
    clear hm h1 h2 h3
    have hB : ∀ W, ∀ t' : After W, _ := fun W t' => Calls.after t' ((by26 e t'.1).mono fun _ w' h => ⟨h.1, by rw [h.2]; exact Below.refl _ _⟩)
    have hu := by_or e
    generalize byF e = u at *
    have hw : IntKind.i64.wrap (n * u) = n * u := by
      rcases hu with rfl | rfl <;> (simp [IntKind.wrap, IntKind.bits, IntKind.signed]; try omega)
    go_enter Try.func10, Try.ntmps10
    go_wp2_with (go_at_call 13; refine (hC _).mono ?_; rintro e1 w1 ⟨rfl, hb1⟩; obtain ⟨hc1, hf1⟩ := bcell hb1)
    have HB1 := hid' hb1
    have hx : ∀ t : After w1, t.1.cell? ⟨w.heap.size, 0, none⟩ = some (.int .i64 4) ∧ t.1.cell? ⟨w.heap.size, 1, none⟩ = some (.int .i64 e) ∧ t.1.cell? ⟨w.heap.size, 2, none⟩ = some (.int .i64 n) ∧ t.1.cell? ⟨w.heap.size, 3, none⟩ = some (.int .i64 s) := fun t => box4 ⟨t.1, hb1.trans (t.2.mono hb1.size)⟩
    have q0 := fun t => (hx t).1
    have q1 := fun t => (hx t).2.1
    have q2 := fun t => (hx t).2.2.1
    have q3 := fun t => (hx t).2.2.2
    clear hx hb1 hc1 hf1
    have hne := after_some w1
    refine region_after 6 mixed (by kernel_rfl) ?_
    simp only [List.take_succ_cons, List.take_zero, List.drop_succ_cons, List.drop_zero]
    repeat quiet_step (with_reducible exact hB _ _)
    refine wpQuiet_nil ?_
    intro w2 hb2
    have HB2 := hid' hb2
    clear hb2 q0 q1 q2 q3
    go_wp2
    go_ret2
    exact ⟨by rw [HE.out]; rfl, ((below1 _ _).trans (HB1.out.mono (by simp))).trans (HB2.out.mono (by have := HB1.out.size; simp at this; omega))⟩
  rw [if_neg h4] at HE
  by_cases h5 : k = 5
  · subst h5
    rw [if_pos rfl] at HE
    obtain ⟨s0, s1⟩ := may5 hm
    clear hm
    obtain ⟨j, rfl⟩ : ∃ j : Nat, s = j := ⟨s.toNat, by omega⟩
    have hj : j < l.length := by omega
    obtain ⟨b, off, rfl, hbl, hcp, hc⟩ := HF.out j hj
    have c2 : w.cell? ⟨b, off + j * 3 + 2, none⟩ = some (.int .i64 l[j].sz) := hc w (Below.refl _ _) 2 (by omega)
    have HS : Hid (recAt l (j : Nat) = l[j].sz) := by unfold Hid recAt; simp [hj]
    clear hc
    go_enter Try.func10, Try.ntmps10
    go_wp2_with (go_at_call 13; refine (hC _).mono ?_; rintro e1 w1 ⟨rfl, hb1⟩; obtain ⟨hc1, hf1⟩ := bcell hb1)
    go_ret2
    exact ⟨by rw [HE.out, HS.out]; rfl, (below1 _ _).trans (hb1.mono (by simp))⟩
  rw [if_neg h5] at HE
  clear hm
  go_enter Try.func10, Try.ntmps10
  go_wp2_with (go_at_call 13; refine (hC _).mono ?_; rintro e1 w1 ⟨rfl, hb1⟩; obtain ⟨hc1, hf1⟩ := bcell hb1)
  go_ret2
  exact ⟨by rw [HE.out]; rfl, (below1 _ _).trans (hb1.mono (by simp))⟩

set_option maxHeartbeats 8000000 in
theorem size12 {w : World} {v : Value} {l : List Rc} (h : Src Rc.cells w v l) (hl : l.length ≤ 9000000000000000000) (t : Ty) :
    Calls Try.prog 12 #[t.val, v] w fun e w' => e = .returned (.tuple #[.int .i64 (szE t l).1, .int .i64 (szE t l).2]) ∧ Below w.heap.size w w' := by
  obtain ⟨ao, cap, rfl, hf⟩ := h.form rc3
  have HF := hid' hf
  clear hf h
  have hC := may27 t (l.length : Nat)
  obtain ⟨R, HR0⟩ : ∃ R, R = szE t l := ⟨_, rfl⟩
  rw [← HR0]
  unfold szE at HR0
  have HE := hid' HR0
  clear HR0
  obtain ⟨k, e, n, s⟩ := t
  unfold Ty.val at *
  cases hm : mayF ⟨k, e, n, s⟩ (l.length : Nat)
  · rw [hm] at hC
    simp only [hm, Bool.false_eq_true, if_false] at hC HE
    clear hm
    dsimp only at *
    go_enter Try.func12, Try.ntmps12
    go_wp2_with (go_at_call 27; refine (hC _).mono ?_; rintro e1 w1 ⟨rfl, hb1⟩)
    go_ret2
    exact ⟨by rw [HE.out]; rfl, (below1 _ _).trans (hb1.mono (by simp))⟩
  rw [hm] at hC
  simp only [hm, if_true] at hC HE
  dsimp only at *
  by_cases h13 : k = 1 ∨ k = 2 ∨ k = 3
  · rw [if_pos h13] at HE
    clear hm
    have hB := fun w => by28 k w
    generalize byF k = u at *
    rcases h13 with rfl | rfl | rfl
    all_goals
      go_enter Try.func12, Try.ntmps12
      go_wp2_with (first
        | (go_at_call 27; refine (hC _).mono ?_; rintro e1 w1 ⟨rfl, hb1⟩; obtain ⟨hc1, hf1⟩ := bcell hb1)
        | (go_at_call 28; refine (hB _).mono ?_; rintro e2 w2 ⟨rfl, rfl⟩))
      go_ret2
      exact ⟨by rw [HE.out]; rfl, (below1 _ _).trans (hb1.mono (by simp))⟩
  rw [if_neg h13] at HE
  have h1 : ¬ k = 1 := by omega
  have h2 : ¬ k = 2 := by omega
  have h3 : ¬ k = 3 := by omega
  clear h13
  by_cases h4 : k = 4
  · subst h4
    rw [if_pos rfl] at HE
    obtain ⟨n0, n1⟩ := may4 hm
    clear hm h1 h2 h3
    have hB : ∀ W, ∀ t' : After W, _ := fun W t' => Calls.after t' ((by28 e t'.1).mono fun _ w' h => ⟨h.1, by rw [h.2]; exact Below.refl _ _⟩)
    have hu := by_or e
    generalize byF e = u at *
    have hw : IntKind.i64.wrap (n * u) = n * u := by
      rcases hu with rfl | rfl <;> (simp [IntKind.wrap, IntKind.bits, IntKind.signed]; try omega)
    go_enter Try.func12, Try.ntmps12
    go_wp2_with (go_at_call 27; refine (hC _).mono ?_; rintro e1 w1 ⟨rfl, hb1⟩; obtain ⟨hc1, hf1⟩ := bcell hb1)
    have HB1 := hid' hb1
    have hx : ∀ t : After w1, t.1.cell? ⟨w.heap.size, 0, none⟩ = some (.int .i64 4) ∧ t.1.cell? ⟨w.heap.size, 1, none⟩ = some (.int .i64 e) ∧ t.1.cell? ⟨w.heap.size, 2, none⟩ = some (.int .i64 n) ∧ t.1.cell? ⟨w.heap.size, 3, none⟩ = some (.int .i64 s) := fun t => box4 ⟨t.1, hb1.trans (t.2.mono hb1.size)⟩
    have q0 := fun t => (hx t).1
    have q1 := fun t => (hx t).2.1
    have q2 := fun t => (hx t).2.2.1
    have q3 := fun t => (hx t).2.2.2
    clear hx hb1 hc1 hf1
    have hne := after_some w1
    refine region_after 6 mixed (by kernel_rfl) ?_
    simp only [List.take_succ_cons, List.take_zero, List.drop_succ_cons, List.drop_zero]
    repeat quiet_step (with_reducible exact hB _ _)
    refine wpQuiet_nil ?_
    intro w2 hb2
    have HB2 := hid' hb2
    clear hb2 q0 q1 q2 q3
    go_wp2
    go_ret2
    exact ⟨by rw [HE.out]; rfl, ((below1 _ _).trans (HB1.out.mono (by simp))).trans (HB2.out.mono (by have := HB1.out.size; simp at this; omega))⟩
  rw [if_neg h4] at HE
  by_cases h5 : k = 5
  · subst h5
    rw [if_pos rfl] at HE
    obtain ⟨s0, s1⟩ := may5 hm
    clear hm
    obtain ⟨j, rfl⟩ : ∃ j : Nat, s = j := ⟨s.toNat, by omega⟩
    have hj : j < l.length := by omega
    obtain ⟨b, off, rfl, hbl, hcp, hc⟩ := HF.out j hj
    have c2 : w.cell? ⟨b, off + j * 3 + 2, none⟩ = some (.int .i64 l[j].sz) := hc w (Below.refl _ _) 2 (by omega)
    have HS : Hid (recAt l (j : Nat) = l[j].sz) := by unfold Hid recAt; simp [hj]
    clear hc
    go_enter Try.func12, Try.ntmps12
    go_wp2_with (go_at_call 27; refine (hC _).mono ?_; rintro e1 w1 ⟨rfl, hb1⟩; obtain ⟨hc1, hf1⟩ := bcell hb1)
    go_ret2
    exact ⟨by rw [HE.out, HS.out]; rfl, (below1 _ _).trans (hb1.mono (by simp))⟩
  rw [if_neg h5] at HE
  clear hm
  go_enter Try.func12, Try.ntmps12
  go_wp2_with (go_at_call 27; refine (hC _).mono ?_; rintro e1 w1 ⟨rfl, hb1⟩; obtain ⟨hc1, hf1⟩ := bcell hb1)
  go_ret2
  exact ⟨by rw [HE.out]; rfl, (below1 _ _).trans (hb1.mono (by simp))⟩

end Go.Proofs.Ytmcadffagnbiaaa
