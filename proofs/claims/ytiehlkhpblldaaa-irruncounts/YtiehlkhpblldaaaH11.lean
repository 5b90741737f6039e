/- set, and where the run's lists lie behind it. -/
import Derived.Test.YtiehlkhpblldaaaH05
set_option linter.unusedVariables false
set_option linter.unusedSimpArgs false
set_option maxRecDepth 20000
set_option maxHeartbeats 8000000
namespace Go.Proofs.Ytiehlkhpblldaaa
open Go.RowKit Go.Maps
section
variable {C : Cst} {W0 W W' : World} {r : Nat} {s s' : St} {x : Vs} {t : Tp}
theorem set26x {c : Cl} {l : List Rg} (h : RunM C W0 r W s x t) (T : Top C s x t c l) {i : Nat} (hi : i < l.length) (v : Int) (hl : (s.hidden.length + 1) * 24 ≤ 140737488355328) :
    Calls Try.prog 26 #[.pointer (some ⟨r, 0, none⟩), .int .i64 i, .int .u32 v] W fun e w' => e = .returned (.tuple #[]) ∧ ∃ x', RunM C W0 r w' (setS s c l i v) x' t ∧ Top C (setS s c l i v) x' t c (l.set i ⟨v, c.no⟩) ∧ x' = { x with hv := x'.hv } := by
  have H := hid' h
  have HT := hid' T
  obtain ⟨cb, et, c11, c13, c5, fr, k0, r0, r1, rf, rl, hcl, hrl⟩ := setFacts h T hi
  have hil : (i : Int) < l.length := by omega
  by_cases g : l[i].o = c.no
  · have HE : Hid (setS s c l i v = { s with banks := s.banks.set c.fn (some (l.set i ⟨v, c.no⟩)) }) := by unfold Hid setS; simp [hi, g]
    have HR := hid' (h.reg T.bank hi (c := 0) (by omega) ⟨v, l[i].o⟩ (.int .u32 v) rfl)
    rw [g] at r1 HR
    clear T h g
    go_enter Try.func26, Try.ntmps26
    go_wp2
    go_quiet (fail)
    go_wp2
    go_end0
    refine ⟨rfl, x, ?_, ?_, rfl⟩
    · rw [HE.out]; exact HR.out.drewN _
    · rw [HE.out]; exact HT.out.upd rfl rfl (by simp) rfl rfl
  · have g' : (l[i].o == c.no) = false := by simp [g]
    have HE : Hid (setS s c l i v = { s with hidden := s.hidden ++ [⟨c.fn, i, l[i]⟩], banks := s.banks.set c.fn (some (l.set i ⟨v, c.no⟩)) }) := by unfold Hid setS; simp [hi, g]
    clear T h
    go_enter Try.func26, Try.ntmps26
    go_wp2
    go_quiet (fail)
    go_wp2
    clear c11 c13 c5 fr k0 r0 r1 rf rl hcl hrl
    obtain ⟨W1, eW⟩ : ∃ W1, W1 = W.drewN nq := ⟨_, rfl⟩
    have H1 : Hid (RunM C W0 r W1 s x t) := by unfold Hid; rw [eW]; exact H.out.drewN _
    rw [← eW]
    clear eW
    obtain ⟨cb1, et1, c11, c13, c5, fr, k0, r0, r1, rf, rl, hcl, hrl⟩ := setFacts H1.out HT.out hi
    rw [et] at et1
    injection et1 with et1
    injection et1 with et1
    injection et1 with et1
    subst et1
    obtain ⟨b, cap, w2, hr6, hrc, hR⟩ := H1.out.pushH ⟨c.fn, i, l[i]⟩ hl
    have d5 : w2.cell? ⟨r, 5, none⟩ = some x.hv := by rw [cell_of_row w2 r 5 _ 72 (0, 0) hrc]; rfl
    have df : w2.frozen? ⟨r, 5, none⟩ = false := frozen_of_row w2 r 5 _ 72 hrc
    have T2 : Top C { s with hidden := s.hidden ++ [⟨c.fn, i, l[i]⟩] } { x with hv := .slice (some ⟨b, 0, none⟩) (s.hidden.length + 1) cap } t c l := ⟨HT.out.last, HT.out.tt, HT.out.fn, HT.out.tf, HT.out.bank, HT.out.tb⟩
    have HR := hid' hR
    have HT2 := hid' T2
    obtain ⟨cb2, et2, e11, e13, e5, er, m0, q0, q1, qf, ql, hcl2, hrl2⟩ := setFacts hR T2 hi
    rw [et] at et2
    injection et2 with et2
    injection et2 with et2
    injection et2 with et2
    subst et2
    unfold Hd.cells at hr6
    dsimp only at hr6 e11 m0 e13 q0 q1 qf ql e5
    have hcap : (s.hidden.length + 1) ≤ cap := by obtain ⟨ao, cp, e, hc⟩ := own_len hR.rows.hs; dsimp only at e; injection e with _ _ e; simp at hc; omega
    clear T2 hR hrc
    go_region_law (refine step_run rfl (.tmp 29) (.tmp 35) 65 rfl _ _ _ (by simp [Act.eval]) (by simp [Act.eval]) hr6 ?_)
    all_goals
      clear hr6 d5 df c11 c13 c5 fr k0 r0 r1 rf rl hcl hrl
      generalize w2.setCell ⟨r, 5, none⟩ (.slice (some ⟨b, 0, none⟩) (s.hidden.length + 1) cap) = W3 at *
      have HA := hid' (HR.out.reg HT2.out.bank hi (c := 1) (by omega) ⟨l[i].v, c.no⟩ (.int .i64 c.no) rfl)
      have HB := hid' (HA.out.reg (l := l.set i ⟨l[i].v, c.no⟩) (by dsimp only; rw [List.getElem?_set_self (List.getElem?_eq_some_iff.1 HT2.out.bank).1]) (i := i) (by simpa using hi) (c := 0) (by omega) ⟨v, c.no⟩ (.int .u32 v) (by rw [List.getElem_set_self]; rfl))
      go_wp2
      go_end0
      refine ⟨rfl, { x with hv := .slice (some ⟨b, 0, none⟩) (s.hidden.length + 1) cap }, ?_, ?_, rfl⟩
      · rw [HE.out]
        have := HB.out
        rw [List.set_set, List.set_set] at this
        exact this
      · rw [HE.out]; exact HT2.out.upd rfl rfl (by simp) rfl rfl
end
end Go.Proofs.Ytiehlkhpblldaaa
