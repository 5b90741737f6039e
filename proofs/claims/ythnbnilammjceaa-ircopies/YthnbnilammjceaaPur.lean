/- Pure, the program's and the document's. -/
import Derived.Test.YthnbnilammjceaaSml
namespace Go.Proofs.Ythnbnilammjceaa
open Go.RowKit Go.Maps
set_option linter.unusedVariables false
set_option linter.unusedSimpArgs false

def pureF (op alu : Int) : Bool := decide (op = 1 ∨ op = 2 ∨ op = 4 ∨ op = 5 ∨ op = 12) || (decide (op = 3) && (aluB alu && !trapB alu))
theorem xb1 {w : World} {o : Obj} : Below w.heap.size w (w.alloc o) := below1 _ _
set_option maxHeartbeats 4000000 in
theorem pure23 {w : World} {x : In} (hx : In.ok w x) : Calls Try.prog 23 #[x.val] w fun e w' => e = .returned (.bool (pureF x.op x.alu)) ∧ Below w.heap.size w w' := by
  obtain ⟨op, dst, av, args, imm, alu, wide, xv, pred⟩ := x
  obtain ⟨ha, hal, hq, hql, hi1, hi2⟩ := hx
  dsimp only at *
  obtain ⟨ao, ac, rfl⟩ := ha.len
  obtain ⟨qo, qc, rfl⟩ := hq.len
  clear ha hq
  unfold In.val
  dsimp only
  by_cases h : op = 1 ∨ op = 2 ∨ op = 4 ∨ op = 5 ∨ op = 12
  · have e : pureF op alu = true := by unfold pureF; rw [decide_eq_true h]; rfl
    rw [e]
    rcases h with rfl | rfl | rfl | rfl | rfl
    all_goals
      go_enter Try.func23, Try.ntmps23
      go_wp2
      go_ret
      exact ⟨rfl, below1 _ _⟩
  · have h1 : ¬ op = 1 := by omega
    have h2 : ¬ op = 2 := by omega
    have h4 : ¬ op = 4 := by omega
    have h5 : ¬ op = 5 := by omega
    have h12 : ¬ op = 12 := by omega
    by_cases h3 : op = 3
    · subst h3
      have e : pureF 3 alu = (aluB alu && !trapB alu) := by simp [pureF]
      rw [e]
      have k1 := isAlu41 alu
      have k2 := traps42 alu
      generalize aluB alu = a1 at *
      generalize trapB alu = a2 at *
      clear h h1 h2 h4 h5 h12 e
      cases a1
      · go_enter Try.func23, Try.ntmps23
        go_wp2_with (first | (go_at_call 41; refine (k1 _).mono ?_; rintro e1 w1 ⟨rfl, rfl⟩) | (go_at_call 42; refine (k2 _).mono ?_; rintro e1 w1 ⟨rfl, rfl⟩))
        go_ret
        exact ⟨by simp, below1 _ _⟩
      · go_enter Try.func23, Try.ntmps23
        go_wp2_with (first | (go_at_call 41; refine (k1 _).mono ?_; rintro e1 w1 ⟨rfl, rfl⟩) | (go_at_call 42; refine (k2 _).mono ?_; rintro e1 w1 ⟨rfl, rfl⟩))
        go_ret
        exact ⟨by simp, below1 _ _⟩
    · have e : pureF op alu = false := by unfold pureF; rw [decide_eq_false h, decide_eq_false h3]; rfl
      rw [e]
      clear h e
      go_enter Try.func23, Try.ntmps23
      go_wp2
      go_ret
      exact ⟨rfl, below1 _ _⟩
set_option maxHeartbeats 4000000 in
theorem pure24 {w : World} {x : In} (hx : In.ok w x) : Calls Try.prog 24 #[x.val] w fun e w' => e = .returned (.bool (pureF x.op x.alu)) ∧ Below w.heap.size w w' := by
  obtain ⟨op, dst, av, args, imm, alu, wide, xv, pred⟩ := x
  obtain ⟨ha, hal, hq, hql, hi1, hi2⟩ := hx
  dsimp only at *
  obtain ⟨ao, ac, rfl⟩ := ha.len
  obtain ⟨qo, qc, rfl⟩ := hq.len
  clear ha hq
  unfold In.val
  dsimp only
  by_cases h : op = 1 ∨ op = 2 ∨ op = 4 ∨ op = 5 ∨ op = 12
  · have e : pureF op alu = true := by unfold pureF; rw [decide_eq_true h]; rfl
    rw [e]
    rcases h with rfl | rfl | rfl | rfl | rfl
    all_goals
      go_enter Try.func24, Try.ntmps24
      go_wp2
      go_ret
      exact ⟨rfl, below1 _ _⟩
  · have h1 : ¬ op = 1 := by omega
    have h2 : ¬ op = 2 := by omega
    have h4 : ¬ op = 4 := by omega
    have h5 : ¬ op = 5 := by omega
    have h12 : ¬ op = 12 := by omega
    by_cases h3 : op = 3
    · subst h3
      have k2 := traps43 alu
      by_cases g1 : 1 ≤ alu
      · by_cases g2 : alu ≤ 19
        · have e : pureF 3 alu = !trapB alu := by simp [pureF, aluB, g1, g2]
          rw [e]
          generalize trapB alu = a2 at *
          clear h h1 h2 h4 h5 h12 e
          go_enter Try.func24, Try.ntmps24
          go_wp2_with (go_at_call 43; refine (k2 _).mono ?_; rintro e1 w1 ⟨rfl, rfl⟩)
          go_ret
          exact ⟨by simp [g1, g2], below1 _ _⟩
        · have e : pureF 3 alu = false := by simp [pureF, aluB, g2]
          rw [e]
          clear h h1 h2 h4 h5 h12 e k2
          go_enter Try.func24, Try.ntmps24
          go_wp2
          go_ret
          exact ⟨by simp [g1, g2] <;> omega, below1 _ _⟩
      · have e : pureF 3 alu = false := by simp [pureF, aluB, g1]
        rw [e]
        clear h h1 h2 h4 h5 h12 e k2
        go_enter Try.func24, Try.ntmps24
        go_wp2
        go_ret
        exact ⟨by simp [g1] <;> omega, below1 _ _⟩
    · have e : pureF op alu = false := by unfold pureF; rw [decide_eq_false h, decide_eq_false h3]; rfl
      rw [e]
      clear h e
      go_enter Try.func24, Try.ntmps24
      go_wp2
      go_ret
      exact ⟨rfl, below1 _ _⟩
end Go.Proofs.Ythnbnilammjceaa
