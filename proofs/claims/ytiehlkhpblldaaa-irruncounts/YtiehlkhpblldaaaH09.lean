/- isSought; BinarySearch. -/
import Derived.Test.YtiehlkhpblldaaaH06
set_option linter.unusedVariables false
set_option linter.unusedSimpArgs false
set_option maxRecDepth 20000
set_option maxHeartbeats 8000000
namespace Go.Proofs.Ytiehlkhpblldaaa
open Go.RowKit Go.Maps
section
variable {C : Cst} {W0 W W' : World} {r : Nat} {s s' : St} {x : Vs} {t : Tp}
/-- An instruction lies at an address of what came in. -/
def InAt (W0 : World) (b o : Nat) (i : In) : Prop := b < W0.heap.size ∧ (∀ w', Below W0.heap.size W0 w' → ∀ c, c < 7 → w'.cell? ⟨b, o + c, none⟩ = (In.cells i)[c]?) ∧ In.ok W0 i
def souF (C : Cst) (c : Cl) (i : In) : Bool := decide ((c.fn : Int) = C.sf) && (decide (i.alu = C.sa) && eqL i.args C.sl)
theorem isSought68 {c : Cl} {l : List Rg} {b o : Nat} {i : In} (h : RunM C W0 r W s x t) (T : Top C s x t c l) (hI : InAt W0 b o i) :
    Calls Try.prog 68 #[.pointer (some ⟨r, 0, none⟩), .pointer (some ⟨b, o, none⟩)] W fun e w' => e = .returned (.bool (souF C c i)) ∧ Below W.heap.size W w' := by
  obtain ⟨cb, et, hcc, hcf, hcl, hcr, _⟩ := T.see h
  have HB := hid' h.rows.below
  have c11 : ∀ t : After W, t.1.cell? ⟨r, 11, none⟩ = some (.pointer (some ⟨cb, (s.calls.length - 1) * 6, none⟩)) := fun q => keep_cell (by rw [← et]; exact h.cell 11) q.2
  have c19 : ∀ t : After W, t.1.cell? ⟨r, 19, none⟩ = some (.int .i64 C.sf) := fun q => keep_cell (h.cell 19) q.2
  have c20 : ∀ t : After W, t.1.cell? ⟨r, 20, none⟩ = some (.int .i64 C.sa) := fun q => keep_cell (h.cell 20) q.2
  obtain ⟨so, scap, es⟩ := h.rows.sv.len
  have c21 : ∀ t : After W, t.1.cell? ⟨r, 21, none⟩ = some (.slice so C.sl.length scap) := fun q => keep_cell (by rw [← es]; exact h.cell 21) q.2
  have k1 : ∀ t : After W, t.1.cell? ⟨cb, (s.calls.length - 1) * 6 + 1, none⟩ = some (.int .i64 c.fn) := fun q => keep_cell (hcc 1 (by omega)) q.2
  obtain ⟨ao, acap, ea⟩ := hI.2.2.a.len
  have i4 : ∀ t : After W, t.1.cell? ⟨b, o + 4, none⟩ = some (.int .i64 i.alu) := fun q => (in_cells (hI.2.1 q.1 (below_on HB.out q.2 HB.out.size))).2.2.2.2.1
  have i2 : ∀ t : After W, t.1.cell? ⟨b, o + 2, none⟩ = some (.slice ao i.args.length acap) := fun q => by rw [← ea]; exact (in_cells (hI.2.1 q.1 (below_on HB.out q.2 HB.out.size))).2.2.1
  have K82 : ∀ t : After W, _ := fun q => Calls.after q (equal52 (w := q.1) (hI.2.2.a.on (below_on HB.out q.2 HB.out.size)) (h.rows.sv.on (below_on HB.out q.2 HB.out.size)) hI.2.2.al h.rows.svl)
  rw [ea, es] at K82
  have hne := after_some W
  unfold souF
  generalize eqL i.args C.sl = q at *
  clear hcc hcf ea es h T hI
  by_cases g1 : (c.fn : Int) = C.sf
  · rw [decide_eq_true g1, Bool.true_and]
    rw [← g1] at c19
    clear g1
    by_cases g2 : i.alu = C.sa
    · rw [decide_eq_true g2, Bool.true_and]
      rw [← g2] at c20
      clear g2
      go_enter Try.func68, Try.ntmps68
      go_wp2
      refine region_after 36 mixed (by kernel_rfl) ?_
      simp only [List.take_succ_cons, List.take_zero, List.drop_succ_cons, List.drop_zero]
      repeat (first | go_big_quiet_step (with_reducible exact K82 _) | quiet_step (with_reducible exact K82 _))
      refine wpQuiet_nil ?_
      intro w6 hb6
      cases q
      all_goals
        go_wp2
        go_ret
        exact ⟨rfl, hb6⟩
    · rw [decide_eq_false g2, Bool.false_and]
      have g2' : (i.alu == C.sa) = false := by simp [g2]
      go_enter Try.func68, Try.ntmps68
      go_wp2
      refine region_after 36 mixed (by kernel_rfl) ?_
      simp only [List.take_succ_cons, List.take_zero, List.drop_succ_cons, List.drop_zero]
      repeat (first | go_big_quiet_step (with_reducible exact K82 _) | quiet_step (with_reducible exact K82 _))
      refine wpQuiet_nil ?_
      intro w6 hb6
      go_wp2
      go_ret
      exact ⟨rfl, hb6⟩
  · rw [decide_eq_false g1, Bool.false_and]
    have g1' : ((c.fn : Int) == C.sf) = false := by simp [g1]
    go_enter Try.func68, Try.ntmps68
    go_wp2
    refine region_after 36 mixed (by kernel_rfl) ?_
    simp only [List.take_succ_cons, List.take_zero, List.drop_succ_cons, List.drop_zero]
    repeat (first | go_big_quiet_step (with_reducible exact K82 _) | quiet_step (with_reducible exact K82 _))
    refine wpQuiet_nil ?_
    intro w6 hb6
    go_wp2
    go_ret
    exact ⟨rfl, hb6⟩
end
end Go.Proofs.Ytiehlkhpblldaaa
