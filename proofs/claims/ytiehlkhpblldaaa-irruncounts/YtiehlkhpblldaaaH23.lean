/- enter: a call begins. -/
import Derived.Test.YtiehlkhpblldaaaH15
import Derived.Test.YtiehlkhpblldaaaH16
import Derived.Test.YtiehlkhpblldaaaH22
set_option linter.unusedVariables false
set_option linter.unusedSimpArgs false
set_option maxRecDepth 20000
set_option maxHeartbeats 8000000
namespace Go.Proofs.Ytiehlkhpblldaaa
open Go.RowKit Go.Maps
section
variable {C : Cst} {W0 W W' : World} {r : Nat} {s s' : St} {x : Vs} {t : Tp}
/-- The registers of a function, made if it has none. -/
def bankS (s : St) (fn n : Nat) : St := if s.banks.getD fn none = none then { s with banks := s.banks.set fn (some (List.replicate n ⟨0, 0⟩)) } else s
def bankL (s : St) (fn n : Nat) : List Rg := (s.banks.getD fn none).getD (List.replicate n ⟨0, 0⟩)
/-- The call that begins. -/
def newC (s : St) (fn : Nat) : Cl := ⟨s.begun + 1, fn, s.low % 4294967296, s.hidden.length, 0, 0⟩
/-- It has begun: with its registers, before its arguments are laid. -/
def begS (s : St) (fn slots regs : Nat) : St :=
  let s1 := pushG s slots
  let s2 := bankS s1 fn regs
  { s2 with begun := s2.begun + 1, calls := s2.calls ++ [newC s2 fn] }
def argsP (args : List Int) : List (Nat × Int) := (List.range args.length).map (fun i => (i, args.getD i 0))
/-- enter, in the plain: whether it may begin, and what comes of it. -/
def entOk (C : Cst) (s : St) (slots : Int) : Bool := decide ((s.calls.length : Int) < C.deep) && pushOk s slots
def entF (C : Cst) (s : St) (fn : Nat) (f : Fn) (args : List Int) : St :=
  if entOk C s f.slots then
    let s2 := begS s fn f.slots.toNat f.regs.toNat
    let q := setsF (newC (bankS (pushG s f.slots.toNat) fn f.regs.toNat) fn) s2 (bankL (pushG s f.slots.toNat) fn f.regs.toNat) (argsP args)
    (arrF q.1 (newC (bankS (pushG s f.slots.toNat) fn f.regs.toNat) fn) q.2 ((f.blocks.getD 0 ⟨undef, [], 0, 0, undef, []⟩).code) 0 (-1)).1
  else trapF s 3
/-- What enter sees of the function. -/
theorem enterFacts (h : RunM C W0 r W s x t) {fn : Nat} (hf : fn < C.p.funcs.length) : ∃ fb fo fcap, C.p.fv = .slice (some ⟨fb, fo, none⟩) C.p.funcs.length fcap ∧ ∀ q : After W, q.1.cell? ⟨r, 0, none⟩ = some (.slice (some ⟨fb, fo, none⟩) C.p.funcs.length fcap) ∧ q.1.cell? ⟨fb, fo + fn * 5 + 2, none⟩ = some (.int .i64 C.p.funcs[fn].regs) ∧ q.1.cell? ⟨fb, fo + fn * 5 + 3, none⟩ = some (.int .i64 C.p.funcs[fn].slots) ∧ q.1.cell? ⟨r, 18, none⟩ = some (.int .i64 C.deep) ∧ q.1.cell? ⟨r, 9, none⟩ = some x.cv := by
  obtain ⟨fb, fo, fcap, ef, hfb, hfc, hx⟩ := funcs_form h.rows.pg hf
  refine ⟨fb, fo, fcap, ef, fun q => ?_⟩
  have hb := below_on h.rows.below q.2 h.rows.below.size
  have hc := fn_cells (hx q.1 hb fn hf)
  exact ⟨keep_cell (by rw [← ef]; exact h.cell 0) q.2, hc.2.2.1, hc.2.2.2.1, keep_cell (h.cell 18) q.2, keep_cell (h.cell 9) q.2⟩
set_option maxHeartbeats 20000000 in
/-- No room. -/
theorem enter17_no {fn : Nat} {av : Value} (h : RunM C W0 r W s x t) (hf : fn < C.p.funcs.length) (hcl : s.calls.length ≤ 140737488355328) (hsl : 0 ≤ C.p.funcs[fn].slots ∧ C.p.funcs[fn].slots ≤ 65536) (hM : MemOk s) (hno : entOk C s C.p.funcs[fn].slots = false) :
    Calls Try.prog 17 #[.pointer (some ⟨r, 0, none⟩), .int .i64 fn, av] W fun e w' => e = .returned (.tuple #[]) ∧ ∃ x', RunM C W0 r w' (trapF s 3) x' t := by
  have H := hid' h
  obtain ⟨fb, fo, fcap, ef, hF⟩ := enterFacts h hf
  obtain ⟨co, ccap, ecv, hcc⟩ := own_len h.rows.cs
  obtain ⟨sl, hsl2⟩ : ∃ sl : Nat, C.p.funcs[fn].slots = sl := ⟨C.p.funcs[fn].slots.toNat, by omega⟩
  rw [hsl2] at hno hsl
  have hfi : (fn : Int) < C.p.funcs.length := by omega
  have c0 := (hF ⟨W, Below.refl _ _⟩).1
  dsimp only at c0
  have d3 : ∀ q : After W, q.1.cell? ⟨fb, fo + fn * 5 + 3, none⟩ = some (.int .i64 sl) := fun q => by rw [← hsl2]; exact (hF q).2.2.1
  have d18 := fun q => (hF q).2.2.2.1
  have d9 : ∀ q : After W, q.1.cell? ⟨r, 9, none⟩ = some (.slice co s.calls.length ccap) := fun q => by rw [← ecv]; exact (hF q).2.2.2.2
  have hne := after_some W
  have H23 : Hid (∀ w6, Below W.heap.size W w6 → _) := fun w6 hb6 => push23 (H.out.on hb6) (n := sl) (by omega) hM.l1 hM.l2 hM.l3
  unfold entOk at hno
  clear hF ef ecv h hsl2
  generalize C.p.funcs.length = NF at *
  by_cases g : C.deep ≤ (s.calls.length : Int)
  · have g' : (s.calls.length : Int) ≥ C.deep := g
    clear H23 hno
    go_enter Try.func17, Try.ntmps17
    go_wp2
    refine region_after 18 mixed (by kernel_rfl) ?_
    simp only [List.take_succ_cons, List.take_zero, List.drop_succ_cons, List.drop_zero]
    repeat (first | go_big_quiet_step (fail) | quiet_step (fail))
    refine wpQuiet_nil ?_
    intro w6 hb6
    have H6 := hid' (H.out.on hb6)
    clear d3 d18 d9
    go_wp2_with (go_at_call 24; refine (trap24 H6.out 3).mono ?_; rintro e7 w7 ⟨rfl, hR7⟩)
    exact bodyPost_ret (v := .tuple #[]) (by simp [results, Try.results17]) rfl ⟨rfl, x, hR7⟩
  · have g' : ¬ (s.calls.length : Int) ≥ C.deep := g
    have hpo : pushOk s sl = false := by
      rw [decide_eq_true (by omega), Bool.true_and] at hno
      exact hno
    have hpf : pushF s sl = s := by unfold pushF; rw [hpo]; rfl
    rw [hpo, hpf] at H23
    clear hno hpo hpf
    go_enter Try.func17, Try.ntmps17
    go_wp2
    refine region_after 18 mixed (by kernel_rfl) ?_
    simp only [List.take_succ_cons, List.take_zero, List.drop_succ_cons, List.drop_zero]
    repeat (first | go_big_quiet_step (fail) | quiet_step (fail))
    refine wpQuiet_nil ?_
    intro w6 hb6
    have h23 := H23.out w6 hb6
    clear d3 d18 d9 H23
    go_wp2_with (first
      | (go_at_call 24; refine (trap24 hR6 3).mono ?_; rintro e7 w7 ⟨rfl, hR7⟩)
      | (go_at_call 23; refine h23.mono ?_; rintro e6 w8 ⟨rfl, x6, hR6, hx6⟩))
    exact bodyPost_ret (v := .tuple #[]) (by simp [results, Try.results17]) rfl ⟨rfl, x6, hR7⟩
theorem pushG_same (s : St) (n : Nat) : (pushG s n).banks = s.banks ∧ (pushG s n).hidden = s.hidden ∧ (pushG s n).calls = s.calls ∧ (pushG s n).begun = s.begun ∧ (pushG s n).low = s.low - n := by
  unfold pushG reachF
  split <;> exact ⟨rfl, rfl, rfl, rfl, rfl⟩
end
end Go.Proofs.Ytiehlkhpblldaaa
