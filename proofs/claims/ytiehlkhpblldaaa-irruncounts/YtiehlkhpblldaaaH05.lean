/- Registers: get, set. -/
import Derived.Test.YtiehlkhpblldaaaH04
set_option linter.unusedVariables false
set_option linter.unusedSimpArgs false
set_option maxRecDepth 20000
set_option maxHeartbeats 8000000
namespace Go.Proofs.Ytiehlkhpblldaaa
open Go.RowKit Go.Maps
theorem flat_set {α : Type} {f : α → List Value} {z : Nat} (hz : ∀ x, (f x).length = z) : ∀ (l : List α) (i c : Nat) (hi : i < l.length) (hc : c < z) (x : α) (u : Value), f x = (f l[i]).set c u → (flat f l).set (i * z + c) u = flat f (l.set i x)
  | y :: l, 0, c, _, hc, x, u, h => by
    rw [flat_cons, List.set_append_left _ _ (by rw [hz]; omega), List.set_cons_zero, flat_cons, h, Nat.zero_mul, Nat.zero_add]
    rfl
  | y :: l, i + 1, c, hi, hc, x, u, h => by
    rw [flat_cons, List.set_append_right _ _ (by rw [hz, Nat.succ_mul]; omega), List.set_cons_succ, flat_cons, hz, show (i + 1) * z + c - z = i * z + c by rw [Nat.succ_mul]; omega, flat_set hz l i c (by simpa using hi) hc x u (by simpa using h)]
section
variable {C : Cst} {W0 W W' : World} {r : Nat} {s s' : St} {x : Vs} {t : Tp}

theorem banks_same {bb : Nat → Nat} {bs : List (Option (List Rg))} {fn : Nat} {l m : List Rg} (h : bs[fn]? = some (some l)) (hm : m.length = l.length) : (bs.set fn (some m)).mapIdx (bankV bb) = bs.mapIdx (bankV bb) := by
  refine List.ext_getElem? (fun j => ?_)
  rw [List.getElem?_mapIdx, List.getElem?_mapIdx, List.getElem?_set]
  by_cases e : fn = j
  · subst e
    obtain ⟨hl, _⟩ := List.getElem?_eq_some_iff.1 h
    rw [if_pos rfl, if_pos hl, h]
    simp [bankV, hm]
  · rw [if_neg e]
theorem set_some {bs : List (Option (List Rg))} {fn : Nat} {l m : List Rg} (h : bs[fn]? = some (some l)) {i : Nat} {k : List Rg} (hi : (bs.set fn (some m))[i]? = some (some k)) : (i = fn ∧ k = m) ∨ (i ≠ fn ∧ bs[i]? = some (some k)) := by
  rw [List.getElem?_set] at hi
  by_cases e : fn = i
  · subst e
    obtain ⟨hl, _⟩ := List.getElem?_eq_some_iff.1 h
    rw [if_pos rfl, if_pos hl] at hi
    injection hi with hi
    injection hi with hi
    exact .inl ⟨rfl, hi.symm⟩
  · rw [if_neg e] at hi
    exact .inr ⟨Ne.symm e, hi⟩
/-- A cell of a register turns. -/
theorem RunM.reg (h : RunM C W0 r W s x t) {fn : Nat} {l : List Rg} (hb : s.banks[fn]? = some (some l)) {i c : Nat} (hi : i < l.length) (hc : c < 2) (y : Rg) (u : Value) (hy : Rg.cells y = (Rg.cells l[i]).set c u) :
    RunM C W0 r (W.setCell ⟨x.bb fn, i * 2 + c, none⟩ u) { s with banks := s.banks.set fn (some (l.set i y)) } x t := by
  have R := h.rows
  have hrow := R.bk fn l hb
  obtain ⟨cur, hcur⟩ := own_block hrow (b := x.bb fn) rfl
  have K := setK W (x.bb fn) (i * 2 + c) u
  have hB := (World.ownsRow.lt hrow (x.bb fn) rfl).1
  have hne : r ≠ x.bb fn := fun e => by
    have := h.rc
    rw [e, hcur] at this
    injection this with this
    injection this with _ h2
    cases h2
  refine ⟨?_, h.rr, (K.block r h.lt hne).trans h.rc⟩
  have hst := (World.ownsRow.stored hrow (i * 2 + c) u).1
  rw [flat_set rg2 l i c hi hc y u hy] at hst
  refine { below := R.below.trans (K.below R.below.size (fun k e => by omega)), pg := R.pg, sv := R.sv, svl := R.svl, bs := ?_, bk := ?_, bi := ?_, hs := own_ty R.hs hcur (by decide) K, gs := own_ty R.gs hcur (by decide) K, ks := own_ty R.ks hcur (by decide) K, os := own_ty R.os hcur (by decide) K, gk := R.gk, go := R.go, ko := R.ko, cs := own_ty R.cs hcur (by decide) K, xs := own_ty R.xs hcur (by decide) K, rm := fun g0 c0 hg0 => blk_ty (R.rm g0 c0 hg0) hcur (by decide) K }
  · dsimp only
    rw [banks_same hb (List.length_set ..), List.length_set]
    exact own_ty R.bs hcur (by decide) K
  · intro j m hj
    rcases set_some hb hj with ⟨rfl, rfl⟩ | ⟨hne2, hj⟩
    · rw [List.length_set]
      exact hst
    · exact K.owns (R.bk j m hj) (fun b hb2 e => by
        injection hb2 with hb2
        exact hne2 (R.bi j fn m l hj hb (hb2.trans e)))
  · intro j k m m' hj hk e
    rcases set_some hb hj with ⟨e1, _⟩ | ⟨_, hj2⟩
    · rcases set_some hb hk with ⟨e2, _⟩ | ⟨_, hk2⟩
      · rw [e1, e2]
      · rw [e1]; rw [e1] at e; exact R.bi _ _ _ _ hb hk2 e
    · rcases set_some hb hk with ⟨e2, _⟩ | ⟨_, hk2⟩
      · rw [e2]; rw [e2] at e; exact R.bi _ _ _ _ hj2 hb e
      · exact R.bi _ _ _ _ hj2 hk2 e

/-- The run looks at its innermost call: c, with the registers l. -/
structure Top (C : Cst) (s : St) (x : Vs) (t : Tp) (c : Cl) (l : List Rg) : Prop where
  last : s.calls.getLast? = some c
  tt : ∃ cb cap, x.cv = .slice (some ⟨cb, 0, none⟩) s.calls.length cap ∧ t.t = .pointer (some ⟨cb, (s.calls.length - 1) * 6, none⟩)
  fn : c.fn < C.p.funcs.length
  tf : ∃ fb fo cap, C.p.fv = .slice (some ⟨fb, fo, none⟩) C.p.funcs.length cap ∧ t.f = .pointer (some ⟨fb, fo + c.fn * 5, none⟩)
  bank : s.banks[c.fn]? = some (some l)
  tb : t.b = .slice (some ⟨x.bb c.fn, 0, none⟩) l.length l.length
/-- What it sees. -/
theorem Top.see {c : Cl} {l : List Rg} (h : RunM C W0 r W s x t) (T : Top C s x t c l) : ∃ cb, t.t = .pointer (some ⟨cb, (s.calls.length - 1) * 6, none⟩) ∧ (∀ j, j < 6 → W.cell? ⟨cb, (s.calls.length - 1) * 6 + j, none⟩ = (Cl.cells c)[j]?) ∧ (∀ j, W.frozen? ⟨cb, j, none⟩ = false) ∧ cb < W.heap.size ∧ cb ≠ r ∧ ∃ cap, x.cv = .slice (some ⟨cb, 0, none⟩) s.calls.length cap ∧ 0 < s.calls.length := by
  obtain ⟨cb, cap, e1, e2⟩ := T.tt
  have hrow := h.rows.cs
  rw [e1] at hrow
  have hpos : 0 < s.calls.length := by
    cases hc : s.calls with
    | nil => have := T.last; rw [hc] at this; cases this
    | cons a l => simp
  obtain ⟨cur, hcur⟩ := own_block hrow (b := cb) rfl
  refine ⟨cb, e2, fun j hj => ?_, fun j => World.ownsRow.frozenAt hrow j, (World.ownsRow.lt hrow cb rfl).2, fun e => ?_, cap, e1, hpos⟩
  · have hl := T.last
    rw [List.getLast?_eq_getElem?] at hl
    obtain ⟨hlt, hl⟩ := List.getElem?_eq_some_iff.1 hl
    rw [World.ownsRow.cellAt hrow _ (by omega), flat_get cl6 _ _ _ hlt hj, hl]
  · have := h.rc
    rw [← e, hcur] at this
    injection this with this
    injection this with _ h2
    cases h2
theorem Top.regs {c : Cl} {l : List Rg} (h : RunM C W0 r W s x t) (T : Top C s x t c l) {i : Nat} (hi : i < l.length) : W.cell? ⟨x.bb c.fn, i * 2, none⟩ = some (.int .u32 l[i].v) ∧ W.cell? ⟨x.bb c.fn, i * 2 + 1, none⟩ = some (.int .i64 l[i].o) ∧ (∀ j, W.frozen? ⟨x.bb c.fn, j, none⟩ = false) ∧ x.bb c.fn < W.heap.size := by
  have hrow := h.rows.bk _ _ T.bank
  have hc : ∀ j, j < 2 → W.cell? ⟨x.bb c.fn, i * 2 + j, none⟩ = (Rg.cells l[i])[j]? := fun j hj => by
    rw [World.ownsRow.cellAt hrow _ (by omega), flat_get rg2 _ _ _ hi hj]
  exact ⟨hc 0 (by omega), hc 1 (by omega), fun j => World.ownsRow.frozenAt hrow j, (World.ownsRow.lt hrow _ rfl).2⟩

def getR (l : List Rg) (i : Nat) (no : Int) : Int := if (l.getD i ⟨0, 0⟩).o = no then (l.getD i ⟨0, 0⟩).v else 0
theorem getR_at {l : List Rg} {i : Nat} {no : Int} (hi : i < l.length) : getR l i no = if l[i].o = no then l[i].v else 0 := by
  simp [getR, hi]
theorem get46 {c : Cl} {l : List Rg} (h : RunM C W0 r W s x t) (T : Top C s x t c l) {i : Nat} (hi : i < l.length) :
    Calls Try.prog 46 #[.pointer (some ⟨r, 0, none⟩), .int .i64 i] W fun e w' => e = .returned (.int .u32 (getR l i c.no)) ∧ Below W.heap.size W w' := by
  obtain ⟨cb, et, hcc, hcf, hcl, hcr, _⟩ := T.see h
  obtain ⟨r0, r1, rf, rl⟩ := T.regs h hi
  have c11 : W.cell? ⟨r, 11, none⟩ = some t.t := h.cell 11
  have c13 : W.cell? ⟨r, 13, none⟩ = some t.b := h.cell 13
  have k0 : W.cell? ⟨cb, (s.calls.length - 1) * 6, none⟩ = some (.int .i64 c.no) := hcc 0 (by omega)
  rw [et] at c11
  rw [T.tb] at c13
  rw [getR_at hi]
  have hil : (i : Int) < l.length := by omega
  clear hcc T h
  by_cases g : l[i].o = c.no
  · rw [if_pos g]
    rw [g] at r1
    clear g
    go_enter Try.func46, Try.ntmps46
    go_wp2
    go_quiet (fail)
    go_wp2
    go_ret
    exact ⟨rfl, drewB _ _⟩
  · rw [if_neg g]
    have g' : (l[i].o == c.no) = false := by simp [g]
    go_enter Try.func46, Try.ntmps46
    go_wp2
    go_quiet (fail)
    go_wp2
    go_ret
    exact ⟨rfl, drewB _ _⟩

def setS (s : St) (c : Cl) (l : List Rg) (i : Nat) (v : Int) : St :=
  { s with hidden := if (l.getD i ⟨0, 0⟩).o = c.no then s.hidden else s.hidden ++ [⟨c.fn, i, l.getD i ⟨0, 0⟩⟩], banks := s.banks.set c.fn (some (l.set i ⟨v, c.no⟩)) }
theorem Top.upd {c : Cl} {l m : List Rg} {x' : Vs} (T : Top C s x t c l) (hc : s'.calls = s.calls) (hb : s'.banks = s.banks.set c.fn (some m)) (hm : m.length = l.length) (h1 : x'.cv = x.cv) (h2 : x'.bb = x.bb) : Top C s' x' t c m :=
  ⟨by rw [hc]; exact T.last, by rw [hc, h1]; exact T.tt, T.fn, T.tf, by rw [hb, List.getElem?_set_self (List.getElem?_eq_some_iff.1 T.bank).1], by rw [T.tb, hm, h2]⟩
theorem setFacts {c : Cl} {l : List Rg} (h : RunM C W0 r W s x t) (T : Top C s x t c l) {i : Nat} (hi : i < l.length) : ∃ cb, t.t = .pointer (some ⟨cb, (s.calls.length - 1) * 6, none⟩) ∧ W.cell? ⟨r, 11, none⟩ = some (.pointer (some ⟨cb, (s.calls.length - 1) * 6, none⟩)) ∧ W.cell? ⟨r, 13, none⟩ = some (.slice (some ⟨x.bb c.fn, 0, none⟩) l.length l.length) ∧ W.cell? ⟨r, 5, none⟩ = some x.hv ∧ (∀ j, W.frozen? ⟨r, j, none⟩ = false) ∧ W.cell? ⟨cb, (s.calls.length - 1) * 6, none⟩ = some (.int .i64 c.no) ∧
    W.cell? ⟨x.bb c.fn, i * 2, none⟩ = some (.int .u32 l[i].v) ∧ W.cell? ⟨x.bb c.fn, i * 2 + 1, none⟩ = some (.int .i64 l[i].o) ∧ (∀ j, W.frozen? ⟨x.bb c.fn, j, none⟩ = false) ∧ x.bb c.fn < W.heap.size ∧ cb < W.heap.size ∧ r < W.heap.size := by
  obtain ⟨cb, et, hcc, hcf, hcl, hcr, _⟩ := T.see h
  obtain ⟨r0, r1, rf, rl⟩ := T.regs h hi
  exact ⟨cb, et, by rw [← et]; exact h.cell 11, by rw [← T.tb]; exact h.cell 13, h.cell 5, h.fro, hcc 0 (by omega), r0, r1, rf, rl, hcl, h.lt⟩
theorem set26 {c : Cl} {l : List Rg} (h : RunM C W0 r W s x t) (T : Top C s x t c l) {i : Nat} (hi : i < l.length) (v : Int) (hl : (s.hidden.length + 1) * 24 ≤ 140737488355328) :
    Calls Try.prog 26 #[.pointer (some ⟨r, 0, none⟩), .int .i64 i, .int .u32 v] W fun e w' => e = .returned (.tuple #[]) ∧ ∃ x', RunM C W0 r w' (setS s c l i v) x' t ∧ Top C (setS s c l i v) x' t c (l.set i ⟨v, c.no⟩) := by
  have H := hid' h
  have HT := hid' T
  obtain ⟨cb, et, c11, c13, c5, fr, k0, r0, r1, rf, rl, hcl, hrl⟩ := setFacts h T hi
  have hil : (i : Int) < l.length := by omega
  by_cases g : l[i].o = c.no
  · have HE : Hid (setS s c l i v = { s with banks := s.banks.set c.fn (some (l.set i ⟨v, c.no⟩)) }) := by unfold Hid setS; simp [hi, g]
    have HR := hid' (h.reg T.bank hi (c := 0) (by omega) ⟨v, l[i].o⟩ (.int .u32 v) rfl)
    rw [g] at r1 HR
    clear T h g
    go_enter Try.func26, Try.ntmps26
    go_wp2
    go_quiet (fail)
    go_wp2
    go_end0
    refine ⟨rfl, x, ?_, ?_⟩
    · rw [HE.out]; exact HR.out.drewN _
    · rw [HE.out]; exact HT.out.upd rfl rfl (by simp) rfl rfl
  · have g' : (l[i].o == c.no) = false := by simp [g]
    have HE : Hid (setS s c l i v = { s with hidden := s.hidden ++ [⟨c.fn, i, l[i]⟩], banks := s.banks.set c.fn (some (l.set i ⟨v, c.no⟩)) }) := by unfold Hid setS; simp [hi, g]
    clear T h
    go_enter Try.func26, Try.ntmps26
    go_wp2
    go_quiet (fail)
    go_wp2
    clear c11 c13 c5 fr k0 r0 r1 rf rl hcl hrl
    obtain ⟨W1, eW⟩ : ∃ W1, W1 = W.drewN nq := ⟨_, rfl⟩
    have H1 : Hid (RunM C W0 r W1 s x t) := by unfold Hid; rw [eW]; exact H.out.drewN _
    rw [← eW]
    clear eW
    obtain ⟨cb1, et1, c11, c13, c5, fr, k0, r0, r1, rf, rl, hcl, hrl⟩ := setFacts H1.out HT.out hi
    rw [et] at et1
    injection et1 with et1
    injection et1 with et1
    injection et1 with et1
    subst et1
    obtain ⟨b, cap, w2, hr6, hrc, hR⟩ := H1.out.pushH ⟨c.fn, i, l[i]⟩ hl
    have d5 : w2.cell? ⟨r, 5, none⟩ = some x.hv := by rw [cell_of_row w2 r 5 _ 72 (0, 0) hrc]; rfl
    have df : w2.frozen? ⟨r, 5, none⟩ = false := frozen_of_row w2 r 5 _ 72 hrc
    have T2 : Top C { s with hidden := s.hidden ++ [⟨c.fn, i, l[i]⟩] } { x with hv := .slice (some ⟨b, 0, none⟩) (s.hidden.length + 1) cap } t c l := ⟨HT.out.last, HT.out.tt, HT.out.fn, HT.out.tf, HT.out.bank, HT.out.tb⟩
    have HR := hid' hR
    have HT2 := hid' T2
    obtain ⟨cb2, et2, e11, e13, e5, er, m0, q0, q1, qf, ql, hcl2, hrl2⟩ := setFacts hR T2 hi
    rw [et] at et2
    injection et2 with et2
    injection et2 with et2
    injection et2 with et2
    subst et2
    unfold Hd.cells at hr6
    dsimp only at hr6 e11 m0 e13 q0 q1 qf ql e5
    have hcap : (s.hidden.length + 1) ≤ cap := by obtain ⟨ao, cp, e, hc⟩ := own_len hR.rows.hs; dsimp only at e; injection e with _ _ e; simp at hc; omega
    clear T2 hR hrc
    go_region_law (refine step_run rfl (.tmp 29) (.tmp 35) 65 rfl _ _ _ (by simp [Act.eval]) (by simp [Act.eval]) hr6 ?_)
    all_goals
      clear hr6 d5 df c11 c13 c5 fr k0 r0 r1 rf rl hcl hrl
      generalize w2.setCell ⟨r, 5, none⟩ (.slice (some ⟨b, 0, none⟩) (s.hidden.length + 1) cap) = W3 at *
      have HA := hid' (HR.out.reg HT2.out.bank hi (c := 1) (by omega) ⟨l[i].v, c.no⟩ (.int .i64 c.no) rfl)
      have HB := hid' (HA.out.reg (l := l.set i ⟨l[i].v, c.no⟩) (by dsimp only; rw [List.getElem?_set_self (List.getElem?_eq_some_iff.1 HT2.out.bank).1]) (i := i) (by simpa using hi) (c := 0) (by omega) ⟨v, c.no⟩ (.int .u32 v) (by rw [List.getElem_set_self]; rfl))
      go_wp2
      go_end0
      refine ⟨rfl, { x with hv := .slice (some ⟨b, 0, none⟩) (s.hidden.length + 1) cap }, ?_, ?_⟩
      · rw [HE.out]
        have := HB.out
        rw [List.set_set, List.set_set] at this
        exact this
      · rw [HE.out]; exact HT2.out.upd rfl rfl (by simp) rfl rfl
end
end Go.Proofs.Ytiehlkhpblldaaa
