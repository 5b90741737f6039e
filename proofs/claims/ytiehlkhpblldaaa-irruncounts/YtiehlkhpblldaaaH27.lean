/- What an instruction of some Op has: the program's shapes. -/
import Derived.Test.YtiehlkhpblldaaaH00
import Derived.Test.YtiehlkhpblldaaaH26
set_option linter.unusedVariables false
set_option linter.unusedSimpArgs false
set_option maxRecDepth 20000
set_option maxHeartbeats 8000000
namespace Go.Proofs.Ytiehlkhpblldaaa
open Go.RowKit Go.Maps

structure Sh where
  dst : Int
  args : Int
  low : Int
  high : Int
  alu : Bool
  wide : Bool
  pred : List Int
def Sh.valOf (s : Sh) (v : Value) : Value := .agg #[.int .i64 s.dst, .int .i64 s.args, .int .i64 s.low, .int .i64 s.high, .bool s.alu, .bool s.wide, v]
def shC (p : Pg) (imm : Int) : Sh := if winF imm 0 ((p.funcs.length : Nat) - 1) then ⟨3, (p.funcs[imm.toNat]?.map Fn.params).getD 0, 0, (p.funcs.length : Nat) - 1, false, false, []⟩ else ⟨0, 0, 0, 0, false, false, []⟩
def shF (p : Pg) (slots : Int) (preds : List Int) (op imm : Int) : Sh :=
  if op = 1 then ⟨2, 0, -2147483648, 2147483647, false, false, []⟩
  else if op = 2 then ⟨2, 1, 0, 0, false, false, []⟩
  else if op = 3 then ⟨2, 2, 0, 0, true, false, []⟩
  else if op = 4 then ⟨2, 0, 0, p.global, false, false, []⟩
  else if op = 5 then ⟨2, 0, 0, slots, false, false, []⟩
  else if op = 6 then ⟨2, 1, -2147483648, 2147483647, false, true, []⟩
  else if op = 7 then ⟨1, 2, -2147483648, 2147483647, false, true, []⟩
  else if op = 8 then ⟨1, 1, 1, 2, false, false, []⟩
  else if op = 9 then shC p imm
  else if op = 10 then ⟨2, 0, 0, 0, false, false, []⟩
  else if op = 11 then ⟨1, 1, 0, 0, false, false, []⟩
  else if op = 12 then ⟨2, (preds.length : Nat), 0, 0, false, false, preds⟩
  else ⟨0, 0, 0, 0, false, false, []⟩

/-- Where an instruction stands. -/
structure IsPl (W : World) (P : Nat) (p : Pg) (regs slots : Int) (pv : Value) : Prop where
  lt : P < W.heap.size
  c0 : W.cell? ⟨P, 0, none⟩ = some p.fv
  c1 : W.cell? ⟨P, 1, none⟩ = some (.int .i64 p.global)
  c6 : W.cell? ⟨P, 6, none⟩ = some (.int .i64 regs)
  c7 : W.cell? ⟨P, 7, none⟩ = some (.int .i64 slots)
  c9 : W.cell? ⟨P, 9, none⟩ = some pv
theorem IsPl.on {W W' : World} {P : Nat} {p : Pg} {regs slots : Int} {pv : Value} (h : IsPl W P p regs slots pv) (hb : Below W.heap.size W W') : IsPl W' P p regs slots pv :=
  ⟨Nat.lt_of_lt_of_le h.lt hb.size, keep_cell h.c0 hb, keep_cell h.c1 hb, keep_cell h.c6 hb, keep_cell h.c7 hb, keep_cell h.c9 hb⟩

def dstF (regs dst has : Int) : Bool := if dst = -1 then decide (has ≠ 2) else decide (has ≠ 1) && winF dst 0 (regs - 1)
theorem dstFits57 {w : World} {P : Nat} {p : Pg} {regs slots : Int} {pv : Value} (h : IsPl w P p regs slots pv) (h0 : 0 ≤ regs) (h1 : regs ≤ 65536) (dst has : Int) :
    Calls Try.prog 79 #[.pointer (some ⟨P, 0, none⟩), .int .i64 dst, .int .i64 has] w fun e w' => e = .returned (.bool (dstF regs dst has)) ∧ w' = w := by
  have c6 := h.c6
  clear h
  unfold dstF
  by_cases e1 : dst = -1
  · subst e1
    rw [if_pos rfl]
    by_cases e2 : has = 2
    · subst e2
      go_enter Try.func79, Try.ntmps79
      go_wp2
      go_ret
      exact ⟨rfl, rfl⟩
    · rw [decide_eq_true e2]
      go_enter Try.func79, Try.ntmps79
      go_wp2
      go_ret
      exact ⟨by simp [e2], rfl⟩
  · rw [if_neg e1]
    by_cases e2 : has = 1
    · subst e2
      go_enter Try.func79, Try.ntmps79
      go_wp2
      go_ret
      exact ⟨rfl, rfl⟩
    · rw [decide_eq_true e2, Bool.true_and]
      have hw := within44 dst 0 (regs - 1)
      generalize winF dst 0 (regs - 1) = q at *
      go_enter Try.func79, Try.ntmps79
      go_wp2_with (go_at_call 36; refine (hw _).mono ?_; rintro e3 w1 ⟨rfl, rfl⟩)
      go_ret
      exact ⟨by cases q <;> simp [e2], rfl⟩

theorem shapeOfCall60 {w : World} {P : Nat} {p : Pg} {regs slots : Int} {pv : Value} (h : IsPl w P p regs slots pv) (hp : Pg.ok w p) (imm : Int) (hi : -2147483648 ≤ imm ∧ imm ≤ 2147483647) :
    Calls Try.prog 92 #[.pointer (some ⟨P, 0, none⟩), .int .i64 imm] w fun e w' => e = .returned ((shC p imm).valOf (.slice none 0 0)) ∧ Below w.heap.size w w' := by
  have c0 := h.c0
  have hlt := h.lt
  obtain ⟨fo, fc, ef, hf⟩ := hp.f.form fn5
  have hfl := hp.fl
  rw [ef] at c0
  unfold big at hfl
  have HF := hid' hf
  clear h hf hp
  have hw := within44 imm 0 ((p.funcs.length : Nat) - 1)
  have hne : ¬ P = w.heap.size := by omega
  unfold shC
  by_cases hn : p.funcs.length = 0
  · have e : winF imm 0 ((p.funcs.length : Nat) - 1) = false := decide_eq_false (by omega)
    rw [e] at hw ⊢
    rw [hn] at hw c0
    have hw1 : IntKind.i64.wrap (0 - 1) = -1 := by decide
    go_enter Try.func92, Try.ntmps92
    go_wp2_with (go_at_call 36; refine (hw _).mono ?_; rintro e3 w1 ⟨rfl, rfl⟩)
    exact bodyPost_ret (v := .agg #[.int .i64 0, .int .i64 0, .int .i64 0, .int .i64 0, .bool false, .bool false, .slice none 0 0]) (by simp [results, Try.results92, go_sem]) rfl ⟨rfl, below1 _ _⟩
  · cases q : winF imm 0 ((p.funcs.length : Nat) - 1)
    · rw [q] at hw
      clear q
      have hn' : 0 < p.funcs.length := by omega
      go_enter Try.func92, Try.ntmps92
      go_wp2_with (go_at_call 36; refine (hw _).mono ?_; rintro e3 w1 ⟨rfl, rfl⟩)
      exact bodyPost_ret (v := .agg #[.int .i64 0, .int .i64 0, .int .i64 0, .int .i64 0, .bool false, .bool false, .slice none 0 0]) (by simp [results, Try.results92, go_sem]) rfl ⟨rfl, below1 _ _⟩
    · have hq := of_decide_eq_true q
      rw [q] at hw
      clear q
      obtain ⟨k, rfl⟩ : ∃ k : Nat, imm = k := ⟨imm.toNat, by omega⟩
      have hk : k < p.funcs.length := by omega
      obtain ⟨b, o, rfl, hb1, hc1, hx⟩ := HF.out k hk
      have c1 := (fn_cells (hx _ (below1 w (.cells #[.int .i64 0, .int .i64 0, .int .i64 0, .int .i64 0, .bool false, .bool false, .slice none 0 0] 140)))).2.1
      rw [Int.toNat_natCast, List.getElem?_eq_getElem hk]
      have hnb : ¬ b = w.heap.size := by omega
      clear hx
      go_enter Try.func92, Try.ntmps92
      go_wp2_with (go_at_call 36; refine (hw _).mono ?_; rintro e3 w1 ⟨rfl, rfl⟩)
      exact bodyPost_ret (v := .agg #[.int .i64 3, .int .i64 p.funcs[k].params, .int .i64 0, .int .i64 ((p.funcs.length : Nat) - 1), .bool false, .bool false, .slice none 0 0]) (by simp [results, Try.results92, go_sem]) rfl ⟨rfl, below1 _ _⟩

def ShR (s : Sh) (w : World) (e : Ending) (w' : World) : Prop := ∃ v, e = .returned (s.valOf v) ∧ Src icell w' v s.pred ∧ Below w.heap.size w w'
theorem src_nil {α : Type} {f : α → List Value} {w : World} {ao : Option Addr} {c : Nat} : Src f w (.slice ao 0 c) [] := .inl ⟨rfl, _, _, rfl⟩
theorem shapeOf56 {w : World} {P : Nat} {p : Pg} {regs slots : Int} {pv : Value} {preds : List Int} {x : In} (h : IsPl w P p regs slots pv) (hp : Pg.ok w p) (hpr : Src icell w pv preds) (hx : In.ok w x) :
    Calls Try.prog 78 #[.pointer (some ⟨P, 0, none⟩), x.val] w (ShR (shF p slots preds x.op x.imm) w) := by
  have H60 : Hid (∀ W, Below w.heap.size w W → Calls Try.prog 92 #[.pointer (some ⟨P, 0, none⟩), .int .i64 x.imm] W fun e w' => e = .returned ((shC p x.imm).valOf (.slice none 0 0)) ∧ Below W.heap.size W w') := fun W hW => shapeOfCall60 (h.on hW) (hp.on hW) x.imm hx.hi
  have c0 := h.c0
  have c1 := h.c1
  have c7 := h.c7
  have c9 := h.c9
  have hlt := h.lt
  have HP := hid' hpr
  have HPL := hid' h
  obtain ⟨po, pc, rfl⟩ := hpr.len
  obtain ⟨op, dst, av, args, imm, alu, wide, xv, pred⟩ := x
  obtain ⟨ha, hal, hq, hql, hi1, hi2⟩ := hx
  dsimp only at *
  obtain ⟨ao, ac, rfl⟩ := ha.len
  obtain ⟨qo, qc, rfl⟩ := hq.len
  clear h ha hq hpr hp
  unfold In.val shF
  dsimp only
  generalize p.global = gl at *
  have hne : ¬ P = w.heap.size := by omega
  have hne2 : ¬ P = w.heap.size + 1 := by omega
  have hwi : IntKind.i64.wrap imm = imm := by simp [IntKind.wrap, IntKind.bits, IntKind.signed]; omega
  by_cases e1 : op = 1
  · subst e1
    rw [if_pos rfl]
    go_enter Try.func78, Try.ntmps78
    go_wp2
    exact bodyPost_ret (v := .agg #[.int .i64 (2), .int .i64 (0), .int .i64 (-2147483648), .int .i64 (2147483647), .bool false, .bool false, .slice none 0 0]) (by simp [results, Try.results78, go_sem]) rfl ⟨_, rfl, src_nil, below2 _ _ _⟩
  rw [if_neg e1]
  by_cases e2 : op = 2
  · subst e2
    rw [if_pos rfl]
    go_enter Try.func78, Try.ntmps78
    go_wp2
    exact bodyPost_ret (v := .agg #[.int .i64 (2), .int .i64 (1), .int .i64 (0), .int .i64 (0), .bool false, .bool false, .slice none 0 0]) (by simp [results, Try.results78, go_sem]) rfl ⟨_, rfl, src_nil, below2 _ _ _⟩
  rw [if_neg e2]
  by_cases e3 : op = 3
  · subst e3
    rw [if_pos rfl]
    go_enter Try.func78, Try.ntmps78
    go_wp2
    exact bodyPost_ret (v := .agg #[.int .i64 (2), .int .i64 (2), .int .i64 (0), .int .i64 (0), .bool true, .bool false, .slice none 0 0]) (by simp [results, Try.results78, go_sem]) rfl ⟨_, rfl, src_nil, below2 _ _ _⟩
  rw [if_neg e3]
  by_cases e4 : op = 4
  · subst e4
    rw [if_pos rfl]
    go_enter Try.func78, Try.ntmps78
    go_wp2
    exact bodyPost_ret (v := .agg #[.int .i64 (2), .int .i64 (0), .int .i64 (0), .int .i64 (gl), .bool false, .bool false, .slice none 0 0]) (by simp [results, Try.results78, go_sem]) rfl ⟨_, rfl, src_nil, below2 _ _ _⟩
  rw [if_neg e4]
  by_cases e5 : op = 5
  · subst e5
    rw [if_pos rfl]
    go_enter Try.func78, Try.ntmps78
    go_wp2
    exact bodyPost_ret (v := .agg #[.int .i64 (2), .int .i64 (0), .int .i64 (0), .int .i64 (slots), .bool false, .bool false, .slice none 0 0]) (by simp [results, Try.results78, go_sem]) rfl ⟨_, rfl, src_nil, below2 _ _ _⟩
  rw [if_neg e5]
  by_cases e6 : op = 6
  · subst e6
    rw [if_pos rfl]
    go_enter Try.func78, Try.ntmps78
    go_wp2
    exact bodyPost_ret (v := .agg #[.int .i64 (2), .int .i64 (1), .int .i64 (-2147483648), .int .i64 (2147483647), .bool false, .bool true, .slice none 0 0]) (by simp [results, Try.results78, go_sem]) rfl ⟨_, rfl, src_nil, below2 _ _ _⟩
  rw [if_neg e6]
  by_cases e7 : op = 7
  · subst e7
    rw [if_pos rfl]
    go_enter Try.func78, Try.ntmps78
    go_wp2
    exact bodyPost_ret (v := .agg #[.int .i64 (1), .int .i64 (2), .int .i64 (-2147483648), .int .i64 (2147483647), .bool false, .bool true, .slice none 0 0]) (by simp [results, Try.results78, go_sem]) rfl ⟨_, rfl, src_nil, below2 _ _ _⟩
  rw [if_neg e7]
  by_cases e8 : op = 8
  · subst e8
    rw [if_pos rfl]
    go_enter Try.func78, Try.ntmps78
    go_wp2
    exact bodyPost_ret (v := .agg #[.int .i64 (1), .int .i64 (1), .int .i64 (1), .int .i64 (2), .bool false, .bool false, .slice none 0 0]) (by simp [results, Try.results78, go_sem]) rfl ⟨_, rfl, src_nil, below2 _ _ _⟩
  rw [if_neg e8]
  by_cases e9 : op = 9
  · subst e9
    rw [if_pos rfl]
    have hH := H60.out
    obtain ⟨S, hS⟩ : ∃ S, S = shC p imm := ⟨_, rfl⟩
    have HS : Hid (S.pred = []) := by unfold Hid; rw [hS]; unfold shC; split <;> rfl
    rw [← hS] at hH ⊢
    obtain ⟨s0, s1, s2, s3, s4, s5, s6⟩ := S
    unfold Sh.valOf at hH
    dsimp only at hH
    clear hS H60
    go_enter Try.func78, Try.ntmps78
    go_wp2_with (go_at_call 92; refine (hH _ (below2 _ _ _)).mono ?_; rintro e3 w1 ⟨rfl, hb1⟩; obtain ⟨hc1, hf1⟩ := bcell hb1; have hs1 := hb1.size)
    refine bodyPost_ret (v := .agg #[.int .i64 s0, .int .i64 s1, .int .i64 s2, .int .i64 s3, .bool s4, .bool s5, .slice none 0 0]) (by simp [results, Try.results78, go_sem, hc1, hs1]) rfl ⟨_, rfl, by rw [HS.out]; exact src_nil, ?_⟩
    have h9 : Below w.heap.size w w1 := below_on (below2 _ _ _) hb1 (by simp; omega)
    exact (((((((h9.setCell (by simp) _).setCell (by simp) _).setCell (by simp) _).setCell (by simp) _).setCell (by simp) _).setCell (by simp) _).setCell (by simp) _)
  rw [if_neg e9]
  by_cases e10 : op = 10
  · subst e10
    rw [if_pos rfl]
    go_enter Try.func78, Try.ntmps78
    go_wp2
    exact bodyPost_ret (v := .agg #[.int .i64 (2), .int .i64 (0), .int .i64 (0), .int .i64 (0), .bool false, .bool false, .slice none 0 0]) (by simp [results, Try.results78, go_sem]) rfl ⟨_, rfl, src_nil, below2 _ _ _⟩
  rw [if_neg e10]
  by_cases e11 : op = 11
  · subst e11
    rw [if_pos rfl]
    go_enter Try.func78, Try.ntmps78
    go_wp2
    exact bodyPost_ret (v := .agg #[.int .i64 (1), .int .i64 (1), .int .i64 (0), .int .i64 (0), .bool false, .bool false, .slice none 0 0]) (by simp [results, Try.results78, go_sem]) rfl ⟨_, rfl, src_nil, below2 _ _ _⟩
  rw [if_neg e11]
  by_cases e12 : op = 12
  · subst e12
    rw [if_pos rfl]
    go_enter Try.func78, Try.ntmps78
    go_wp2
    go_region_with (fail)
    all_goals
      go_wp2
      exact bodyPost_ret (v := .agg #[.int .i64 2, .int .i64 (preds.length : Nat), .int .i64 0, .int .i64 0, .bool false, .bool false, .slice po preds.length pc]) (by simp [results, Try.results78, go_sem]) rfl ⟨_, rfl, HP.out.on (below2 _ _ _).drew, (below2 _ _ _).drew⟩
  rw [if_neg e12]
  go_enter Try.func78, Try.ntmps78
  go_wp2
  exact bodyPost_ret (v := .agg #[.int .i64 0, .int .i64 0, .int .i64 0, .int .i64 0, .bool false, .bool false, .slice none 0 0]) (by simp [results, Try.results78, go_sem]) rfl ⟨_, rfl, src_nil, below2 _ _ _⟩
end Go.Proofs.Ytiehlkhpblldaaa
