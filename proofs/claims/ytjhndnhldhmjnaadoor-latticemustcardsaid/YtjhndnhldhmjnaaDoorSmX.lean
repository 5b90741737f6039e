/- The solver in memory. -/
import Derived.Test.YtjhndnhldhmjnaaDoorRo
namespace Go.Proofs.YtjhndnhldhmjnaaDoor
open Go Go.RowKit Go.Maps
set_option linter.unusedVariables false
set_option linter.unusedSimpArgs false
/-- What never turns while the solver works: the problem, its functions, where all lies. -/
structure Cn where
  P : Prb Wd
  ev : Value
  bot : Int
  q : Nat × Nat
  fs : FuncId
  fj : FuncId
  fe : FuncId
  ff : FuncId
  p : Nat
  gi : Nat
  go : Nat
  gq : Nat
  gp : Nat
  gs : Nat
  us : List Value
  I : List (List Int)
  ov : Value
  F : List Nat
  pl : Nat → Nat
def fv1 (f : FuncId) (q : Nat) : Value := .func (.func f) #[] #[.pointer (some ⟨q, 0, none⟩)]
def fv0 (f : FuncId) : Value := .func (.func f) #[] #[]
def Cn.cell (c : Cn) (a : Int) : Nat → Value
  | 0 => .int .i64 c.P.n
  | 1 => c.ev
  | 2 => .int .u64 c.bot
  | 3 => fv1 c.fs c.q.1
  | 4 => fv0 c.fj
  | 5 => fv0 c.fe
  | 6 => fv1 c.ff c.q.2
  | 7 => .slice (some ⟨c.gs, 0, none⟩) c.P.n c.P.n
  | 8 => c.ov
  | 9 => .slice (some ⟨c.gp, 0, none⟩) c.P.n c.P.n
  | 10 => .slice (some ⟨c.gq, 0, none⟩) (words c.P.n) (words c.P.n)
  | 11 => .int .i64 a
  | 12 => .slice (some ⟨c.gi, 0, none⟩) c.P.n c.P.n
  | _ => .slice (some ⟨c.go, 0, none⟩) c.P.n c.P.n
/-- The problem's functions: they tell what they must, and leave all as it was. -/
structure FnsOk (P : Prb Wd) (w0 : World) (q : Nat × Nat) (s j e f : FuncId) : Prop where
  es : ∀ (args : Array Value) (W : World), (callFunc s args).run Tryd.prog W = .ok (.enter s args) W
  ej : ∀ (args : Array Value) (W : World), (callFunc j args).run Tryd.prog W = .ok (.enter j args) W
  ee : ∀ (args : Array Value) (W : World), (callFunc e args).run Tryd.prog W = .ok (.enter e args) W
  ef : ∀ (args : Array Value) (W : World), (callFunc f args).run Tryd.prog W = .ok (.enter f args) W
  cs : ∀ W, Below w0.heap.size w0 W → ∀ k, k < P.n → Calls Tryd.prog s #[.int .i64 k, .pointer (some ⟨q.1, 0, none⟩)] W fun e W' => e = .returned (uv (P.start k)) ∧ ∃ d, W' = W.drewN d
  cj : ∀ W a b, Calls Tryd.prog j #[uv a, uv b] W fun e W' => e = .returned (uv (P.L.join a b)) ∧ ∃ d, W' = W.drewN d
  ce : ∀ W a b, Calls Tryd.prog e #[uv a, uv b] W fun e W' => e = .returned (.bool (decide (a = b))) ∧ ∃ d, W' = W.drewN d
  cf : ∀ W, Below w0.heap.size w0 W → ∀ k, k < P.n → ∀ x, Calls Tryd.prog f #[.int .i64 k, uv x, .pointer (some ⟨q.2, 0, none⟩)] W fun e W' => e = .returned (uv (P.flow k x)) ∧ ∃ d, W' = W.drewN d
theorem PM.setTy {W : World} {B g b o n : Nat} {t : TypeId} {f : Nat → Value} {vs : List Value} {L : List (List Int)} (h : PM W B g vs L) (hr : W.rowIs b t n f) (h3 : t ≠ 3) (h46 : t ≠ 46) (v : Value) : PM (W.setCell ⟨b, o, none⟩ v) B g vs L := by
  have K := setK W b o v
  exact ⟨h.len, K.owns h.row (fun c hc e => row_own hr h.row h46 (by rw [hc, e])), fun j h1 h2 => K.owns (h.el j h1 h2) (fun c hc e => row_own hr (h.el j h1 h2) h3 (by rw [hc, e])), h.ne, h.ng⟩
/-- The solver, with what it knows: In, Out, which places wait. -/
structure SM (c : Cn) (w0 w : World) (i o : Nat → Wd) (qs : Nat → Wd) (a : Nat) : Prop where
  below : Below w0.heap.size w0 w
  box : w.rowIs c.p 68 14 (c.cell a)
  ri : RowU w c.gi c.P.n i
  ro : RowU w c.go c.P.n o
  rq : RowU w c.gq (words c.P.n) qs
  ord : Own 3 1 icell w w0.heap.size c.ov (ints c.F)
  plc : RowI w c.gp c.P.n (fun k => (c.pl k : Int))
  suc : PM w w0.heap.size c.gs c.us c.I
  ge : w0.heap.size ≤ c.p ∧ w0.heap.size ≤ c.gi ∧ w0.heap.size ≤ c.go ∧ w0.heap.size ≤ c.gq
  ne : c.gi ≠ c.go ∧ c.gi ≠ c.gq ∧ c.go ≠ c.gq
  lt : ∀ x, x / 64 < words c.P.n → inQ qs x = true → x < c.P.n
  at_ : a ≤ 65536
namespace SM
variable {c : Cn} {w0 w : World} {i o qs : Nat → Wd} {a : Nat}
theorem on {w' : World} (h : SM c w0 w i o qs a) (hb : Below w.heap.size w w') : SM c w0 w' i o qs a :=
  ⟨below_on h.below hb h.below.size, h.box.of_block (hb.block _ h.box.lt), h.ri.on hb, h.ro.on hb, h.rq.on hb, (Kept.of_below (S := fun _ => False) hb).owns h.ord (fun _ _ e => e), h.plc.on hb, h.suc.on hb, h.ge, h.ne, h.lt, h.at_⟩
theorem drew (h : SM c w0 w i o qs a) (d : Nat) : SM c w0 (w.drewN d) i o qs a := h.on (bdrew (Below.refl _ _) d)
theorem rows (h : SM c w0 w i o qs a) : w.rowIs c.gi 29 c.P.n (fun j => uv (i j)) ∧ w.rowIs c.go 29 c.P.n (fun j => uv (o j)) ∧ w.rowIs c.gq 29 (words c.P.n) (fun j => uv (qs j)) ∧ w.rowIs c.gp 3 c.P.n (fun j => .int .i64 (c.pl j : Int)) := ⟨h.ri, h.ro, h.rq, h.plc⟩
theorem setI (h : SM c w0 w i o qs a) (k : Nat) (x : Wd) : SM c w0 (w.setCell ⟨c.gi, k, none⟩ (uv x)) (upd i k x) o qs a := by
  obtain ⟨r1, r2, r3, r4⟩ := h.rows
  have K := setK w c.gi k (uv x)
  exact ⟨h.below.setCell h.ge.2.1 _, h.box.setOther (row_ne h.box r1 (by decide)) _, h.ri.set k x, h.ro.other (Ne.symm h.ne.1), h.rq.other (Ne.symm h.ne.2.1), K.owns h.ord (fun b hb e => row_own r1 h.ord (by decide) (by rw [hb, e])), h.plc.other (row_ne r4 r1 (by decide)), h.suc.setTy r1 (by decide) (by decide) _, h.ge, h.ne, h.lt, h.at_⟩
theorem setO (h : SM c w0 w i o qs a) (k : Nat) (x : Wd) : SM c w0 (w.setCell ⟨c.go, k, none⟩ (uv x)) i (upd o k x) qs a := by
  obtain ⟨r1, r2, r3, r4⟩ := h.rows
  have K := setK w c.go k (uv x)
  exact ⟨h.below.setCell h.ge.2.2.1 _, h.box.setOther (row_ne h.box r2 (by decide)) _, h.ri.other h.ne.1, h.ro.set k x, h.rq.other (Ne.symm h.ne.2.2), K.owns h.ord (fun b hb e => row_own r2 h.ord (by decide) (by rw [hb, e])), h.plc.other (row_ne r4 r2 (by decide)), h.suc.setTy r2 (by decide) (by decide) _, h.ge, h.ne, h.lt, h.at_⟩
theorem setQ (h : SM c w0 w i o qs a) (k : Nat) (x : Wd) (hlt : ∀ y, y / 64 < words c.P.n → inQ (upd qs k x) y = true → y < c.P.n) : SM c w0 (w.setCell ⟨c.gq, k, none⟩ (uv x)) i o (upd qs k x) a := by
  obtain ⟨r1, r2, r3, r4⟩ := h.rows
  have K := setK w c.gq k (uv x)
  exact ⟨h.below.setCell h.ge.2.2.2 _, h.box.setOther (row_ne h.box r3 (by decide)) _, h.ri.other h.ne.2.1, h.ro.other h.ne.2.2, h.rq.set k x, K.owns h.ord (fun b hb e => row_own r3 h.ord (by decide) (by rw [hb, e])), h.plc.other (row_ne r4 r3 (by decide)), h.suc.setTy r3 (by decide) (by decide) _, h.ge, h.ne, hlt, h.at_⟩
theorem setA (h : SM c w0 w i o qs a) (x : Nat) (hx : x ≤ 65536) : SM c w0 (w.setCell ⟨c.p, 11, none⟩ (.int .i64 x)) i o qs x := by
  obtain ⟨r1, r2, r3, r4⟩ := h.rows
  have K := setK w c.p 11 (.int .i64 x)
  refine ⟨h.below.setCell h.ge.1 _, (h.box.set 11 _).congr (fun j hj => ?_), h.ri.other (row_ne r1 h.box (by decide)), h.ro.other (row_ne r2 h.box (by decide)), h.rq.other (row_ne r3 h.box (by decide)), K.owns h.ord (fun b hb e => row_own h.box h.ord (by decide) (by rw [hb, e])), h.plc.other (row_ne r4 h.box (by decide)), h.suc.setTy h.box (by decide) (by decide) _, h.ge, h.ne, h.lt, hx⟩
  match j, hj with
  | 0, _ => rfl
  | 1, _ => rfl
  | 2, _ => rfl
  | 3, _ => rfl
  | 4, _ => rfl
  | 5, _ => rfl
  | 6, _ => rfl
  | 7, _ => rfl
  | 8, _ => rfl
  | 9, _ => rfl
  | 10, _ => rfl
  | 11, _ => rfl
  | 12, _ => rfl
  | 13, _ => rfl
/-- A place is added to those that wait. -/
theorem addQ (h : SM c w0 w i o qs a) {k : Nat} (hk : k < c.P.n) : SM c w0 (w.setCell ⟨c.gq, k / 64, none⟩ (uv (qs (k / 64) ||| bitW k))) i o (upd qs (k / 64) (qs (k / 64) ||| bitW k)) a :=
  h.setQ _ _ (fun y hy hq => by
    rw [inQ_add] at hq
    rcases Bool.or_eq_true_iff.1 hq with hq | hq
    · have := of_decide_eq_true hq; omega
    · exact h.lt y hy hq)
theorem delQ (h : SM c w0 w i o qs a) (k : Nat) : SM c w0 (w.setCell ⟨c.gq, k / 64, none⟩ (uv (qs (k / 64) &&& ~~~bitW k))) i o (upd qs (k / 64) (qs (k / 64) &&& ~~~bitW k)) a :=
  h.setQ _ _ (fun y hy hq => by
    rw [inQ_del] at hq
    exact h.lt y hy (Bool.and_eq_true_iff.1 hq).2)
theorem cellAt (h : SM c w0 w i o qs a) (k : Nat) (hk : k < 14) : w.cell? ⟨c.p, k, none⟩ = some (c.cell a k) := h.box.cell hk
theorem qu (h : SM c w0 w i o qs a) : QuM w c.p 10 c.gq c.P.n (a : Int) qs :=
  ⟨h.rq, h.cellAt 10 (by omega), h.cellAt 11 (by omega), h.box.frozen 11, row_ne h.box h.rows.2.2.1 (by decide)⟩
end SM
end Go.Proofs.YtjhndnhldhmjnaaDoor
