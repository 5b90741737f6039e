/- A run in memory. -/
import Derived.Test.YtiehlkhpblldaaaLsts
import Derived.Test.YtiehlkhpblldaaaPm
import Derived.WalkSmall
namespace Go.Proofs.Ytiehlkhpblldaaa
open Go.RowKit Go.Maps
set_option linter.unusedVariables false
set_option linter.unusedSimpArgs false

/-- A register: its value, and the call that gave it. -/
structure Rg where
  v : Int
  o : Int
def Rg.cells (x : Rg) : List Value := [.int .u32 x.v, .int .i64 x.o]
/-- A call under way. -/
structure Cl where
  no : Int
  fn : Nat
  sl : Int
  hd : Nat
  bk : Nat
  nx : Nat
def Cl.cells (x : Cl) : List Value := [.int .i64 x.no, .int .i64 x.fn, .int .u32 x.sl, .int .i64 x.hd, .int .i64 x.bk, .int .i64 x.nx]
/-- What a register was. -/
structure Hd where
  fn : Nat
  ix : Nat
  was : Rg
def Hd.cells (bb : Nat → Nat) (x : Hd) : List Value := [.pointer (some ⟨bb x.fn, x.ix * 2, none⟩), .int .u32 x.was.v, .int .i64 x.was.o]
def bcel (n : Int) : List Value := [.int .u8 n]
def ucel (n : Int) : List Value := [.int .u32 n]
theorem rg2 (x : Rg) : (Rg.cells x).length = 2 := rfl
theorem cl6 (x : Cl) : (Cl.cells x).length = 6 := rfl
theorem hd3 (bb : Nat → Nat) (x : Hd) : (Hd.cells bb x).length = 3 := rfl
theorem by1 (x : Int) : (bcel x).length = 1 := rfl
theorem uc1 (x : Int) : (ucel x).length = 1 := rfl
/-- What never turns. -/
structure Cst where
  p : Pg
  input : ByteArray
  deep : Int
  sf : Int
  sa : Int
  sv : Value
  sl : List Int
  room : Option (Nat × Array Value)
/-- What turns. -/
structure St where
  banks : List (Option (List Rg))
  hidden : List Hd
  gl : List Int
  sk : List Int
  low : Int
  calls : List Cl
  begun : Int
  ch : List Int
  out : List Int
  fuel : Int
  times : Int
  kind : Int
  code : Int
  trap : Int
  used : Nat
/-- Where its lists lie. -/
structure Vs where
  bv : Value
  hv : Value
  gv : Value
  kv : Value
  cv : Value
  xv : Value
  ov : Value
  bb : Nat → Nat
/-- What the run holds of the innermost call. -/
structure Tp where
  t : Value
  f : Value
  b : Value
def bankV (bb : Nat → Nat) (i : Nat) : Option (List Rg) → Value
  | none => .slice none 0 0
  | some l => .slice (some ⟨bb i, 0, none⟩) l.length l.length
def rcells (C : Cst) (s : St) (x : Vs) (t : Tp) : Array Value :=
  #[C.p.fv, .int .i64 C.p.global, C.p.dv, .int .i64 C.p.main, x.bv, x.hv, x.gv, x.kv, .int .i64 s.low, x.cv, .int .i64 s.begun, t.t, t.f, t.b, x.xv, .string C.input, x.ov, .int .i64 s.fuel, .int .i64 C.deep, .int .i64 C.sf, .int .i64 C.sa, C.sv, .int .i64 s.times, .int .i64 s.kind, .int .i32 s.code, .int .i64 s.trap, .string ⟨#[]⟩, .int .i64 s.used]
/-- Its lists. -/
structure RowsM (C : Cst) (W0 W : World) (s : St) (x : Vs) : Prop where
  below : Below W0.heap.size W0 W
  pg : Pg.ok W0 C.p
  sv : Src icell W0 C.sv C.sl
  svl : C.sl.length * 8 ≤ big
  bs : W.ownsRow W0.heap.size 69 1 x.bv s.banks.length (s.banks.mapIdx (bankV x.bb))
  bk : ∀ i l, s.banks[i]? = some (some l) → W.ownsRow W0.heap.size 109 2 (.slice (some ⟨x.bb i, 0, none⟩) l.length l.length) l.length (flat Rg.cells l)
  bi : ∀ i j l m, s.banks[i]? = some (some l) → s.banks[j]? = some (some m) → x.bb i = x.bb j → i = j
  hs : W.ownsRow W0.heap.size 111 3 x.hv s.hidden.length (flat (Hd.cells x.bb) s.hidden)
  gs : W.ownsRow W0.heap.size 5 1 x.gv s.gl.length (flat bcel s.gl)
  ks : W.ownsRow W0.heap.size 5 1 x.kv s.sk.length (flat bcel s.sk)
  os : W.ownsRow W0.heap.size 5 1 x.ov s.out.length (flat bcel s.out)
  gk : ∀ b, x.gv.ownBlock = some b → x.kv.ownBlock ≠ some b
  go : ∀ b, x.gv.ownBlock = some b → x.ov.ownBlock ≠ some b
  ko : ∀ b, x.kv.ownBlock = some b → x.ov.ownBlock ≠ some b
  cs : W.ownsRow W0.heap.size 86 6 x.cv s.calls.length (flat Cl.cells s.calls)
  xs : W.ownsRow W0.heap.size 79 1 x.xv s.ch.length (flat ucel s.ch)
  rm : ∀ g cs, C.room = some (g, cs) → W.heap[g]? = some (.cells cs 134 (0, 0))
/-- The run, in block r. -/
structure RunM (C : Cst) (W0 : World) (r : Nat) (W : World) (s : St) (x : Vs) (t : Tp) : Prop where
  rows : RowsM C W0 W s x
  rr : W0.heap.size ≤ r
  rc : W.heap[r]? = some (.cells (rcells C s x t) 72 (0, 0))

theorem own_block {W : World} {B : Nat} {e : TypeId} {z n : Nat} {v : Value} {xs : List Value} (h : W.ownsRow B e z v n xs) {b : Nat} (hb : v.ownBlock = some b) : ∃ cur, W.heap[b]? = some (.cells cur e (0, 0)) := by
  rcases h.2 with ⟨rfl, _⟩ | ⟨g, cap, cur, rfl, _, hh, _⟩
  · cases hb
  · injection hb with hb
    subst hb
    exact ⟨cur, hh⟩
/-- A row of another type stands. -/
theorem own_ty {W W' : World} {B : Nat} {e T : TypeId} {z n b : Nat} {v : Value} {xs : List Value} {cur : Array Value} {fr : Nat × Nat} (h : W.ownsRow B e z v n xs) (hb : W.heap[b]? = some (.cells cur T fr)) (hT : e ≠ T) (K : Kept (fun k => k = b) W W') : W'.ownsRow B e z v n xs :=
  K.owns h (fun g hg e2 => by
    subst e2
    obtain ⟨c, hc⟩ := own_block h hg
    rw [hc] at hb
    injection hb with hb
    injection hb with _ h2
    exact hT h2)
theorem setK (W : World) (b o : Nat) (v : Value) : Kept (fun k => k = b) W (W.setCell ⟨b, o, none⟩ v) := by refine Kept.set (Kept.rfl _ _) (.inl ?_) v; rfl

/-- A block of another type stands. -/
theorem blk_ty {W W' : World} {g b : Nat} {cs cur : Array Value} {T : TypeId} {fr : Nat × Nat} (h : W.heap[g]? = some (.cells cs 134 (0, 0))) (hb : W.heap[b]? = some (.cells cur T fr)) (hT : 134 ≠ T) (K : Kept (fun k => k = b) W W') : W'.heap[g]? = some (.cells cs 134 (0, 0)) := by
  refine (K.block g (Array.getElem?_eq_some_iff.1 h).1 (fun e => ?_)).trans h
  subst e
  rw [h] at hb
  injection hb with hb
  injection hb with _ h2
  exact hT h2
section
variable {C : Cst} {W0 W W' : World} {r : Nat} {s s' : St} {x : Vs} {t : Tp}
/-- Rows behind a change of a block that is none of theirs. -/
theorem RowsM.turn (h : RowsM C W0 W s x) {b : Nat} {cur : Array Value} {T : TypeId} {fr : Nat × Nat} (hb : W.heap[b]? = some (.cells cur T fr)) (hB : W0.heap.size ≤ b) (hT : T ≠ 69 ∧ T ≠ 109 ∧ T ≠ 111 ∧ T ≠ 5 ∧ T ≠ 86 ∧ T ≠ 79 ∧ 134 ≠ T) (K : Kept (fun k => k = b) W W') : RowsM C W0 W' s x :=
  { h with
    below := h.below.trans (K.below h.below.size (fun k e => by omega))
    bs := own_ty h.bs hb (Ne.symm hT.1) K
    bk := fun i l hi => own_ty (h.bk i l hi) hb (Ne.symm hT.2.1) K
    hs := own_ty h.hs hb (Ne.symm hT.2.2.1) K
    gs := own_ty h.gs hb (Ne.symm hT.2.2.2.1) K
    ks := own_ty h.ks hb (Ne.symm hT.2.2.2.1) K
    os := own_ty h.os hb (Ne.symm hT.2.2.2.1) K
    cs := own_ty h.cs hb (Ne.symm hT.2.2.2.2.1) K
    xs := own_ty h.xs hb (Ne.symm hT.2.2.2.2.2.1) K
    rm := fun g cs hg => blk_ty (h.rm g cs hg) hb hT.2.2.2.2.2.2 K }
theorem RowsM.on (h : RowsM C W0 W s x) (hb : Below W.heap.size W W') : RowsM C W0 W' s x :=
  have K : Kept (fun _ => False) W W' := Kept.of_below hb
  have f : ∀ b : Nat, ∀ _ : True, ¬ False := fun _ _ e => e
  { h with
    below := below_on h.below hb h.below.size
    bs := K.owns h.bs (fun _ _ e => e)
    bk := fun i l hi => K.owns (h.bk i l hi) (fun _ _ e => e)
    hs := K.owns h.hs (fun _ _ e => e)
    gs := K.owns h.gs (fun _ _ e => e)
    ks := K.owns h.ks (fun _ _ e => e)
    os := K.owns h.os (fun _ _ e => e)
    cs := K.owns h.cs (fun _ _ e => e)
    xs := K.owns h.xs (fun _ _ e => e)
    rm := fun g cs hg => by rw [hb.block g (Array.getElem?_eq_some_iff.1 (h.rm g cs hg)).1]; exact h.rm g cs hg }
theorem RunM.lt (h : RunM C W0 r W s x t) : r < W.heap.size := (Array.getElem?_eq_some_iff.1 h.rc).1
theorem RunM.on (h : RunM C W0 r W s x t) (hb : Below W.heap.size W W') : RunM C W0 r W' s x t :=
  ⟨h.rows.on hb, h.rr, by rw [hb.block r h.lt]; exact h.rc⟩
theorem drewB (W : World) (n : Nat) : Below W.heap.size W (W.drewN n) := ⟨rfl, rfl, rfl, Nat.le_refl _, fun _ _ => rfl⟩
theorem RunM.drewN (h : RunM C W0 r W s x t) (n : Nat) : RunM C W0 r (W.drewN n) s x t := h.on (drewB W n)
theorem RunM.cell (h : RunM C W0 r W s x t) (j : Nat) : W.cell? ⟨r, j, none⟩ = (rcells C s x t)[j]? := by
  rw [cell_of_row W r j _ 72 (0, 0) h.rc]
theorem RunM.fro (h : RunM C W0 r W s x t) (j : Nat) : W.frozen? ⟨r, j, none⟩ = false := frozen_of_row W r j _ 72 h.rc
/-- A cell of the run's own turns, and no list. -/
theorem RunM.put (h : RunM C W0 r W s x t) (j : Nat) (u : Value) {t' : Tp} (hs : (s'.banks, s'.hidden, s'.gl, s'.sk, s'.out, s'.calls, s'.ch) = (s.banks, s.hidden, s.gl, s.sk, s.out, s.calls, s.ch)) (e : rcells C s' x t' = (rcells C s x t).setIfInBounds j u) : RunM C W0 r (W.setCell ⟨r, j, none⟩ u) s' x t' := by
  simp only [Prod.mk.injEq] at hs
  obtain ⟨e1, e2, e3, e4, e5, e6, e7⟩ := hs
  have h1 := h.rows.turn h.rc h.rr (by decide) (setK W r j u)
  refine ⟨?_, h.rr, by rw [e]; exact heap_setCell_same W r j _ 72 u h.rc⟩
  exact { below := h1.below, pg := h1.pg, sv := h1.sv, svl := h1.svl, bs := by rw [e1]; exact h1.bs, bk := by rw [e1]; exact h1.bk, bi := by rw [e1]; exact h1.bi, hs := by rw [e2]; exact h1.hs, gs := by rw [e3]; exact h1.gs, ks := by rw [e4]; exact h1.ks, os := by rw [e5]; exact h1.os, gk := h1.gk, go := h1.go, ko := h1.ko, cs := by rw [e6]; exact h1.cs, xs := by rw [e7]; exact h1.xs, rm := h1.rm }
end
end Go.Proofs.Ytiehlkhpblldaaa
