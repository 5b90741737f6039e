/- What the document's machine is in a world: a block of 32 cells, its memory, its row of what was put. -/
import Derived.Test.YtimbnlcegcmfiaaNew
namespace Go.Proofs.Ytimbnlcegcmfiaa
open Go.RowKit
set_option linter.unusedVariables false

/-- The cells of the document's machine. -/
def rcells (m : Im) (q : Nat) (sl : Value) (s : St) (i : Nat) : Value :=
  if i = 0 then .string s.code else if i = 1 then .string m.data else if i = 2 then .int .i64 m.global
  else if i = 3 then .int .i64 m.entry else if i = 4 then .int .i64 m.frame else if i = 5 then .string s.input
  else if i = 6 then .pointer (some ⟨q, 0, none⟩) else if i = 23 then .int .i64 s.pc else if i = 24 then .bool (!decide (s.kind = 3))
  else if i = 25 then .int .i64 (if s.kind = 3 then 0 else s.kind) else if i = 26 then .int .i32 s.exit else if i = 27 then .int .i64 s.trap
  else if i = 28 then .string ⟨#[]⟩ else if i = 29 then .int .i64 0 else if i = 30 then sl else if i = 31 then .int .i64 s.used
  else .int .u32 (s.reg (i - 7))

theorem rcells_reg (m : Im) (q : Nat) (sl : Value) (s : St) (k : Nat) (h : k < 16) : rcells m q sl s (7 + k) = .int .u32 (s.reg k) := by
  unfold rcells
  rw [if_neg (by omega), if_neg (by omega), if_neg (by omega), if_neg (by omega), if_neg (by omega), if_neg (by omega), if_neg (by omega), if_neg (by omega), if_neg (by omega), if_neg (by omega), if_neg (by omega), if_neg (by omega), if_neg (by omega), if_neg (by omega), if_neg (by omega), if_neg (by omega), Nat.add_sub_cancel_left]

/-- The document's machine, in a state. -/
structure IsR (w : World) (m : Im) (N p q r : Nat) (sl : Value) (s : St) : Prop where
  row : w.rowIs p 41 32 (rcells m q sl s)
  mem : IsMem w 50 q r 262144 s.mem
  own : w.ownsRow N 5 1 sl s.out.length (vals s.out)
  hp : p < N
  hq : q < N
  hr : r < N
  hN : N ≤ w.heap.size
  pq : p ≠ q
  pr : p ≠ r

section
variable {w w' : World} {m : Im} {N p q r : Nat} {sl : Value} {s : St}
theorem IsR.reg (h : IsR w m N p q r sl s) (k : Nat) (hk : k < 16) : w.cell? ⟨p, 7 + k, none⟩ = some (.int .u32 (s.reg k)) := by rw [h.row.cell (by omega), rcells_reg m q sl s k hk]
theorem IsR.free (h : IsR w m N p q r sl s) (i : Nat) : w.frozen? ⟨p, i, none⟩ = false := h.row.frozen i
theorem IsR.plt (h : IsR w m N p q r sl s) : p < w.heap.size := h.row.lt
theorem IsR.c0 (h : IsR w m N p q r sl s) : w.cell? ⟨p, 0, none⟩ = some (.string s.code) := h.row.cell (by omega)
theorem IsR.c5 (h : IsR w m N p q r sl s) : w.cell? ⟨p, 5, none⟩ = some (.string s.input) := h.row.cell (by omega)
theorem IsR.c6 (h : IsR w m N p q r sl s) : w.cell? ⟨p, 6, none⟩ = some (.pointer (some ⟨q, 0, none⟩)) := h.row.cell (by omega)
theorem IsR.c23 (h : IsR w m N p q r sl s) : w.cell? ⟨p, 23, none⟩ = some (.int .i64 s.pc) := h.row.cell (by omega)
theorem IsR.c24 (h : IsR w m N p q r sl s) : w.cell? ⟨p, 24, none⟩ = some (.bool (!decide (s.kind = 3))) := h.row.cell (by omega)
theorem IsR.c25 (h : IsR w m N p q r sl s) : w.cell? ⟨p, 25, none⟩ = some (.int .i64 (if s.kind = 3 then 0 else s.kind)) := h.row.cell (by omega)
theorem IsR.c26 (h : IsR w m N p q r sl s) : w.cell? ⟨p, 26, none⟩ = some (.int .i32 s.exit) := h.row.cell (by omega)
theorem IsR.c27 (h : IsR w m N p q r sl s) : w.cell? ⟨p, 27, none⟩ = some (.int .i64 s.trap) := h.row.cell (by omega)
theorem IsR.c28 (h : IsR w m N p q r sl s) : w.cell? ⟨p, 28, none⟩ = some (.string ⟨#[]⟩) := h.row.cell (by omega)
theorem IsR.c29 (h : IsR w m N p q r sl s) : w.cell? ⟨p, 29, none⟩ = some (.int .i64 0) := h.row.cell (by omega)
theorem IsR.c30 (h : IsR w m N p q r sl s) : w.cell? ⟨p, 30, none⟩ = some sl := h.row.cell (by omega)
theorem IsR.c31 (h : IsR w m N p q r sl s) : w.cell? ⟨p, 31, none⟩ = some (.int .i64 s.used) := h.row.cell (by omega)

/-- The machine in a later world that has left its blocks alone. -/
theorem IsR.keep {S : Nat → Prop} (h : IsR w m N p q r sl s) (k : Kept S w w') (h1 : ¬ S p) (h2 : ¬ S q) (h3 : ¬ S r) (h4 : ∀ o, sl.ownBlock = some o → ¬ S o) : IsR w' m N p q r sl s := by
  refine ⟨h.row.of_block (k.block p h.plt h1), ⟨(k.block q h.mem.plt h2).trans h.mem.head, h.mem.row.of_block (k.block r h.mem.rlt h3), h.mem.ne, h.mem.lo, h.mem.hi⟩, ?_, h.hp, h.hq, h.hr, Nat.le_trans h.hN k.size, h.pq, h.pr⟩
  obtain ⟨hl, h'⟩ := h.own
  refine ⟨hl, ?_⟩
  rcases h' with h' | ⟨g, cap, cur, hv, hg, hb, hr⟩
  · exact .inl h'
  · have hgl : g < w.heap.size := (Array.getElem?_eq_some_iff.1 hb).1
    exact .inr ⟨g, cap, cur, hv, hg, (k.block g hgl (h4 g (by rw [hv]; rfl))).trans hb, hr⟩
theorem IsR.below (h : IsR w m N p q r sl s) (k : Below w.heap.size w w') : IsR w' m N p q r sl s :=
  h.keep (S := fun _ => False) (Kept.of_below k) (fun e => e) (fun e => e) (fun e => e) (fun _ _ e => e)
theorem IsR.alloc (h : IsR w m N p q r sl s) (o : Obj) : IsR (w.alloc o) m N p q r sl s := h.below ((Below.refl _ _).alloc (Nat.le_refl _) _)
theorem IsR.drew (h : IsR w m N p q r sl s) : IsR w.drew m N p q r sl s := h.below (Below.refl _ _).drew

theorem IsR.ownSet (h : IsR w m N p q r sl s) {a : Addr} (ha : a.block < N) (v : Value) : (w.setCell a v).ownsRow N 5 1 sl s.out.length (vals s.out) :=
  h.own.kept (row := some a.block) ⟨rfl, rfl, rfl, by simp [World.setCell], fun k _ hk => Below.heap_setCell _ _ _ _ (fun e => hk (by simp [e]))⟩ (by
    cases e : sl.ownBlock with
    | none => exact .inl rfl
    | some k => exact .inr (by have := (h.own.lt k e).1; simp; omega))

/-- The machine but for its block's cells: what stays when one of them is turned. -/
structure Rest (w : World) (N p q r : Nat) (sl : Value) (s : St) : Prop where
  mem : IsMem w 50 q r 262144 s.mem
  own : w.ownsRow N 5 1 sl s.out.length (vals s.out)
  hp : p < N
  hq : q < N
  hr : r < N
  hN : N ≤ w.heap.size
  pq : p ≠ q
  pr : p ≠ r
theorem IsR.rest (h : IsR w m N p q r sl s) : Rest w N p q r sl s := ⟨h.mem, h.own, h.hp, h.hq, h.hr, h.hN, h.pq, h.pr⟩
theorem Rest.set (h : Rest w N p q r sl s) (i : Nat) (v : Value) : Rest (w.setCell ⟨p, i, none⟩ v) N p q r sl s :=
  ⟨⟨(Below.heap_setCell _ _ _ _ (fun e => h.pq e.symm)).trans h.mem.head, h.mem.row.setOther (fun e => h.pr e.symm) v, h.mem.ne, h.mem.lo, h.mem.hi⟩,
    h.own.kept (row := some p) ⟨rfl, rfl, rfl, by simp [World.setCell], fun k _ hk => Below.heap_setCell _ _ _ _ (fun e => hk (by simp [e]))⟩ (by
      cases e : sl.ownBlock with
      | none => exact .inl rfl
      | some k => exact .inr (by have := (h.own.lt k e).1; have := h.hp; simp; omega)), h.hp, h.hq, h.hr, by have := h.hN; simp [World.setCell]; omega, h.pq, h.pr⟩
theorem Rest.is {s' : St} {f : Nat → Value} (h : Rest w N p q r sl s) (hm : s'.mem = s.mem) (ho : s'.out = s.out) (hrow : w.rowIs p 41 32 f) (hv : ∀ j, j < 32 → f j = rcells m q sl s' j) : IsR w m N p q r sl s' :=
  ⟨hrow.congr hv, by rw [hm]; exact h.mem, by rw [ho]; exact h.own, h.hp, h.hq, h.hr, h.hN, h.pq, h.pr⟩

theorem IsR.setReg (h : IsR w m N p q r sl s) (d : Nat) (hd : d < 16) (x : Int) : IsR (w.setCell ⟨p, 7 + d, none⟩ (.int .u32 x)) m N p q r sl { s with reg := upd s.reg d x } := by
  refine (h.rest.set _ _).is rfl rfl (h.row.set (7 + d) (.int .u32 x)) (fun j hj => ?_)
  by_cases e : j = 7 + d
  · subst e
    rw [if_pos rfl, rcells_reg _ _ _ _ _ hd]
    simp [upd]
  · rw [if_neg e]
    unfold rcells
    by_cases e2 : j - 7 = d
    · have h6 : j = 0 ∨ j = 1 ∨ j = 2 ∨ j = 3 ∨ j = 4 ∨ j = 5 ∨ j = 6 := by omega
      rcases h6 with rfl | rfl | rfl | rfl | rfl | rfl | rfl <;> simp
    · simp [upd, e2]
theorem IsR.setPc (h : IsR w m N p q r sl s) (x : Int) : IsR (w.setCell ⟨p, 23, none⟩ (.int .i64 x)) m N p q r sl { s with pc := x } := by
  refine (h.rest.set _ _).is rfl rfl (h.row.set 23 (.int .i64 x)) (fun j hj => ?_)
  by_cases e : j = 23
  · subst e; simp [rcells]
  · simp [rcells, e]
theorem IsR.setUsed (h : IsR w m N p q r sl s) (x : Nat) : IsR (w.setCell ⟨p, 31, none⟩ (.int .i64 x)) m N p q r sl { s with used := x } := by
  refine (h.rest.set _ _).is rfl rfl (h.row.set 31 (.int .i64 x)) (fun j hj => ?_)
  by_cases e : j = 31
  · subst e; simp [rcells]
  · simp [rcells, e]
/-- The end: Over, and Fin. -/
theorem IsR.setFin (h : IsR w m N p q r sl s) (k x t : Int) (hk : ¬ k = 3) :
    IsR ((((((w.setCell ⟨p, 24, none⟩ (.bool true)).setCell ⟨p, 25, none⟩ (.int .i64 k)).setCell ⟨p, 26, none⟩ (.int .i32 x)).setCell ⟨p, 27, none⟩ (.int .i64 t)).setCell ⟨p, 28, none⟩ (.string ⟨#[]⟩)).setCell ⟨p, 29, none⟩ (.int .i64 0)) m N p q r sl { s with kind := k, exit := x, trap := t } := by
  refine ((((((h.rest.set 24 _).set 25 _).set 26 _).set 27 _).set 28 _).set 29 _).is rfl rfl ((((((h.row.set 24 _).set 25 _).set 26 _).set 27 _).set 28 _).set 29 _) (fun j hj => ?_)
  by_cases e24 : j = 24
  · subst e24; simp [rcells, hk]
  by_cases e25 : j = 25
  · subst e25; simp [rcells, hk]
  by_cases e26 : j = 26
  · subst e26; simp [rcells]
  by_cases e27 : j = 27
  · subst e27; simp [rcells]
  by_cases e28 : j = 28
  · subst e28; simp [rcells]
  by_cases e29 : j = 29
  · subst e29; simp [rcells]
  simp [rcells, e24, e25, e26, e27, e28, e29]
/-- The memory's row is turned. -/
theorem IsR.setMem {g : Nat → UInt8} (h : IsR w m N p q r sl s) (hm : IsMem w' 50 q r 262144 g) (ho : Only r w w') : IsR w' m N p q r sl { s with mem := g } := by
  refine ⟨h.row.of_block (ho.block p h.plt (by simp [h.pr])), hm, ?_, h.hp, h.hq, h.hr, Nat.le_trans h.hN ho.size, h.pq, h.pr⟩
  refine h.own.kept ho ?_
  cases e : sl.ownBlock with
  | none => exact .inl rfl
  | some k => exact .inr (by have := (h.own.lt k e).1; have := h.hr; simp; omega)
/-- What was put has one byte more. -/
theorem IsR.setOut {sl' : Value} {b : UInt8} (h : IsR w m N p q r sl s) (hg : w.grownBy w' sl.ownBlock) (hown : w'.ownsRow N 5 1 sl' (s.out.length + 1) (vals s.out ++ [.int .u8 (b.toNat : Int)])) :
    IsR (w'.setCell ⟨p, 30, none⟩ sl') m N p q r sl' { s with out := s.out ++ [b] } := by
  have ob : ∀ k, k < N → some k ≠ sl.ownBlock := by
    intro k hk e
    have := (h.own.lt k e.symm).1
    omega
  have hrow : w'.rowIs p 41 32 (rcells m q sl s) := h.row.of_block (hg.block p h.plt (ob p h.hp))
  refine ⟨(hrow.set 30 sl').congr (fun j hj => ?_), ?_, ?_, h.hp, h.hq, h.hr, by have := h.hN; have := hg.size; simp [World.setCell]; omega, h.pq, h.pr⟩
  · by_cases e : j = 30
    · subst e; simp [rcells]
    · simp [rcells, e]
  · exact ⟨(Below.heap_setCell _ _ _ _ (fun e => h.pq e.symm)).trans ((hg.block q h.mem.plt (ob q h.hq)).trans h.mem.head), (h.mem.row.of_block (hg.block r h.mem.rlt (ob r h.hr))).setOther (fun e => h.pr e.symm) _, h.mem.ne, h.mem.lo, h.mem.hi⟩
  · have hl : (s.out ++ [b]).length = s.out.length + 1 := by simp
    have hv : vals (s.out ++ [b]) = vals s.out ++ [.int .u8 (b.toNat : Int)] := by simp [vals]
    show (w'.setCell ⟨p, 30, none⟩ sl').ownsRow N 5 1 sl' (s.out ++ [b]).length (vals (s.out ++ [b]))
    rw [hl, hv]
    exact hown.kept (row := some p) ⟨rfl, rfl, rfl, by simp [World.setCell], fun k _ hk => Below.heap_setCell _ _ _ _ (fun e => hk (by simp [e]))⟩ (by
      cases e : sl'.ownBlock with
      | none => exact .inl rfl
      | some k => exact .inr (by have := (hown.lt k e).1; have := h.hp; simp; omega))
theorem IsR.grown {w' : World} (h : IsR w m N p q r sl s) (hg : w.grownBy w' sl.ownBlock) : (∀ i, i < 32 → w'.cell? ⟨p, i, none⟩ = some (rcells m q sl s i)) ∧ (∀ i, w'.frozen? ⟨p, i, none⟩ = false) := by
  have ob : some p ≠ sl.ownBlock := by
    intro e
    have := (h.own.lt p e.symm).1
    have := h.hp
    omega
  have hrow : w'.rowIs p 41 32 (rcells m q sl s) := h.row.of_block (hg.block p h.plt ob)
  exact ⟨fun i hi => hrow.cell hi, fun i => hrow.frozen i⟩
theorem rmine_new (h : IsR w m N p q r sl s) : ¬ Mine p r sl w.heap.size := by
  rintro (e | e | e)
  · have := h.plt; omega
  · have := h.mem.rlt; omega
  · have := (h.own.lt _ e).2; omega

theorem trap36 (h : IsR w m N p q r sl s) (hx : s.exit = 0) (k : Int) :
    Calls Try.prog 36 #[.pointer (some ⟨p, 0, none⟩), .int .i64 k] w fun e w' => e = .returned (.tuple #[]) ∧ IsR w' m N p q r sl (trapS s k) ∧ Kept (Mine p r sl) w w' := by
  have f24 := h.free 24
  have f25 := h.free 25
  have f26 := h.free 26
  have f27 := h.free 27
  have f28 := h.free 28
  have f29 := h.free 29
  have c24 := h.c24
  have c25 := h.c25
  have c26 := h.c26
  have c27 := h.c27
  have c28 := h.c28
  have c29 := h.c29
  have H := h.setFin 2 0 k (by decide)
  have e : ({ s with kind := 2, exit := 0, trap := k } : St) = trapS s k := by unfold trapS; rw [hx]
  rw [e] at H
  have H' : Hid _ := H
  clear H h
  go_enter Try.func36, Try.ntmps36
  go_wp2
  go_end0
  exact ⟨rfl, H'.out, ((((((Kept.rfl _ w).set (.inl (mine_p p r sl)) _).set (.inl (mine_p p r sl)) _).set (.inl (mine_p p r sl)) _).set (.inl (mine_p p r sl)) _).set (.inl (mine_p p r sl)) _).set (.inl (mine_p p r sl)) _⟩

theorem set39_zero (x : Int) (w : World) (v : Value) :
    Calls Try.prog 39 #[v, .int .i64 0, .int .u32 x] w fun e w' => e = .returned (.tuple #[]) ∧ w' = w := by
  go_enter Try.func39, Try.ntmps39
  go_wp2
  go_end0
  exact ⟨rfl, rfl⟩

theorem set39_some (h : IsR w m N p q r sl s) (d : Nat) (hd : d < 16) (hz : ¬ d = 0) (x : Int) :
    Calls Try.prog 39 #[.pointer (some ⟨p, 0, none⟩), .int .i64 (d : Int), .int .u32 x] w fun e w' => e = .returned (.tuple #[]) ∧ IsR w' m N p q r sl { s with reg := upd s.reg d x } ∧ Kept (Mine p r sl) w w' := by
  have hc := h.reg d hd
  have hf := h.free (7 + d)
  have hz' : ¬ (d : Int) = 0 := by omega
  go_enter Try.func39, Try.ntmps39
  go_wp2
  go_end0
  exact ⟨rfl, h.setReg d hd x, (Kept.rfl _ w).set (.inl (mine_p p r sl)) _⟩

theorem set39 (h : IsR w m N p q r sl s) (d : Nat) (hd : d < 16) (x : Int) :
    Calls Try.prog 39 #[.pointer (some ⟨p, 0, none⟩), .int .i64 (d : Int), .int .u32 x] w fun e w' => e = .returned (.tuple #[]) ∧ IsR w' m N p q r sl { s with reg := wr s.reg d x } ∧ Kept (Mine p r sl) w w' := by
  by_cases hz : d = 0
  · subst hz
    refine (set39_zero x w _).mono ?_
    rintro e w' ⟨rfl, rfl⟩
    exact ⟨rfl, h, Kept.rfl _ _⟩
  · refine (set39_some h d hd hz x).mono ?_
    rintro e w' ⟨rfl, h1, h2⟩
    refine ⟨rfl, ?_, h2⟩
    simpa [wr, hz] using h1
end
end Go.Proofs.Ytimbnlcegcmfiaa
