/- What a machine is in a world: a block of 26 cells, its memory, its row of what was put; and what becomes of it when a part is turned. -/
import Derived.Test.YtimbnlcegcmfiaaMLay
import Derived.Laws.AppendOwn
import Derived.Deep.RegionLaw
namespace Go.Proofs.Ytimbnlcegcmfiaa
open Go.RowKit
set_option linter.unusedVariables false

/-- A machine's state. -/
structure St where
  code : ByteArray
  input : ByteArray
  pc : Int
  reg : Nat → Int
  mem : Nat → UInt8
  out : List UInt8
  kind : Int
  exit : Int
  trap : Int
  used : Nat

/-- Bytes as cells. -/
def vals (l : List UInt8) : List Value := l.map fun x => Value.int .u8 (x.toNat : Int)
theorem vals_length (l : List UInt8) : (vals l).length = l.length := by simp [vals]
theorem vals_append (l m : List UInt8) : vals (l ++ m) = vals l ++ vals m := by simp [vals]

/-- A function with one place turned. -/
def upd {α : Type} (f : Nat → α) (k : Nat) (x : α) : Nat → α := fun i => if i = k then x else f i

/-- The cells of the program's machine. -/
def mcells (q : Nat) (sl : Value) (s : St) (i : Nat) : Value :=
  if i = 0 then .string s.code else if i = 1 then .string s.input else if i = 2 then .int .i64 s.pc
  else if i = 19 then .pointer (some ⟨q, 0, none⟩) else if i = 20 then sl
  else if i = 21 then .int .i64 s.kind else if i = 22 then .int .i32 s.exit else if i = 23 then .int .i64 s.trap
  else if i = 24 then .string ⟨#[]⟩ else if i = 25 then .int .i64 s.used
  else .int .u32 (s.reg (i - 3))

theorem mcells_reg (q : Nat) (sl : Value) (s : St) (k : Nat) (h : k < 16) : mcells q sl s (3 + k) = .int .u32 (s.reg k) := by
  unfold mcells
  rw [if_neg (by omega), if_neg (by omega), if_neg (by omega), if_neg (by omega), if_neg (by omega), if_neg (by omega), if_neg (by omega), if_neg (by omega), if_neg (by omega), if_neg (by omega), Nat.add_sub_cancel_left]

/-- All that has been there is as it was, but what S names. -/
structure Kept (S : Nat → Prop) (w w' : World) : Prop where
  os : w'.os = w.os
  tape : w'.tape = w.tape
  output : w'.output = w.output
  size : w.heap.size ≤ w'.heap.size
  block : ∀ k, k < w.heap.size → ¬ S k → w'.heap[k]? = w.heap[k]?

theorem Kept.rfl (S : Nat → Prop) (w : World) : Kept S w w := ⟨Eq.refl _, Eq.refl _, Eq.refl _, Nat.le_refl _, fun _ _ _ => Eq.refl _⟩
theorem Kept.trans {S : Nat → Prop} {a b c : World} (h : Kept S a b) (k : Kept S b c) : Kept S a c :=
  ⟨k.os.trans h.os, k.tape.trans h.tape, k.output.trans h.output, Nat.le_trans h.size k.size, fun i hi hn => (k.block i (Nat.lt_of_lt_of_le hi h.size) hn).trans (h.block i hi hn)⟩
theorem Kept.mono {S T : Nat → Prop} {w w' : World} (h : Kept S w w') (hs : ∀ k, k < w.heap.size → S k → T k) : Kept T w w' :=
  ⟨h.os, h.tape, h.output, h.size, fun k hk hn => h.block k hk (fun e => hn (hs k hk e))⟩
theorem Kept.alloc {S : Nat → Prop} {w w' : World} (h : Kept S w w') (o : Obj) : Kept S w (w'.alloc o) :=
  ⟨h.os, h.tape, h.output, by have := h.size; simp; omega, fun k hk hn => (Below.heap_alloc _ _ _ (Nat.lt_of_lt_of_le hk h.size)).trans (h.block k hk hn)⟩
theorem Kept.drew {S : Nat → Prop} {w w' : World} (h : Kept S w w') : Kept S w w'.drew := ⟨h.os, h.tape, h.output, h.size, h.block⟩
theorem Kept.set {S : Nat → Prop} {w w' : World} (h : Kept S w w') {a : Addr} (ha : S a.block ∨ w.heap.size ≤ a.block) (v : Value) : Kept S w (w'.setCell a v) :=
  ⟨h.os, h.tape, h.output, by have := h.size; simp [World.setCell]; omega, fun k hk hn => (Below.heap_setCell _ _ _ _ (fun e => by subst e; rcases ha with ha | ha; exact hn ha; omega)).trans (h.block k hk hn)⟩
theorem Kept.of_below {S : Nat → Prop} {w w' : World} (h : Below w.heap.size w w') : Kept S w w' := ⟨h.os, h.tape, h.output, h.size, fun k hk _ => h.block k hk⟩
theorem Kept.of_only {S : Nat → Prop} {r : Nat} {w w' : World} (h : Only r w w') (hr : S r) : Kept S w w' :=
  ⟨h.os, h.tape, h.output, h.size, fun k hk hn => h.block k hk (fun e => hn (by simp at e; rw [e]; exact hr))⟩
theorem Kept.of_grown {S : Nat → Prop} {row : Option Nat} {w w' : World} (h : w.grownBy w' row) (hr : ∀ k, row = some k → S k) : Kept S w w' :=
  ⟨h.os, h.tape, h.output, h.size, fun k hk hn => h.block k hk (fun e => hn (hr k e.symm))⟩
theorem Kept.below {S : Nat → Prop} {B : Nat} {w w' : World} (h : Kept S w w') (hB : B ≤ w.heap.size) (hs : ∀ k, S k → B ≤ k) : Below B w w' :=
  ⟨h.os, h.tape, h.output, h.size, fun k hk => h.block k (by omega) (fun e => by have := hs k e; omega)⟩
/-- .. from an earlier world on: what is new may be turned. -/
theorem Kept.ahead {S T : Nat → Prop} {a b c : World} (h : Kept S a b) (k : Kept T b c) (hs : ∀ i, i < a.heap.size → T i → S i) : Kept S a c :=
  ⟨k.os.trans h.os, k.tape.trans h.tape, k.output.trans h.output, Nat.le_trans h.size k.size, fun i hi hn => (k.block i (Nat.lt_of_lt_of_le hi h.size) (fun e => hn (hs i hi e))).trans (h.block i hi hn)⟩

/-- The blocks that a machine's step turns. -/
def Mine (p r : Nat) (sl : Value) : Nat → Prop := fun k => k = p ∨ k = r ∨ sl.ownBlock = some k

/-- The program's machine, in a state. -/
structure IsM (w : World) (N p q r : Nat) (sl : Value) (s : St) : Prop where
  row : w.rowIs p 64 26 (mcells q sl s)
  mem : IsMem w 92 q r 262144 s.mem
  own : w.ownsRow N 5 1 sl s.out.length (vals s.out)
  hp : p < N
  hq : q < N
  hr : r < N
  hN : N ≤ w.heap.size
  pq : p ≠ q
  pr : p ≠ r

/-- What holds of a machine's state by itself. -/
structure Ok (s : St) : Prop where
  regs : ∀ i, i < 16 → 0 ≤ s.reg i ∧ s.reg i < 4294967296
  zero : s.reg 0 = 0
  used : s.used ≤ s.input.size
  csize : s.code.size ≤ 1048576
  isize : s.input.size ≤ 1048576
  c4 : s.code.size % 4 = 0
  fin : s.kind = 3 → s.exit = 0 ∧ s.trap = 0
  pc0 : -4294967296 ≤ s.pc
  pc1 : s.pc ≤ 4294967296

section
variable {w w' : World} {N p q r : Nat} {sl : Value} {s : St}
theorem IsM.cell (h : IsM w N p q r sl s) {i : Nat} (hi : i < 26) : w.cell? ⟨p, i, none⟩ = some (mcells q sl s i) := h.row.cell hi
theorem IsM.reg (h : IsM w N p q r sl s) (k : Nat) (hk : k < 16) : w.cell? ⟨p, 3 + k, none⟩ = some (.int .u32 (s.reg k)) := by rw [h.row.cell (by omega), mcells_reg q sl s k hk]
theorem IsM.free (h : IsM w N p q r sl s) (i : Nat) : w.frozen? ⟨p, i, none⟩ = false := h.row.frozen i
theorem IsM.plt (h : IsM w N p q r sl s) : p < w.heap.size := h.row.lt
theorem IsM.c0 (h : IsM w N p q r sl s) : w.cell? ⟨p, 0, none⟩ = some (.string s.code) := h.row.cell (by omega)
theorem IsM.c1 (h : IsM w N p q r sl s) : w.cell? ⟨p, 1, none⟩ = some (.string s.input) := h.row.cell (by omega)
theorem IsM.c2 (h : IsM w N p q r sl s) : w.cell? ⟨p, 2, none⟩ = some (.int .i64 s.pc) := h.row.cell (by omega)
theorem IsM.c19 (h : IsM w N p q r sl s) : w.cell? ⟨p, 19, none⟩ = some (.pointer (some ⟨q, 0, none⟩)) := h.row.cell (by omega)
theorem IsM.c20 (h : IsM w N p q r sl s) : w.cell? ⟨p, 20, none⟩ = some sl := h.row.cell (by omega)
theorem IsM.c21 (h : IsM w N p q r sl s) : w.cell? ⟨p, 21, none⟩ = some (.int .i64 s.kind) := h.row.cell (by omega)
theorem IsM.c22 (h : IsM w N p q r sl s) : w.cell? ⟨p, 22, none⟩ = some (.int .i32 s.exit) := h.row.cell (by omega)
theorem IsM.c23 (h : IsM w N p q r sl s) : w.cell? ⟨p, 23, none⟩ = some (.int .i64 s.trap) := h.row.cell (by omega)
theorem IsM.c24 (h : IsM w N p q r sl s) : w.cell? ⟨p, 24, none⟩ = some (.string ⟨#[]⟩) := h.row.cell (by omega)
theorem IsM.c25 (h : IsM w N p q r sl s) : w.cell? ⟨p, 25, none⟩ = some (.int .i64 s.used) := h.row.cell (by omega)

/-- The machine in a later world that has left its blocks alone. -/
theorem IsM.keep {S : Nat → Prop} (h : IsM w N p q r sl s) (k : Kept S w w') (h1 : ¬ S p) (h2 : ¬ S q) (h3 : ¬ S r) (h4 : ∀ o, sl.ownBlock = some o → ¬ S o) : IsM w' N p q r sl s := by
  refine ⟨h.row.of_block (k.block p h.plt h1), ⟨(k.block q h.mem.plt h2).trans h.mem.head, h.mem.row.of_block (k.block r h.mem.rlt h3), h.mem.ne, h.mem.lo, h.mem.hi⟩, ?_, h.hp, h.hq, h.hr, Nat.le_trans h.hN k.size, h.pq, h.pr⟩
  obtain ⟨hl, h'⟩ := h.own
  refine ⟨hl, ?_⟩
  rcases h' with h' | ⟨g, cap, cur, hv, hg, hb, hr⟩
  · exact .inl h'
  · have hgl : g < w.heap.size := (Array.getElem?_eq_some_iff.1 hb).1
    exact .inr ⟨g, cap, cur, hv, hg, (k.block g hgl (h4 g (by rw [hv]; rfl))).trans hb, hr⟩
theorem IsM.below (h : IsM w N p q r sl s) (k : Below w.heap.size w w') : IsM w' N p q r sl s :=
  h.keep (S := fun _ => False) (Kept.of_below k) (fun e => e) (fun e => e) (fun e => e) (fun _ _ e => e)
theorem IsM.alloc (h : IsM w N p q r sl s) (o : Obj) : IsM (w.alloc o) N p q r sl s := h.below ((Below.refl _ _).alloc (Nat.le_refl _) _)
theorem IsM.drew (h : IsM w N p q r sl s) : IsM w.drew N p q r sl s := h.below (Below.refl _ _).drew

theorem IsM.ownSet (h : IsM w N p q r sl s) {a : Addr} (ha : a.block < N) (v : Value) : (w.setCell a v).ownsRow N 5 1 sl s.out.length (vals s.out) :=
  h.own.kept (row := some a.block) ⟨rfl, rfl, rfl, by simp [World.setCell], fun k _ hk => Below.heap_setCell _ _ _ _ (fun e => hk (by simp [e]))⟩ (by
    cases e : sl.ownBlock with
    | none => exact .inl rfl
    | some k => exact .inr (by have := (h.own.lt k e).1; simp; omega))

/-- One cell of the machine's block is turned: the state that has it so. -/
theorem IsM.set {s' : St} (h : IsM w N p q r sl s) (i : Nat) (v : Value) (hm : s'.mem = s.mem) (ho : s'.out = s.out) (hv : ∀ j, j < 26 → (if j = i then v else mcells q sl s j) = mcells q sl s' j) :
    IsM (w.setCell ⟨p, i, none⟩ v) N p q r sl s' := by
  refine ⟨(h.row.set i v).congr hv, ?_, ?_, h.hp, h.hq, h.hr, by have := h.hN; simp [World.setCell]; omega, h.pq, h.pr⟩
  · rw [hm]
    exact ⟨(Below.heap_setCell _ _ _ _ (fun e => h.pq e.symm)).trans h.mem.head, h.mem.row.setOther (fun e => h.pr e.symm) v, h.mem.ne, h.mem.lo, h.mem.hi⟩
  · rw [ho]
    exact h.ownSet h.hp v

theorem IsM.setReg (h : IsM w N p q r sl s) (d : Nat) (hd : d < 16) (x : Int) : IsM (w.setCell ⟨p, 3 + d, none⟩ (.int .u32 x)) N p q r sl { s with reg := upd s.reg d x } := by
  refine h.set _ _ rfl rfl (fun j hj => ?_)
  by_cases e : j = 3 + d
  · subst e
    rw [if_pos rfl, mcells_reg _ _ _ _ hd]
    simp [upd]
  · rw [if_neg e]
    unfold mcells
    by_cases e2 : j - 3 = d
    · have : j < 3 := by omega
      simp 
      rcases (show j = 0 ∨ j = 1 ∨ j = 2 by omega) with rfl | rfl | rfl <;> simp
    · simp [upd, e2]
theorem IsM.setPc (h : IsM w N p q r sl s) (x : Int) : IsM (w.setCell ⟨p, 2, none⟩ (.int .i64 x)) N p q r sl { s with pc := x } := by
  refine h.set _ _ rfl rfl (fun j hj => ?_)
  by_cases e : j = 2
  · subst e; simp [mcells]
  · simp [mcells, e]
theorem IsM.setKind (h : IsM w N p q r sl s) (x : Int) : IsM (w.setCell ⟨p, 21, none⟩ (.int .i64 x)) N p q r sl { s with kind := x } := by
  refine h.set _ _ rfl rfl (fun j hj => ?_)
  by_cases e : j = 21
  · subst e; simp [mcells]
  · simp [mcells, e]
theorem IsM.setExit (h : IsM w N p q r sl s) (x : Int) : IsM (w.setCell ⟨p, 22, none⟩ (.int .i32 x)) N p q r sl { s with exit := x } := by
  refine h.set _ _ rfl rfl (fun j hj => ?_)
  by_cases e : j = 22
  · subst e; simp [mcells]
  · simp [mcells, e]
theorem IsM.setTrap (h : IsM w N p q r sl s) (x : Int) : IsM (w.setCell ⟨p, 23, none⟩ (.int .i64 x)) N p q r sl { s with trap := x } := by
  refine h.set _ _ rfl rfl (fun j hj => ?_)
  by_cases e : j = 23
  · subst e; simp [mcells]
  · simp [mcells, e]
theorem IsM.setUsed (h : IsM w N p q r sl s) (x : Nat) : IsM (w.setCell ⟨p, 25, none⟩ (.int .i64 x)) N p q r sl { s with used := x } := by
  refine h.set _ _ rfl rfl (fun j hj => ?_)
  by_cases e : j = 25
  · subst e; simp [mcells]
  · simp [mcells, e]
/-- The memory's row is turned. -/
theorem IsM.setMem {g : Nat → UInt8} (h : IsM w N p q r sl s) (hm : IsMem w' 92 q r 262144 g) (ho : Only r w w') : IsM w' N p q r sl { s with mem := g } := by
  refine ⟨h.row.of_block (ho.block p h.plt (by simp [h.pr])), hm, ?_, h.hp, h.hq, h.hr, Nat.le_trans h.hN ho.size, h.pq, h.pr⟩
  refine h.own.kept ho ?_
  cases e : sl.ownBlock with
  | none => exact .inl rfl
  | some k => exact .inr (by have := (h.own.lt k e).1; have := h.hr; simp; omega)
/-- What was put has one byte more. -/
theorem IsM.setOut {sl' : Value} {b : UInt8} (h : IsM w N p q r sl s) (hg : w.grownBy w' sl.ownBlock) (hown : w'.ownsRow N 5 1 sl' (s.out.length + 1) (vals s.out ++ [.int .u8 (b.toNat : Int)])) :
    IsM (w'.setCell ⟨p, 20, none⟩ sl') N p q r sl' { s with out := s.out ++ [b] } := by
  have ob : ∀ k, k < N → some k ≠ sl.ownBlock := by
    intro k hk e
    have := (h.own.lt k e.symm).1
    omega
  have hrow : w'.rowIs p 64 26 (mcells q sl s) := h.row.of_block (hg.block p h.plt (ob p h.hp))
  refine ⟨(hrow.set 20 sl').congr (fun j hj => ?_), ?_, ?_, h.hp, h.hq, h.hr, by have := h.hN; have := hg.size; simp [World.setCell]; omega, h.pq, h.pr⟩
  · by_cases e : j = 20
    · subst e; simp [mcells]
    · simp [mcells, e]
  · exact ⟨(Below.heap_setCell _ _ _ _ (fun e => h.pq e.symm)).trans ((hg.block q h.mem.plt (ob q h.hq)).trans h.mem.head), (h.mem.row.of_block (hg.block r h.mem.rlt (ob r h.hr))).setOther (fun e => h.pr e.symm) _, h.mem.ne, h.mem.lo, h.mem.hi⟩
  · have hl : (s.out ++ [b]).length = s.out.length + 1 := by simp
    have hv : vals (s.out ++ [b]) = vals s.out ++ [.int .u8 (b.toNat : Int)] := by simp [vals]
    show (w'.setCell ⟨p, 20, none⟩ sl').ownsRow N 5 1 sl' (s.out ++ [b]).length (vals (s.out ++ [b]))
    rw [hl, hv]
    exact hown.kept (row := some p) ⟨rfl, rfl, rfl, by simp [World.setCell], fun k _ hk => Below.heap_setCell _ _ _ _ (fun e => hk (by simp [e]))⟩ (by
      cases e : sl'.ownBlock with
      | none => exact .inl rfl
      | some k => exact .inr (by have := (hown.lt k e).1; have := h.hp; simp; omega))
end

theorem mine_p (p r : Nat) (sl : Value) : Mine p r sl p := .inl rfl
theorem mine_r (p r : Nat) (sl : Value) : Mine p r sl r := .inr (.inl rfl)
end Go.Proofs.Ytimbnlcegcmfiaa
