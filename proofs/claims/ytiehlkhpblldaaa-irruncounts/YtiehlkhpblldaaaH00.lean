/- Slices of things that are several cells each. -/
import Derived.Test.YtiehlkhpblldaaaProg
import Derived.WalkKit
import Derived.Deep.OwnRows
import Derived.Laws.StructEq
import Derived.Deep.AppendSrc
import Derived.Maps.AppendAt
import Derived.Laws.AppendOwn
import Derived.Laws.OwnMore
import Derived.Laws.MakeOwn
import Derived.Maps.OwnSet
import Derived.BigQuiet
import Derived.Deep.QuietTactic
import Derived.Deep.RegionWith
import Derived.Deep.Quiet
import Derived.StillTail
import Derived.Below
set_option linter.unusedVariables false
set_option linter.unusedSimpArgs false
set_option maxRecDepth 20000
set_option maxHeartbeats 8000000
namespace Go.Proofs.Ytiehlkhpblldaaa
open Go.RowKit Go.Maps

theorem mixed : Try.prog.follows .mixedOrders = true := by kernel_rfl
theorem below1 (w : World) (o : Obj) : Below w.heap.size w (w.alloc o) := (Below.refl _ _).alloc (Nat.le_refl _) o
theorem below2 (w : World) (o p : Obj) : Below w.heap.size w ((w.alloc o).alloc p) := (below1 w o).alloc (by simp) p
theorem below3 (w : World) (o p q : Obj) : Below w.heap.size w (((w.alloc o).alloc p).alloc q) := (below2 w o p).alloc (by simp; omega) q
theorem bcell {W w1 : World} (hb : Below W.heap.size W w1) : (∀ b o, b < W.heap.size → w1.cell? ⟨b, o, none⟩ = W.cell? ⟨b, o, none⟩) ∧ (∀ b o, b < W.heap.size → w1.frozen? ⟨b, o, none⟩ = W.frozen? ⟨b, o, none⟩) :=
  ⟨fun b o h => hb.cell (p := ⟨b, o, none⟩) h, fun b o h => hb.frozen (p := ⟨b, o, none⟩) h⟩

theorem hid' {p : Prop} (h : p) : Hid p := h

section
variable {α : Type} {f : α → List Value} {z : Nat}
def flat (f : α → List Value) (l : List α) : List Value := l.flatMap f
theorem flat_cons (x : α) (l : List α) : flat f (x :: l) = f x ++ flat f l := by simp [flat]
theorem flat_append (l m : List α) : flat f (l ++ m) = flat f l ++ flat f m := by simp [flat]
theorem flat_length (hz : ∀ x, (f x).length = z) (l : List α) : (flat f l).length = l.length * z := by
  induction l with
  | nil => simp [flat]
  | cons x l ih => rw [flat_cons, List.length_append, hz, ih, List.length_cons, Nat.succ_mul, Nat.add_comm]
theorem flat_get (hz : ∀ x, (f x).length = z) : ∀ (l : List α) (i c : Nat) (hi : i < l.length), c < z → (flat f l)[i * z + c]? = (f l[i])[c]?
  | x :: l, 0, c, _, hc => by
    rw [flat_cons, List.getElem?_append_left (by rw [hz]; omega)]
    simp
  | x :: l, i + 1, c, hi, hc => by
    have := flat_get hz l i c (by simpa using hi) hc
    rw [flat_cons, List.getElem?_append_right (by rw [hz, Nat.succ_mul]; omega), hz, show (i + 1) * z + c - z = i * z + c by rw [Nat.succ_mul]; omega, this]
    simp

/-- A slice, wherever it came from: its cells are these things. -/
def Src (f : α → List Value) (w : World) (v : Value) (l : List α) : Prop :=
  (l = [] ∧ ∃ ao cap, v = .slice ao 0 cap) ∨ (∃ b off cap, v = .slice (some ⟨b, off, none⟩) l.length cap ∧ b < w.heap.size ∧ l.length ≤ cap ∧ ∀ j u, (flat f l)[j]? = some u → w.cell? ⟨b, off + j, none⟩ = some u)
theorem Src.below {w w' : World} {B : Nat} {v : Value} {l : List α} (h : Src f w v l) (hB : w.heap.size ≤ B) (hb : Below B w w') : Src f w' v l := by
  rcases h with h | ⟨b, off, cap, hv, hl, hcp, hc⟩
  · exact .inl h
  · exact .inr ⟨b, off, cap, hv, Nat.lt_of_lt_of_le hl hb.size, hcp, fun j u hj => (hb.cell (p := ⟨b, off + j, none⟩) (Nat.lt_of_lt_of_le hl hB)).trans (hc j u hj)⟩
theorem Src.on {w w' : World} {v : Value} {l : List α} (h : Src f w v l) (hb : Below w.heap.size w w') : Src f w' v l := h.below (Nat.le_refl _) hb
theorem Src.form {w : World} {v : Value} {l : List α} (hz : ∀ x, (f x).length = z) (h : Src f w v l) :
    ∃ ao cap, v = .slice ao l.length cap ∧ ∀ k (hk : k < l.length), ∃ b off, ao = some ⟨b, off, none⟩ ∧ b < w.heap.size ∧ l.length ≤ cap ∧ ∀ w', Below w.heap.size w w' → ∀ c, c < z → w'.cell? ⟨b, off + k * z + c, none⟩ = (f l[k])[c]? := by
  rcases h with ⟨rfl, ao, cap, rfl⟩ | ⟨b, off, cap, rfl, hl, hcp, hc⟩
  · exact ⟨ao, cap, rfl, fun k hk => by simp at hk⟩
  · refine ⟨_, cap, rfl, fun k hk => ⟨b, off, rfl, hl, hcp, fun w' hb c hcz => ?_⟩⟩
    have e := flat_get hz l k c hk hcz
    have hcl : c < (f l[k]).length := by rw [hz]; exact hcz
    rw [List.getElem?_eq_getElem hcl] at e ⊢
    rw [hb.cell (p := ⟨b, off + k * z + c, none⟩) hl, Nat.add_assoc]
    exact hc _ _ e
theorem Src.take {w : World} {ao : Option Addr} {n cap : Nat} {l : List α} (h : Src f w (.slice ao n cap) l) (k : Nat) (hk : k ≤ l.length) (c2 : Nat) (hc2 : k ≤ c2) : Src f w (.slice ao k c2) (l.take k) := by
  rcases h with ⟨rfl, ao', cap', e⟩ | ⟨b, off, cap', e, hl, hcp, hc⟩
  · injection e with e1 e2 e3
    have : k = 0 := by simpa using hk
    subst this
    exact .inl ⟨by simp, _, _, rfl⟩
  · injection e with e1 e2 e3
    subst e1
    refine .inr ⟨b, off, c2, by rw [List.length_take, Nat.min_eq_left hk], hl, by rw [List.length_take, Nat.min_eq_left hk]; exact hc2, fun j u hj => hc j u ?_⟩
    have : flat f l = flat f (l.take k) ++ flat f (l.drop k) := by rw [← flat_append, List.take_append_drop]
    rw [this, List.getElem?_append_left (List.getElem?_eq_some_iff.1 hj).1]
    exact hj
theorem Src.len {w : World} {v : Value} {l : List α} (h : Src f w v l) : ∃ ao cap, v = .slice ao l.length cap := by
  rcases h with ⟨rfl, ao, cap, rfl⟩ | ⟨b, off, cap, rfl, _, _⟩
  · exact ⟨_, _, rfl⟩
  · exact ⟨_, _, rfl⟩

/-- A slice of the call's own. -/
def Own (t : TypeId) (z : Nat) (f : α → List Value) (w : World) (base : Nat) (v : Value) (l : List α) : Prop := w.ownsRow base t z v l.length (flat f l)
theorem Own.src {t : TypeId} {w : World} {base : Nat} {v : Value} {l : List α} (hz : ∀ x, (f x).length = z) (h : Own t z f w base v l) : Src f w v l := by
  have h0 := h
  rcases h.2 with ⟨rfl, e⟩ | ⟨g, cap, cur, rfl, hb, hh, hn, _⟩
  · exact .inl ⟨List.eq_nil_of_length_eq_zero e, _, _, rfl⟩
  · refine .inr ⟨g, 0, cap, rfl, (Array.getElem?_eq_some_iff.1 hh).1, hn, fun j u hj => ?_⟩
    have := (List.getElem?_eq_some_iff.1 hj).1
    rw [flat_length hz] at this
    rw [Nat.zero_add, World.ownsRow.cellAt h0 j this]
    exact hj

/-- append(l, m...). -/
theorem append_own {st et : TypeId} {z0 : Value} {bytes : Nat} {w : World} {base : Nat} {v x : Value} {l m : List α} (hz : ∀ x, (f x).length = z) (h1 : ∀ x, ∀ u ∈ f x, u.oneCell' = true) (hst : Try.prog.underlying st = some (.slice et))
    (hi' : (Try.prog.info? et).map (fun i => (i.zero, i.size, i.bytes)) = some (some z0, z, bytes)) (hz0 : z0.cells.size = z) (hzp : 0 < z)
    (h : Own et z f w base v l) (hs : Src f w x m) (hl : (l.length + m.length) * bytes ≤ 140737488355328) (hl2 : l.length + m.length ≤ maxLen) (hb : base ≤ w.heap.size) (ty : TypeId) :
    ∃ v' w', (Builtin.append_ #[st, st] ty #[v, x]).run Try.prog w = .ok v' w' ∧ Own et z f w' base v' (l ++ m) ∧ w.grownBy w' v.ownBlock ∧ (v'.ownBlock = v.ownBlock ∨ v'.ownBlock = some w.heap.size) := by
  obtain ⟨i0, hi, e0, e1, e2⟩ := info_parts hi'
  have hone : ∀ u ∈ flat f m, u.oneCell' = true := fun u hu => by
    obtain ⟨x, _, hx⟩ := List.mem_flatMap.1 hu
    exact h1 x u hx
  have some_case : ∀ (a : Addr) (c : Nat), (∀ j u, (flat f m)[j]? = some u → w.cell? (a.add j) = some u) → ∃ v' w', (Builtin.append_ #[st, st] ty #[v, .slice (some a) m.length c]).run Try.prog w = .ok v' w' ∧ Own et z f w' base v' (l ++ m) ∧ w.grownBy w' v.ownBlock ∧ (v'.ownBlock = v.ownBlock ∨ v'.ownBlock = some w.heap.size) := fun a c hc => by
    obtain ⟨v', w', h1, h2, h3, h4, h5⟩ := run_append_own_at (P := Try.prog) w base st ty et i0 _ z bytes hst hi e0 e1 e2 hz0 hzp v l.length (flat f l) h a m.length c (flat f m) (flat_length hz m) hc hone hl2 hl hb
    exact ⟨v', w', h1, by unfold Own; rw [flat_append, List.length_append]; exact h2, h3, h5⟩
  rcases hs with ⟨rfl, ao, cap, rfl⟩ | ⟨b, off, cap, rfl, hlt, _, hc⟩
  · cases ao with
    | some a => exact some_case a cap (fun j u hj => by simp [flat] at hj)
    | none =>
      refine ⟨v, w, ?_, by rw [List.append_nil]; exact h, ⟨rfl, rfl, rfl, Nat.le_refl _, fun _ _ _ => rfl⟩, .inl rfl⟩
      rcases h.2 with ⟨rfl, _⟩ | ⟨g, cp, cur, rfl, hg, hh, hn, _⟩
      · simp [Builtin.append_, run_underlying hst, sizeOf, typeInfo, hi, Builtin.lenOf, Builtin.firstCells]
      · have := run_append_room_src (P := Try.prog) w st st ty et i0 hst hi g 0 l.length cp (.slice none 0 cap) 0 [] (Src.ofNil w hst cap) (by omega) (by simp) (by simp)
        simpa [World.setCells] using this
  · exact some_case ⟨b, off, none⟩ cap (fun j u hj => by rw [Addr.add_lit]; exact hc j u hj)
end

/-- append, by what its run is. -/
theorem wpList_append_run {st : TypeId} {w w' : World} {ops : Array Oper} {rest : List Oper} {o : Oper} {a : Act} {Q : Exit → Act → World → Prop} (hgd : o.guard = none) (s x : Operand) (ho : o.op = .call { callee := .builtin .append, args := #[s, x], argTypes := #[st, st] })
    (v xv v' : Value) (hs : a.eval s = v) (hx : a.eval x = xv) (hr : (Builtin.append_ #[st, st] o.type #[v, xv]).run Try.prog w = .ok v' w') (h : wpList Try.prog ops Q rest (a.put o.dst v') w') : wpList Try.prog ops Q (o :: rest) a w := by
  refine wpList_plain hgd fun K hK => ?_
  unfold Oper.wp execOp
  simp only [ho, resolve, invoke, builtin, Sem.run_bind, Sem.run_pure, Result.andThen_ok, List.map_toArray, List.map_cons, List.map_nil, hs, hx, hr]
  exact hK _ _ h

theorem bdrew {B : Nat} {w w' : World} (h : Below B w w') (n : Nat) : Below B w (w'.drewN n) := ⟨h.os, h.tape, h.output, h.size, h.block⟩
theorem below_on {B : Nat} {a b c : World} (h : Below B a b) (k : Below b.heap.size b c) (hB : B ≤ b.heap.size) : Below B a c := h.trans (k.mono hB)
theorem below_up {a b c : World} (h : Below a.heap.size a b) (k : Below b.heap.size b c) : Below a.heap.size a c := h.trans (k.mono h.size)
theorem take_snoc {α : Type} (l : List α) (k : Nat) (h : k < l.length) : l.take (k + 1) = l.take k ++ [l[k]] := by
  rw [List.take_succ_eq_append_getElem h]
theorem keep_cell {W W' : World} {b o : Nat} {v : Value} (h : W.cell? ⟨b, o, none⟩ = some v) (hb : Below W.heap.size W W') : W'.cell? ⟨b, o, none⟩ = some v :=
  (hb.cell (p := ⟨b, o, none⟩) (World.block_lt_of_cell? W _ h)).trans h
/-- All that has been there is as it was, but what S names. -/
structure Kept (S : Nat → Prop) (w w' : World) : Prop where
  os : w'.os = w.os
  tape : w'.tape = w.tape
  output : w'.output = w.output
  size : w.heap.size ≤ w'.heap.size
  block : ∀ k, k < w.heap.size → ¬ S k → w'.heap[k]? = w.heap[k]?

theorem Kept.rfl (S : Nat → Prop) (w : World) : Kept S w w := ⟨Eq.refl _, Eq.refl _, Eq.refl _, Nat.le_refl _, fun _ _ _ => Eq.refl _⟩
theorem Kept.trans {S : Nat → Prop} {a b c : World} (h : Kept S a b) (k : Kept S b c) : Kept S a c :=
  ⟨k.os.trans h.os, k.tape.trans h.tape, k.output.trans h.output, Nat.le_trans h.size k.size, fun i hi hn => (k.block i (Nat.lt_of_lt_of_le hi h.size) hn).trans (h.block i hi hn)⟩
theorem Kept.mono {S T : Nat → Prop} {w w' : World} (h : Kept S w w') (hs : ∀ k, k < w.heap.size → S k → T k) : Kept T w w' :=
  ⟨h.os, h.tape, h.output, h.size, fun k hk hn => h.block k hk (fun e => hn (hs k hk e))⟩
theorem Kept.alloc {S : Nat → Prop} {w w' : World} (h : Kept S w w') (o : Obj) : Kept S w (w'.alloc o) :=
  ⟨h.os, h.tape, h.output, by have := h.size; simp; omega, fun k hk hn => (Below.heap_alloc _ _ _ (Nat.lt_of_lt_of_le hk h.size)).trans (h.block k hk hn)⟩
theorem Kept.drew {S : Nat → Prop} {w w' : World} (h : Kept S w w') : Kept S w w'.drew := ⟨h.os, h.tape, h.output, h.size, h.block⟩
theorem Kept.drewN {S : Nat → Prop} {w w' : World} (h : Kept S w w') (n : Nat) : Kept S w (w'.drewN n) := ⟨h.os, h.tape, h.output, h.size, h.block⟩
theorem Kept.set {S : Nat → Prop} {w w' : World} (h : Kept S w w') {a : Addr} (ha : S a.block ∨ w.heap.size ≤ a.block) (v : Value) : Kept S w (w'.setCell a v) :=
  ⟨h.os, h.tape, h.output, by have := h.size; simp [World.setCell]; omega, fun k hk hn => (Below.heap_setCell _ _ _ _ (fun e => by subst e; rcases ha with ha | ha; exact hn ha; omega)).trans (h.block k hk hn)⟩
theorem Kept.of_below {S : Nat → Prop} {w w' : World} (h : Below w.heap.size w w') : Kept S w w' := ⟨h.os, h.tape, h.output, h.size, fun k hk _ => h.block k hk⟩
theorem Kept.of_grown {S : Nat → Prop} {row : Option Nat} {w w' : World} (h : w.grownBy w' row) (hr : ∀ k, row = some k → S k) : Kept S w w' :=
  ⟨h.os, h.tape, h.output, h.size, fun k hk hn => h.block k hk (fun e => hn (hr k e.symm))⟩
theorem Kept.below {S : Nat → Prop} {B : Nat} {w w' : World} (h : Kept S w w') (hB : B ≤ w.heap.size) (hs : ∀ k, S k → B ≤ k) : Below B w w' :=
  ⟨h.os, h.tape, h.output, h.size, fun k hk => h.block k (by omega) (fun e => by have := hs k e; omega)⟩
/-- .. from an earlier world on: what is new may be turned. -/
theorem Kept.ahead {S T : Nat → Prop} {a b c : World} (h : Kept S a b) (k : Kept T b c) (hs : ∀ i, i < a.heap.size → T i → S i) : Kept S a c :=
  ⟨k.os.trans h.os, k.tape.trans h.tape, k.output.trans h.output, Nat.le_trans h.size k.size, fun i hi hn => (k.block i (Nat.lt_of_lt_of_le hi h.size) (fun e => hn (hs i hi e))).trans (h.block i hi hn)⟩
theorem Kept.cell {S : Nat → Prop} {w w' : World} (h : Kept S w w') {b o : Nat} (hb : b < w.heap.size) (hn : ¬ S b) : w'.cell? ⟨b, o, none⟩ = w.cell? ⟨b, o, none⟩ := World.cell?_of_block (h.block b hb hn)
theorem Kept.frozen {S : Nat → Prop} {w w' : World} (h : Kept S w w') {b o : Nat} (hb : b < w.heap.size) (hn : ¬ S b) : w'.frozen? ⟨b, o, none⟩ = w.frozen? ⟨b, o, none⟩ := World.frozen?_of_block (h.block b hb hn)
theorem Kept.row {S : Nat → Prop} {w w' : World} (h : Kept S w w') {b : Nat} {t : TypeId} {n : Nat} {f : Nat → Value} (hr : w.rowIs b t n f) (hn : ¬ S b) : w'.rowIs b t n f := hr.of_block (h.block b hr.lt hn)
theorem Kept.owns {S : Nat → Prop} {w w' : World} (h : Kept S w w') {base : Nat} {e : TypeId} {size : Nat} {v : Value} {n : Nat} {xs : List Value} (ho : w.ownsRow base e size v n xs) (hn : ∀ b, v.ownBlock = some b → ¬ S b) : w'.ownsRow base e size v n xs := by
  obtain ⟨hl, h'⟩ := ho
  refine ⟨hl, ?_⟩
  rcases h' with h' | ⟨g, cap, cur, hv, hg, hb, hr⟩
  · exact .inl h'
  · have hgl : g < w.heap.size := (Array.getElem?_eq_some_iff.1 hb).1
    exact .inr ⟨g, cap, cur, hv, hg, (h.block g hgl (hn g (by rw [hv]; exact Eq.refl _))).trans hb, hr⟩

/-- An instruction: its cells, and what its lists hold. -/
structure In where
  op : Int
  dst : Int
  av : Value
  args : List Int
  imm : Int
  alu : Int
  wide : Int
  pv : Value
  pred : List Int
def In.cells (x : In) : List Value := [.int .i64 x.op, .int .i64 x.dst, x.av, .int .i32 x.imm, .int .i64 x.alu, .int .i64 x.wide, x.pv]
def In.val (x : In) : Value := .agg #[.int .i64 x.op, .int .i64 x.dst, x.av, .int .i32 x.imm, .int .i64 x.alu, .int .i64 x.wide, x.pv]
def icell (n : Int) : List Value := [.int .i64 n]
/-- A block. -/
structure Bl where
  cv : Value
  code : List In
  en : Int
  arg : Int
  tv : Value
  to : List Int
def Bl.cells (b : Bl) : List Value := [b.cv, .int .i64 b.en, .int .i64 b.arg, b.tv]
def Bl.val (b : Bl) : Value := .agg #[b.cv, .int .i64 b.en, .int .i64 b.arg, b.tv]
/-- A function. -/
structure Fn where
  nm : ByteArray
  params : Int
  regs : Int
  slots : Int
  bv : Value
  blocks : List Bl
def Fn.cells (f : Fn) : List Value := [.string f.nm, .int .i64 f.params, .int .i64 f.regs, .int .i64 f.slots, f.bv]
def Fn.val (f : Fn) : Value := .agg #[.string f.nm, .int .i64 f.params, .int .i64 f.regs, .int .i64 f.slots, f.bv]
/-- A fill. -/
structure Fi where
  at_ : Int
  by_ : ByteArray
def Fi.cells (f : Fi) : List Value := [.int .i64 f.at_, .string f.by_]
/-- A program. -/
structure Pg where
  fv : Value
  funcs : List Fn
  global : Int
  dv : Value
  data : List Fi
  main : Int
def Pg.val (p : Pg) : Value := .agg #[p.fv, .int .i64 p.global, p.dv, .int .i64 p.main]

theorem in7 (x : In) : (In.cells x).length = 7 := rfl
theorem ic1 (x : Int) : (icell x).length = 1 := rfl
theorem bl4 (x : Bl) : (Bl.cells x).length = 4 := rfl
theorem fn5 (x : Fn) : (Fn.cells x).length = 5 := rfl
theorem fi2 (x : Fi) : (Fi.cells x).length = 2 := rfl

def big : Nat := 140737488351232
/-- Its lists lie in memory. -/
structure In.ok (w : World) (x : In) : Prop where
  a : Src icell w x.av x.args
  al : x.args.length * 8 ≤ big
  p : Src icell w x.pv x.pred
  pl : x.pred.length * 8 ≤ big
  hi : -2147483648 ≤ x.imm ∧ x.imm ≤ 2147483647
structure Bl.ok (w : World) (b : Bl) : Prop where
  c : Src In.cells w b.cv b.code
  cl : b.code.length * 88 ≤ big
  t : Src icell w b.tv b.to
  tl : b.to.length * 8 ≤ big
  ins : ∀ x ∈ b.code, In.ok w x
structure Fn.ok (w : World) (f : Fn) : Prop where
  b : Src Bl.cells w f.bv f.blocks
  bl : f.blocks.length * 64 ≤ big
  nl : f.nm.size ≤ big
  bls : ∀ x ∈ f.blocks, Bl.ok w x
structure Pg.ok (w : World) (p : Pg) : Prop where
  f : Src Fn.cells w p.fv p.funcs
  fl : p.funcs.length * 64 ≤ big
  d : Src Fi.cells w p.dv p.data
  dl : p.data.length * 24 ≤ big
  fns : ∀ x ∈ p.funcs, Fn.ok w x
  ds : ∀ x ∈ p.data, x.by_.size ≤ big
theorem In.ok.on {w w' : World} {x : In} (h : In.ok w x) (hb : Below w.heap.size w w') : In.ok w' x := ⟨h.a.on hb, h.al, h.p.on hb, h.pl, h.hi⟩
theorem Bl.ok.on {w w' : World} {x : Bl} (h : Bl.ok w x) (hb : Below w.heap.size w w') : Bl.ok w' x := ⟨h.c.on hb, h.cl, h.t.on hb, h.tl, fun y hy => (h.ins y hy).on hb⟩
theorem Fn.ok.on {w w' : World} {x : Fn} (h : Fn.ok w x) (hb : Below w.heap.size w w') : Fn.ok w' x := ⟨h.b.on hb, h.bl, h.nl, fun y hy => (h.bls y hy).on hb⟩
theorem Pg.ok.on {w w' : World} {x : Pg} (h : Pg.ok w x) (hb : Below w.heap.size w w') : Pg.ok w' x := ⟨h.f.on hb, h.fl, h.d.on hb, h.dl, fun y hy => (h.fns y hy).on hb, h.ds⟩
end Go.Proofs.Ytiehlkhpblldaaa
namespace Go.Proofs.Ytiehlkhpblldaaa
open Go Go.RowKit

section
variable {P : Program} {ops : Array Oper} {C : World → Prop}

/-- Whatever order is picked for the head, L holds behind it. -/
def HeadQ (P : Program) (ops : Array Oper) (C : World → Prop) (n : Nat) (L : Array Bool → Act → Prop) : Nat → Array Bool → Act → Prop
  | 0, listed, a => L listed a
  | f + 1, listed, a => Region.ready .any ops listed ≠ [] ∧
      ∀ i ∈ Region.ready .any ops listed, i < n ∧ qOp P ops C i (HeadQ P ops C n L f (listed.setIfInBounds i true)) a

theorem any_of_headQ {n g : Nat} {L : Array Bool → Act → Prop} {Q' : Exit → Act → World → Prop} (hL : ∀ listed a w, C w → L listed a → wpAny P .any ops Q' g listed a w) :
    ∀ (f : Nat) (listed : Array Bool) (a : Act) (w : World), C w → HeadQ P ops C n L f listed a → wpAny P .any ops Q' (f + g) listed a w
  | 0, listed, a, w, hw, h => by rw [Nat.zero_add]; exact hL _ _ _ hw h
  | f + 1, listed, a, w, hw, h => by
    have e : f + 1 + g = (f + g) + 1 := by omega
    rw [e]
    exact ⟨fun h0 => absurd h0 h.1, fun i hi => wpOp_of_qOp hw (fun a' w' hw' h' => any_of_headQ hL f _ a' w' hw' h') (h.2 i hi).2⟩

/-- While one of the head has not come up, none of the tail may. -/
theorem head_only {n i j : Nat} {listed : Array Bool} (hs : Region.sinkB .any ops n = true) (hc : Region.chainB .any ops n = true) (hn : n < ops.size) (hin : i < n) (inv : HeadInv .any ops n listed)
    (hr : i ∈ Region.ready .any ops listed) (hj : j ∈ Region.ready .any ops listed) : j < n := by
  rcases Nat.lt_or_ge j n with h | h
  · exact h
  · exact absurd hj (tail_waits hs hc hn inv _ i rfl hin (mem_ready.1 hr).1 j h)

theorem headQ_first {n i : Nat} {oi : Oper} {v : Value} {L : Array Bool → Act → Prop} (hi : ops[i]? = some oi) (hsel : ∀ (j : Nat) (o : Oper) cs b, ops[j]? = some o → o.op ≠ .select cs b)
    (hs : Region.sinkB .any ops n = true) (hc : Region.chainB .any ops n = true) (hn : n < ops.size) (hin : i < n)
    (hdone : ∀ listed a, L listed a → ∀ j ∈ Region.ready .any ops listed, n ≤ j) :
    ∀ (f : Nat) (listed : Array Bool) (a : Act), HeadInv .any ops n listed →
      (∀ j oj, ops[j]? = some oj → j ≠ i → listed.getD j true = false → (∀ e ∈ oj.after, Region.binds .any e = true → e.on ≠ i) → oi.apart ops oj = true) →
      i ∈ Region.ready .any ops listed → YieldsIn P ops C oi v a →
      HeadQ P ops C n L f (listed.setIfInBounds i true) (a.put oi.dst v) → HeadQ P ops C n L (f + 1) listed a
  | 0, listed, a, inv, _, hr, hy, H => by
    refine ⟨fun h => (by rw [h] at hr; cases hr), fun j hj => ⟨head_only hs hc hn hin inv hr hj, ?_⟩⟩
    by_cases hji : j = i
    · subst hji
      exact hy.qOp hi H
    · have h1 := hdone _ _ H j (ready_mono hj hji)
      have h2 := head_only hs hc hn hin inv hr hj
      omega
  | f + 1, listed, a, inv, hfree, hr, hy, H => by
    refine ⟨fun h => (by rw [h] at hr; cases hr), fun j hj => ⟨head_only hs hc hn hin inv hr hj, ?_⟩⟩
    by_cases hji : j = i
    · subst hji
      exact hy.qOp hi H
    · obtain ⟨hjun, oj, hoj, hall⟩ := mem_ready.1 hj
      have hnot : ∀ e ∈ oj.after, Region.binds .any e = true → e.on ≠ i := fun e he hb heq => by
        have h1 := hall e he hb
        rw [heq, getD_both (mem_ready.1 hr).1] at h1
        cases h1
      have h2 := qOp_put hoj (hfree j oj hoj hji hjun hnot) (fun cs b => hsel i oi cs b hi) (fun cs b => hsel j oj cs b hoj) hy (H.2 j (ready_mono hj hji)).2
      refine qOp_mono (fun a' h3 => headQ_first hi hsel hs hc hn hin hdone f (listed.setIfInBounds j true) a' (inv.set hj (head_only hs hc hn hin inv hr hj)) (fun k ok hk hki hun hno => hfree k ok hk hki ?_ hno) (ready_mono hr (Ne.symm hji)) h3.1 ?_) h2
      · by_cases hjk : j = k
        · subst hjk
          exact hjun
        · rwa [getD_set_ne true hjk] at hun
      · rw [Array.setIfInBounds_comm _ _ hji]
        exact h3.2

theorem headQ_lex {n g : Nat} {Lq : Act → Prop} (hsel : Region.noSelect ops = true) (hs : Region.sinkB .any ops n = true) (hc : Region.chainB .any ops n = true) (hn : n < ops.size) :
    ∀ (l : List Oper) (k : Nat) (listed : Array Bool) (a : Act), (∀ j, j < l.length → l[j]? = ops[k + j]?) → k + l.length = n → HeadInv .any ops n listed →
    Region.lexHead .any ops g l.length k listed = true → wpQuiet P ops C Lq l a →
    HeadQ P ops C n (fun listed' a' => Region.seqB .any ops g n listed' = true ∧ Lq a') l.length listed a
  | [], k, listed, a, _, hk, _, hB, h => by
    obtain rfl : k = n := by simpa using hk
    exact ⟨by simpa [Region.lexHead] using hB, h⟩
  | o :: l, k, listed, a, hl, hk, inv, hB, h => by
    have h0 : ops[k]? = some o := by simpa using (hl 0 (by simp)).symm
    simp only [List.length_cons, Region.lexHead, Bool.and_eq_true] at hB
    obtain ⟨⟨hr, hf⟩, hB'⟩ := hB
    simp only [List.length_cons] at hk
    have hr' : k ∈ Region.ready .any ops listed := by simpa using hr
    obtain ⟨v, hy, hK⟩ := yieldsIn_of_qOp (K := wpQuiet P ops C Lq l) h0 (by unfold qOp; simp only [h0]; exact h)
    exact headQ_first h0 (Region.noSelect_spec hsel) hs hc hn (by omega) (fun _ _ hL => seqB_ready hL.1) l.length listed a inv (Region.free_spec h0 hf) hr' hy
      (headQ_lex hsel hs hc hn l (k + 1) _ _ (fun j hj => by have := hl (j + 1) (by simp; omega); simpa [Nat.add_assoc, Nat.add_comm 1 j] using this) (by omega) (inv.set hr' (by omega)) hB' hK)

/-- The head in the order of the text, in every world of the class; then the tail, from whatever world of the class. -/
theorem region_quiet_tail {id : Nat} {Q : Exit → Act → World → Prop} {a : Act} {w : World} {l : List Oper} (n : Nat) (hm : P.follows .mixedOrders = true) (hB : Region.lexTailB .any l.toArray n = true) (hC : C w.drew)
    (h : wpQuiet P l.toArray C (fun a' => ∀ w', C w' → wpList P l.toArray Q (l.drop n) a' w') (l.take n) a) : (Code.region id l.toArray true).wp P Q a w := by
  simp only [Region.lexTailB, Bool.and_eq_true, decide_eq_true_eq] at hB
  obtain ⟨⟨⟨⟨hsel, hn⟩, hs⟩, hc⟩, hlex⟩ := hB
  have hn' : n < l.length := by simpa using hn
  have htl : (l.take n).length = n := by simp; omega
  have hdl : (l.drop n).length = l.toArray.size - n := by simp
  have inv0 : HeadInv .any l.toArray n (Array.replicate l.toArray.size false) :=
    ⟨by simp, fun j oj _ hl => (by rw [getD_replicate_false] at hl; cases hl), fun t _ ht => getD_in (by simpa using ht) (getD_replicate_false _ _)⟩
  have H := headQ_lex (g := l.toArray.size - n) hsel hs hc hn (l.take n) 0 _ a (fun j hj => by
    have hj' : j < n := by rw [htl] at hj; exact hj
    simp [hj']) (by simpa using htl) inv0 (by rw [htl]; exact hlex) h
  refine wp_region_any hm ?_
  have := any_of_headQ (Q' := Q) (g := l.toArray.size - n) (fun listed a' w' hw' hL => by
    have := wpAny_of_seq (md := .any) (Q' := Q) (l.drop n) n listed a' w' (fun j => by simp [List.getElem?_drop]) (by rw [hdl]; exact hL.1) (hL.2 w' hw')
    rwa [hdl] at this) _ _ _ _ hC H
  rw [htl, show n + (l.toArray.size - n) = l.toArray.size by omega] at this
  exact this

/-- The worlds in which all that a world had is as it was. -/
def After (W : World) : Type := { x : World // Below W.heap.size W x }
theorem after_some (W : World) : Nonempty (After W) := ⟨⟨W, Below.refl _ _⟩⟩

/-- A contract that leaves all as it was, met in such a world. -/
theorem Calls.after {f : FuncId} {args : Array Value} {W : World} {v : Value} (t : After W) (h : Calls P f args t.1 fun e w' => e = .returned v ∧ Below t.1.heap.size t.1 w') :
    Calls P f args t.1 fun e w' => e = .returned v ∧ ∃ t' : After W, w' = t'.1 :=
  h.mono fun _ w' ⟨he, hb⟩ => ⟨he, ⟨w', t.2.trans (hb.mono t.2.size)⟩, rfl⟩

/-- A region whose head only reads and makes new memory. -/
theorem region_after {id : Nat} {Q : Exit → Act → World → Prop} {a : Act} {w : World} {l : List Oper} (n : Nat) (hm : P.follows .mixedOrders = true) (hB : Region.lexTailB .any l.toArray n = true)
    (h : wpQuiet P l.toArray (fun w' => ∃ t : After w, w' = t.1) (fun a' => ∀ w', Below w.heap.size w w' → wpList P l.toArray Q (l.drop n) a' w') (l.take n) a) : (Code.region id l.toArray true).wp P Q a w := by
  refine region_quiet_tail (C := fun w' => ∃ t : After w, w' = t.1) n hm hB ⟨⟨w.drew, ⟨rfl, rfl, rfl, Nat.le_refl _, fun _ _ => rfl⟩⟩, rfl⟩ ?_
  have e : (fun a' => ∀ w', (∃ t : After w, w' = t.1) → wpList P l.toArray Q (l.drop n) a' w') = (fun a' => ∀ w', Below w.heap.size w w' → wpList P l.toArray Q (l.drop n) a' w') := by
    funext a'
    exact propext ⟨fun h w' hb => h w' ⟨⟨w', hb⟩, rfl⟩, fun h w' ⟨t, ht⟩ => h w' (ht ▸ t.2)⟩
  rw [e]
  exact h
end
end Go.Proofs.Ytiehlkhpblldaaa
namespace Go.Proofs.Ytiehlkhpblldaaa
open Go Go.RowKit

section
variable {P : Program} {ops : Array Oper} {C : Nat → World → Prop} {W : World}

/-- Each operation yields one value in every world behind W, and leaves the world alone. -/
def wpFree (P : Program) (ops : Array Oper) (W : World) (Q : Act → Prop) : List Oper → Act → Prop
  | [], a => Q a
  | o :: rest, a => if Region.wanted o (yielded ops a.tmps) then (∃ v, (∀ t : After W, Oper.quietUpon P (fun w' => w' = t.1) t.1 v ((execOp a.eval o).run P t.1)) ∧ wpFree P ops W Q rest (a.put o.dst v)) else wpFree P ops W Q rest (a.put o.dst undef)
theorem wpFree_nil {Q : Act → Prop} {a : Act} (h : Q a) : wpFree P ops W Q [] a := h
theorem wpFree_step {Q : Act → Prop} {a : Act} {o : Oper} {rest : List Oper}
    (h : ∀ K : Act → Prop, (∀ a, wpFree P ops W Q rest a → K a) → if Region.wanted o (yielded ops a.tmps) then (∃ v, (∀ t : After W, Oper.quietUpon P (fun w' => w' = t.1) t.1 v ((execOp a.eval o).run P t.1)) ∧ K (a.put o.dst v)) else K (a.put o.dst undef)) : wpFree P ops W Q (o :: rest) a :=
  h _ (fun _ h => h)

theorem quietUpon_class {w : World} {v : Value} {r : Result Next} {D : World → Prop} (hw : D w) (h : Oper.quietUpon P (fun w' => w' = w) w v r) : Oper.quietUpon P D w v r := by
  unfold Oper.quietUpon at *
  split at h
  · exact h
  · exact h
  · exact ⟨h.1, h.2.mono fun e w'' ⟨he, hw''⟩ => ⟨he, hw'' ▸ hw⟩⟩
  · exact h

/-- In state a the operation yields v, whichever class the world is of. -/
def Yields2 (P : Program) (ops : Array Oper) (C : Nat → World → Prop) (o : Oper) (v : Value) (a : Act) : Prop := ∀ b, YieldsIn P ops (C b) o v a

/-- Operation i comes up in state a, the worlds being of class s. -/
def xOp (P : Program) (ops : Array Oper) (C : Nat → World → Prop) (x i : Nat) (K : Nat → Act → Prop) (s : Nat) (a : Act) : Prop :=
  (x ≤ i ∧ ∃ o v s', ops[i]? = some o ∧ Region.wanted o (yielded ops a.tmps) = true ∧ (∀ w, C s w → ∃ w1, ((execOp a.eval o).run P w = .ok (.value v) w1 ∨ (execOp a.eval o).run P w = .ok .skip w1 ∧ v = undef) ∧ C s' w1) ∧ K s' (a.put o.dst v)) ∨
  (i < x ∧ ∃ o v, ops[i]? = some o ∧ Yields2 P ops C o v a ∧ K s (a.put o.dst v))

/-- Whatever order is picked for the head, L holds behind it. -/
def HeadX (P : Program) (ops : Array Oper) (C : Nat → World → Prop) (n x : Nat) (L : Nat → Array Bool → Act → Prop) : Nat → Nat → Array Bool → Act → Prop
  | 0, s, listed, a => L s listed a
  | f + 1, s, listed, a => Region.ready .any ops listed ≠ [] ∧
      ∀ i ∈ Region.ready .any ops listed, i < n ∧ xOp P ops C x i (fun s' a' => HeadX P ops C n x L f s' (listed.setIfInBounds i true) a') s a

theorem any_of_headX {n x g : Nat} {L : Nat → Array Bool → Act → Prop} {Q' : Exit → Act → World → Prop} (hL : ∀ s listed a w, C s w → L s listed a → wpAny P .any ops Q' g listed a w) :
    ∀ (f : Nat) (s : Nat) (listed : Array Bool) (a : Act) (w : World), C s w → HeadX P ops C n x L f s listed a → wpAny P .any ops Q' (f + g) listed a w
  | 0, s, listed, a, w, hw, h => by
    rw [Nat.zero_add]; exact hL _ _ _ _ hw h
  | f + 1, s, listed, a, w, hw, h => by
    have e : f + 1 + g = (f + g) + 1 := by omega
    rw [e]
    refine ⟨fun h0 => absurd h0 h.1, fun i hi => ?_⟩
    rcases (h.2 i hi).2 with ⟨_, o, v, s', ho, hwn, hr, hK⟩ | ⟨_, o, v, ho, hy, hK⟩
    · obtain ⟨w1, hr1, hC⟩ := hr w hw
      unfold wpOp
      simp only [ho, hwn, if_true]
      refine .inl ?_
      unfold Oper.wp
      rcases hr1 with hr1 | ⟨hr1, hv⟩
      · rw [hr1]
        exact any_of_headX hL f s' _ _ w1 hC hK
      · rw [hr1]
        subst hv
        exact any_of_headX hL f s' _ _ w1 hC hK
    · exact wpOp_of_qOp hw (fun a' w' hw' h' => any_of_headX hL f s _ a' w' hw' h') ((hy s).qOp (K := HeadX P ops C n x L f s (listed.setIfInBounds i true)) ho hK)

theorem yields2_put {oi oj : Oper} {v u : Value} {a : Act} (hsi : ∀ cs b, oi.op ≠ .select cs b) (hap : oi.apart ops oj = true) (hy : Yields2 P ops C oi v a) : Yields2 P ops C oi v (a.put oj.dst u) := by
  obtain ⟨h1, h2, h3⟩ := Oper.apart_spec hap
  exact fun b => (hy b).of_same (execOp_put oi hsi a oj.dst u h3) (wanted_put oi a oj.dst u h3)
theorem yields2_back {oi oj : Oper} {v u : Value} {a : Act} (hsj : ∀ cs b, oj.op ≠ .select cs b) (hap : oi.apart ops oj = true) (hy : Yields2 P ops C oj u (a.put oi.dst v)) : Yields2 P ops C oj u a := by
  obtain ⟨h1, h2, h3⟩ := Oper.apart_spec hap
  exact fun b => (hy b).of_same (execOp_put oj hsj a oi.dst v h1).symm (wanted_put oj a oi.dst v h1).symm

theorem headX_first {n x i : Nat} {oi : Oper} {v : Value} {L : Nat → Array Bool → Act → Prop} (hi : ops[i]? = some oi) (hix : i < x) (hsel : ∀ (j : Nat) (o : Oper) cs b, ops[j]? = some o → o.op ≠ .select cs b)
    (hs : Region.sinkB .any ops n = true) (hc : Region.chainB .any ops n = true) (hn : n < ops.size) (hin : i < n)
    (hdone : ∀ s listed a, L s listed a → ∀ j ∈ Region.ready .any ops listed, n ≤ j) :
    ∀ (f : Nat) (b : Nat) (listed : Array Bool) (a : Act), HeadInv .any ops n listed →
      (∀ j oj, ops[j]? = some oj → j ≠ i → listed.getD j true = false → (∀ e ∈ oj.after, Region.binds .any e = true → e.on ≠ i) → oi.apart ops oj = true) →
      i ∈ Region.ready .any ops listed → Yields2 P ops C oi v a →
      HeadX P ops C n x L f b (listed.setIfInBounds i true) (a.put oi.dst v) → HeadX P ops C n x L (f + 1) b listed a
  | 0, b, listed, a, inv, _, hr, hy, H => by
    refine ⟨fun h => (by rw [h] at hr; cases hr), fun j hj => ⟨head_only hs hc hn hin inv hr hj, ?_⟩⟩
    by_cases hji : j = i
    · subst hji
      exact .inr ⟨hix, oi, v, hi, hy, H⟩
    · have h1 := hdone _ _ _ H j (ready_mono hj hji)
      have h2 := head_only hs hc hn hin inv hr hj
      omega
  | f + 1, b, listed, a, inv, hfree, hr, hy, H => by
    refine ⟨fun h => (by rw [h] at hr; cases hr), fun j hj => ⟨head_only hs hc hn hin inv hr hj, ?_⟩⟩
    by_cases hji : j = i
    · subst hji
      exact .inr ⟨hix, oi, v, hi, hy, H⟩
    · obtain ⟨hjun, oj, hoj, hall⟩ := mem_ready.1 hj
      have hnot : ∀ e ∈ oj.after, Region.binds .any e = true → e.on ≠ i := fun e he hb heq => by
        have h1 := hall e he hb
        rw [heq, getD_both (mem_ready.1 hr).1] at h1
        cases h1
      have hap := hfree j oj hoj hji hjun hnot
      obtain ⟨p1, p2, p3⟩ := Oper.apart_spec hap
      have hfree' : ∀ k ok, ops[k]? = some ok → k ≠ i → (listed.setIfInBounds j true).getD k true = false → (∀ e ∈ ok.after, Region.binds .any e = true → e.on ≠ i) → oi.apart ops ok = true := fun k ok hk hki hun hno => by
        refine hfree k ok hk hki ?_ hno
        by_cases hjk : j = k
        · subst hjk
          exact hjun
        · rwa [getD_set_ne true hjk] at hun
      have inv' := inv.set hj (head_only hs hc hn hin inv hr hj)
      rcases (H.2 j (ready_mono hj hji)).2 with ⟨hjx, o, u, s', ho, hwn, hrun, hK⟩ | ⟨hjx, o, u, ho, hyj, hK⟩
      · obtain rfl : oj = o := by rw [hoj] at ho; exact Option.some.inj ho
        refine .inl ⟨hjx, oj, u, s', hoj, ?_, ?_, ?_⟩
        · rw [wanted_put oj a oi.dst v p1] at hwn
          exact hwn
        · intro w hw
          have := hrun w hw
          rwa [execOp_put oj (fun cs b => hsel j oj cs b hoj) a oi.dst v p1] at this
        · refine headX_first hi hix hsel hs hc hn hin hdone f s' (listed.setIfInBounds j true) _ inv' hfree' (ready_mono hr (Ne.symm hji)) (yields2_put (fun cs b => hsel i oi cs b hi) hap hy) ?_
          rw [Array.setIfInBounds_comm _ _ hji, ← Act.put_comm a v u p2]
          exact hK
      · obtain rfl : oj = o := by rw [hoj] at ho; exact Option.some.inj ho
        refine .inr ⟨hjx, oj, u, hoj, yields2_back (fun cs b => hsel j oj cs b hoj) hap hyj, ?_⟩
        refine headX_first hi hix hsel hs hc hn hin hdone f b (listed.setIfInBounds j true) _ inv' hfree' (ready_mono hr (Ne.symm hji)) (yields2_put (fun cs b => hsel i oi cs b hi) hap hy) ?_
        rw [Array.setIfInBounds_comm _ _ hji, ← Act.put_comm a v u p2]
        exact hK

/-- The first k are marked, and n behind them. -/
def marks (listed : Array Bool) (k : Nat) : Nat → Array Bool
  | 0 => listed
  | n + 1 => marks (listed.setIfInBounds k true) (k + 1) n
theorem headX_lex {x m g : Nat} {L : Nat → Array Bool → Act → Prop} (hsel : Region.noSelect ops = true) (hs : Region.sinkB .any ops (x + m) = true) (hc : Region.chainB .any ops (x + m) = true) (hn : x + m < ops.size)
    (hL : ∀ s listed a, L s listed a → Region.seqB .any ops g (x + m) listed = true) (hCW : ∀ s w, C s w → Below W.heap.size W w) :
    ∀ (l : List Oper) (k : Nat) (listed : Array Bool) (a : Act), (∀ j, j < l.length → l[j]? = ops[k + j]?) → k + l.length = x → HeadInv .any ops (x + m) listed →
    Region.lexHead .any ops g (l.length + m) k listed = true → wpFree P ops W (fun a' => HeadX P ops C (x + m) x L m 0 (marks listed k l.length) a') l a →
    HeadX P ops C (x + m) x L (l.length + m) 0 listed a
  | [], k, listed, a, _, hk, inv, hB, h => by
    rw [List.length_nil, Nat.zero_add]
    exact h
  | o :: l, k, listed, a, hl, hk, inv, hB, h => by
    have h0 : ops[k]? = some o := by simpa using (hl 0 (by simp)).symm
    simp only [List.length_cons] at hB hk ⊢
    rw [show l.length + 1 + m = (l.length + m) + 1 by omega] at hB ⊢
    rw [Region.lexHead] at hB
    simp only [Bool.and_eq_true] at hB
    obtain ⟨⟨hr, hf⟩, hB'⟩ := hB
    have hr' : k ∈ Region.ready .any ops listed := by simpa using hr
    have hst : ∃ v, Yields2 P ops C o v a ∧ wpFree P ops W (fun a' => HeadX P ops C (x + m) x L m 0 (marks (listed.setIfInBounds k true) (k + 1) l.length) a') l (a.put o.dst v) := by
      unfold wpFree at h
      by_cases hw : Region.wanted o (yielded ops a.tmps) = true
      · simp only [hw, if_true] at h
        obtain ⟨v, h1, h2⟩ := h
        exact ⟨v, fun b => .inl ⟨hw, fun w hC => quietUpon_class hC (h1 ⟨w, hCW b w hC⟩)⟩, h2⟩
      · simp only [hw] at h
        exact ⟨undef, fun b => .inr ⟨by simpa using hw, rfl⟩, h⟩
    obtain ⟨v, hy', hK⟩ := hst
    exact headX_first h0 (by omega) (Region.noSelect_spec hsel) hs hc hn (by omega) (fun s _ _ h => seqB_ready (hL s _ _ h)) (l.length + m) 0 listed a inv (Region.free_spec h0 hf) hr' hy'
      (headX_lex hsel hs hc hn hL hCW l (k + 1) _ _ (fun j hj => by have := hl (j + 1) (by simp; omega); simpa [Nat.add_assoc, Nat.add_comm 1 j] using this) (by omega) (inv.set hr' (by omega)) hB' hK)

/-- The head in the order of the text, in whatever world behind this one; then those that make memory, in any order; then the tail. -/
theorem region_mix {id : Nat} {Q : Exit → Act → World → Prop} {a : Act} {w : World} {l : List Oper} (V : Nat → World) (x m : Nat) (hm : P.follows .mixedOrders = true) (hB : Region.lexTailB .any l.toArray (x + m) = true)
    (hV : V 0 = w.drew) (hVW : ∀ s, Below w.heap.size w (V s))
    (h : wpFree P l.toArray w (fun a' => HeadX P l.toArray (fun s w' => w' = V s) (x + m) x (fun s listed a' => Region.seqB .any l.toArray (l.toArray.size - (x + m)) (x + m) listed = true ∧ wpList P l.toArray Q (l.drop (x + m)) a' (V s)) m 0 (marks (Array.replicate l.toArray.size false) 0 (l.take x).length) a') (l.take x) a) : (Code.region id l.toArray true).wp P Q a w := by
  simp only [Region.lexTailB, Bool.and_eq_true, decide_eq_true_eq] at hB
  obtain ⟨⟨⟨⟨hsel, hn⟩, hs⟩, hc⟩, hlex⟩ := hB
  have hn' : x + m < l.length := by simpa using hn
  have htl : (l.take x).length = x := by simp; omega
  have hdl : (l.drop (x + m)).length = l.toArray.size - (x + m) := by simp
  have inv0 : HeadInv .any l.toArray (x + m) (Array.replicate l.toArray.size false) :=
    ⟨by simp, fun j oj _ hl => (by rw [getD_replicate_false] at hl; cases hl), fun t _ ht => getD_in (by simpa using ht) (getD_replicate_false _ _)⟩
  have H := headX_lex (W := w) (C := fun s w' => w' = V s) (g := l.toArray.size - (x + m)) (L := fun s listed a' => Region.seqB .any l.toArray (l.toArray.size - (x + m)) (x + m) listed = true ∧ wpList P l.toArray Q (l.drop (x + m)) a' (V s)) hsel hs hc hn (fun s _ _ h => h.1) (fun s w' hw' => by rw [hw']; exact hVW s) (l.take x) 0 _ a (fun j hj => by
      have hj' : j < x := by rw [htl] at hj; exact hj
      simp [hj']) (by simpa using htl) inv0 (by rw [htl]; exact hlex) h
  refine wp_region_any hm ?_
  have := any_of_headX (Q' := Q) (g := l.toArray.size - (x + m)) (fun s listed a' w' hw' hL => by
    obtain rfl : w' = V s := hw'
    have := wpAny_of_seq (md := .any) (Q' := Q) (l.drop (x + m)) (x + m) listed a' (V s) (fun j => by simp [List.getElem?_drop]) (by rw [hdl]; exact hL.1) hL.2
    rwa [hdl] at this) _ _ _ _ w.drew hV.symm H
  rw [htl, show x + m + (l.toArray.size - (x + m)) = l.toArray.size by omega] at this
  exact this

end
end Go.Proofs.Ytiehlkhpblldaaa
namespace Go.Proofs.Ytiehlkhpblldaaa
open Go Go.RowKit
section
variable {P : Program} {ops : Array Oper} {C : Nat → World → Prop} {D : World → Prop}
/-- Each operation yields one value in every world of D, and leaves the world alone. -/
def wpFreeD (P : Program) (ops : Array Oper) (D : World → Prop) (Q : Act → Prop) : List Oper → Act → Prop
  | [], a => Q a
  | o :: rest, a => if Region.wanted o (yielded ops a.tmps) then (∃ v, (∀ t : { w : World // D w }, Oper.quietUpon P (fun w' => w' = t.1) t.1 v ((execOp a.eval o).run P t.1)) ∧ wpFreeD P ops D Q rest (a.put o.dst v)) else wpFreeD P ops D Q rest (a.put o.dst undef)
theorem wpFreeD_nil {Q : Act → Prop} {a : Act} (h : Q a) : wpFreeD P ops D Q [] a := h
theorem wpFreeD_step {Q : Act → Prop} {a : Act} {o : Oper} {rest : List Oper}
    (h : ∀ K : Act → Prop, (∀ a, wpFreeD P ops D Q rest a → K a) → if Region.wanted o (yielded ops a.tmps) then (∃ v, (∀ t : { w : World // D w }, Oper.quietUpon P (fun w' => w' = t.1) t.1 v ((execOp a.eval o).run P t.1)) ∧ K (a.put o.dst v)) else K (a.put o.dst undef)) : wpFreeD P ops D Q (o :: rest) a :=
  h _ (fun _ h => h)
theorem headX_lexD {x m g : Nat} {L : Nat → Array Bool → Act → Prop} (hsel : Region.noSelect ops = true) (hs : Region.sinkB .any ops (x + m) = true) (hc : Region.chainB .any ops (x + m) = true) (hn : x + m < ops.size)
    (hL : ∀ s listed a, L s listed a → Region.seqB .any ops g (x + m) listed = true) (hCW : ∀ s w, C s w → D w) :
    ∀ (l : List Oper) (k : Nat) (listed : Array Bool) (a : Act), (∀ j, j < l.length → l[j]? = ops[k + j]?) → k + l.length = x → HeadInv .any ops (x + m) listed →
    Region.lexHead .any ops g (l.length + m) k listed = true → wpFreeD P ops D (fun a' => HeadX P ops C (x + m) x L m 0 (marks listed k l.length) a') l a →
    HeadX P ops C (x + m) x L (l.length + m) 0 listed a
  | [], k, listed, a, _, hk, inv, hB, h => by
    rw [List.length_nil, Nat.zero_add]
    exact h
  | o :: l, k, listed, a, hl, hk, inv, hB, h => by
    have h0 : ops[k]? = some o := by simpa using (hl 0 (by simp)).symm
    simp only [List.length_cons] at hB hk ⊢
    rw [show l.length + 1 + m = (l.length + m) + 1 by omega] at hB ⊢
    rw [Region.lexHead] at hB
    simp only [Bool.and_eq_true] at hB
    obtain ⟨⟨hr, hf⟩, hB'⟩ := hB
    have hr' : k ∈ Region.ready .any ops listed := by simpa using hr
    have hst : ∃ v, Yields2 P ops C o v a ∧ wpFreeD P ops D (fun a' => HeadX P ops C (x + m) x L m 0 (marks (listed.setIfInBounds k true) (k + 1) l.length) a') l (a.put o.dst v) := by
      unfold wpFreeD at h
      by_cases hw : Region.wanted o (yielded ops a.tmps) = true
      · simp only [hw, if_true] at h
        obtain ⟨v, h1, h2⟩ := h
        exact ⟨v, fun b => .inl ⟨hw, fun w hC => quietUpon_class hC (h1 ⟨w, hCW b w hC⟩)⟩, h2⟩
      · simp only [hw] at h
        exact ⟨undef, fun b => .inr ⟨by simpa using hw, rfl⟩, h⟩
    obtain ⟨v, hy', hK⟩ := hst
    exact headX_first h0 (by omega) (Region.noSelect_spec hsel) hs hc hn (by omega) (fun s _ _ h => seqB_ready (hL s _ _ h)) (l.length + m) 0 listed a inv (Region.free_spec h0 hf) hr' hy'
      (headX_lexD hsel hs hc hn hL hCW l (k + 1) _ _ (fun j hj => by have := hl (j + 1) (by simp; omega); simpa [Nat.add_assoc, Nat.add_comm 1 j] using this) (by omega) (inv.set hr' (by omega)) hB' hK)
/-- The head in the order of the text, in whatever world of D; then those that make memory, in any order; then the tail. -/
theorem region_mixD {id : Nat} {Q : Exit → Act → World → Prop} {a : Act} {w : World} {l : List Oper} (V : Nat → World) (D : World → Prop) (x m : Nat) (hm : P.follows .mixedOrders = true) (hB : Region.lexTailB .any l.toArray (x + m) = true)
    (hV : V 0 = w.drew) (hVW : ∀ s, D (V s))
    (h : wpFreeD P l.toArray D (fun a' => HeadX P l.toArray (fun s w' => w' = V s) (x + m) x (fun s listed a' => Region.seqB .any l.toArray (l.toArray.size - (x + m)) (x + m) listed = true ∧ wpList P l.toArray Q (l.drop (x + m)) a' (V s)) m 0 (marks (Array.replicate l.toArray.size false) 0 (l.take x).length) a') (l.take x) a) : (Code.region id l.toArray true).wp P Q a w := by
  simp only [Region.lexTailB, Bool.and_eq_true, decide_eq_true_eq] at hB
  obtain ⟨⟨⟨⟨hsel, hn⟩, hs⟩, hc⟩, hlex⟩ := hB
  have hn' : x + m < l.length := by simpa using hn
  have htl : (l.take x).length = x := by simp; omega
  have hdl : (l.drop (x + m)).length = l.toArray.size - (x + m) := by simp
  have inv0 : HeadInv .any l.toArray (x + m) (Array.replicate l.toArray.size false) :=
    ⟨by simp, fun j oj _ hl => (by rw [getD_replicate_false] at hl; cases hl), fun t _ ht => getD_in (by simpa using ht) (getD_replicate_false _ _)⟩
  have H := headX_lexD (D := D) (C := fun s w' => w' = V s) (g := l.toArray.size - (x + m)) (L := fun s listed a' => Region.seqB .any l.toArray (l.toArray.size - (x + m)) (x + m) listed = true ∧ wpList P l.toArray Q (l.drop (x + m)) a' (V s)) hsel hs hc hn (fun s _ _ h => h.1) (fun s w' hw' => by rw [hw']; exact hVW s) (l.take x) 0 _ a (fun j hj => by
      have hj' : j < x := by rw [htl] at hj; exact hj
      simp [hj']) (by simpa using htl) inv0 (by rw [htl]; exact hlex) h
  refine wp_region_any hm ?_
  have := any_of_headX (Q' := Q) (g := l.toArray.size - (x + m)) (fun s listed a' w' hw' hL => by
    obtain rfl : w' = V s := hw'
    have := wpAny_of_seq (md := .any) (Q' := Q) (l.drop (x + m)) (x + m) listed a' (V s) (fun j => by simp [List.getElem?_drop]) (by rw [hdl]; exact hL.1) hL.2
    rwa [hdl] at this) _ _ _ _ w.drew hV.symm H
  rw [htl, show x + m + (l.toArray.size - (x + m)) = l.toArray.size by omega] at this
  exact this
/-- append as an operation, by what it tells. -/
theorem run_append_op (ρ : Operand → Value) (dst : Option Tmp) (xs : Array Operand) (ats : Array TypeId) (ty : TypeId) (pos : String) (after : Array Edge) (guard : Option (Nat × Bool)) {w w' : World} {v : Value} {args : Array Value} (hx : xs.map ρ = args) (h : (Builtin.append_ ats ty args).run P w = .ok v w') :
    (execOp ρ { dst, op := .call { callee := .builtin .append, args := xs, argTypes := ats }, type := ty, pos, after, guard }).run P w = .ok (.value v) w' := by
  show (do pure (Next.value (← Builtin.append_ ats ty (xs.map ρ))) : Sem Next).run P w = _
  rw [hx]
  simp only [Sem.run_bind, h, Result.andThen_ok]
  rfl
/-- Two, one behind the other. -/
theorem headX_row2 {n x : Nat} {L : Nat → Array Bool → Act → Prop} {listed : Array Bool} {a : Act} (V : Nat → World) {ox oy : Oper} {p0 p1 : Value} (hx : ops[x]? = some ox) (hy : ops[x + 1]? = some oy) (hn : x + 1 < n)
    (r0 : Region.ready .any ops listed = [x]) (r1 : Region.ready .any ops (listed.setIfInBounds x true) = [x + 1])
    (hX : Region.wanted ox (yielded ops a.tmps) = true ∧ (execOp a.eval ox).run P (V 0) = .ok (.value p0) (V 1))
    (hY : Region.wanted oy (yielded ops (a.put ox.dst p0).tmps) = true ∧ (execOp (a.put ox.dst p0).eval oy).run P (V 1) = .ok (.value p1) (V 2))
    (h1 : L 2 ((listed.setIfInBounds x true).setIfInBounds (x + 1) true) ((a.put ox.dst p0).put oy.dst p1)) :
    HeadX P ops (fun s w' => w' = V s) n x L 2 0 listed a := by
  refine ⟨by rw [r0]; simp, fun i hi => ?_⟩
  rw [r0] at hi
  obtain rfl := List.mem_singleton.1 hi
  refine ⟨by omega, .inl ⟨Nat.le_refl _, ox, p0, 1, hx, hX.1, fun w hw => ⟨V 1, .inl (by rw [hw]; exact hX.2), rfl⟩, ?_⟩⟩
  refine ⟨by rw [r1]; simp, fun j hj => ?_⟩
  rw [r1] at hj
  obtain rfl := List.mem_singleton.1 hj
  exact ⟨by omega, .inl ⟨by omega, oy, p1, 2, hy, hY.1, fun w hw => ⟨V 2, .inl (by rw [hw]; exact hY.2), rfl⟩, h1⟩⟩
end
end Go.Proofs.Ytiehlkhpblldaaa
namespace Go.Proofs.Ytiehlkhpblldaaa
open Go Go.RowKit

section
variable {P : Program} {ops : Array Oper} {σ : Type} {C : σ → World → Prop} {W : World}

/-- Each operation yields one value in every world behind W, and leaves the world alone. -/
def wpFreeB (P : Program) (ops : Array Oper) (W : World) (Q : Act → Prop) : List Oper → Act → Prop
  | [], a => Q a
  | o :: rest, a => if Region.wanted o (yielded ops a.tmps) then (∃ v, (∀ t : After W, Oper.quietUpon P (fun w' => Below t.1.heap.size t.1 w') t.1 v ((execOp a.eval o).run P t.1)) ∧ wpFreeB P ops W Q rest (a.put o.dst v)) else wpFreeB P ops W Q rest (a.put o.dst undef)
theorem wpFreeB_nil {Q : Act → Prop} {a : Act} (h : Q a) : wpFreeB P ops W Q [] a := h
theorem wpFreeB_step {Q : Act → Prop} {a : Act} {o : Oper} {rest : List Oper}
    (h : ∀ K : Act → Prop, (∀ a, wpFreeB P ops W Q rest a → K a) → if Region.wanted o (yielded ops a.tmps) then (∃ v, (∀ t : After W, Oper.quietUpon P (fun w' => Below t.1.heap.size t.1 w') t.1 v ((execOp a.eval o).run P t.1)) ∧ K (a.put o.dst v)) else K (a.put o.dst undef)) : wpFreeB P ops W Q (o :: rest) a :=
  h _ (fun _ h => h)

theorem quietUpon_classB {w : World} {v : Value} {r : Result Next} {D : World → Prop} (hw : ∀ w', Below w.heap.size w w' → D w') (h : Oper.quietUpon P (fun w' => Below w.heap.size w w') w v r) : Oper.quietUpon P D w v r := by
  unfold Oper.quietUpon at *
  split at h
  · exact h
  · exact h
  · exact ⟨h.1, h.2.mono fun e w'' ⟨he, hw''⟩ => ⟨he, hw _ hw''⟩⟩
  · exact h

/-- In state a the operation yields v, whichever class the world is of. -/
def YieldsB (P : Program) (ops : Array Oper) (C : σ → World → Prop) (o : Oper) (v : Value) (a : Act) : Prop := ∀ b, YieldsIn P ops (C b) o v a

theorem yieldsB_put {oi oj : Oper} {v u : Value} {a : Act} (hsi : ∀ cs b, oi.op ≠ .select cs b) (hap : oi.apart ops oj = true) (hy : YieldsB P ops C oi v a) : YieldsB P ops C oi v (a.put oj.dst u) := by
  obtain ⟨h1, h2, h3⟩ := Oper.apart_spec hap
  exact fun b => (hy b).of_same (execOp_put oi hsi a oj.dst u h3) (wanted_put oi a oj.dst u h3)
theorem yieldsB_back {oi oj : Oper} {v u : Value} {a : Act} (hsj : ∀ cs b, oj.op ≠ .select cs b) (hap : oi.apart ops oj = true) (hy : YieldsB P ops C oj u (a.put oi.dst v)) : YieldsB P ops C oj u a := by
  obtain ⟨h1, h2, h3⟩ := Oper.apart_spec hap
  exact fun b => (hy b).of_same (execOp_put oj hsj a oi.dst v h1).symm (wanted_put oj a oi.dst v h1).symm

/-- Two new blocks: which are there. -/
structure NewB (W : World) (o : Obj) (s : Option Nat × Option Nat) (w : World) : Prop where
  below : Below W.heap.size W w
  p : ∀ b, s.1 = some b → W.heap.size ≤ b ∧ w.heap[b]? = some o
  q : ∀ b, s.2 = some b → W.heap.size ≤ b ∧ w.heap[b]? = some o
  ne : ∀ b, s.1 = some b → s.2 ≠ some b
theorem NewB.on {W : World} {o : Obj} {s : Option Nat × Option Nat} {w w' : World} (h : NewB W o s w) (hb : Below w.heap.size w w') : NewB W o s w' :=
  ⟨below_up h.below hb, fun b e => ⟨(h.p b e).1, by rw [hb.block _ (Array.getElem?_eq_some_iff.1 (h.p b e).2).1]; exact (h.p b e).2⟩, fun b e => ⟨(h.q b e).1, by rw [hb.block _ (Array.getElem?_eq_some_iff.1 (h.q b e).2).1]; exact (h.q b e).2⟩, h.ne⟩
theorem NewB.one {W : World} {o : Obj} {w : World} (h : NewB W o (none, none) w) : NewB W o (some w.heap.size, none) (w.alloc o) ∧ NewB W o (none, some w.heap.size) (w.alloc o) := by
  have hb := h.below.alloc h.below.size o
  refine ⟨⟨hb, fun b e => ?_, (fun b e => by cases e), (fun b _ e => by cases e)⟩, ⟨hb, (fun b e => by cases e), fun b e => ?_, (fun b e => by cases e)⟩⟩
  · injection e with e
    subst e
    exact ⟨h.below.size, heap_alloc_new _ _⟩
  · injection e with e
    subst e
    exact ⟨h.below.size, heap_alloc_new _ _⟩
theorem NewB.two {W : World} {o : Obj} {w : World} {b : Nat} : (NewB W o (some b, none) w → NewB W o (some b, some w.heap.size) (w.alloc o)) ∧ (NewB W o (none, some b) w → NewB W o (some w.heap.size, some b) (w.alloc o)) := by
  refine ⟨fun h => ?_, fun h => ?_⟩
  · have hp := h.p b rfl
    have hlt := (Array.getElem?_eq_some_iff.1 hp.2).1
    refine ⟨h.below.alloc h.below.size o, fun c e => ?_, fun c e => ?_, fun c e e2 => ?_⟩
    · injection e with e
      subst e
      exact ⟨hp.1, by rw [Below.heap_alloc _ _ _ hlt]; exact hp.2⟩
    · injection e with e
      subst e
      exact ⟨h.below.size, heap_alloc_new _ _⟩
    · injection e with e
      injection e2 with e2
      omega
  · have hp := h.q b rfl
    have hlt := (Array.getElem?_eq_some_iff.1 hp.2).1
    refine ⟨h.below.alloc h.below.size o, fun c e => ?_, fun c e => ?_, fun c e e2 => ?_⟩
    · injection e with e
      subst e
      exact ⟨h.below.size, heap_alloc_new _ _⟩
    · injection e with e
      subst e
      exact ⟨hp.1, by rw [Below.heap_alloc _ _ _ hlt]; exact hp.2⟩
    · injection e with e
      injection e2 with e2
      omega
end
end Go.Proofs.Ytiehlkhpblldaaa
