/- Functions with memory of their own. -/
import Derived.Test.YthnbnilammjceaaCpy2
import Derived.Test.YthnbnilammjceaaSam3
namespace Go.Proofs.Ythnbnilammjceaa
open Go.RowKit Go.Maps
set_option linter.unusedVariables false
set_option linter.unusedSimpArgs false

/-- Alike in all but where the lists lie. -/
structure LikeI (x y : In) : Prop where
  op : y.op = x.op
  dst : y.dst = x.dst
  args : y.args = x.args
  imm : y.imm = x.imm
  alu : y.alu = x.alu
  wide : y.wide = x.wide
  pred : y.pred = x.pred
structure LikeL {α : Type} (p : α → α → Prop) (l m : List α) : Prop where
  len : m.length = l.length
  el : ∀ k (h1 : k < l.length) (h2 : k < m.length), p l[k] m[k]
structure LikeB (x y : Bl) : Prop where
  en : y.en = x.en
  arg : y.arg = x.arg
  to : y.to = x.to
  code : LikeL LikeI x.code y.code
structure LikeF (x y : Fn) : Prop where
  nm : y.nm = x.nm
  params : y.params = x.params
  regs : y.regs = x.regs
  slots : y.slots = x.slots
  blocks : LikeL LikeB x.blocks y.blocks
theorem LikeL.trans {α : Type} {p : α → α → Prop} (hp : ∀ a b c, p a b → p b c → p a c) {l m n : List α} (h : LikeL p l m) (k : LikeL p m n) : LikeL p l n :=
  ⟨k.len.trans h.len, fun i h1 h2 => hp _ _ _ (h.el i h1 (by rw [h.len]; exact h1)) (k.el i (by rw [h.len]; exact h1) h2)⟩
theorem LikeI.trans {a b c : In} (h : LikeI a b) (k : LikeI b c) : LikeI a c := ⟨k.op.trans h.op, k.dst.trans h.dst, k.args.trans h.args, k.imm.trans h.imm, k.alu.trans h.alu, k.wide.trans h.wide, k.pred.trans h.pred⟩
theorem LikeB.trans {a b c : Bl} (h : LikeB a b) (k : LikeB b c) : LikeB a c := ⟨k.en.trans h.en, k.arg.trans h.arg, k.to.trans h.to, h.code.trans (fun _ _ _ p q => p.trans q) k.code⟩
theorem LikeF.trans {a b c : Fn} (h : LikeF a b) (k : LikeF b c) : LikeF a c := ⟨k.nm.trans h.nm, k.params.trans h.params, k.regs.trans h.regs, k.slots.trans h.slots, h.blocks.trans (fun _ _ _ p q => p.trans q) k.blocks⟩
theorem eqL_refl : ∀ l : List Int, eqL l l = true := fun l => by simp [eqL]
theorem LikeI.eq {a b : In} (h : LikeI a b) : eqI b a = true := by
  unfold eqI
  rw [h.op, h.dst, h.args, h.imm, h.alu, h.wide, h.pred, eqL_refl, eqL_refl]
  simp
theorem LikeB.eq {a b : Bl} (h : LikeB a b) : eqB b a = true := by
  unfold eqB
  rw [h.en, h.arg, h.to, eqL_refl, all2_yes h.code.len (fun k h1 h2 => (h.code.el k h2 h1).eq)]
  simp
theorem LikeF.eq {a b : Fn} (h : LikeF a b) : eqF b a = true := by
  unfold eqF
  rw [h.nm, h.params, h.regs, h.slots, all2_yes h.blocks.len (fun k h1 h2 => (h.blocks.el k h2 h1).eq)]
  simp

theorem Own.lower {α : Type} {f : α → List Value} {t : TypeId} {z : Nat} {w : World} {B C : Nat} {v : Value} {l : List α} (h : Own t z f w B v l) (hC : C ≤ B) : Own t z f w C v l := by
  obtain ⟨hl, h'⟩ := h
  refine ⟨hl, ?_⟩
  rcases h' with h' | ⟨g, cap, cur, hv, hg, hb, hr⟩
  · exact .inl h'
  · exact .inr ⟨g, cap, cur, hv, Nat.le_trans hC hg, hb, hr⟩
theorem Own.kept {α : Type} {f : α → List Value} {t : TypeId} {z : Nat} {w w' : World} {B : Nat} {v : Value} {l : List α} {S : Nat → Prop} (h : Own t z f w B v l) (K : Kept S w w') (hS : ∀ k, B ≤ k → k < w.heap.size → ¬ S k) : Own t z f w' B v l :=
  K.owns h (fun b hb => hS b (World.ownsRow.lt h b hb).1 (World.ownsRow.lt h b hb).2)
/-- Its lists lie in memory of their own, from block B on. -/
structure OwnI (w : World) (B : Nat) (x : In) : Prop where
  a : Own 3 1 icell w B x.av x.args
  al : x.args.length * 8 ≤ big
  p : Own 3 1 icell w B x.pv x.pred
  pl : x.pred.length * 8 ≤ big
  hi : -2147483648 ≤ x.imm ∧ x.imm ≤ 2147483647
structure OwnB (w : World) (B : Nat) (b : Bl) : Prop where
  c : Own 47 7 In.cells w B b.cv b.code
  cl : b.code.length * 88 ≤ big
  t : Own 3 1 icell w B b.tv b.to
  tl : b.to.length * 8 ≤ big
  ins : ∀ k (h : k < b.code.length), OwnI w B b.code[k]
structure OwnF (w : World) (B : Nat) (f : Fn) : Prop where
  b : Own 54 4 Bl.cells w B f.bv f.blocks
  bl : f.blocks.length * 64 ≤ big
  nl : f.nm.size ≤ big
  bls : ∀ k (h : k < f.blocks.length), OwnB w B f.blocks[k]
section
variable {w w' : World} {B C : Nat}
theorem OwnI.lower {x : In} (h : OwnI w B x) (hC : C ≤ B) : OwnI w C x := ⟨h.a.lower hC, h.al, h.p.lower hC, h.pl, h.hi⟩
theorem OwnB.lower {x : Bl} (h : OwnB w B x) (hC : C ≤ B) : OwnB w C x := ⟨h.c.lower hC, h.cl, h.t.lower hC, h.tl, fun k hk => (h.ins k hk).lower hC⟩
theorem OwnI.kept {x : In} {S : Nat → Prop} (h : OwnI w B x) (K : Kept S w w') (hS : ∀ k, B ≤ k → k < w.heap.size → ¬ S k) : OwnI w' B x := ⟨h.a.kept K hS, h.al, h.p.kept K hS, h.pl, h.hi⟩
theorem OwnB.kept {x : Bl} {S : Nat → Prop} (h : OwnB w B x) (K : Kept S w w') (hS : ∀ k, B ≤ k → k < w.heap.size → ¬ S k) : OwnB w' B x := ⟨h.c.kept K hS, h.cl, h.t.kept K hS, h.tl, fun k hk => (h.ins k hk).kept K hS⟩
theorem OwnF.kept {x : Fn} {S : Nat → Prop} (h : OwnF w B x) (K : Kept S w w') (hS : ∀ k, B ≤ k → k < w.heap.size → ¬ S k) : OwnF w' B x := ⟨h.b.kept K hS, h.bl, h.nl, fun k hk => (h.bls k hk).kept K hS⟩
theorem OwnI.ok {x : In} (h : OwnI w B x) : In.ok w x := ⟨h.a.src ic1, h.al, h.p.src ic1, h.pl, h.hi⟩
theorem OwnB.ok {x : Bl} (h : OwnB w B x) : Bl.ok w x := ⟨h.c.src in7, h.cl, h.t.src ic1, h.tl, fun y hy => by
  obtain ⟨k, hk, rfl⟩ := List.getElem_of_mem hy
  exact (h.ins k hk).ok⟩
theorem OwnF.ok {x : Fn} (h : OwnF w B x) : Fn.ok w x := ⟨h.b.src bl4, h.bl, h.nl, fun y hy => by
  obtain ⟨k, hk, rfl⟩ := List.getElem_of_mem hy
  exact (h.bls k hk).ok⟩
end
end Go.Proofs.Ythnbnilammjceaa
