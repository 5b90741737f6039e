/- The document's sort: what it answers, and slices of numbers. -/
import Derived.Test.YtgnlplddppheiaaBrs
import Derived.Deep.AppendSrc
namespace Go.Proofs.Ytgnlplddppheiaa
open Go.RowKit Go.Maps
set_option linter.unusedVariables false

def labAt (ls : List Ln) (i : Nat) : Int := ((ls[i]?).map Ln.label).getD 0
theorem labAt_get {ls : List Ln} {i : Nat} (h : i < ls.length) : labAt ls i = ls[i].label := by unfold labAt; rw [List.getElem?_eq_getElem h]; rfl

/-- The places of the labels among lines f up to t, by rising labels. -/
structure Srt (ls : List Ln) (f t : Nat) (s : List Nat) : Prop where
  mem : ∀ i, i ∈ s ↔ f ≤ i ∧ i < t ∧ 0 < labAt ls i
  nodup : s.Nodup
  len : s.length ≤ t - f
  asc : s.Pairwise (fun i j => labAt ls i ≤ labAt ls j)

theorem Srt.none (ls : List Ln) {f t : Nat} (h : t ≤ f) : Srt ls f t [] := ⟨fun i => by simp; omega, List.nodup_nil, by simp, List.Pairwise.nil⟩
theorem Srt.one_yes {ls : List Ln} {f : Nat} (h : 0 < labAt ls f) : Srt ls f (f + 1) [f] := by
  refine ⟨fun i => ?_, by simp, by simp, by simp⟩
  simp only [List.mem_singleton]
  constructor
  · rintro rfl; exact ⟨Nat.le_refl _, by omega, h⟩
  · rintro ⟨h1, h2, _⟩; omega
theorem Srt.one_no {ls : List Ln} {f : Nat} (h : ¬ 0 < labAt ls f) : Srt ls f (f + 1) [] := by
  refine ⟨fun i => ?_, List.nodup_nil, by simp, List.Pairwise.nil⟩
  simp only [List.not_mem_nil, false_iff]
  rintro ⟨h1, h2, h3⟩
  have : i = f := by omega
  subst this
  exact h h3

/-- In the midst of putting two together. -/
structure Mrg (ls : List Ln) (a0 b0 a b out : List Nat) : Prop where
  perm : (out ++ (a ++ b)).Perm (a0 ++ b0)
  sa : (out ++ a).Pairwise (fun i j => labAt ls i ≤ labAt ls j)
  sb : (out ++ b).Pairwise (fun i j => labAt ls i ≤ labAt ls j)

theorem Mrg.start {ls : List Ln} {f m t : Nat} {a b : List Nat} (ha : Srt ls f m a) (hb : Srt ls m t b) : Mrg ls a b a b [] := ⟨List.Perm.refl _, ha.asc, hb.asc⟩
theorem Mrg.stepB {ls : List Ln} {a0 b0 a b out : List Nat} {x y : Nat} (h : Mrg ls a0 b0 (y :: a) (x :: b) out) (hl : labAt ls x < labAt ls y) : Mrg ls a0 b0 (y :: a) b (out ++ [x]) := by
  obtain ⟨h1, h2, h3⟩ := h
  refine ⟨?_, ?_, by simpa using h3⟩
  · refine List.Perm.trans ?_ h1
    rw [List.append_assoc]
    refine List.Perm.append_left out ?_
    exact (List.perm_middle (a := x) (l₁ := y :: a) (l₂ := b)).symm
  · rw [List.pairwise_append] at h2 h3 ⊢
    rw [List.pairwise_append]
    obtain ⟨p1, p2, p3⟩ := h2
    obtain ⟨q1, q2, q3⟩ := h3
    refine ⟨⟨p1, by simp, fun i hi j hj => ?_⟩, p2, fun i hi j hj => ?_⟩
    · have : j = x := by simpa using hj
      subst this
      exact q3 i hi _ (by simp)
    · rcases List.mem_append.1 hi with hi | hi
      · exact p3 i hi j hj
      · have : i = x := by simpa using hi
        subst this
        rcases List.mem_cons.1 hj with rfl | hj
        · omega
        · have := (List.pairwise_cons.1 p2).1 j hj
          omega
theorem Mrg.stepA {ls : List Ln} {a0 b0 a b out : List Nat} {x y : Nat} (h : Mrg ls a0 b0 (y :: a) (x :: b) out) (hl : ¬ labAt ls x < labAt ls y) : Mrg ls a0 b0 a (x :: b) (out ++ [y]) := by
  obtain ⟨h1, h2, h3⟩ := h
  refine ⟨by simpa using h1, by simpa using h2, ?_⟩
  rw [List.pairwise_append] at h2 h3 ⊢
  rw [List.pairwise_append]
  obtain ⟨p1, p2, p3⟩ := h2
  obtain ⟨q1, q2, q3⟩ := h3
  refine ⟨⟨p1, by simp, fun i hi j hj => ?_⟩, q2, fun i hi j hj => ?_⟩
  · have : j = y := by simpa using hj
    subst this
    exact p3 i hi _ (by simp)
  · rcases List.mem_append.1 hi with hi | hi
    · exact q3 i hi j hj
    · have : i = y := by simpa using hi
      subst this
      rcases List.mem_cons.1 hj with rfl | hj
      · omega
      · have := (List.pairwise_cons.1 q2).1 j hj
        omega
theorem Mrg.len {ls : List Ln} {a0 b0 a b out : List Nat} (h : Mrg ls a0 b0 a b out) : out.length + (a.length + b.length) = a0.length + b0.length := by
  have := h.perm.length_eq
  simpa using this
theorem Mrg.done {ls : List Ln} {f m t : Nat} {a0 b0 a b out : List Nat} (h : Mrg ls a0 b0 a b out) (hab : a = [] ∨ b = []) (ha : Srt ls f m a0) (hb : Srt ls m t b0) (h1 : f ≤ m) (h2 : m ≤ t) : Srt ls f t (out ++ a ++ b) := by
  have hp : (out ++ a ++ b).Perm (a0 ++ b0) := by rw [List.append_assoc]; exact h.perm
  refine ⟨fun i => ?_, hp.nodup_iff.2 ?_, ?_, ?_⟩
  · rw [hp.mem_iff, List.mem_append, ha.mem, hb.mem]
    constructor
    · rintro (⟨p, q, r⟩ | ⟨p, q, r⟩) <;> exact ⟨by omega, by omega, r⟩
    · rintro ⟨p, q, r⟩
      by_cases e : i < m
      · exact .inl ⟨p, e, r⟩
      · exact .inr ⟨by omega, q, r⟩
  · refine List.nodup_append.2 ⟨ha.nodup, hb.nodup, fun i hi j hj e => ?_⟩
    subst e
    have := (ha.mem i).1 hi
    have := (hb.mem i).1 hj
    omega
  · rw [hp.length_eq, List.length_append]
    have := ha.len
    have := hb.len
    omega
  · rcases hab with rfl | rfl
    · rw [List.append_nil]; exact h.sb
    · rw [List.append_nil]; exact h.sa

/-- A slice that is read as numbers. -/
def ISrc (w : World) (v : Value) (l : List Nat) : Prop := (l = [] ∧ ∃ ao cap, v = .slice ao 0 cap) ∨
  (1 ≤ l.length ∧ ∃ b off cap, v = .slice (some ⟨b, off, none⟩) l.length cap ∧ l.length ≤ cap ∧ b < w.heap.size ∧ ∀ j (h : j < l.length), w.cell? ⟨b, off + j, none⟩ = some (.int .i64 (l[j] : Nat)))
theorem ISrc.below {w w' : World} {v : Value} {l : List Nat} (h : ISrc w v l) (hb : Below w.heap.size w w') : ISrc w' v l := by
  rcases h with h | ⟨h1, b, off, cap, hv, hc, hl, hx⟩
  · exact .inl h
  · exact .inr ⟨h1, b, off, cap, hv, hc, Nat.lt_of_lt_of_le hl hb.size, fun j hj => (hb.cell (p := ⟨b, off + j, none⟩) hl).trans (hx j hj)⟩
theorem ISrc.tail {w : World} {b off cap x : Nat} {l : List Nat} (h : ∀ j (h : j < (x :: l).length), w.cell? ⟨b, off + j, none⟩ = some (.int .i64 ((x :: l)[j] : Nat))) (hb : b < w.heap.size) (hc : (x :: l).length ≤ cap) : ISrc w (.slice (some ⟨b, off + 1, none⟩) l.length (cap - 1)) l := by
  by_cases e : l = []
  · subst e; exact .inl ⟨rfl, _, _, rfl⟩
  · have hp : 1 ≤ l.length := by cases l; exact absurd rfl e; simp
    refine .inr ⟨hp, b, off + 1, cap - 1, rfl, by simp at hc; omega, hb, fun j hj => ?_⟩
    have := h (j + 1) (by simpa using hj)
    rw [show off + 1 + j = off + (j + 1) by omega]
    simpa using this
theorem ISrc.own {w : World} {base : Nat} {v : Value} {l : List Nat} (h : w.ownsRow base 3 1 v l.length (ints l)) : ISrc w v l := by
  have h0 := h
  by_cases e : l = []
  · subst e
    rcases h.2 with ⟨rfl, _⟩ | ⟨g, cap, cur, rfl, _⟩
    · exact .inl ⟨rfl, _, _, rfl⟩
    · exact .inl ⟨rfl, _, _, rfl⟩
  · have hp : 1 ≤ l.length := by cases l; exact absurd rfl e; simp
    rcases h.2 with ⟨_, e'⟩ | ⟨g, cap, cur, rfl, hb, hh, hn, _⟩
    · omega
    · refine .inr ⟨hp, g, 0, cap, rfl, by omega, (Array.getElem?_eq_some_iff.1 hh).1, fun j hj => ?_⟩
      rw [Nat.zero_add, World.ownsRow.cellAt h0 j (by omega)]
      simp [ints, hj]

/-- append(l, m...), numbers. -/
theorem append_ints {w : World} {base : Nat} {v x : Value} {l m : List Nat} (h : w.ownsRow base 3 1 v l.length (ints l)) (hs : ISrc w x m) (hl : l.length + m.length ≤ 4000000) (hb : base ≤ w.heap.size) (ty : TypeId) :
    ∃ v' w', (Builtin.append_ #[45, 45] ty #[v, x]).run Try.prog w = .ok v' w' ∧ w'.ownsRow base 3 1 v' (l ++ m).length (ints (l ++ m)) ∧ w.grownBy w' v.ownBlock := by
  obtain ⟨i0, hi, hz0, hz1, hz2⟩ := info_parts info3'
  have some_case : ∀ (a : Addr) (c : Nat), (∀ j u, (ints m)[j]? = some u → w.cell? (a.add j) = some u) → ∃ v' w', (Builtin.append_ #[45, 45] ty #[v, .slice (some a) m.length c]).run Try.prog w = .ok v' w' ∧ w'.ownsRow base 3 1 v' (l ++ m).length (ints (l ++ m)) ∧ w.grownBy w' v.ownBlock := fun a c hc => by
    obtain ⟨v', w', h1, h2, h3, h4, h5⟩ := run_append_own_at (P := Try.prog) w base 45 ty 3 i0 _ 1 8 Try.underlying45 hi hz0 hz1 hz2 rfl (by decide) v l.length (ints l) h a m.length c (ints m) (by rw [ints_length]; omega) hc (by intro u hu; simp [ints] at hu; obtain ⟨n, _, rfl⟩ := hu; rfl) (by unfold maxLen; omega) (by omega) hb
    exact ⟨v', w', h1, by rw [ints_append, List.length_append]; exact h2, h3⟩
  rcases hs with ⟨rfl, ao, cap, rfl⟩ | ⟨_, b, off, cap, rfl, _, hlt, hc⟩
  · cases ao with
    | some a => exact some_case a cap (fun j u hj => by simp [ints] at hj)
    | none =>
      refine ⟨v, w, ?_, by rw [List.append_nil]; exact h, ⟨rfl, rfl, rfl, Nat.le_refl _, fun _ _ _ => rfl⟩⟩
      rcases h.2 with ⟨rfl, _⟩ | ⟨g, cp, cur, rfl, hg, hh, hn, _⟩
      · simp [Builtin.append_, run_underlying Try.underlying45, sizeOf, typeInfo, hi, Builtin.lenOf, Builtin.firstCells]
      · have := run_append_room_src (P := Try.prog) w 45 45 ty 3 i0 Try.underlying45 hi g 0 l.length cp (.slice none 0 cap) 0 [] (Src.ofNil w Try.underlying45 cap) (by omega) (by simp) (by simp)
        simpa [World.setCells] using this
  · refine some_case ⟨b, off, none⟩ cap (fun j u hj => ?_)
    rw [Addr.add_lit]
    have hj' : j < m.length := by have := (List.getElem?_eq_some_iff.1 hj).1; rwa [ints_length] at this
    rw [hc j hj']
    simpa [ints, hj'] using hj

theorem wpList_append_ints {w w' : World} {ops : Array Oper} {rest : List Oper} {o : Oper} {a : Act} {Q : Exit → Act → World → Prop} (hgd : o.guard = none) (s x : Operand) (ho : o.op = .call { callee := .builtin .append, args := #[s, x], argTypes := #[45, 45] })
    (v xv v' : Value) (hs : a.eval s = v) (hx : a.eval x = xv) (hr : (Builtin.append_ #[45, 45] o.type #[v, xv]).run Try.prog w = .ok v' w') (h : wpList Try.prog ops Q rest (a.put o.dst v') w') : wpList Try.prog ops Q (o :: rest) a w := by
  refine wpList_plain hgd fun K hK => ?_
  unfold Oper.wp execOp
  simp only [ho, resolve, invoke, builtin, Sem.run_bind, Sem.run_pure, Result.andThen_ok, List.map_toArray, List.map_cons, List.map_nil, hs, hx, hr]
  exact hK _ _ h
end Go.Proofs.Ytgnlplddppheiaa
