/- Copy, in the plain: a row of things whose lists are copied one behind the other. -/
import Derived.Test.YthnbnilammjceaaOwn
namespace Go.Proofs.Ythnbnilammjceaa
open Go.RowKit Go.Maps
set_option linter.unusedVariables false
set_option linter.unusedSimpArgs false

theorem flat_set {α : Type} {f : α → List Value} {z : Nat} (hz : ∀ x, (f x).length = z) : ∀ (l : List α) (i c : Nat) (hi : i < l.length) (hc : c < z) (x : α) (u : Value), f x = (f l[i]).set c u → (flat f l).set (i * z + c) u = flat f (l.set i x)
  | y :: l, 0, c, _, hc, x, u, h => by
    rw [flat_cons, List.set_append_left _ _ (by rw [hz]; omega), List.set_cons_zero, flat_cons, h, Nat.zero_mul, Nat.zero_add]
    rfl
  | y :: l, i + 1, c, hi, hc, x, u, h => by
    rw [flat_cons, List.set_append_right _ _ (by rw [hz, Nat.succ_mul]; omega), List.set_cons_succ, flat_cons, hz, show (i + 1) * z + c - z = i * z + c by rw [Nat.succ_mul]; omega, flat_set hz l i c (by simpa using hi) hc x u (by simpa using h)]
theorem row_kept {w w' : World} {B : Nat} {t : TypeId} {z n : Nat} {v : Value} {xs : List Value} (h : w.ownsRow B t z v n xs) (hb : Below w.heap.size w w') : w'.ownsRow B t z v n xs :=
  (Kept.of_below (S := fun _ => False) hb).owns h (fun _ _ e => e)

/-- Instructions: m of them have lists of their own. -/
structure CI (W1 : World) (B : Nat) (v : Value) (l : List In) (m : Nat) (wr : World) (c : List In) : Prop where
  lt : ∀ k, v.ownBlock = some k → B ≤ k ∧ k < W1.heap.size
  len : c.length = l.length
  row : wr.ownsRow B 47 7 v l.length (flat In.cells c)
  done : ∀ k (h1 : k < l.length) (h2 : k < c.length), k < m → LikeI l[k] c[k] ∧ OwnI wr W1.heap.size c[k]
  rest : ∀ k (h1 : k < l.length) (h2 : k < c.length), m ≤ k → c[k] = l[k]
  kept : Kept (fun k => v.ownBlock = some k) W1 wr
theorem CI.start {W : World} {B : Nat} {v : Value} {l : List In} (h : Own 47 7 In.cells W B v l) : CI W B v l 0 W l :=
  ⟨fun k hk => World.ownsRow.lt h k hk, rfl, h, fun k _ _ hk => by omega, fun k _ _ _ => rfl, Kept.rfl _ _⟩
theorem CI.step {W1 : World} {B g n cap : Nat} {l c : List In} {m : Nat} {wr : World} (h : CI W1 B (.slice (some ⟨g, 0, none⟩) n cap) l m wr c) (hn : n = l.length) (hm : m < l.length) (hx : In.ok wr l[m])
    {w2 w4 : World} {v1 v2 : Value} (hb1 : Below wr.heap.size wr w2) (ho1 : Own 3 1 icell w2 wr.heap.size v1 l[m].args)
    (hb2 : Below (w2.setCell ⟨g, m * 7 + 2, none⟩ v1).heap.size (w2.setCell ⟨g, m * 7 + 2, none⟩ v1) w4) (ho2 : Own 3 1 icell w4 (w2.setCell ⟨g, m * 7 + 2, none⟩ v1).heap.size v2 l[m].pred) :
    CI W1 B (.slice (some ⟨g, 0, none⟩) n cap) l (m + 1) (w4.setCell ⟨g, m * 7 + 6, none⟩ v2) (c.set m { l[m] with av := v1, pv := v2 }) := by
  subst hn
  have hg := h.lt g rfl
  have hs1 := hb1.size
  have hsk := h.kept.size
  have hs2 : w2.heap.size ≤ w4.heap.size := by have := hb2.size; simpa [World.setCell] using this
  have K2 : Kept (fun k => (Value.slice (some ⟨g, 0, none⟩) l.length cap).ownBlock = some k) w2 (w2.setCell ⟨g, m * 7 + 2, none⟩ v1) := by refine Kept.set (Kept.rfl _ _) (.inl ?_) _; rfl
  have K4 : Kept (fun k => (Value.slice (some ⟨g, 0, none⟩) l.length cap).ownBlock = some k) w4 (w4.setCell ⟨g, m * 7 + 6, none⟩ v2) := by refine Kept.set (Kept.rfl _ _) (.inl ?_) _; rfl
  have K24 := (K2.trans (Kept.of_below hb2)).trans K4
  have K := (Kept.of_below hb1).trans K24
  have hS : ∀ k, W1.heap.size ≤ k → ∀ s : Nat, k < s → ¬ ((Value.slice (some ⟨g, 0, none⟩) l.length cap).ownBlock = some k) := fun k hk _ _ e => by
    have : g = k := by injection e
    omega
  have hmc : m < c.length := by rw [h.len]; exact hm
  have e0 : c[m] = l[m] := h.rest m hm hmc (Nat.le_refl _)
  refine ⟨h.lt, by rw [List.length_set]; exact h.len, ?_, ?_, ?_, h.kept.trans K⟩
  · have r1 := (row_kept h.row hb1).stored (m * 7 + 2) v1
    have r2 := (row_kept r1.1 hb2).stored (m * 7 + 6) v2
    have q1 := flat_set in7 c m 2 hmc (by omega) { l[m] with av := v1 } v1 (by rw [e0]; rfl)
    have q2 := flat_set in7 (c.set m { l[m] with av := v1 }) m 6 (by rw [List.length_set]; exact hmc) (by omega) { l[m] with av := v1, pv := v2 } v2 (by rw [List.getElem_set_self]; rfl)
    rw [List.set_set] at q2
    rw [← q2, ← q1]
    exact r2.1
  · intro k h1 h2 hk
    rw [List.length_set] at h2
    by_cases e : k = m
    · subst e
      rw [List.getElem_set_self]
      refine ⟨⟨rfl, rfl, rfl, rfl, rfl, rfl, rfl⟩, ⟨?_, hx.al, ?_, hx.pl, hx.hi⟩⟩
      · exact (ho1.lower hsk).kept K24 (fun k a b => hS k a _ b)
      · exact (ho2.lower (by simp [World.setCell]; omega)).kept K4 (fun k a b => hS k a _ b)
    · rw [List.getElem_set_ne (Ne.symm e)]
      obtain ⟨a, b⟩ := h.done k h1 h2 (by omega)
      exact ⟨a, b.kept K (fun k a b => hS k a _ b)⟩
  · intro k h1 h2 hk
    rw [List.getElem_set_ne (by omega)]
    exact h.rest k h1 _ (by omega)

/-- Blocks: m of them have lists of their own. -/
structure CO (W1 : World) (B : Nat) (v : Value) (l : List Bl) (m : Nat) (wr : World) (c : List Bl) : Prop where
  lt : ∀ k, v.ownBlock = some k → B ≤ k ∧ k < W1.heap.size
  len : c.length = l.length
  row : wr.ownsRow B 54 4 v l.length (flat Bl.cells c)
  done : ∀ k (h1 : k < l.length) (h2 : k < c.length), k < m → LikeB l[k] c[k] ∧ OwnB wr W1.heap.size c[k]
  rest : ∀ k (h1 : k < l.length) (h2 : k < c.length), m ≤ k → c[k] = l[k]
  kept : Kept (fun k => v.ownBlock = some k) W1 wr
theorem CO.start {W : World} {B : Nat} {v : Value} {l : List Bl} (h : Own 54 4 Bl.cells W B v l) : CO W B v l 0 W l :=
  ⟨fun k hk => World.ownsRow.lt h k hk, rfl, h, fun k _ _ hk => by omega, fun k _ _ _ => rfl, Kept.rfl _ _⟩
theorem CO.step {W1 : World} {B g n cap : Nat} {l c : List Bl} {m : Nat} {wr : World} (h : CO W1 B (.slice (some ⟨g, 0, none⟩) n cap) l m wr c) (hn : n = l.length) (hm : m < l.length) (hx : Bl.ok wr l[m])
    {w2 w4 w6 : World} {t1 v2 : Value} {c2 : List In} (hb1 : Below wr.heap.size wr w2) (ho1 : Own 3 1 icell w2 wr.heap.size t1 l[m].to)
    (hb2 : Below (w2.setCell ⟨g, m * 4 + 3, none⟩ t1).heap.size (w2.setCell ⟨g, m * 4 + 3, none⟩ t1) w4) (hC : CI (w4.setCell ⟨g, m * 4, none⟩ v2) (w2.setCell ⟨g, m * 4 + 3, none⟩ t1).heap.size v2 l[m].code l[m].code.length w6 c2) :
    CO W1 B (.slice (some ⟨g, 0, none⟩) n cap) l (m + 1) w6 (c.set m { l[m] with tv := t1, cv := v2, code := c2 }) := by
  subst hn
  have hg := h.lt g rfl
  have hs1 := hb1.size
  have hsk := h.kept.size
  have e3 : (w2.setCell ⟨g, m * 4 + 3, none⟩ t1).heap.size = w2.heap.size := by simp [World.setCell]
  have e5 : (w4.setCell ⟨g, m * 4, none⟩ v2).heap.size = w4.heap.size := by simp [World.setCell]
  have hs2 : w2.heap.size ≤ w4.heap.size := by have := hb2.size; rw [e3] at this; exact this
  have hv2 : ∀ k, v2.ownBlock = some k → w2.heap.size ≤ k := fun k hk => by have := (hC.lt k hk).1; rw [e3] at this; exact this
  have K2 : Kept (fun k => (Value.slice (some ⟨g, 0, none⟩) l.length cap).ownBlock = some k) w2 (w2.setCell ⟨g, m * 4 + 3, none⟩ t1) := by refine Kept.set (Kept.rfl _ _) (.inl ?_) _; rfl
  have K4 : Kept (fun k => (Value.slice (some ⟨g, 0, none⟩) l.length cap).ownBlock = some k) w4 (w4.setCell ⟨g, m * 4, none⟩ v2) := by refine Kept.set (Kept.rfl _ _) (.inl ?_) _; rfl
  have K24 := (K2.trans (Kept.of_below hb2)).trans K4
  have K26 := K24.ahead hC.kept (fun i hi e => absurd (hv2 i e) (by omega))
  have K := (Kept.of_below hb1).trans K26
  have hS : ∀ k, W1.heap.size ≤ k → ∀ s : Nat, k < s → ¬ ((Value.slice (some ⟨g, 0, none⟩) l.length cap).ownBlock = some k) := fun k hk _ _ e => by
    have : g = k := by injection e
    omega
  have hmc : m < c.length := by rw [h.len]; exact hm
  have e0 : c[m] = l[m] := h.rest m hm hmc (Nat.le_refl _)
  refine ⟨h.lt, by rw [List.length_set]; exact h.len, ?_, ?_, ?_, h.kept.trans K⟩
  · have r1 := (row_kept h.row hb1).stored (m * 4 + 3) t1
    have r2 := (row_kept r1.1 hb2).stored (m * 4) v2
    have q1 := flat_set bl4 c m 3 hmc (by omega) { l[m] with tv := t1 } t1 (by rw [e0]; rfl)
    have q2 := flat_set bl4 (c.set m { l[m] with tv := t1 }) m 0 (by rw [List.length_set]; exact hmc) (by omega) { l[m] with tv := t1, cv := v2, code := c2 } v2 (by rw [List.getElem_set_self]; rfl)
    rw [List.set_set] at q2
    rw [← q2, ← q1]
    refine hC.kept.owns r2.1 (fun b hb e => ?_)
    have : g = b := by injection hb
    have := hv2 b e
    omega
  · intro k h1 h2 hk
    rw [List.length_set] at h2
    by_cases e : k = m
    · subst e
      rw [List.getElem_set_self]
      refine ⟨⟨rfl, rfl, rfl, ⟨hC.len, fun i a b => (hC.done i a b a).1⟩⟩, ⟨?_, ?_, ?_, hx.tl, fun i hi => ?_⟩⟩
      · have : w6.ownsRow (w2.setCell ⟨g, k * 4 + 3, none⟩ t1).heap.size 47 7 v2 c2.length (flat In.cells c2) := by rw [hC.len]; exact hC.row
        exact Own.lower (f := In.cells) this (by rw [e3]; omega)
      · show c2.length * 88 ≤ big
        rw [hC.len]; exact hx.cl
      · exact (ho1.lower hsk).kept K26 (fun k a b => hS k a _ b)
      · have hi' : i < c2.length := hi
        exact (hC.done i (by rw [← hC.len]; exact hi') hi' (by rw [← hC.len]; exact hi')).2.lower (by rw [e5]; omega)
    · rw [List.getElem_set_ne (Ne.symm e)]
      obtain ⟨a, b⟩ := h.done k h1 h2 (by omega)
      exact ⟨a, b.kept K (fun k a b => hS k a _ b)⟩
  · intro k h1 h2 hk
    rw [List.getElem_set_ne (by omega)]
    exact h.rest k h1 _ (by omega)
theorem CO.own {W1 : World} {B C : Nat} {v : Value} {x : Fn} {wr : World} {c : List Bl} (h : CO W1 B v x.blocks x.blocks.length wr c) (hB : C ≤ B) (hW : C ≤ W1.heap.size) (hx : x.blocks.length * 64 ≤ big) (hn : x.nm.size ≤ big) :
    LikeF x { x with bv := v, blocks := c } ∧ OwnF wr C { x with bv := v, blocks := c } := by
  refine ⟨⟨rfl, rfl, rfl, rfl, ⟨h.len, fun k a b => (h.done k a b a).1⟩⟩, ⟨?_, ?_, hn, fun k hk => ?_⟩⟩
  · have : wr.ownsRow B 54 4 v c.length (flat Bl.cells c) := by rw [h.len]; exact h.row
    exact Own.lower (f := Bl.cells) this hB
  · show c.length * 64 ≤ big
    rw [h.len]; exact hx
  · have hk' : k < c.length := hk
    exact (h.done k (by rw [← h.len]; exact hk') hk' (by rw [← h.len]; exact hk')).2.lower hW
end Go.Proofs.Ythnbnilammjceaa
