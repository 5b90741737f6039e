/- A new solver: how its parts come to lie. -/
import Derived.Test.YtjhndnhldhmjnaaDoorMkX
namespace Go.Proofs.YtjhndnhldhmjnaaDoor
open Go Go.RowKit Go.Maps
set_option linter.unusedVariables false
set_option linter.unusedSimpArgs false
/-- Successors, made: with the blocks that they lie in. -/
def sucR (B n : Nat) (l : List (Int × Int)) (w : World) (v : Value) (S : Nat → Prop) : Prop :=
  ∃ g vs, v = .slice (some ⟨g, 0, none⟩) n n ∧ PM w B g vs (succF n l) ∧ ∀ b, S b ↔ (b = g ∨ ∃ j, ∃ h : j < vs.length, vs[j].ownBlock = some b)
/-- What each maker makes. -/
def mkR (B n : Nat) (l : List (Int × Int)) (k : Nat) (w : World) (v : Value) (S : Nat → Prop) : Prop :=
  if k = 5 then sucR B n l w v S
  else if k = 8 then ∃ g, v = .slice (some ⟨g, 0, none⟩) n n ∧ RowI w g n (fun _ => 0) ∧ ∀ b, S b ↔ b = g
  else if k = 11 then ∃ g, v = .agg #[.slice (some ⟨g, 0, none⟩) (words n) (words n), .int .i64 0] ∧ RowU w g (words n) (fun _ => 0) ∧ ∀ b, S b ↔ b = g
  else ∃ g, v = .slice (some ⟨g, 0, none⟩) n n ∧ RowU w g n (fun _ => 0) ∧ ∀ b, S b ↔ b = g
theorem mkR_stay (B n : Nat) (l : List (Int × Int)) : Stay (mkR B n l) := fun k w w' v S h hb => by
  unfold mkR at *
  split at h
  · rename_i e
    rw [if_pos e]
    obtain ⟨g, vs, e1, h1, h2⟩ := h
    exact ⟨g, vs, e1, h1.on hb, h2⟩
  · rename_i e
    rw [if_neg e]
    split at h
    · rename_i e
      rw [if_pos e]
      obtain ⟨g, e1, h1, h2⟩ := h
      exact ⟨g, e1, h1.on hb, h2⟩
    · rename_i e
      rw [if_neg e]
      split at h
      · rename_i e
        rw [if_pos e]
        obtain ⟨g, e1, h1, h2⟩ := h
        exact ⟨g, e1, h1.on hb, h2⟩
      · rename_i e
        rw [if_neg e]
        obtain ⟨g, e1, h1, h2⟩ := h
        exact ⟨g, e1, h1.on hb, h2⟩
theorem FnsOk.on {P : Prb Wd} {w0 w1 : World} {q : Nat × Nat} {s j e f : FuncId} (h : FnsOk P w0 q s j e f) (hb : Below w0.heap.size w0 w1) : FnsOk P w1 q s j e f :=
  ⟨h.es, h.ej, h.ee, h.ef, fun W hW => h.cs W (below_on hb hW hb.size), h.cj, h.ce, fun W hW => h.cf W (below_on hb hW hb.size)⟩
/-- The solver, all made, no order yet. -/
def cn0 (P : Prb Wd) (ev : Value) (q : Nat × Nat) (s j e f : FuncId) (p gi go_ gq gp gs : Nat) (us : List Value) (l : List (Int × Int)) : Cn :=
  ⟨P, ev, P.bot.toNat, q, s, j, e, f, p, gi, go_, gq, gp, gs, us, succF P.n l, .slice none 0 0, [], fun _ => 0⟩
theorem ns_box {P : Prb Wd} {w0 w : World} {l : List (Int × Int)} {ev : Value} {q : Nat × Nat} {fs fj fe ff : FuncId} {s : Nat → Option (Value × (Nat → Prop))} (h : MkG w0 (mkR w0.heap.size P.n l) s w) (hn : P.n ≤ 4096)
    {v5 v8 v11 v14 v17 : Value × (Nat → Prop)} (h5 : s 5 = some v5) (h8 : s 8 = some v8) (h11 : s 11 = some v11) (h14 : s 14 = some v14) (h17 : s 17 = some v17) :
    ∃ gi go_ gq gp gs us, v5.1 = .slice (some ⟨gs, 0, none⟩) P.n P.n ∧ v8.1 = .slice (some ⟨gp, 0, none⟩) P.n P.n ∧ v11.1 = .agg #[.slice (some ⟨gq, 0, none⟩) (words P.n) (words P.n), .int .i64 0] ∧ v14.1 = .slice (some ⟨gi, 0, none⟩) P.n P.n ∧ v17.1 = .slice (some ⟨go_, 0, none⟩) P.n P.n ∧
      SM (cn0 P ev q fs fj fe ff w.heap.size gi go_ gq gp gs us l) w0 (w.alloc (.cells #[.int .i64 P.n, ev, .int .u64 (P.bot.toNat : Nat), fv1 fs q.1, fv0 fj, fv0 fe, fv1 ff q.2, .slice (some ⟨gs, 0, none⟩) P.n P.n, .slice none 0 0, .slice (some ⟨gp, 0, none⟩) P.n P.n, .slice (some ⟨gq, 0, none⟩) (words P.n) (words P.n), .int .i64 0, .slice (some ⟨gi, 0, none⟩) P.n P.n, .slice (some ⟨go_, 0, none⟩) P.n P.n] 68)) (fun _ => 0) (fun _ => 0) (fun _ => 0) 0 ∧
      (∀ j (hj : j < us.length), us[j].ownBlock ≠ some gp) ∧ gp < w.heap.size := by
  obtain ⟨v5, S5⟩ := v5
  obtain ⟨v8, S8⟩ := v8
  obtain ⟨v11, S11⟩ := v11
  obtain ⟨v14, S14⟩ := v14
  obtain ⟨v17, S17⟩ := v17
  obtain ⟨m5, l5⟩ := h.made 5 _ h5
  obtain ⟨m8, l8⟩ := h.made 8 _ h8
  obtain ⟨m11, l11⟩ := h.made 11 _ h11
  obtain ⟨m14, l14⟩ := h.made 14 _ h14
  obtain ⟨m17, l17⟩ := h.made 17 _ h17
  unfold mkR at m5 m8 m11 m14 m17
  rw [if_pos rfl] at m5
  rw [if_neg (by decide), if_pos rfl] at m8
  rw [if_neg (by decide), if_neg (by decide), if_pos rfl] at m11
  rw [if_neg (by decide), if_neg (by decide), if_neg (by decide)] at m14 m17
  dsimp only at *
  obtain ⟨gs, us, rfl, p5, q5⟩ := m5
  obtain ⟨gp, rfl, r8, q8⟩ := m8
  obtain ⟨gq, rfl, r11, q11⟩ := m11
  obtain ⟨gi, rfl, r14, q14⟩ := m14
  obtain ⟨go_, rfl, r17, q17⟩ := m17
  have b14 := l14 gi ((q14 gi).2 rfl)
  have b17 := l17 go_ ((q17 go_).2 rfl)
  have b11 := l11 gq ((q11 gq).2 rfl)
  have b8 := l8 gp ((q8 gp).2 rfl)
  have hB := below1 w (.cells #[.int .i64 P.n, ev, .int .u64 (P.bot.toNat : Nat), fv1 fs q.1, fv0 fj, fv0 fe, fv1 ff q.2, .slice (some ⟨gs, 0, none⟩) P.n P.n, .slice none 0 0, .slice (some ⟨gp, 0, none⟩) P.n P.n, .slice (some ⟨gq, 0, none⟩) (words P.n) (words P.n), .int .i64 0, .slice (some ⟨gi, 0, none⟩) P.n P.n, .slice (some ⟨go_, 0, none⟩) P.n P.n] 68)
  refine ⟨gi, go_, gq, gp, gs, us, rfl, rfl, rfl, rfl, rfl, ⟨below_on h.below hB h.below.size, ?_, r14.on hB, r17.on hB, r11.on hB, World.ownsRow_nil _ _ _ _, r8.on hB, p5.on hB, ?_, ?_, ?_, by omega⟩, ?_, b8.2⟩
  · exact World.rowIs_alloc w _ 68 ((cn0 P ev q fs fj fe ff w.heap.size gi go_ gq gp gs us l).cell 0) (fun i hi => by
      match i, hi with
      | 0, _ => rfl
      | 1, _ => rfl
      | 2, _ => rfl
      | 3, _ => rfl
      | 4, _ => rfl
      | 5, _ => rfl
      | 6, _ => rfl
      | 7, _ => rfl
      | 8, _ => rfl
      | 9, _ => rfl
      | 10, _ => rfl
      | 11, _ => rfl
      | 12, _ => rfl
      | 13, _ => rfl)
  · exact ⟨h.below.size, b14.1, b17.1, b11.1⟩
  · refine ⟨fun e => ?_, fun e => ?_, fun e => ?_⟩
    · have := h.ne 14 17 _ _ gi h14 h17 ((q14 gi).2 rfl) ((q17 gi).2 e)
      omega
    · have := h.ne 14 11 _ _ gi h14 h11 ((q14 gi).2 rfl) ((q11 gi).2 e)
      omega
    · have := h.ne 17 11 _ _ go_ h17 h11 ((q17 go_).2 rfl) ((q11 go_).2 e)
      omega
  · intro x _ hx
    unfold inQ at hx
    simp at hx
  · intro j hj e
    have := h.ne 5 8 _ _ gp h5 h8 ((q5 gp).2 (.inr ⟨j, hj, e⟩)) ((q8 gp).2 rfl)
    omega
end Go.Proofs.YtjhndnhldhmjnaaDoor
