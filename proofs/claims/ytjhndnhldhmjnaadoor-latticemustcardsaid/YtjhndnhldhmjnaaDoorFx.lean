/- The monotone framework, in the plain: what the program's solver keeps, what the rounds keep, and that both end in the least answer. -/
namespace Go.Proofs.YtjhndnhldhmjnaaDoor
set_option linter.unusedVariables false
/-- Values that are joined, with a height. -/
structure Lat (V : Type) where
  join : V → V → V
  idem : ∀ a, join a a = a
  comm : ∀ a b, join a b = join b a
  assoc : ∀ a b c, join (join a b) c = join a (join b c)
  hgt : V → Nat
  top : Nat
  hgt_le : ∀ a, hgt a ≤ top
  rise : ∀ a b, join a b = b → a ≠ b → hgt a < hgt b
namespace Lat
variable {V : Type} (L : Lat V)
def le (a b : V) : Prop := L.join a b = b
theorem le_refl (a : V) : L.le a a := L.idem a
theorem le_trans {a b c : V} (h : L.le a b) (k : L.le b c) : L.le a c := by
  unfold le at *
  rw [← k, ← L.assoc, h]
theorem le_anti {a b : V} (h : L.le a b) (k : L.le b a) : a = b := by
  unfold le at *
  rw [← h, L.comm, k]
theorem le_left (a b : V) : L.le a (L.join a b) := by
  unfold le
  rw [← L.assoc, L.idem]
theorem le_right (a b : V) : L.le b (L.join a b) := by
  rw [L.comm]
  exact L.le_left b a
theorem join_le {a b c : V} (h : L.le a c) (k : L.le b c) : L.le (L.join a b) c := by
  unfold le at *
  rw [L.assoc, k, h]
theorem hgt_mono {a b : V} (h : L.le a b) : L.hgt a ≤ L.hgt b := by
  by_cases e : a = b
  · rw [e]; exact Nat.le_refl _
  · exact Nat.le_of_lt (L.rise a b h e)
end Lat
/-- A problem. -/
structure Prb (V : Type) where
  L : Lat V
  n : Nat
  edges : List (Nat × Nat)
  start : Nat → V
  bot : V
  flow : Nat → V → V
  mono : ∀ k a b, L.le a b → L.le (flow k a) (flow k b)
  neutral : ∀ v, L.le bot v
  inn : ∀ e ∈ edges, e.1 < n ∧ e.2 < n
namespace Prb
variable {V : Type} (P : Prb V)
/-- In of a node, of these Outs. -/
def inOf (o : Nat → V) (k : Nat) : V := P.edges.foldl (fun v e => if e.2 = k then P.L.join v (o e.1) else v) (P.start k)
theorem fold_le (o : Nat → V) (k : Nat) (z : V) : ∀ (l : List (Nat × Nat)) (v : V), P.L.le (l.foldl (fun v e => if e.2 = k then P.L.join v (o e.1) else v) v) z ↔ P.L.le v z ∧ ∀ e ∈ l, e.2 = k → P.L.le (o e.1) z
  | [], v => by simp
  | e :: l, v => by
    rw [List.foldl_cons, fold_le o k z l]
    by_cases h : e.2 = k
    · rw [if_pos h]
      constructor
      · intro ⟨a, b⟩
        refine ⟨P.L.le_trans (P.L.le_left _ _) a, fun x hx hk => ?_⟩
        rcases List.mem_cons.1 hx with rfl | hx
        · exact P.L.le_trans (P.L.le_right _ _) a
        · exact b x hx hk
      · intro ⟨a, b⟩
        exact ⟨P.L.join_le a (b e (List.mem_cons_self) h), fun x hx hk => b x (List.mem_cons_of_mem _ hx) hk⟩
    · rw [if_neg h]
      constructor
      · intro ⟨a, b⟩
        refine ⟨a, fun x hx hk => ?_⟩
        rcases List.mem_cons.1 hx with rfl | hx
        · exact absurd hk h
        · exact b x hx hk
      · intro ⟨a, b⟩
        exact ⟨a, fun x hx hk => b x (List.mem_cons_of_mem _ hx) hk⟩
/-- In is the least that is above all that comes. -/
theorem inOf_le (o : Nat → V) (k : Nat) (z : V) : P.L.le (P.inOf o k) z ↔ P.L.le (P.start k) z ∧ ∀ e ∈ P.edges, e.2 = k → P.L.le (o e.1) z := P.fold_le o k z P.edges (P.start k)
theorem start_le (o : Nat → V) (k : Nat) : P.L.le (P.start k) (P.inOf o k) := ((P.inOf_le o k _).1 (P.L.le_refl _)).1
theorem edge_le (o : Nat → V) {e : Nat × Nat} (h : e ∈ P.edges) : P.L.le (o e.1) (P.inOf o e.2) := ((P.inOf_le o e.2 _).1 (P.L.le_refl _)).2 e h rfl
theorem inOf_mono {o o' : Nat → V} (h : ∀ k, k < P.n → P.L.le (o k) (o' k)) (k : Nat) : P.L.le (P.inOf o k) (P.inOf o' k) := by
  rw [inOf_le]
  refine ⟨P.start_le _ _, fun e he hk => ?_⟩
  subst hk
  exact P.L.le_trans (h _ (P.inn e he).1) (P.edge_le o' he)
/-- A fixed point. -/
def Fix (i o : Nat → V) : Prop := ∀ k, k < P.n → i k = P.inOf o k ∧ o k = P.flow k (i k)
/-- Below all of them. -/
def Low (i o : Nat → V) : Prop := ∀ i' o', P.Fix i' o' → ∀ k, k < P.n → P.L.le (i k) (i' k) ∧ P.L.le (o k) (o' k)
theorem least {i o i' o' : Nat → V} (h : P.Fix i o) (l : P.Low i o) (h' : P.Fix i' o') (l' : P.Low i' o') : ∀ k, k < P.n → i k = i' k ∧ o k = o' k := fun k hk =>
  ⟨P.L.le_anti (l _ _ h' k hk).1 (l' _ _ h k hk).1, P.L.le_anti (l _ _ h' k hk).2 (l' _ _ h k hk).2⟩
/-- The order of edges, and how often each stands there, is not in it. -/
theorem inOf_same {Q : Prb V} (hL : Q.L = P.L) (hs : ∀ k, Q.start k = P.start k) (he : ∀ e, e ∈ Q.edges ↔ e ∈ P.edges) (o : Nat → V) (k : Nat) : Q.inOf o k = P.inOf o k := by
  have a : ∀ z, P.L.le (Q.inOf o k) z ↔ P.L.le (P.inOf o k) z := fun z => by
    have q := Q.inOf_le o k z
    rw [hL] at q
    rw [q, P.inOf_le, hs]
    constructor
    · exact fun ⟨x, y⟩ => ⟨x, fun e h => y e ((he e).2 h)⟩
    · exact fun ⟨x, y⟩ => ⟨x, fun e h => y e ((he e).1 h)⟩
  exact P.L.le_anti ((a _).2 (P.L.le_refl _)) ((a _).1 (P.L.le_refl _))
theorem fix_same {Q : Prb V} (hn : Q.n = P.n) (hL : Q.L = P.L) (hs : ∀ k, Q.start k = P.start k) (hf : ∀ k v, Q.flow k v = P.flow k v) (he : ∀ e, e ∈ Q.edges ↔ e ∈ P.edges) (i o : Nat → V) : Q.Fix i o ↔ P.Fix i o := by
  constructor
  · intro h k hk
    have := h k (by omega)
    rw [P.inOf_same hL hs he, hf] at this
    exact this
  · intro h k hk
    have := h k (by omega)
    rw [P.inOf_same hL hs he, hf]
    exact this
theorem low_same {Q : Prb V} (hn : Q.n = P.n) (hL : Q.L = P.L) (hs : ∀ k, Q.start k = P.start k) (hf : ∀ k v, Q.flow k v = P.flow k v) (he : ∀ e, e ∈ Q.edges ↔ e ∈ P.edges) (i o : Nat → V) : Q.Low i o ↔ P.Low i o := by
  constructor
  · intro h i' o' f k hk
    have := h i' o' ((P.fix_same hn hL hs hf he i' o').2 f) k (by omega)
    rw [hL] at this
    exact this
  · intro h i' o' f k hk
    have := h i' o' ((P.fix_same hn hL hs hf he i' o').1 f) k (by omega)
    rw [hL]
    exact this
end Prb
def upd {α : Type} (f : Nat → α) (k : Nat) (v : α) (x : Nat) : α := if x = k then v else f x
theorem upd_at {α : Type} (f : Nat → α) (k : Nat) (v : α) : upd f k v k = v := if_pos rfl
theorem upd_ne {α : Type} (f : Nat → α) {k x : Nat} (v : α) (h : x ≠ k) : upd f k v x = f x := if_neg h
def sumTo (f : Nat → Nat) : Nat → Nat
  | 0 => 0
  | n + 1 => sumTo f n + f n
theorem sum_le {f g : Nat → Nat} : ∀ (n : Nat), (∀ k, k < n → f k ≤ g k) → sumTo f n ≤ sumTo g n
  | 0, _ => Nat.le_refl _
  | n + 1, h => Nat.add_le_add (sum_le n fun k hk => h k (by omega)) (h n (by omega))
theorem sum_lt {f g : Nat → Nat} : ∀ (n : Nat), (∀ k, k < n → f k ≤ g k) → ∀ k, k < n → f k < g k → sumTo f n < sumTo g n
  | 0, _, k, hk, _ => absurd hk (by omega)
  | n + 1, h, k, hk, lt => by
    have a := sum_le n fun k hk => h k (by omega)
    have b := h n (by omega)
    simp only [sumTo]
    by_cases e : k = n
    · subst e; omega
    · have := sum_lt n (fun k hk => h k (by omega)) k (by omega) lt
      omega
theorem sum_const (c : Nat) : ∀ n, sumTo (fun _ => c) n = n * c
  | 0 => by simp [sumTo]
  | n + 1 => by simp only [sumTo, sum_const c n]; rw [Nat.add_mul, Nat.one_mul]
namespace Prb
variable {V : Type} (P : Prb V)
/-- What the solver keeps: In is what has come, nodes that are not stale are settled, all is below every fixed point. -/
structure Slv (i o : Nat → V) (st : Nat → Bool) : Prop where
  ins : ∀ k, k < P.n → i k = P.inOf o k
  up : ∀ k, k < P.n → P.L.le (o k) (P.flow k (i k))
  set : ∀ k, k < P.n → st k = false → o k = P.flow k (i k)
  low : P.Low i o
theorem slv_begin : P.Slv P.start (fun _ => P.bot) (fun _ => true) where
  ins k hk := P.L.le_anti (P.start_le _ _) ((P.inOf_le _ _ _).2 ⟨P.L.le_refl _, fun e _ _ => P.neutral _⟩)
  up k hk := P.neutral _
  set k hk h := by cases h
  low i' o' h k hk := ⟨by rw [(h k hk).1]; exact P.start_le _ _, P.neutral _⟩
theorem Slv.done {i o : Nat → V} {st : Nat → Bool} (h : P.Slv i o st) (hs : ∀ k, k < P.n → st k = false) : P.Fix i o := fun k hk => ⟨h.ins k hk, h.set k hk (hs k hk)⟩
theorem Slv.low' {i o : Nat → V} {st : Nat → Bool} (h : P.Slv i o st) : P.Low i o := h.low
/-- How many calls of Flow are still to come, at most. -/
def pot (i : Nat → V) (st : Nat → Bool) : Nat := sumTo (fun k => (if st k then 1 else 0) + (P.L.top - P.L.hgt (i k))) P.n
theorem pot_begin (i : Nat → V) : P.pot i (fun _ => true) ≤ P.n * (P.L.top + 1) := by
  unfold pot
  rw [← sum_const]
  exact sum_le _ fun k hk => by simp only [if_true]; omega
theorem pot_pos {i : Nat → V} {st : Nat → Bool} {k : Nat} (hk : k < P.n) (h : st k = true) : 0 < P.pot i st := by
  have := sum_lt (f := fun _ => 0) (g := fun k => (if st k then 1 else 0) + (P.L.top - P.L.hgt (i k))) P.n (fun k hk => by omega) k hk (by simp only [h, if_true]; omega)
  rw [sum_const] at this
  unfold pot
  omega
/-- A stale node whose Out stays as it was. -/
theorem Slv.same {i o : Nat → V} {st : Nat → Bool} (h : P.Slv i o st) {k : Nat} (hk : k < P.n) (e : P.flow k (i k) = o k) : P.Slv i o (upd st k false) where
  ins := h.ins
  up := h.up
  set x hx hs := by
    by_cases c : x = k
    · subst c; exact e.symm
    · rw [upd_ne _ _ c] at hs; exact h.set x hx hs
  low := h.low
theorem pot_same {i : Nat → V} {st : Nat → Bool} {k : Nat} (hk : k < P.n) (hs : st k = true) : P.pot i (upd st k false) < P.pot i st := by
  refine sum_lt _ (fun x hx => ?_) k hk ?_
  · by_cases c : x = k
    · subst c; simp only [upd_at]; simp
    · simp only [upd_ne _ _ c]; exact Nat.le_refl _
  · simp only [upd_at, hs, if_true]; simp
/-- Those that a node's new Out reaches: In and what is stale behind it. -/
def joinTo [DecidableEq V] (v : V) : List Nat → (Nat → V) → (Nat → Bool) → (Nat → V) × (Nat → Bool)
  | [], i, st => (i, st)
  | t :: l, i, st => if P.L.join (i t) v = i t then joinTo v l i st else joinTo v l (upd i t (P.L.join (i t) v)) (upd st t true)
theorem joinTo_in [DecidableEq V] (v : V) : ∀ (l : List Nat) (i : Nat → V) (st : Nat → Bool) (x : Nat), (P.joinTo v l i st).1 x = if x ∈ l then P.L.join (i x) v else i x
  | [], i, st, x => by simp [joinTo]
  | t :: l, i, st, x => by
    unfold joinTo
    have two : ∀ a, P.L.join (P.L.join a v) v = P.L.join a v := fun a => by rw [P.L.assoc, P.L.idem]
    by_cases c : P.L.join (i t) v = i t
    · rw [if_pos c, joinTo_in v l]
      by_cases e : x = t
      · subst e; simp [c]
      · simp [e]
    · rw [if_neg c, joinTo_in v l]
      by_cases e : x = t
      · subst e; simp [upd_at, two]
      · simp [e, upd_ne _ _ e]
theorem joinTo_st [DecidableEq V] (v : V) : ∀ (l : List Nat) (i : Nat → V) (st : Nat → Bool) (x : Nat), ((P.joinTo v l i st).2 x = st x ∧ (P.joinTo v l i st).1 x = i x) ∨ ((P.joinTo v l i st).2 x = true ∧ (P.joinTo v l i st).1 x ≠ i x)
  | [], i, st, x => .inl ⟨rfl, rfl⟩
  | t :: l, i, st, x => by
    have two : ∀ a, P.L.join (P.L.join a v) v = P.L.join a v := fun a => by rw [P.L.assoc, P.L.idem]
    unfold joinTo
    by_cases c : P.L.join (i t) v = i t
    · rw [if_pos c]; exact joinTo_st v l i st x
    · rw [if_neg c]
      have r := joinTo_st v l (upd i t (P.L.join (i t) v)) (upd st t true) x
      by_cases e : x = t
      · subst e
        refine .inr ⟨?_, ?_⟩
        · rcases r with r | r
          · rw [r.1, upd_at]
          · exact r.1
        · rw [joinTo_in, upd_at, two]; simpa using c
      · rw [upd_ne _ _ e, upd_ne _ _ e] at r; exact r
/-- A stale node whose Out turns. -/
theorem Slv.turn [DecidableEq V] {i o : Nat → V} {st : Nat → Bool} (h : P.Slv i o st) {k : Nat} (hk : k < P.n) {l : List Nat} (hl : ∀ t, t ∈ l ↔ (k, t) ∈ P.edges) :
    P.Slv (P.joinTo (P.flow k (i k)) l i (upd st k false)).1 (upd o k (P.flow k (i k))) (P.joinTo (P.flow k (i k)) l i (upd st k false)).2 := by
  have ji := P.joinTo_in (P.flow k (i k)) l i (upd st k false)
  have js := P.joinTo_st (P.flow k (i k)) l i (upd st k false)
  have rise : ∀ x, P.L.le (i x) ((P.joinTo (P.flow k (i k)) l i (upd st k false)).1 x) := fun x => by
    rw [ji]; split
    · exact P.L.le_left _ _
    · exact P.L.le_refl _
  have orise : ∀ x, x < P.n → P.L.le (o x) (upd o k (P.flow k (i k)) x) := fun x hx => by
    by_cases c : x = k
    · subst c; rw [upd_at]; exact h.up x hx
    · rw [upd_ne _ _ c]; exact P.L.le_refl _
  refine ⟨fun x hx => ?_, fun x hx => ?_, fun x hx hs => ?_, fun i' o' f x hx => ?_⟩
  · apply P.L.le_anti
    · rw [ji]
      have a : P.L.le (i x) (P.inOf (upd o k (P.flow k (i k))) x) := by rw [h.ins x hx]; exact P.inOf_mono orise x
      split
      · rename_i m
        refine P.L.join_le a ?_
        have := P.edge_le (upd o k (P.flow k (i k))) ((hl x).1 m)
        simpa only [upd_at] using this
      · exact a
    · rw [P.inOf_le]
      refine ⟨P.L.le_trans (by rw [h.ins x hx]; exact P.start_le _ _) (rise x), fun e he ex => ?_⟩
      subst ex
      by_cases c : e.1 = k
      · rw [c, upd_at, ji, if_pos ((hl e.2).2 (by rw [← c]; exact he))]
        exact P.L.le_right _ _
      · rw [upd_ne _ _ c]
        exact P.L.le_trans (by rw [h.ins _ hx]; exact P.edge_le o he) (rise _)
  · by_cases c : x = k
    · subst c; rw [upd_at]; exact P.mono _ _ _ (rise x)
    · rw [upd_ne _ _ c]; exact P.L.le_trans (h.up x hx) (P.mono _ _ _ (rise x))
  · rcases js x with j | j
    · rw [j.2]
      rw [j.1] at hs
      by_cases c : x = k
      · subst c; rw [upd_at]
      · rw [upd_ne _ _ c] at hs ⊢; exact h.set x hx hs
    · rw [j.1] at hs; cases hs
  · have b := h.low i' o' f
    have nw : P.L.le (P.flow k (i k)) (o' k) := by rw [(f k hk).2]; exact P.mono _ _ _ (b k hk).1
    constructor
    · rw [ji]; split
      · rename_i m
        refine P.L.join_le (b x hx).1 (P.L.le_trans nw ?_)
        rw [(f x hx).1]
        exact P.edge_le o' ((hl x).1 m)
      · exact (b x hx).1
    · by_cases c : x = k
      · subst c; rw [upd_at]; exact nw
      · rw [upd_ne _ _ c]; exact (b x hx).2
theorem pot_join [DecidableEq V] (v : V) (l : List Nat) (i : Nat → V) (st : Nat → Bool) : P.pot (P.joinTo v l i st).1 (P.joinTo v l i st).2 ≤ P.pot i st := by
  refine sum_le _ fun x hx => ?_
  rcases P.joinTo_st v l i st x with j | j
  · rw [j.1, j.2]; exact Nat.le_refl _
  · have up : P.L.le (i x) ((P.joinTo v l i st).1 x) := by
      rw [P.joinTo_in]; split
      · exact P.L.le_left _ _
      · exact P.L.le_refl _
    have a := P.L.rise _ _ up (fun e => j.2 e.symm)
    have b := P.L.hgt_le ((P.joinTo v l i st).1 x)
    simp only [j.1, if_true]
    omega
/-- What the rounds keep. -/
structure Rnd (i o : Nat → V) : Prop where
  ins : ∀ k, k < P.n → P.L.le (i k) (P.inOf o k)
  up : ∀ k, k < P.n → P.L.le (o k) (P.flow k (i k))
  low : P.Low i o
theorem rnd_begin : P.Rnd (fun _ => P.bot) (fun _ => P.bot) where
  ins k _ := P.neutral _
  up k _ := P.neutral _
  low _ _ _ _ _ := ⟨P.neutral _, P.neutral _⟩
/-- How often a round may still turn something. -/
def potR (i o : Nat → V) : Nat := sumTo (fun k => (P.L.top - P.L.hgt (i k)) + (P.L.top - P.L.hgt (o k))) P.n
theorem Rnd.visit {i o : Nat → V} (h : P.Rnd i o) {k : Nat} (hk : k < P.n) : P.Rnd (upd i k (P.inOf o k)) (upd o k (P.flow k (P.inOf o k))) := by
  have w : P.L.le (o k) (P.flow k (P.inOf o k)) := P.L.le_trans (h.up k hk) (P.mono _ _ _ (h.ins k hk))
  have orise : ∀ x, x < P.n → P.L.le (o x) (upd o k (P.flow k (P.inOf o k)) x) := fun x hx => by
    by_cases c : x = k
    · subst c; rw [upd_at]; exact w
    · rw [upd_ne _ _ c]; exact P.L.le_refl _
  refine ⟨fun x hx => ?_, fun x hx => ?_, fun i' o' f x hx => ?_⟩
  · refine P.L.le_trans ?_ (P.inOf_mono orise x)
    by_cases c : x = k
    · subst c; rw [upd_at]; exact P.L.le_refl _
    · rw [upd_ne _ _ c]; exact h.ins x hx
  · by_cases c : x = k
    · subst c; rw [upd_at, upd_at]; exact P.L.le_refl _
    · rw [upd_ne _ _ c, upd_ne _ _ c]; exact h.up x hx
  · have b := h.low i' o' f
    have a : P.L.le (P.inOf o k) (i' k) := by rw [(f k hk).1]; exact P.inOf_mono (fun y hy => (b y hy).2) k
    by_cases c : x = k
    · subst c
      rw [upd_at, upd_at]
      exact ⟨a, by rw [(f x hx).2]; exact P.mono _ _ _ a⟩
    · rw [upd_ne _ _ c, upd_ne _ _ c]; exact b x hx
theorem Rnd.falls {i o : Nat → V} (h : P.Rnd i o) {k : Nat} (hk : k < P.n) (ne : P.inOf o k ≠ i k ∨ P.flow k (P.inOf o k) ≠ o k) : P.potR (upd i k (P.inOf o k)) (upd o k (P.flow k (P.inOf o k))) < P.potR i o := by
  have w : P.L.le (o k) (P.flow k (P.inOf o k)) := P.L.le_trans (h.up k hk) (P.mono _ _ _ (h.ins k hk))
  have a1 := P.L.hgt_mono (h.ins k hk)
  have a2 := P.L.hgt_mono w
  have b1 := P.L.hgt_le (P.inOf o k)
  have b2 := P.L.hgt_le (P.flow k (P.inOf o k))
  refine sum_lt _ (fun x hx => ?_) k hk ?_
  · by_cases c : x = k
    · subst c; simp only [upd_at]; omega
    · simp only [upd_ne _ _ c]; exact Nat.le_refl _
  · simp only [upd_at]
    rcases ne with ne | ne
    · have := P.L.rise _ _ (h.ins k hk) (Ne.symm ne); omega
    · have := P.L.rise _ _ w (Ne.symm ne); omega
end Prb
end Go.Proofs.YtjhndnhldhmjnaaDoor
