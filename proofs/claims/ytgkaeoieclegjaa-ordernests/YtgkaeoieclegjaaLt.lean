/- Dominators by Lengauer's and Tarjan's theorems, on the places of a depth-first walk. Free of the seat. -/
namespace Go.Proofs.Ytgkaeoieclegjaa
set_option linter.unusedVariables false
/-- u is v or stands above it. -/
def Anc (par : Nat → Nat) (u v : Nat) : Prop := ∀ P : Nat → Prop, P u → (∀ v, 0 < v → P (par v) → P v) → P v
theorem Anc.refl {par : Nat → Nat} {u : Nat} : Anc par u u := fun _ h _ => h
theorem Anc.step {par : Nat → Nat} {u v : Nat} (h0 : 0 < v) (h : Anc par u (par v)) : Anc par u v := fun P a b => b v h0 (h P a b)
theorem Anc.ind {par : Nat → Nat} {u : Nat} {motive : ∀ v, Anc par u v → Prop} (refl : motive u .refl)
    (step : ∀ {v : Nat} (h0 : 0 < v) (h : Anc par u (par v)), motive (par v) h → motive v (.step h0 h)) {v : Nat} (h : Anc par u v) : motive v h := by
  have := h (fun v => ∃ h, motive v h) ⟨.refl, refl⟩ (fun v h0 ⟨h, hm⟩ => ⟨.step h0 h, step h0 h hm⟩)
  obtain ⟨_, h⟩ := this
  exact h
theorem Anc.inv {par : Nat → Nat} {u v : Nat} (h : Anc par u v) : v = u ∨ (0 < v ∧ Anc par u (par v)) := by
  induction h using Anc.ind with
  | refl => exact .inl rfl
  | step h0 h _ => exact .inr ⟨h0, h⟩
/-- A graph on the places of a depth-first walk: it begins at 0, and comes to v from par v. -/
structure Dfs where
  n : Nat
  E : Nat → Nat → Prop
  par : Nat → Nat
  lt : ∀ {u v}, E u v → u < n ∧ v < n
  par_lt : ∀ {v}, 0 < v → v < n → par v < v
  par_edge : ∀ {v}, 0 < v → v < n → E (par v) v
  fwd : ∀ {u v}, E u v → u < v → Anc par u v
  cont : ∀ {a b c}, b < n → Anc par a b → a ≤ c → c ≤ b → Anc par a c
/-- A way within S. -/
def W (E : Nat → Nat → Prop) (S : Nat → Prop) (a c : Nat) : Prop := ∀ P : Nat → Prop, (S a → P a) → (∀ b c, P b → E b c → S c → P c) → (S a ∧ P c)
theorem W.nil {E : Nat → Nat → Prop} {S : Nat → Prop} {a : Nat} (h : S a) : W E S a a := fun _ p _ => ⟨h, p h⟩
theorem W.snoc {E : Nat → Nat → Prop} {S : Nat → Prop} {a b c : Nat} (h : W E S a b) (e : E b c) (s : S c) : W E S a c :=
  fun P p q => ⟨(h P p q).1, q b c (h P p q).2 e s⟩
theorem W.ind {E : Nat → Nat → Prop} {S : Nat → Prop} {a : Nat} {motive : ∀ c, W E S a c → Prop} (nil : ∀ s : S a, motive a (.nil s))
    (snoc : ∀ {b c : Nat} (h : W E S a b) (e : E b c) (s : S c), motive b h → motive c (.snoc h e s)) {c : Nat} (h : W E S a c) : motive c h := by
  have := (h (fun c => ∃ h, motive c h) (fun s => ⟨.nil s, nil s⟩) (fun b c ⟨h, hm⟩ e s => ⟨.snoc h e s, snoc h e s hm⟩)).2
  obtain ⟨_, h⟩ := this
  exact h
theorem W.inv {E : Nat → Nat → Prop} {S : Nat → Prop} {a c : Nat} (h : W E S a c) : (c = a ∧ S a) ∨ ∃ b, W E S a b ∧ E b c ∧ S c := by
  induction h using W.ind with
  | nil s => exact .inl ⟨rfl, s⟩
  | snoc h e s _ => exact .inr ⟨_, h, e, s⟩
namespace W
variable {E : Nat → Nat → Prop} {S P : Nat → Prop} {a b c : Nat}
theorem last (h : W E S a b) : S b := by
  rcases h.inv with ⟨rfl, s⟩ | ⟨_, _, _, s⟩ <;> exact s
theorem first (h : W E S a b) : S a := by
  induction h using W.ind with
  | nil s => exact s
  | snoc _ _ _ ih => exact ih
theorem mono (h : W E S a b) (hp : ∀ z, S z → P z) : W E P a b := by
  induction h using W.ind with
  | nil h => exact .nil (hp _ h)
  | snoc _ e s ih => exact .snoc ih e (hp _ s)
theorem trans (h : W E S a b) (h' : W E S b c) : W E S a c := by
  induction h' using W.ind with
  | nil _ => exact h
  | snoc _ e s ih => exact .snoc ih e s
theorem cons (ha : S a) (e : E a b) (h : W E S b c) : W E S a c := by
  induction h using W.ind with
  | nil s => exact .snoc (.nil ha) e s
  | snoc _ e' s ih => exact .snoc ih e' s
/-- What holds of all from which the end can be come to holds along the way. -/
theorem along (h : W E S a b) (hp : ∀ z, W E S z b → P z) : W E P a b := by
  induction h using W.ind with
  | nil s => exact .nil (hp _ (.nil s))
  | snoc _ e s ih => exact .snoc (ih fun z hz => hp z (.snoc hz e s)) e (hp _ (.nil s))
end W
namespace Dfs
variable (g : Dfs)
variable {g}
theorem anc_le {u v : Nat} (h : Anc g.par u v) (hv : v < g.n) : u ≤ v := by
  induction h using Anc.ind with
  | refl => exact Nat.le_refl _
  | step h0 _ ih =>
    have := g.par_lt h0 hv
    have := ih (by omega)
    omega
theorem anc_trans {a b c : Nat} (h : Anc g.par a b) (h' : Anc g.par b c) : Anc g.par a c := by
  induction h' using Anc.ind with
  | refl => exact h
  | step h0 _ ih => exact .step h0 ih
/-- The ancestors of one stand in line. -/
theorem anc_line {a b c : Nat} (hc : c < g.n) (h : Anc g.par a c) (h' : Anc g.par b c) (hab : a ≤ b) : Anc g.par a b :=
  g.cont hc h hab (anc_le h' hc)
theorem anc_zero {v : Nat} (hv : v < g.n) : Anc g.par 0 v := by
  induction v using Nat.strongRecOn with
  | _ v ih =>
    by_cases h0 : v = 0
    · subst h0; exact .refl
    · have h1 := g.par_lt (by omega : 0 < v) hv
      exact .step (by omega) (ih _ h1 (by omega))
/-- The way down the tree. -/
theorem tree {S : Nat → Prop} {a b : Nat} (h : Anc g.par a b) (hb : b < g.n) (hs : ∀ z, Anc g.par a z → Anc g.par z b → S z) : W g.E S a b := by
  induction h using Anc.ind with
  | refl => exact .nil (hs _ .refl .refl)
  | @step v h0 h ih =>
    have h1 := g.par_lt h0 hb
    exact .snoc (ih (by omega) fun z h2 h3 => hs z h2 (.step h0 h3)) (g.par_edge h0 hb) (hs _ (.step h0 h) .refl)
theorem w_lt {S : Nat → Prop} {a b : Nat} (h : W g.E S a b) (ha : a < g.n) : b < g.n := by
  rcases h.inv with ⟨rfl, _⟩ | ⟨_, _, e, _⟩
  · exact ha
  · exact (g.lt e).2
/-- A way to a later place leads through a common ancestor. -/
theorem common {S : Nat → Prop} {v w : Nat} (h : W g.E S v w) (hv : v < g.n) (hvw : v ≤ w) : ∃ a, S a ∧ Anc g.par a v ∧ Anc g.par a w := by
  induction h using W.ind with
  | nil s => exact ⟨v, s, .refl, .refl⟩
  | @snoc b c hw e s ih =>
    have hl := g.lt e
    by_cases hb : v ≤ b
    · obtain ⟨a, h1, h2, h3⟩ := ih hb
      by_cases hbc : b < c
      · exact ⟨a, h1, h2, anc_trans h3 (g.fwd e hbc)⟩
      · have := anc_le h2 hv
        exact ⟨a, h1, h2, g.cont hl.1 h3 (by omega) (by omega)⟩
    · have h1 := g.fwd e (by omega)
      exact ⟨b, hw.last, g.cont hl.2 h1 (by omega) hvw, h1⟩
variable (g) in
/-- A way from u to v through greater ones than v alone. -/
def SP (u v : Nat) : Prop := g.E u v ∨ ∃ a b, g.E u a ∧ W g.E (fun z => v < z) a b ∧ g.E b v
variable (g) in
def Semi (v s : Nat) : Prop := g.SP s v ∧ ∀ u, g.SP u v → s ≤ u
variable (g) in
/-- All ways from 0 to v lead through d. -/
def Dom (d v : Nat) : Prop := ¬ W g.E (fun z => z ≠ d) 0 v
variable (g) in
def Idom (d v : Nat) : Prop := g.Dom d v ∧ d ≠ v ∧ ∀ c, g.Dom c v → c ≠ v → g.Dom c d
theorem semi_lt {v s : Nat} (hv : v < g.n) (h0 : 0 < v) (h : g.Semi v s) : s < v := by
  have := h.2 _ (.inl (g.par_edge h0 hv))
  have := g.par_lt h0 hv
  omega
/-- A least such way comes from an ancestor. -/
theorem sp_anc {u v : Nat} (h : g.SP u v) (huv : u < v) : Anc g.par u v := by
  rcases h with h | ⟨a, b, h1, h2, h3⟩
  · exact g.fwd h huv
  · have hu := (g.lt h1).1
    have hv := (g.lt h3).2
    have hw : W g.E (fun z => z = u ∨ v ≤ z) u v := .snoc (W.cons (.inl rfl) h1 (h2.mono fun z hz => .inr (by omega))) h3 (.inr (Nat.le_refl _))
    obtain ⟨e, he, e1, e2⟩ := common hw hu (by omega)
    have := anc_le e1 hu
    rcases he with rfl | he
    · exact e2
    · omega
theorem dom_anc {d v : Nat} (hv : v < g.n) (h : g.Dom d v) : Anc g.par d v := by
  apply Classical.byContradiction
  intro hn
  exact h (tree (anc_zero hv) hv fun z _ h2 e => hn (e ▸ h2))
theorem dom_trans {a b c : Nat} (hc : c < g.n) (h : g.Dom a b) (h' : g.Dom b c) (hb : b < g.n): g.Dom a c := by
  intro hw
  have key : ∀ v, W g.E (fun z => z ≠ a) 0 v → (W g.E (fun z => z ≠ b) 0 v) := by
    intro v hv
    induction hv using W.ind with
    | nil s =>
      refine .nil fun e => ?_
      exact h (e ▸ .nil s)
    | snoc hw e s ih =>
      refine .snoc ih e fun e' => ?_
      subst e'
      exact h (.snoc hw e s)
  exact h' (key _ hw)
theorem dom_refl (v : Nat) : g.Dom v v := fun h => h.last rfl
/-- The dominators of one stand in line. -/
theorem dom_line {c d v : Nat} (hv : v < g.n) (hc : g.Dom c v) (hd : g.Dom d v) (hcd : c ≤ d) : g.Dom c d := by
  by_cases e : c = d
  · subst e
    exact dom_refl c
  · intro hW
    have h1 := dom_anc hv hd
    refine hc (hW.trans (tree h1 hv fun z h2 h3 e => ?_))
    subst e
    have := anc_le h2 (by have := anc_le h3 hv; omega)
    omega
/-- Strict dominators stand at the semidominator or above. -/
theorem dom_semi {d v s : Nat} (hv : v < g.n) (h0 : 0 < v) (hs : g.Semi v s) (h : g.Dom d v) (hd : d ≠ v) : d ≤ s := by
  have ha := dom_anc hv h
  have hl := anc_le ha hv
  have hsl := semi_lt hv h0 hs
  apply Classical.byContradiction
  intro hn
  have h1 : W g.E (fun z => z ≠ d) 0 s := tree (anc_zero (by omega)) (by omega) fun z _ h2 e => by
    have := anc_le h2 (by omega)
    omega
  rcases hs.1 with h2 | ⟨a, b, h2, h3, h4⟩
  · exact h (.snoc h1 h2 (Ne.symm hd))
  · have ha' := h3.first
    have h5 : W g.E (fun z => z ≠ d) 0 a := .snoc h1 h2 (by intro e; subst e; omega)
    exact h (.snoc (h5.trans (h3.mono fun z hz => by omega)) h4 (Ne.symm hd))
/-- A way that comes to c, of the row A, from none of A leads through greater ones alone. -/
theorem into {S A : Nat → Prop} {a b c : Nat} (hAc : A c) (h : W g.E (fun z => S z ∧ ¬ A z) a b) (e : g.E b c)
    (hA : ∀ z, S z → z < c → Anc g.par z c → A z) : W g.E (fun z => c < z) a b := by
  have hb := (g.lt e).1
  have hc := (g.lt e).2
  refine h.along fun z hz => ?_
  apply Classical.byContradiction
  intro hn
  have hzc : z ≠ c := fun e => hz.first.2 (e ▸ hAc)
  have hzn : z < g.n := by omega
  have hw : W g.E (fun y => (S y ∧ ¬ A y) ∨ y = c) z c := .snoc (hz.mono fun y hy => .inl hy) e (.inr rfl)
  obtain ⟨y, h1, h2, h3⟩ := common hw hzn (by omega)
  have h4 := anc_le h2 hzn
  rcases h1 with ⟨h1, h5⟩ | rfl
  · exact h5 (hA y h1 (by omega) h3)
  · omega
/-- A way that misses s, above w, comes first to one between, from a place ahead of s through greater ones alone. -/
theorem first_in {s w : Nat} (hwn : w < g.n) (hs : Anc g.par s w) (h : W g.E (fun z => z ≠ s) 0 w) :
    ∃ c x, Anc g.par s c ∧ Anc g.par c w ∧ c ≠ s ∧ W g.E (fun z => z ≠ s) 0 c ∧ x < s ∧ g.SP x c := by
  apply Classical.byContradiction
  intro hno
  have hsw := anc_le hs hwn
  have key : ∀ b, W g.E (fun z => z ≠ s) 0 b → ¬ (Anc g.par s b ∧ Anc g.par b w) ∧
      (s ≤ b → ∃ x a, x < s ∧ g.E x a ∧ W g.E (fun z => s ≤ z ∧ ¬ (Anc g.par s z ∧ Anc g.par z w)) a b) := by
    intro b hb
    induction hb using W.ind with
    | nil h0 =>
      refine ⟨fun h1 => ?_, fun h1 => ?_⟩
      · have := anc_le h1.1 (by omega : 0 < g.n)
        omega
      · omega
    | @snoc b c hw e hc ih =>
      have hl := g.lt e
      have hwc : W g.E (fun z => z ≠ s) 0 c := .snoc hw e hc
      have hcA : ¬ (Anc g.par s c ∧ Anc g.par c w) := fun hA => by
        have hsc := anc_le hA.1 hl.2
        by_cases hbs : s ≤ b
        · obtain ⟨x, a, hx, hxa, hab⟩ := ih.2 hbs
          refine hno ⟨c, x, hA.1, hA.2, hc, hwc, hx, .inr ⟨a, b, hxa, ?_, e⟩⟩
          exact into (A := fun z => Anc g.par s z ∧ Anc g.par z w) hA hab e fun z hz _ hzc => ⟨anc_line hl.2 hA.1 hzc hz, anc_trans hzc hA.2⟩
        · exact hno ⟨c, b, hA.1, hA.2, hc, hwc, by omega, .inl e⟩
      refine ⟨hcA, fun hsc => ?_⟩
      by_cases hbs : s ≤ b
      · obtain ⟨x, a, hx, hxa, hab⟩ := ih.2 hbs
        exact ⟨x, a, hx, hxa, .snoc hab e ⟨hsc, hcA⟩⟩
      · exact ⟨b, c, by omega, e, .nil ⟨hsc, hcA⟩⟩
  exact (key w h).1 ⟨hs, .refl⟩
/-- Theorem 2: none between has a lesser semidominator: it is the immediate dominator. -/
theorem idom_semi {w s : Nat} (hwn : w < g.n) (h0 : 0 < w) (hs : g.Semi w s)
    (hm : ∀ u t, Anc g.par s u → Anc g.par u w → u ≠ s → g.Semi u t → s ≤ t) (ht : ∀ u, u < g.n → 0 < u → ∃ t, g.Semi u t) : g.Idom s w := by
  have hsw := semi_lt hwn h0 hs
  have ha := sp_anc hs.1 hsw
  have hd : g.Dom s w := fun hW => by
    obtain ⟨c, x, h1, h2, h3, _, h4, h5⟩ := first_in hwn ha hW
    have hcw := anc_le h2 hwn
    have hsc := anc_le h1 (by omega : c < g.n)
    obtain ⟨t, ht⟩ := ht c (by omega) (by omega)
    have := hm c t h1 h2 h3 ht
    have := ht.2 x h5
    omega
  refine ⟨hd, by omega, fun c hc hcw hW => ?_⟩
  have hle := dom_semi hwn h0 hs hc hcw
  by_cases hcs : c = s
  · subst hcs
    exact hd (W.mono (S := fun z => z ≠ c) (by
      exfalso
      exact hW.last rfl) fun z hz => hz)
  · refine hc (hW.trans (tree ha hwn fun z h1 h2 e => ?_))
    subst e
    have := anc_le h1 (by have := anc_le h2 hwn; omega)
    omega
/-- Theorem 3: else it is that of the one of the least semidominator between. -/
theorem idom_other {w s u t i : Nat} (hwn : w < g.n) (h0 : 0 < w) (hs : g.Semi w s) (hu : Anc g.par s u) (huw : Anc g.par u w) (hus : u ≠ s) (hut : g.Semi u t) (hts : t < s)
    (hm : ∀ v r, Anc g.par s v → Anc g.par v w → v ≠ s → g.Semi v r → t ≤ r) (ht : ∀ u, u < g.n → 0 < u → ∃ t, g.Semi u t) (hi : g.Idom i u) : g.Idom i w := by
  have hsw := semi_lt hwn h0 hs
  have ha := sp_anc hs.1 hsw
  have hul := anc_le huw hwn
  have hun : u < g.n := by omega
  have hsu := anc_le hu hun
  have hit := dom_semi hun (by omega) hut hi.1 hi.2.1
  have hiu := dom_anc hun hi.1
  have hiw := anc_trans hiu huw
  have hd : g.Dom i w := fun hW => by
    obtain ⟨c, x, h1, h2, h3, h6, h4, h5⟩ := first_in hwn hiw hW
    have hcw := anc_le h2 hwn
    have hic := anc_le h1 (by omega : c < g.n)
    obtain ⟨r, hr⟩ := ht c (by omega) (by omega)
    have hrx := hr.2 x h5
    by_cases hsc : c ≤ s
    · have h7 := anc_line hwn h2 ha hsc
      refine hi.1 (h6.trans (tree (anc_trans h7 hu) hun fun z h8 h9 e => ?_))
      subst e
      have := anc_le h8 (by have := anc_le h9 hun; omega)
      omega
    · have h7 := anc_line hwn ha h2 (by omega)
      have := hm c r h7 h2 (by omega) hr
      omega
  refine ⟨hd, by omega, fun c hc hcw => ?_⟩
  have hle := dom_semi hwn h0 hs hc hcw
  refine hi.2.2 c (fun hW => hc (hW.trans (tree huw hwn fun z h1 h2 e => ?_))) (by omega)
  subst e
  have := anc_le h1 (by have := anc_le h2 hwn; omega)
  omega
/-- Theorem 4, one half: what the edges and the ancestors of their beginnings tell bounds the semidominator. -/
theorem sp_edge {v i : Nat} (h : g.E v i) : g.SP v i := .inl h
theorem sp_up {v i u x : Nat} (h : g.E v i) (hiu : i < u) (hu : Anc g.par u v) (hx : g.SP x u) : g.SP x i := by
  have hv := (g.lt h).1
  have ht : W g.E (fun z => i < z) u v := tree hu hv fun z h1 h2 => by
    have := anc_le h1 (by have := anc_le h2 hv; omega)
    omega
  rcases hx with hx | ⟨a, b, h1, h2, h3⟩
  · exact .inr ⟨u, v, hx, ht, h⟩
  · exact .inr ⟨a, v, h1, (W.snoc (h2.mono fun z hz => by omega) h3 hiu).trans ht, h⟩
/-- The other half: each way comes so. -/
theorem sp_from {x i : Nat} (h : g.SP x i) : g.E x i ∨ ∃ u v, g.E v i ∧ i < u ∧ Anc g.par u v ∧ g.SP x u := by
  rcases h with h | ⟨a, k, h1, h2, h3⟩
  · exact .inl h
  · have hk := (g.lt h3).1
    have key : ∀ b, W g.E (fun z => i < z) a b → W g.E (fun z => i < z ∧ ¬ Anc g.par z k) a b ∨ ∃ c, i < c ∧ Anc g.par c k ∧ (a = c ∨ ∃ b', W g.E (fun z => i < z ∧ ¬ Anc g.par z k) a b' ∧ g.E b' c) := by
      intro b hb
      induction hb using W.ind with
      | nil s =>
        by_cases hak : Anc g.par a k
        · exact .inr ⟨a, s, hak, .inl rfl⟩
        · exact .inl (.nil ⟨s, hak⟩)
      | @snoc b c hw e s ih =>
        rcases ih with ih | ih
        · by_cases hck : Anc g.par c k
          · exact .inr ⟨c, s, hck, .inr ⟨b, ih, e⟩⟩
          · exact .inl (.snoc ih e ⟨s, hck⟩)
        · exact .inr ih
    rcases key k h2 with h4 | ⟨c, hic, hck, rfl | ⟨b, hb, e⟩⟩
    · exact absurd Anc.refl h4.last.2
    · exact .inr ⟨a, k, h3, hic, hck, .inl h1⟩
    · exact .inr ⟨c, k, h3, hic, hck, .inr ⟨a, b, h1, into (S := fun z => i < z) (A := fun z => Anc g.par z k) hck hb e fun z _ _ hz => anc_trans hz hck, e⟩⟩
theorem semi_ex {u : Nat} (hu : u < g.n) (h0 : 0 < u) : ∃ t, g.Semi u t := by
  have key : ∀ k, (∃ x, x ≤ k ∧ g.SP x u) → ∃ t, g.Semi u t := by
    intro k
    induction k with
    | zero =>
      rintro ⟨x, hx, h⟩
      exact ⟨x, h, fun y _ => by omega⟩
    | succ k ih =>
      rintro ⟨x, hx, h⟩
      by_cases hk : ∃ x, x ≤ k ∧ g.SP x u
      · exact ih hk
      · refine ⟨x, h, fun y hy => ?_⟩
        apply Classical.byContradiction
        intro hn
        exact hk ⟨y, by omega, hy⟩
  exact key _ ⟨_, Nat.le_refl _, .inl (g.par_edge h0 hu)⟩
theorem semi_one {u s t : Nat} (h : g.Semi u s) (h' : g.Semi u t) : s = t := Nat.le_antisymm (h.2 _ h'.1) (h'.2 _ h.1)
/-- What the round over the edges to i finds is the semidominator. -/
theorem semi_of {i s : Nat} (hi : i < g.n) (h0 : 0 < i) (hsi : s < i) (h : g.E s i ∨ ∃ u v, g.E v i ∧ i < u ∧ Anc g.par u v ∧ g.Semi u s)
    (h1 : ∀ v, g.E v i → v < i → s ≤ v) (h2 : ∀ u v t, g.E v i → i < u → Anc g.par u v → g.Semi u t → s ≤ t) : g.Semi i s := by
  refine ⟨?_, fun x hx => ?_⟩
  · rcases h with h | ⟨u, v, h, hu, ha, hs⟩
    · exact .inl h
    · exact sp_up h hu ha hs.1
  · rcases sp_from hx with h | ⟨u, v, h, hu, ha, hs⟩
    · by_cases hxi : x < i
      · exact h1 x h hxi
      · omega
    · have hun : u < g.n := by
        have := anc_le ha (g.lt h).1
        have := (g.lt h).1
        omega
      obtain ⟨t, ht⟩ := semi_ex hun (by omega)
      exact Nat.le_trans (h2 u v t h hu ha ht) (ht.2 x hs)
/-- What waits at p while a child i of p is done: the places linked above it are all those below p. -/
theorem linked {i j u : Nat} (hj : j < g.n) (h0 : 0 < i) (hij : i ≤ j) (hu : Anc g.par u j) (hpu : g.par i < u) : i ≤ u := by
  apply Classical.byContradiction
  intro hn
  have h1 := g.cont hj hu (by omega) hij
  rcases h1.inv with rfl | ⟨_, h2⟩
  · omega
  · have := g.par_lt h0 (by omega : i < g.n)
    have := anc_le h2 (by omega)
    omega
/-- One immediate dominator. -/
theorem idom_lt {d v : Nat} (hv : v < g.n) (h : g.Idom d v) : d < v := by
  have := anc_le (dom_anc hv h.1) hv
  have := h.2.1
  omega
theorem idom_one {c d v : Nat} (hv : v < g.n) (h : g.Idom c v) (h' : g.Idom d v) : c = d := by
  have h1 := idom_lt hv h
  have h2 := idom_lt hv h'
  have := anc_le (dom_anc (by omega) (h.2.2 d h'.1 h'.2.1)) (by omega : c < g.n)
  have := anc_le (dom_anc (by omega) (h'.2.2 c h.1 h.2.1)) (by omega : d < g.n)
  omega
/-- What the two rounds make of the semidominators: sm j is that of j, um j one of the least semidominator below sm j on the way to j, dm j the answer. -/
theorem all_idom {sm um dm : Nat → Nat} (hs : ∀ j, 0 < j → j < g.n → g.Semi j (sm j))
    (hu : ∀ j, 0 < j → j < g.n → Anc g.par (sm j) (um j) ∧ um j ≠ sm j ∧ Anc g.par (um j) j ∧ ∀ v, Anc g.par (sm j) v → v ≠ sm j → Anc g.par v j → sm (um j) ≤ sm v)
    (hd : ∀ j, 0 < j → j < g.n → dm j = if sm (um j) < sm j then dm (um j) else sm j) : ∀ j, 0 < j → j < g.n → g.Idom (dm j) j := by
  intro j
  induction j using Nat.strongRecOn with
  | _ j ih =>
    intro h0 hj
    obtain ⟨u1, u2, u3, u4⟩ := hu j h0 hj
    have hsj := hs j h0 hj
    have hul := anc_le u3 hj
    have hsu := anc_le u1 (by omega : um j < g.n)
    have hsu0 := hs (um j) (by omega) (by omega)
    have ht : ∀ u, u < g.n → 0 < u → ∃ t, g.Semi u t := fun u h h' => semi_ex h h'
    have hm : ∀ v r, Anc g.par (sm j) v → Anc g.par v j → v ≠ sm j → g.Semi v r → sm (um j) ≤ r := fun v r h1 h2 h3 h4 => by
      have hv := anc_le h2 hj
      have hv' := anc_le h1 (by omega : v < g.n)
      rw [semi_one h4 (hs v (by omega) (by omega))]
      exact u4 v h1 h3 h2
    rw [hd j h0 hj]
    split
    · rename_i hlt
      have huj : um j ≠ j := fun e => by
        rw [e] at hlt
        omega
      exact idom_other hj h0 hsj u1 u3 u2 hsu0 hlt hm ht (ih (um j) (by omega) (by omega) (by omega))
    · rename_i hlt
      refine idom_semi hj h0 hsj (fun v r h1 h2 h3 h4 => ?_) ht
      have := hm v r h1 h2 h3 h4
      omega
theorem anc_par {u i : Nat} (hi : i < g.n) (h0 : 0 < i) (h : Anc g.par u i) (hp : g.par i < u) : u = i := by
  rcases h.inv with rfl | ⟨_, h⟩
  · rfl
  · have := anc_le h (by have := g.par_lt h0 hi; omega)
    omega
def upd {α : Type} (f : Nat → α) (k : Nat) (x : α) : Nat → α := fun j => if j = k then x else f j
theorem upd_same {α : Type} (f : Nat → α) (k : Nat) (x : α) : upd f k x k = x := if_pos rfl
theorem upd_ne {α : Type} (f : Nat → α) {j k : Nat} (x : α) (h : j ≠ k) : upd f k x j = f j := if_neg h
variable (g) in
/-- Trees of places that are done, those from i on: up is some place above, all between are done, and best the one of the least sm between. -/
structure Hang (i : Nat) (sm best : Nat → Nat) (up : Nat → Option Nat) : Prop where
  root : ∀ j, j < i → up j = none ∧ best j = j
  link : ∀ j, j < g.n → i ≤ j → ∃ r, up j = some r ∧ Anc g.par r j ∧ r < j ∧ (r < best j ∧ Anc g.par (best j) j) ∧ ∀ u, Anc g.par u j → r < u → i ≤ u ∧ sm (best j) ≤ sm u
variable {i : Nat} {sm best : Nat → Nat} {up : Nat → Option Nat}
theorem Hang.begin (sm : Nat → Nat) : g.Hang g.n sm (fun j => j) (fun _ => none) := ⟨fun _ _ => ⟨rfl, rfl⟩, fun j h h' => by omega⟩
/-- A place is hung in below the one from which the walk came to it. -/
theorem Hang.hang (h : g.Hang (i + 1) sm best up) (hi : i < g.n) (h0 : 0 < i) : g.Hang i sm best (upd up i (some (g.par i))) := by
  refine ⟨fun j hj => ?_, fun j hj hij => ?_⟩
  · rw [upd_ne _ _ (by omega)]
    exact h.root j (by omega)
  · by_cases e : j = i
    · subst e
      have hb := (h.root j (by omega)).2
      have hp := g.par_lt h0 hi
      refine ⟨g.par j, upd_same _ _ _, .step h0 .refl, hp, ?_, fun u hu hpu => ?_⟩
      · rw [hb]; exact ⟨hp, .refl⟩
      · have := anc_par hi h0 hu hpu
        subst this
        rw [hb]; exact ⟨Nat.le_refl _, Nat.le_refl _⟩
    · obtain ⟨r, h1, h2, h3, h4, h5⟩ := h.link j hj (by omega)
      rw [upd_ne _ _ e]
      exact ⟨r, h1, h2, h3, h4, fun u hu hr => ⟨by have := (h5 u hu hr).1; omega, (h5 u hu hr).2⟩⟩
theorem Hang.up_some (h : g.Hang i sm best up) {a r : Nat} (e : up a = some r) : i ≤ a := by
  apply Classical.byContradiction
  intro hn
  rw [(h.root a (by omega)).1] at e
  cases e
/-- A way up is made shorter. -/
theorem Hang.short (h : g.Hang i sm best up) {a r r' : Nat} (ha : a < g.n) (e : up a = some r) (e' : up r = some r') :
    g.Hang i sm (upd best a (if sm (best r) < sm (best a) then best r else best a)) (upd up a (some r')) := by
  have hia := h.up_some e
  have hir := h.up_some e'
  obtain ⟨_, f1, f2, f3, f4, f5⟩ := h.link a ha hia
  rw [e] at f1
  injection f1 with f1
  subst f1
  have hrn : r < g.n := by omega
  obtain ⟨_, k1, k2, k3, k4, k5⟩ := h.link r hrn hir
  rw [e'] at k1
  injection k1 with k1
  subst k1
  refine ⟨fun j hj => ?_, fun j hj hij => ?_⟩
  · rw [upd_ne _ _ (by omega), upd_ne _ _ (by omega)]
    exact h.root j hj
  · by_cases ej : j = a
    · subst ej
      refine ⟨r', upd_same _ _ _, anc_trans k2 f2, by omega, ?_, fun u hu hr => ?_⟩
      · rw [upd_same]
        split
        · exact ⟨k4.1, anc_trans k4.2 f2⟩
        · exact ⟨by omega, f4.2⟩
      · rw [upd_same]
        by_cases hru : r < u
        · obtain ⟨q1, q2⟩ := f5 u hu hru
          refine ⟨q1, ?_⟩
          split <;> omega
        · obtain ⟨q1, q2⟩ := k5 u (anc_line ha hu f2 (by omega)) hr
          refine ⟨q1, ?_⟩
          split <;> omega
    · rw [upd_ne _ _ ej, upd_ne _ _ ej]
      exact h.link j hj hij
/-- What is told of a place below a root: the least among its ancestors that are done. -/
theorem Hang.tells (h : g.Hang i sm best up) {j r : Nat} (hj : j < g.n) (e : up j = some r) (e' : up r = none) :
    i ≤ best j ∧ Anc g.par (best j) j ∧ ∀ u, Anc g.par u j → i ≤ u → sm (best j) ≤ sm u := by
  have hij := h.up_some e
  obtain ⟨_, f1, f2, f3, f4, f5⟩ := h.link j hj hij
  rw [e] at f1
  injection f1 with f1
  subst f1
  have hri : r < i := by
    apply Classical.byContradiction
    intro hn
    obtain ⟨_, k1, _⟩ := h.link r (by omega) (by omega)
    rw [e'] at k1
    cases k1
  exact ⟨(f5 _ f4.2 f4.1).1, f4.2, fun u hu hiu => (f5 u hu (by omega)).2⟩
end Dfs
end Go.Proofs.Ytgkaeoieclegjaa
