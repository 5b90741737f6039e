import Derived.Test.YtgkaeoieclegjaaLt
/- A depth-first walk, step by step, on the places that it gives. Free of the seat. -/
namespace Go.Proofs.Ytgkaeoieclegjaa
set_option linter.unusedVariables false
open Dfs (upd upd_same upd_ne)
theorem anc_le' {par : Nat → Nat} {m u v : Nat} (hp : ∀ v, 0 < v → v < m → par v < v) (h : Anc par u v) (hv : v < m) : u ≤ v := by
  induction h using Anc.ind with
  | refl => exact Nat.le_refl _
  | step h0 _ ih =>
    have := hp _ h0 hv
    have := ih (by omega)
    omega
theorem anc_upd {par : Nat → Nat} {m x u v : Nat} (hp : ∀ v, 0 < v → v < m → par v < v) (hv : v < m) : Anc (upd par m x) u v ↔ Anc par u v := by
  constructor
  · intro h
    induction h using Anc.ind with
    | refl => exact .refl
    | step h0 _ ih =>
      rw [upd_ne _ _ (by omega : _ ≠ m)] at ih
      have := hp _ h0 hv
      exact .step h0 (ih (by omega))
  · intro h
    induction h using Anc.ind with
    | refl => exact .refl
    | @step v h0 _ ih =>
      have := hp _ h0 hv
      refine .step h0 ?_
      rw [upd_ne _ _ (by omega : v ≠ m)]
      exact ih (by omega)
/-- m places are met; the walk stands at a; the blocks' successors are succ; of each place tried of them are looked at. -/
structure Met (succ : Nat → List (Option Nat)) (m a : Nat) (blk par tried : Nat → Nat) : Prop where
  at_ : a < m
  inj : ∀ x y, x < m → y < m → blk x = blk y → x = y
  par_lt : ∀ v, 0 < v → v < m → par v < v
  edge : ∀ v, 0 < v → v < m → some (blk v) ∈ succ (blk (par v))
  open_ : ∀ z c, Anc par z a → z ≤ c → c < m → Anc par z c
  cont : ∀ x b c, b < m → Anc par x b → x ≤ c → c ≤ b → Anc par x c
  seen : ∀ z k t, Anc par z a → k < tried z → (succ (blk z))[k]? = some (some t) → ∃ v, v < m ∧ blk v = t
  closed : ∀ z t, z < m → ¬ Anc par z a → some t ∈ succ (blk z) → ∃ v, v < m ∧ blk v = t ∧ (z < v → Anc par z v)
variable {succ : Nat → List (Option Nat)} {m a : Nat} {blk par tried : Nat → Nat}
theorem Met.begin (b : Nat) : Met succ 1 0 (fun _ => b) (fun _ => 0) (fun _ => 0) :=
  ⟨by omega, fun x y _ _ _ => by omega, fun v _ _ => by omega, fun v _ _ => by omega,
   fun z c h1 h2 h3 => by
    have : c = 0 := by omega
    subst this
    have : z = 0 := by omega
    subst this
    exact .refl,
   fun x b c h1 h2 h3 h4 => by
    have : c = x := by omega
    subst this
    exact .refl, fun z k t _ h => by omega, fun z t h1 h2 => by
    have : z = 0 := by omega
    subst this
    exact absurd .refl h2⟩
/-- The next successor is met already. -/
theorem Met.look (h : Met succ m a blk par tried) {t : Nat} (ht : (succ (blk a))[tried a]? = some (some t)) (hm : ∃ v, v < m ∧ blk v = t) :
    Met succ m a blk par (upd tried a (tried a + 1)) := by
  refine ⟨h.at_, h.inj, h.par_lt, h.edge, h.open_, h.cont, fun z k t' hz hk hkt => ?_, h.closed⟩
  by_cases hza : z = a
  · subst hza
    rw [upd_same] at hk
    by_cases hkt' : k = tried z
    · subst hkt'
      rw [ht] at hkt
      injection hkt with hkt
      injection hkt with hkt
      subst hkt
      exact hm
    · exact h.seen z k t' hz (by omega) hkt
  · rw [upd_ne _ _ hza] at hk
    exact h.seen z k t' hz hk hkt
/-- The next one leads nowhere. -/
theorem Met.skip (h : Met succ m a blk par tried) (ht : (succ (blk a))[tried a]? = some none) : Met succ m a blk par (upd tried a (tried a + 1)) := by
  refine ⟨h.at_, h.inj, h.par_lt, h.edge, h.open_, h.cont, fun z k t' hz hk hkt => ?_, h.closed⟩
  by_cases hza : z = a
  · subst hza
    rw [upd_same] at hk
    by_cases hkt' : k = tried z
    · subst hkt'
      rw [ht] at hkt
      injection hkt with hkt
      cases hkt
    · exact h.seen z k t' hz (by omega) hkt
  · rw [upd_ne _ _ hza] at hk
    exact h.seen z k t' hz hk hkt
/-- It is new. -/
theorem Met.come (h : Met succ m a blk par tried) {t : Nat} (ht : (succ (blk a))[tried a]? = some (some t)) (hm : ∀ v, v < m → blk v ≠ t) :
    Met succ (m + 1) m (upd blk m t) (upd par m a) (upd (upd tried a (tried a + 1)) m 0) := by
  have ha := h.at_
  have hup : ∀ {z v}, v < m → (Anc (upd par m a) z v ↔ Anc par z v) := fun hv => anc_upd h.par_lt hv
  have hnew : ∀ {z}, Anc (upd par m a) z m ↔ z = m ∨ Anc par z a := by
    intro z
    constructor
    · intro hz
      rcases hz.inv with e | ⟨_, hz⟩
      · exact .inl e.symm
      · rw [upd_same] at hz
        exact .inr ((hup ha).1 hz)
    · rintro (rfl | hz)
      · exact .refl
      · refine .step (by omega) ?_
        rw [upd_same]
        exact (hup ha).2 hz
  have hblk : ∀ {v}, v < m → upd blk m t v = blk v := fun hv => upd_ne _ _ (by omega)
  refine ⟨by omega, fun x y hx hy e => ?_, fun v h0 hv => ?_, fun v h0 hv => ?_, fun z c hz hzc hc => ?_, fun x b c hb hxb hxc hcb => ?_, fun z k t' hz hk hkt => ?_, fun z t' hz hn ht' => ?_⟩
  · by_cases hxm : x = m
    · by_cases hym : y = m
      · omega
      · subst hxm
        rw [upd_same, hblk (by omega : y < x)] at e
        exact absurd e.symm (hm y (by omega))
    · by_cases hym : y = m
      · subst hym
        rw [upd_same, hblk (by omega : x < y)] at e
        exact absurd e (hm x (by omega))
      · rw [hblk (by omega), hblk (by omega)] at e
        exact h.inj x y (by omega) (by omega) e
  · by_cases e : v = m
    · subst e
      rw [upd_same]
      omega
    · rw [upd_ne _ _ e]
      exact h.par_lt v h0 (by omega)
  · by_cases e : v = m
    · subst e
      rw [upd_same, upd_same, hblk ha]
      exact List.mem_of_getElem? ht
    · have := h.par_lt v h0 (by omega)
      rw [upd_ne _ _ e, hblk (by omega), hblk (by omega)]
      exact h.edge v h0 (by omega)
  · rcases hnew.1 hz with rfl | hz'
    · have : c = z := by omega
      subst this
      exact .refl
    · by_cases e : c = m
      · subst e
        exact hz
      · exact (hup (by omega)).2 (h.open_ z c hz' hzc (by omega))
  · by_cases e : b = m
    · subst e
      rcases hnew.1 hxb with rfl | hx'
      · have : c = x := by omega
        subst this
        exact .refl
      · by_cases e : c = b
        · subst e
          exact hxb
        · exact (hup (by omega)).2 (h.open_ x c hx' hxc (by omega))
    · exact (hup (by omega)).2 (h.cont x b c (by omega) ((hup (by omega)).1 hxb) hxc hcb)
  · rcases hnew.1 hz with rfl | hz'
    · rw [upd_same] at hk
      omega
    · have hzm : z < m := by
        have := anc_le' h.par_lt hz' ha
        omega
      rw [upd_ne _ _ (by omega : z ≠ m)] at hk
      rw [hblk hzm] at hkt
      by_cases hza : z = a
      · subst hza
        rw [upd_same] at hk
        by_cases hkt' : k = tried z
        · subst hkt'
          rw [ht] at hkt
          injection hkt with hkt
          injection hkt with hkt
          subst hkt
          exact ⟨m, by omega, upd_same _ _ _⟩
        · obtain ⟨v, h1, h2⟩ := h.seen z k t' hz' (by omega) hkt
          exact ⟨v, by omega, by rw [hblk h1]; exact h2⟩
      · rw [upd_ne _ _ hza] at hk
        obtain ⟨v, h1, h2⟩ := h.seen z k t' hz' hk hkt
        exact ⟨v, by omega, by rw [hblk h1]; exact h2⟩
  · have hzm : z < m := by
      by_cases e : z = m
      · subst e
        exact absurd .refl hn
      · omega
    rw [hblk hzm] at ht'
    obtain ⟨v, h1, h2, h3⟩ := h.closed z t' hzm (fun hz' => hn (hnew.2 (.inr hz'))) ht'
    exact ⟨v, by omega, by rw [hblk h1]; exact h2, fun hzv => (hup h1).2 (h3 hzv)⟩
/-- What a place that is left has shown. -/
theorem Met.done (h : Met succ m a blk par tried) (ht : (succ (blk a)).length ≤ tried a) {t : Nat} (hs : some t ∈ succ (blk a)) : ∃ v, v < m ∧ blk v = t ∧ (a < v → Anc par a v) := by
  obtain ⟨k, hk, e⟩ := List.getElem_of_mem hs
  obtain ⟨v, h1, h2⟩ := h.seen a k t .refl (by omega) (by rw [List.getElem?_eq_getElem hk, e])
  exact ⟨v, h1, h2, fun hav => h.open_ a v .refl (by omega) h1⟩
/-- All successors are looked at: the walk goes back. -/
theorem Met.leave (h : Met succ m a blk par tried) (h0 : 0 < a) (ht : (succ (blk a)).length ≤ tried a) : Met succ m (par a) blk par tried := by
  have ha := h.at_
  have hp := h.par_lt a h0 ha
  refine ⟨by omega, h.inj, h.par_lt, h.edge, fun z c hz => h.open_ z c (.step h0 hz), h.cont, fun z k t hz => h.seen z k t (.step h0 hz), fun z t hz hn hs => ?_⟩
  by_cases e : z = a
  · subst e
    exact h.done ht hs
  · refine h.closed z t hz (fun hz' => ?_) hs
    rcases hz'.inv with e' | ⟨_, hz'⟩
    · exact e e'.symm
    · exact hn hz'
/-- Where it ends, all that is met leads to what is met. -/
theorem Met.all (h : Met succ m 0 blk par tried) (ht : (succ (blk 0)).length ≤ tried 0) {z t : Nat} (hz : z < m) (hs : some t ∈ succ (blk z)) : ∃ v, v < m ∧ blk v = t ∧ (z < v → Anc par z v) := by
  by_cases e : z = 0
  · subst e
    exact h.done ht hs
  · refine h.closed z t hz (fun hz' => ?_) hs
    have := anc_le' h.par_lt hz' h.at_
    omega
/-- The graph on its places. -/
def Met.dfs (h : Met succ m 0 blk par tried) (ht : (succ (blk 0)).length ≤ tried 0) : Dfs where
  n := m
  E u v := u < m ∧ v < m ∧ some (blk v) ∈ succ (blk u)
  par := par
  lt := fun h => ⟨h.1, h.2.1⟩
  par_lt := fun h0 hv => h.par_lt _ h0 hv
  par_edge := fun {v} h0 hv => ⟨by have := h.par_lt _ h0 hv; omega, hv, h.edge _ h0 hv⟩
  fwd := fun {u v} e huv => by
    obtain ⟨v', h1, h2, h3⟩ := h.all ht e.1 e.2.2
    have := h.inj _ _ h1 e.2.1 h2
    subst this
    exact h3 huv
  cont := fun hb h1 h2 h3 => h.cont _ _ _ hb h1 h2 h3
/-- Ways over blocks are ways over places. -/
theorem Met.places (h : Met succ m 0 blk par tried) (ht : (succ (blk 0)).length ≤ tried 0) {S : Nat → Prop} {u b : Nat} (hu : u < m)
    (hw : W (fun x y => some y ∈ succ x) S (blk u) b) : ∃ v, v < m ∧ blk v = b ∧ W (h.dfs ht).E (fun z => S (blk z)) u v := by
  induction hw using W.ind with
  | nil s => exact ⟨u, hu, rfl, .nil s⟩
  | @snoc b c _ e s ih =>
    obtain ⟨v, h1, h2, h3⟩ := ih
    subst h2
    obtain ⟨v', h4, h5, _⟩ := h.all ht h1 e
    subst h5
    exact ⟨v', h4, rfl, .snoc h3 ⟨h1, h4, e⟩ s⟩
theorem Met.blocks (h : Met succ m 0 blk par tried) (ht : (succ (blk 0)).length ≤ tried 0) {S : Nat → Prop} {u v : Nat}
    (hw : W (h.dfs ht).E (fun z => S (blk z)) u v) : W (fun x y => some y ∈ succ x) S (blk u) (blk v) := by
  induction hw using W.ind with
  | nil s => exact .nil s
  | snoc _ e s ih => exact .snoc ih e.2.2 s
/-- One place dominates another where all ways over blocks lead through its block. -/
theorem Met.dom (h : Met succ m 0 blk par tried) (ht : (succ (blk 0)).length ≤ tried 0) {d v : Nat} (hd : d < m) (hv : v < m) :
    (h.dfs ht).Dom d v ↔ ¬ W (fun x y => some y ∈ succ x) (fun b => b ≠ blk d) (blk 0) (blk v) := by
  constructor
  · intro hn hw
    obtain ⟨v', h1, h2, h3⟩ := h.places ht h.at_ hw
    have := h.inj _ _ h1 hv h2
    subst this
    exact hn (h3.mono fun z hz e => hz (by rw [e]))
  · intro hn hw
    have key : ∀ v, W (h.dfs ht).E (fun z => z ≠ d) 0 v → v < m ∧ W (h.dfs ht).E (fun z => blk z ≠ blk d) 0 v := by
      intro v hv
      induction hv using W.ind with
      | nil s => exact ⟨h.at_, .nil fun e => s (h.inj _ _ h.at_ hd e)⟩
      | snoc _ e s ih => exact ⟨e.2.1, .snoc ih.2 e fun e' => s (h.inj _ _ e.2.1 hd e')⟩
    exact hn (h.blocks ht (S := fun b => b ≠ blk d) (key v hw).2)
/-- The places are the blocks that are reached. -/
theorem Met.reached (h : Met succ m 0 blk par tried) (ht : (succ (blk 0)).length ≤ tried 0) {b : Nat} :
    (∃ v, v < m ∧ blk v = b) ↔ W (fun x y => some y ∈ succ x) (fun _ => True) (blk 0) b := by
  constructor
  · rintro ⟨v, hv, rfl⟩
    exact h.blocks ht (S := fun _ => True) (Dfs.tree (g := h.dfs ht) (Dfs.anc_zero hv) hv fun _ _ _ => trivial)
  · intro hw
    obtain ⟨v, h1, h2, _⟩ := h.places ht h.at_ hw
    exact ⟨v, h1, h2⟩
end Go.Proofs.Ytgkaeoieclegjaa
