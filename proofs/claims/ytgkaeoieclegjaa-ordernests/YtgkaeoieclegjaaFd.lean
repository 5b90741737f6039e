import Derived.Test.YtgkaeoieclegjaaNear
/- What the finder of dominators knows, round by round. Free of the seat. -/
namespace Go.Proofs.Ytgkaeoieclegjaa
set_option linter.unusedVariables false
open Dfs (upd upd_same upd_ne anc_le anc_trans anc_line)
/-- A list of those that wait: its first, and of each the one behind it. -/
def Chain (nx : Nat → Option Nat) : Option Nat → List Nat → Prop
  | o, [] => o = none
  | o, j :: l => o = some j ∧ Chain nx (nx j) l
theorem Chain.upd {nx : Nat → Option Nat} {k : Nat} {x : Option Nat} : ∀ {l : List Nat} {o : Option Nat}, Chain nx o l → k ∉ l → Chain (Dfs.upd nx k x) o l
  | [], o, h, _ => h
  | j :: l, o, h, hk => by
    refine ⟨h.1, ?_⟩
    rw [upd_ne _ _ (fun e : j = k => hk (by rw [e]; exact List.mem_cons_self))]
    exact h.2.upd (fun h' => hk (List.mem_cons_of_mem _ h'))
structure Fs where
  sm : Nat → Nat
  best : Nat → Nat
  up : Nat → Option Nat
  dom : Nat → Option Nat
  wt : Nat → Option Nat
  nx : Nat → Option Nat
/-- j has its answer, or one that has the same. -/
def Settled (g : Dfs) (i : Nat) (sm : Nat → Nat) (dom : Nat → Option Nat) (j : Nat) : Prop :=
  ∃ u, Anc g.par (sm j) u ∧ u ≠ sm j ∧ Anc g.par u j ∧ (∀ v, Anc g.par (sm j) v → v ≠ sm j → Anc g.par v j → i ≤ v ∧ sm u ≤ sm v) ∧ dom j = some (if sm u < sm j then u else sm j)
/-- Places from i on are done; L p: those that wait at p. -/
structure Rnd (g : Dfs) (i : Nat) (s : Fs) (L : Nat → List Nat) : Prop where
  hang : g.Hang i s.sm s.best s.up
  semi : ∀ j, 0 < j → i ≤ j → j < g.n → g.Semi j (s.sm j)
  fresh : ∀ j, j < i → s.sm j = j
  chain : ∀ p, Chain s.nx (s.wt p) (L p)
  inL : ∀ p j, j ∈ L p → i ≤ j ∧ j < g.n ∧ s.sm j = p
  all : ∀ j, 0 < j → i ≤ j → j < g.n → j ∈ L (s.sm j) ∨ Settled g i s.sm s.dom j
  late : ∀ p j c, j ∈ L p → i ≤ c → c ≤ j → g.par c ≠ p
  dom0 : s.dom 0 = none
variable {g : Dfs}
theorem Rnd.begin (sm : Nat → Nat) (h : ∀ j, sm j = j) : Rnd g g.n ⟨sm, fun j => j, fun _ => none, fun _ => none, fun _ => none, fun _ => none⟩ (fun _ => []) :=
  ⟨Dfs.Hang.begin sm, fun j _ h1 h2 => by omega, fun j _ => h j, fun p => rfl, fun p j h => (by cases h), fun j _ h1 h2 => by omega, fun p j c h => (by cases h), rfl⟩
theorem Hang_turn {i : Nat} {sm sm' best : Nat → Nat} {up : Nat → Option Nat} (h : g.Hang i sm best up) (e : ∀ j, i ≤ j → sm' j = sm j) : g.Hang i sm' best up := by
  refine ⟨h.root, fun j hj hij => ?_⟩
  obtain ⟨r, h1, h2, h3, h4, h5⟩ := h.link j hj hij
  refine ⟨r, h1, h2, h3, h4, fun u hu hr => ?_⟩
  have h6 := h5 u hu hr
  have h7 := h5 _ h4.2 h4.1
  rw [e _ h7.1, e _ h6.1]
  exact h6
/-- What least answers. -/
structure LeastOf (g : Dfs) (i : Nat) (sm : Nat → Nat) (j x : Nat) : Prop where
  lt : x < g.n
  self : j < i → x = j
  ge : i ≤ j → i ≤ x
  anc : Anc g.par x j
  min : ∀ u, Anc g.par u j → i ≤ u → sm x ≤ sm u
/-- The round over what leads to i: cur is what is known, the first k of those that lead there (vs) are looked at. -/
structure Edg (g : Dfs) (i : Nat) (sm : Nat → Nat) (vs : List Nat) (cur : Nat) : Prop where
  le : cur ≤ i
  of : cur = i ∨ g.E cur i ∨ ∃ u v, g.E v i ∧ i < u ∧ Anc g.par u v ∧ g.Semi u cur
  low : ∀ v, v ∈ vs → v < i → cur ≤ v
  high : ∀ u v t, v ∈ vs → i < u → Anc g.par u v → g.Semi u t → cur ≤ t
theorem Edg.begin (i : Nat) (sm : Nat → Nat) : Edg g i sm [] i := ⟨Nat.le_refl _, .inl rfl, (fun v h => by cases h), (fun u v t h => by cases h)⟩
/-- One more that leads there, v; least answers x. sm i is cur. -/
theorem Edg.next {i v x cur : Nat} {sm : Nat → Nat} {vs : List Nat} (h : Edg g i sm vs cur) (h0 : 0 < i) (hi : i < g.n) (hE : g.E v i)
    (hsm : ∀ j, i < j → j < g.n → g.Semi j (sm j)) (hf : ∀ j, j < i → sm j = j) (hc : sm i = cur) (hx : LeastOf g (i + 1) sm v x) : Edg g i sm (vs ++ [v]) (min cur (sm x)) := by
  have hv := (g.lt hE).1
  have hle := h.le
  by_cases hvi : v ≤ i
  · have e := hx.self (by omega)
    subst e
    by_cases e : x = i
    · subst e
      rw [hc, Nat.min_self]
      refine ⟨hle, h.of, fun w hw hwi => ?_, fun u w t hw hu ha hs => ?_⟩
      · rcases List.mem_append.1 hw with hw | hw
        · exact h.low w hw hwi
        · simp at hw; omega
      · rcases List.mem_append.1 hw with hw | hw
        · exact h.high u w t hw hu ha hs
        · simp at hw; subst hw
          have := anc_le ha hv
          omega
    · rw [hf x (by omega)]
      refine ⟨by omega, ?_, fun w hw hwi => ?_, fun u w t hw hu ha hs => ?_⟩
      · by_cases hm : cur ≤ x
        · rw [Nat.min_eq_left hm]; exact h.of
        · rw [Nat.min_eq_right (by omega)]; exact .inr (.inl hE)
      · rcases List.mem_append.1 hw with hw | hw
        · have := h.low w hw hwi; omega
        · simp at hw; omega
      · rcases List.mem_append.1 hw with hw | hw
        · have := h.high u w t hw hu ha hs; omega
        · simp at hw; subst hw
          have := anc_le ha hv
          omega
  · have hix := hx.ge (by omega)
    have hs := hsm x (by omega) hx.lt
    refine ⟨by omega, ?_, fun w hw hwi => ?_, fun u w t hw hu ha hs' => ?_⟩
    · by_cases hm : cur ≤ sm x
      · rw [Nat.min_eq_left hm]; exact h.of
      · rw [Nat.min_eq_right (by omega)]; exact .inr (.inr ⟨x, v, hE, by omega, hx.anc, hs⟩)
    · rcases List.mem_append.1 hw with hw | hw
      · have := h.low w hw hwi; omega
      · simp at hw; omega
    · rcases List.mem_append.1 hw with hw | hw
      · have := h.high u w t hw hu ha hs'; omega
      · simp at hw; subst hw
        have hul := anc_le ha hv
        have h1 := hx.min u ha (by omega)
        have h2 := Dfs.semi_one (hsm u hu (by omega)) hs'
        omega
theorem Edg.done {i cur : Nat} {sm : Nat → Nat} {vs : List Nat} (h : Edg g i sm vs cur) (h0 : 0 < i) (hi : i < g.n) (hall : ∀ v, g.E v i → v ∈ vs) : g.Semi i cur ∧ cur < i := by
  have h1 := h.low _ (hall _ (g.par_edge h0 hi)) (g.par_lt h0 hi)
  have h2 := g.par_lt h0 hi
  have hlt : cur < i := by omega
  refine ⟨Dfs.semi_of hi h0 hlt ?_ (fun v hv hvi => h.low v (hall v hv) hvi) (fun u v t hv hu ha hs => h.high u v t (hall v hv) hu ha hs), hlt⟩
  rcases h.of with e | e | e
  · omega
  · exact .inl e
  · exact .inr e
/-- i is about to be settled: sm i is known, i waits at it, and hangs below the place from which the walk came. -/
theorem Rnd.step {i cur : Nat} {s : Fs} {L : Nat → List Nat} (h : Rnd g (i + 1) s L) (h0 : 0 < i) (hi : i < g.n) (hs : g.Semi i cur) (hc : cur < i) {best : Nat → Nat} {up : Nat → Option Nat}
    (hh : g.Hang (i + 1) (upd s.sm i cur) best up) :
    let s' : Fs := ⟨upd s.sm i cur, best, upd up i (some (g.par i)), s.dom, upd s.wt cur (some i), upd s.nx i (s.wt cur)⟩
    let L' := upd L cur (i :: L cur)
    g.Hang i s'.sm s'.best s'.up ∧ (∀ j, 0 < j → i ≤ j → j < g.n → g.Semi j (s'.sm j)) ∧ (∀ j, j < i → s'.sm j = j) ∧ (∀ p, Chain s'.nx (s'.wt p) (L' p)) ∧
    (∀ p j, j ∈ L' p → i ≤ j ∧ j < g.n ∧ s'.sm j = p) ∧ (∀ j, 0 < j → i ≤ j → j < g.n → j ∈ L' (s'.sm j) ∨ Settled g i s'.sm s'.dom j) ∧
    (∀ p j c, p ≠ g.par i → j ∈ L' p → i ≤ c → c ≤ j → g.par c ≠ p) := by
  intro s' L'
  have hni : ∀ p, i ∉ L p := fun p hp => by have := (h.inL p i hp).1; omega
  have hsm : ∀ {j}, j ≠ i → s'.sm j = s.sm j := fun hj => upd_ne _ _ hj
  have hsi : s'.sm i = cur := upd_same _ _ _
  have hLc : L' cur = i :: L cur := upd_same _ _ _
  have hLn : ∀ {p}, p ≠ cur → L' p = L p := fun hp => upd_ne _ _ hp
  refine ⟨hh.hang hi h0, fun j hj hij hjn => ?_, fun j hj => ?_, fun p => ?_, fun p j hj => ?_, fun j hj hij hjn => ?_, fun p j c hp hj hic hcj => ?_⟩
  · by_cases e : j = i
    · subst e; rw [hsi]; exact hs
    · rw [hsm e]; exact h.semi j hj (by omega) hjn
  · rw [hsm (by omega)]; exact h.fresh j (by omega)
  · by_cases e : p = cur
    · subst e
      rw [hLc]
      refine ⟨upd_same _ _ _, ?_⟩
      show Chain (upd s.nx i (s.wt p)) (upd s.nx i (s.wt p) i) (L p)
      rw [upd_same]
      exact (h.chain p).upd (hni p)
    · rw [hLn e]
      show Chain (upd s.nx i (s.wt cur)) (upd s.wt cur (some i) p) (L p)
      rw [upd_ne _ _ e]
      exact (h.chain p).upd (hni p)
  · by_cases e : p = cur
    · subst e
      rw [hLc] at hj
      rcases List.mem_cons.1 hj with rfl | hj
      · exact ⟨Nat.le_refl _, hi, hsi⟩
      · obtain ⟨h1, h2, h3⟩ := h.inL p j hj
        exact ⟨by omega, h2, by rw [hsm (by omega)]; exact h3⟩
    · rw [hLn e] at hj
      obtain ⟨h1, h2, h3⟩ := h.inL p j hj
      exact ⟨by omega, h2, by rw [hsm (by omega)]; exact h3⟩
  · by_cases e : j = i
    · subst e
      rw [hsi, hLc]
      exact .inl List.mem_cons_self
    · rw [hsm e]
      rcases h.all j hj (by omega) hjn with h1 | h1
      · refine .inl ?_
        by_cases e2 : s.sm j = cur
        · rw [e2] at h1 ⊢
          rw [hLc]
          exact List.mem_cons_of_mem _ h1
        · rw [hLn e2]; exact h1
      · obtain ⟨u, u1, u2, u3, u4, u5⟩ := h1
        have hui := (u4 u u1 u2 u3).1
        refine .inr ⟨u, by rw [hsm e]; exact u1, by rw [hsm e]; exact u2, u3, fun v v1 v2 v3 => ?_, by rw [hsm e, hsm (by omega)]; exact u5⟩
        rw [hsm e] at v1 v2
        obtain ⟨w1, w2⟩ := u4 v v1 v2 v3
        exact ⟨by omega, by rw [hsm (by omega), hsm (by omega)]; exact w2⟩
  · by_cases e : p = cur
    · subst e
      rw [hLc] at hj
      rcases List.mem_cons.1 hj with rfl | hj
      · have : c = j := by omega
        subst this
        exact fun e => hp e.symm
      · by_cases e2 : c = i
        · subst e2; exact fun e => hp e.symm
        · exact h.late p j c hj (by omega) hcj
    · rw [hLn e] at hj
      by_cases e2 : c = i
      · subst e2; exact fun e => hp e.symm
      · exact h.late p j c hj (by omega) hcj
/-- One of those that wait at the place from which the walk came to i is settled. -/
theorem settle_one {i j x : Nat} {sm : Nat → Nat} (h0 : 0 < i) (hij : i ≤ j) (hj : j < g.n) (hs : g.Semi j (sm j)) (hp : sm j = g.par i)
    (hx : LeastOf g i sm j x) {dom : Nat → Option Nat} (hd : dom j = some (if sm x < g.par i then x else g.par i)) : Settled g i sm dom j := by
  have hpl := g.par_lt h0 (by omega : i < g.n)
  have ha : Anc g.par (sm j) j := Dfs.sp_anc hs.1 (by omega)
  have hix := hx.ge hij
  refine ⟨x, anc_line hj ha hx.anc (by omega), by omega, hx.anc, fun v h1 h2 h3 => ?_, by rw [hd, hp]⟩
  have h4 := anc_le h1 (by have := anc_le h3 hj; omega)
  have h5 := Dfs.linked hj h0 hij h3 (by omega)
  exact ⟨h5, hx.min v h3 h5⟩
/-- All of them are, and nobody waits there any more. -/
theorem Rnd.close {i : Nat} {s : Fs} {L : Nat → List Nat} (h0 : 0 < i)
    (h1 : g.Hang i s.sm s.best s.up) (h2 : ∀ j, 0 < j → i ≤ j → j < g.n → g.Semi j (s.sm j)) (h3 : ∀ j, j < i → s.sm j = j) (h4 : ∀ p, p ≠ g.par i → Chain s.nx (s.wt p) (L p)) (h4' : s.wt (g.par i) = none)
    (h5 : ∀ p j, j ∈ L p → i ≤ j ∧ j < g.n ∧ s.sm j = p) (h6 : ∀ j, 0 < j → i ≤ j → j < g.n → (s.sm j ≠ g.par i ∧ j ∈ L (s.sm j)) ∨ Settled g i s.sm s.dom j)
    (h7 : ∀ p j c, p ≠ g.par i → j ∈ L p → i ≤ c → c ≤ j → g.par c ≠ p) (h8 : s.dom 0 = none) : Rnd g i s (upd L (g.par i) []) := by
  have hn : ∀ {p}, p ≠ g.par i → upd L (g.par i) [] p = L p := fun hp => upd_ne _ _ hp
  refine ⟨h1, h2, h3, fun p => ?_, fun p j hj => ?_, fun j hj hij hjn => ?_, fun p j c hj => ?_, h8⟩
  · by_cases e : p = g.par i
    · subst e; rw [upd_same, h4']; rfl
    · rw [hn e]; exact h4 p e
  · by_cases e : p = g.par i
    · subst e; rw [upd_same] at hj; cases hj
    · rw [hn e] at hj; exact h5 p j hj
  · rcases h6 j hj hij hjn with ⟨e, h⟩ | h
    · rw [hn e]; exact .inl h
    · exact .inr h
  · by_cases e : p = g.par i
    · subst e; rw [upd_same] at hj; cases hj
    · rw [hn e] at hj; exact h7 p j c e hj
/-- Behind the first round all are settled. -/
theorem child {a b : Nat} (h : Anc g.par a b) (hb : b < g.n) (hab : a ≠ b) : ∃ c, 0 < c ∧ c ≤ b ∧ g.par c = a := by
  induction h using Anc.ind with
  | refl => exact absurd rfl hab
  | @step v h0 h ih =>
    have := g.par_lt h0 hb
    by_cases e : a = g.par v
    · exact ⟨v, h0, Nat.le_refl _, e.symm⟩
    · obtain ⟨c, c1, c2, c3⟩ := ih (by omega) e
      exact ⟨c, c1, by omega, c3⟩
theorem Rnd.settled {s : Fs} {L : Nat → List Nat} (h : Rnd g 1 s L) {j : Nat} (h0 : 0 < j) (hj : j < g.n) : Settled g 1 s.sm s.dom j := by
  rcases h.all j h0 (by omega) hj with h1 | h1
  · exfalso
    have hs := h.semi j h0 (by omega) hj
    have hl := Dfs.semi_lt hj h0 hs
    obtain ⟨c, c1, c2, c3⟩ := child (Dfs.sp_anc hs.1 hl) hj (by omega)
    exact h.late _ j c h1 (by omega) c2 c3
  · exact h1
/-- The second round: those below i have their answer. -/
structure Snd (g : Dfs) (i : Nat) (sm um : Nat → Nat) (dom : Nat → Option Nat) : Prop where
  semi : ∀ j, 0 < j → j < g.n → g.Semi j (sm j)
  umo : ∀ j, 0 < j → j < g.n → Anc g.par (sm j) (um j) ∧ um j ≠ sm j ∧ Anc g.par (um j) j ∧ ∀ v, Anc g.par (sm j) v → v ≠ sm j → Anc g.par v j → sm (um j) ≤ sm v
  done : ∀ j, 0 < j → j < i → j < g.n → ∃ d, dom j = some d ∧ if sm (um j) < sm j then dom (um j) = some d else d = sm j
  left : ∀ j, i ≤ j → j < g.n → dom j = some (if sm (um j) < sm j then um j else sm j)
  dom0 : dom 0 = none
theorem Rnd.second {s : Fs} {L : Nat → List Nat} (h : Rnd g 1 s L) : ∃ um, Snd g 1 s.sm um s.dom := by
  have : ∀ j, ∃ u, 0 < j → j < g.n → Anc g.par (s.sm j) u ∧ u ≠ s.sm j ∧ Anc g.par u j ∧ (∀ v, Anc g.par (s.sm j) v → v ≠ s.sm j → Anc g.par v j → 1 ≤ v ∧ s.sm u ≤ s.sm v) ∧ s.dom j = some (if s.sm u < s.sm j then u else s.sm j) := by
    intro j
    by_cases hj : 0 < j ∧ j < g.n
    · obtain ⟨u, hu⟩ := h.settled hj.1 hj.2
      exact ⟨u, fun _ _ => hu⟩
    · exact ⟨0, fun h1 h2 => absurd ⟨h1, h2⟩ hj⟩
  refine ⟨fun j => Classical.choose (this j), fun j h0 hj => h.semi j h0 (by omega) hj, fun j h0 hj => ?_, fun j h0 h1 => by omega, fun j h0 hj => ?_, h.dom0⟩
  · obtain ⟨h1, h2, h3, h4, _⟩ := Classical.choose_spec (this j) h0 hj
    exact ⟨h1, h2, h3, fun v v1 v2 v3 => (h4 v v1 v2 v3).2⟩
  · exact (Classical.choose_spec (this j) (by omega) hj).2.2.2.2
theorem Snd.um_lt {i : Nat} {sm um : Nat → Nat} {dom : Nat → Option Nat} (h : Snd g i sm um dom) {j : Nat} (h0 : 0 < j) (hj : j < g.n) (hl : sm (um j) < sm j) : 0 < um j ∧ um j < j := by
  obtain ⟨h1, h2, h3, _⟩ := h.umo j h0 hj
  have h4 := anc_le h3 hj
  have h5 := anc_le h1 (by omega : um j < g.n)
  refine ⟨by omega, ?_⟩
  by_cases e : um j = j
  · rw [e] at hl; omega
  · omega
/-- dom i is sm i: it stays. -/
theorem Snd.stay {i d : Nat} {sm um : Nat → Nat} {dom : Nat → Option Nat} (h : Snd g i sm um dom) (h0 : 0 < i) (hi : i < g.n) (hd : dom i = some d) (e : d = sm i) : Snd g (i + 1) sm um dom := by
  refine ⟨h.semi, h.umo, fun j hj hji hjn => ?_, fun j hj hjn => h.left j (by omega) hjn, h.dom0⟩
  by_cases e2 : j = i
  · subst e2
    refine ⟨d, hd, ?_⟩
    have h1 := h.left j (Nat.le_refl _) hjn
    rw [hd] at h1
    injection h1 with h1
    split
    · rename_i hl
      rw [if_pos hl] at h1
      have := (h.umo j hj hjn).2.1
      omega
    · exact e
  · exact h.done j hj (by omega) hjn
/-- Else it is that of dom i. -/
theorem Snd.turn {i d : Nat} {sm um : Nat → Nat} {dom : Nat → Option Nat} (h : Snd g i sm um dom) (h0 : 0 < i) (hi : i < g.n) (hd : dom i = some d) (e : d ≠ sm i) :
    d < i ∧ ∃ c, dom d = some c ∧ Snd g (i + 1) sm um (upd dom i (some c)) := by
  have h1 := h.left i (Nat.le_refl _) hi
  rw [hd] at h1
  injection h1 with h1
  have hl : sm (um i) < sm i := by
    apply Classical.byContradiction
    intro hn
    rw [if_neg hn] at h1
    exact e h1
  rw [if_pos hl] at h1
  subst h1
  obtain ⟨h2, h3⟩ := h.um_lt h0 hi hl
  obtain ⟨c, hc, _⟩ := h.done (um i) h2 h3 (by omega)
  refine ⟨h3, c, hc, h.semi, h.umo, fun j hj hji hjn => ?_, fun j hj hjn => ?_, ?_⟩
  · by_cases e2 : j = i
    · subst e2
      refine ⟨c, upd_same _ _ _, ?_⟩
      rw [if_pos hl, upd_ne _ _ (by omega)]
      exact hc
    · obtain ⟨d, d1, d2⟩ := h.done j hj (by omega) hjn
      refine ⟨d, by rw [upd_ne _ _ e2]; exact d1, ?_⟩
      split
      · rename_i hl2
        rw [if_pos hl2] at d2
        have := (h.um_lt hj hjn hl2).2
        rw [upd_ne _ _ (by omega)]
        exact d2
      · rename_i hl2
        rw [if_neg hl2] at d2
        exact d2
  · rw [upd_ne _ _ (by omega)]
    exact h.left j (by omega) hjn
  · rw [upd_ne _ _ (by omega)]
    exact h.dom0
/-- Behind it all have their immediate dominators. -/
theorem Snd.idom {sm um : Nat → Nat} {dom : Nat → Option Nat} (h : Snd g g.n sm um dom) {j : Nat} (h0 : 0 < j) (hj : j < g.n) : ∃ d, dom j = some d ∧ g.Idom d j := by
  have key := Dfs.all_idom (g := g) (sm := sm) (um := um) (dm := fun j => (dom j).getD 0) h.semi h.umo (fun j h0 hj => by
    obtain ⟨d, d1, d2⟩ := h.done j h0 hj hj
    show (dom j).getD 0 = if sm (um j) < sm j then (dom (um j)).getD 0 else sm j
    rw [d1]
    split
    · rename_i hl
      rw [if_pos hl] at d2
      rw [d2]
    · rename_i hl
      rw [if_neg hl] at d2
      exact d2)
  obtain ⟨d, d1, _⟩ := h.done j h0 hj hj
  have := key j h0 hj
  change g.Idom ((dom j).getD 0) j at this
  rw [d1] at this
  exact ⟨d, d1, this⟩
/-- The way up from j to at, the last first. -/
def Lead (up : Nat → Option Nat) (j : Nat) : List Nat → Nat → Prop
  | [], at_ => at_ = j
  | a :: l, at_ => up a = some at_ ∧ at_ < a ∧ Lead up j l a
theorem Lead.len {up : Nat → Option Nat} {j : Nat} : ∀ {l : List Nat} {at_ : Nat}, Lead up j l at_ → l.length + at_ ≤ j
  | [], at_, h => by
    have h : at_ = j := h
    simp only [List.length_nil]
    omega
  | a :: l, at_, h => by
    have := Lead.len h.2.2
    have := h.2.1
    simp only [List.length_cons]
    omega
theorem Lead.low {up : Nat → Option Nat} {j k : Nat} {x : Option Nat} : ∀ {l : List Nat} {at_ : Nat}, Lead up j l at_ → k ≤ at_ → Lead (upd up k x) j l at_
  | [], at_, h, _ => h
  | a :: l, at_, h, hk => by
    have := h.2.1
    exact ⟨by rw [upd_ne _ _ (by omega)]; exact h.1, h.2.1, h.2.2.low (by omega)⟩
/-- One step more up the way. -/
theorem Lead.push {i : Nat} {sm best : Nat → Nat} {up : Nat → Option Nat} (h : g.Hang i sm best up) {j at_ b : Nat} {l : List Nat} (hl : Lead up j l at_) (hj : j < g.n) (hb : up at_ = some b) : Lead up j (at_ :: l) b ∧ b < at_ := by
  have h1 := hl.len
  have h2 := h.up_some hb
  obtain ⟨r, r1, r2, r3, _⟩ := h.link at_ (by omega) h2
  rw [hb] at r1
  injection r1 with r1
  subst r1
  exact ⟨⟨hb, r3, hl⟩, r3⟩
/-- One step back down makes the way of a shorter. -/
theorem Lead.pop {i : Nat} {sm best : Nat → Nat} {up : Nat → Option Nat} (h : g.Hang i sm best up) {j at_ a r : Nat} {l : List Nat} (hl : Lead up j (a :: l) at_) (hj : j < g.n) (hr : up at_ = some r) (hr0 : up r = none) :
    let up' := upd up a (some r)
    g.Hang i sm (upd best a (if sm (best at_) < sm (best a) then best at_ else best a)) up' ∧ Lead up' j l a ∧ up' a = some r ∧ up' r = none ∧ a < g.n ∧ at_ < a ∧ r < at_ ∧ best at_ < g.n ∧ best a < g.n ∧ up a = some at_ := by
  intro up'
  obtain ⟨h1, h2, h3⟩ := hl
  have hln := h3.len
  have h4 := h.up_some hr
  obtain ⟨r', r1, _, r3, r4, _⟩ := h.link at_ (by omega) h4
  rw [hr] at r1
  injection r1 with r1
  subst r1
  have h5 := h.up_some h1
  obtain ⟨_, _, _, _, b4, _⟩ := h.link a (by omega) h5
  have b5 := anc_le b4.2 (by omega : a < g.n)
  have r5 := anc_le r4.2 (by omega : at_ < g.n)
  exact ⟨h.short (by omega) h1 hr, h3.low (Nat.le_refl _), upd_same _ _ _, (upd_ne _ _ (by omega : r ≠ a)).trans hr0, by omega, h2, r3, by omega, by omega, h1⟩
/-- What is told of a place that hangs. -/
theorem Lead.tells {i : Nat} {sm best : Nat → Nat} {up : Nat → Option Nat} (h : g.Hang i sm best up) {j r : Nat} (hj : j < g.n) (hr : up j = some r) (hr0 : up r = none) : LeastOf g i sm j (best j) := by
  obtain ⟨h1, h2, h3⟩ := h.tells hj hr hr0
  have := anc_le h2 hj
  have := h.up_some hr
  exact ⟨by omega, fun h => by omega, fun _ => h1, h2, h3⟩
theorem Lead.root {i : Nat} {sm best : Nat → Nat} {up : Nat → Option Nat} (h : g.Hang i sm best up) {j : Nat} (hj : j < g.n) (hr : up j = none) : LeastOf g i sm j j := by
  have hji : j < i := by
    apply Classical.byContradiction
    intro hn
    obtain ⟨r, r1, _⟩ := h.link j hj (by omega)
    rw [hr] at r1
    cases r1
  exact ⟨hj, fun _ => rfl, fun h => by omega, .refl, fun u hu hiu => by have := anc_le hu hj; omega⟩
end Go.Proofs.Ytgkaeoieclegjaa
