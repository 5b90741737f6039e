/- A walk as a machine, plainly: what is met, the blocks that wait with how many of their successors are tried, what is left. A scope with labels, and what the walk keeps. -/
import Derived.Test.YtgkaeoieclegjaaDfw
import Derived.Test.YtgkaeoieclegjaaKm
import Derived.WalkMore
import Derived.ScopeJumps
namespace Go.Proofs.Ytgkaeoieclegjaa
section
set_option linter.unusedVariables false
abbrev Sd := (Nat → Prop) × List (Nat × Nat) × List Nat
noncomputable def stepS (tos : Nat → List Int) (n : Nat) : Sd → Option Sd
  | (_, [], _) => none
  | (met, (b, k) :: stk, out) => match (tos b)[k]? with
    | none => some (met, stk, out ++ [b])
    | some t => @ite _ (0 ≤ t ∧ t < n ∧ ¬ met t.toNat) (Classical.propDecidable _) (some (fun x => met x ∨ x = t.toNat, (t.toNat, 0) :: (b, k + 1) :: stk, out)) (some (met, (b, k + 1) :: stk, out))
noncomputable def runS (tos : Nat → List Int) (n : Nat) : Nat → Sd → Option Sd
  | 0, s => some s
  | k + 1, s => match stepS tos n s with
    | none => none
    | some s' => runS tos n k s'
section
variable {tos : Nat → List Int} {n : Nat}
theorem runS_some {k : Nat} {s s' : Sd} (h : stepS tos n s = some s') : runS tos n (k + 1) s = runS tos n k s' := by
  show (match stepS tos n s with | none => none | some s' => runS tos n k s') = _
  rw [h]
theorem runS_none {k : Nat} {s : Sd} (h : stepS tos n s = none) : runS tos n (k + 1) s = none := by
  show (match stepS tos n s with | none => none | some s' => runS tos n k s') = _
  rw [h]
theorem runS_add : ∀ (i j : Nat) (s a : Sd), runS tos n i s = some a → runS tos n (i + j) s = runS tos n j a
  | 0, j, s, a, h => by
    injection h with h
    subst h
    rw [Nat.zero_add]
  | i + 1, j, s, a, h => by
    rw [show i + 1 + j = (i + j) + 1 by omega]
    cases e : stepS tos n s with
    | none => rw [runS_none e] at h; cases h
    | some s' =>
      rw [runS_some e] at h ⊢
      exact runS_add i j s' a h
/-- The machine comes from one state to another. -/
def RunsS (tos : Nat → List Int) (n : Nat) (s a : Sd) : Prop := ∃ k, runS tos n k s = some a
theorem RunsS.refl (s : Sd) : RunsS tos n s s := ⟨0, rfl⟩
theorem RunsS.trans {s a b : Sd} (h : RunsS tos n s a) (h' : RunsS tos n a b) : RunsS tos n s b := by
  obtain ⟨i, hi⟩ := h
  obtain ⟨j, hj⟩ := h'
  exact ⟨i + j, by rw [runS_add i j s a hi]; exact hj⟩
theorem RunsS.one {s a : Sd} (h : stepS tos n s = some a) : RunsS tos n s a := ⟨1, by rw [runS_some h]; rfl⟩
theorem RunsS.end_eq {s a b : Sd} (h : RunsS tos n s a) (h' : RunsS tos n s b) (ha : stepS tos n a = none) (hb : stepS tos n b = none) : a = b := by
  have key : ∀ (i j : Nat) (a b : Sd), runS tos n i s = some a → runS tos n j s = some b → stepS tos n a = none → i ≤ j → a = b := fun i j a b hi hj ha hij => by
    obtain ⟨d, rfl⟩ : ∃ d, j = i + d := ⟨j - i, by omega⟩
    rw [runS_add i d s a hi] at hj
    cases d with
    | zero =>
      injection hj
    | succ d =>
      rw [runS_none ha] at hj
      cases hj
  obtain ⟨i, hi⟩ := h
  obtain ⟨j, hj⟩ := h'
  by_cases e : i ≤ j
  · exact key i j a b hi hj ha e
  · exact (key j i b a hj hi hb (by omega)).symm
/-- What each step keeps. -/
theorem RunsS.keep {P : Sd → Prop} (hP : ∀ s a, P s → stepS tos n s = some a → P a) {s a : Sd} (h : RunsS tos n s a) (hs : P s) : P a := by
  obtain ⟨k, hk⟩ := h
  induction k generalizing s with
  | zero =>
    injection hk with hk
    subst hk
    exact hs
  | succ k ih =>
    cases e : stepS tos n s with
    | none => rw [runS_none e] at hk; cases hk
    | some s' =>
      rw [runS_some e] at hk
      exact ih (hP s s' hs e) hk
theorem stepS_cons {met : Nat → Prop} {b k : Nat} {stk : List (Nat × Nat)} {out : List Nat} : stepS tos n (met, (b, k) :: stk, out) = (match (tos b)[k]? with
    | none => some (met, stk, out ++ [b])
    | some t => @ite _ (0 ≤ t ∧ t < n ∧ ¬ met t.toNat) (Classical.propDecidable _) (some (fun x => met x ∨ x = t.toNat, (t.toNat, 0) :: (b, k + 1) :: stk, out)) (some (met, (b, k + 1) :: stk, out))) := rfl
theorem stepS_pop {met : Nat → Prop} {b k : Nat} {stk : List (Nat × Nat)} {out : List Nat} (h : (tos b)[k]? = none) : stepS tos n (met, (b, k) :: stk, out) = some (met, stk, out ++ [b]) := by
  rw [stepS_cons, h]
theorem stepS_push {met : Nat → Prop} {b k t : Nat} {stk : List (Nat × Nat)} {out : List Nat} (h : (tos b)[k]? = some (t : Int)) (ht : t < n) (hm : ¬ met t) : stepS tos n (met, (b, k) :: stk, out) = some (fun x => met x ∨ x = t, (t, 0) :: (b, k + 1) :: stk, out) := by
  rw [stepS_cons, h]
  dsimp only
  rw [if_pos ⟨by omega, by omega, by simpa using hm⟩, Int.toNat_natCast]
theorem stepS_skip {met : Nat → Prop} {b k : Nat} {t : Int} {stk : List (Nat × Nat)} {out : List Nat} (h : (tos b)[k]? = some t) (hm : 0 ≤ t → t < n → met t.toNat) : stepS tos n (met, (b, k) :: stk, out) = some (met, (b, k + 1) :: stk, out) := by
  rw [stepS_cons, h]
  dsimp only
  rw [if_neg (fun hx => hx.2.2 (hm hx.1 hx.2.1))]
end
/-- The blocks that wait. -/
def stkP (blk par tr : Nat → Nat) : Nat → Nat → List (Nat × Nat)
  | 0, a => [(blk a, tr (blk a))]
  | d + 1, a => (blk a, tr (blk a)) :: stkP blk par tr d (par a)
def metP (m : Nat) (blk : Nat → Nat) (x : Nat) : Prop := ∃ j, j < m ∧ blk j = x
def start0 : Sd := (fun x => x = 0, [(0, 0)], [])
end
section
open Go Go.RowKit Go.Maps
set_option linter.unusedVariables false
/-- As Q; by a goto to a label: J. -/
def jumps (J : Nat → Act → World → Prop) (Q : Exit → Act → World → Prop) : Exit → Act → World → Prop
  | .goto l, a, w => J l a w
  | e, a, w => Q e a w
theorem wp_scope_many {P : Program} {a : Act} {w : World} {Q : Exit → Act → World → Prop} {c : Code} (J : Nat → Nat → Act → World → Prop) (hf : ∀ l m a w, J l m a w → ∃ rest, findLabel c l = some rest)
    (first : c.wp P (jumps (fun l a w => ∃ m, J l m a w) Q) a w)
    (pass : ∀ l rest, findLabel c l = some rest → ∀ m a w, J l m a w → rest.wp P (jumps (fun l' a' w' => ∃ m', m' < m ∧ J l' m' a' w') Q) a w) : (Code.scope c).wp P Q a w := by
  intro b k cs
  have key : ∀ m l a w rest, findLabel c l = some rest → J l m a w → ∃ e a' w', Q e a' w' ∧ Arrives P (lone (b.at a (.code rest :: .inScope c :: k)) cs w) b k cs e a' w' := by
    intro m
    induction m using Nat.strongRecOn with
    | _ m ih =>
      intro l a w rest hrest hJ
      obtain ⟨e, a₁, w₁, hq, harr⟩ := pass l rest hrest m a w hJ b (.inScope c :: k) cs
      cases e with
      | normal => exact ⟨.normal, a₁, w₁, hq, Steps.trans harr (.one step_inScope)⟩
      | exit id => exact ⟨.exit id, a₁, w₁, hq, fun k' hk => harr k' (by simp [exitTo, hk])⟩
      | goto l' =>
        obtain ⟨m', hlt, hJ'⟩ := hq
        obtain ⟨rest', hr'⟩ := hf _ _ _ _ hJ'
        have hg : gotoIn l' (.inScope c :: k) = some (.code rest' :: .inScope c :: k) := by simp [gotoIn, hr']
        obtain ⟨e₂, a₂, w₂, hq₂, harr₂⟩ := ih m' hlt l' a₁ w₁ rest' hr' hJ'
        exact ⟨e₂, a₂, w₂, hq₂, .of_steps (harr _ hg) harr₂⟩
      | ret => exact ⟨_, a₁, w₁, hq, harr⟩
      | panic ch => exact ⟨_, a₁, w₁, hq, harr⟩
      | outgrown => exact ⟨_, a₁, w₁, hq, harr⟩
  obtain ⟨e, a₁, w₁, hq, harr⟩ := first b (.inScope c :: k) cs
  cases e with
  | normal => exact ⟨.normal, a₁, w₁, hq, .head step_scope (Steps.trans harr (.one step_inScope))⟩
  | exit id => exact ⟨.exit id, a₁, w₁, hq, fun k' hk => .head step_scope (harr k' (by simp [exitTo, hk]))⟩
  | goto l' =>
    obtain ⟨m', hJ'⟩ := hq
    obtain ⟨rest', hr'⟩ := hf _ _ _ _ hJ'
    have hg : gotoIn l' (.inScope c :: k) = some (.code rest' :: .inScope c :: k) := by simp [gotoIn, hr']
    obtain ⟨e₂, a₂, w₂, hq₂, harr₂⟩ := key m' l' a₁ w₁ rest' hr' hJ'
    exact ⟨e₂, a₂, w₂, hq₂, .of_steps (.head step_scope (harr _ hg)) harr₂⟩
  | ret => exact ⟨_, a₁, w₁, hq, .of_steps (.one step_scope) harr⟩
  | panic ch => exact ⟨_, a₁, w₁, hq, .of_steps (.one step_scope) harr⟩
  | outgrown => exact ⟨_, a₁, w₁, hq, .of_steps (.one step_scope) harr⟩
theorem pigeon : ∀ (n m : Nat) (f : Nat → Nat), (∀ i, i < m → f i < n) → (∀ i j, i < m → j < m → f i = f j → i = j) → m ≤ n
  | 0, m, f, h, _ => by
    cases m with
    | zero => exact Nat.le_refl _
    | succ m => exact absurd (h 0 (by omega)) (by omega)
  | n + 1, 0, f, _, _ => Nat.zero_le _
  | n + 1, m + 1, f, h, hi => by
    have := pigeon n m (fun i => if f i = n then f m else f i) (fun i hin => by
      have h1 := h i (by omega)
      have h2 := h m (by omega)
      show (if f i = n then f m else f i) < n
      split
      · rename_i e
        have : f m ≠ n := fun e2 => by
          have := hi i m (by omega) (by omega) (by omega)
          omega
        omega
      · omega) (fun i j h1 h2 e => by
      change (if f i = n then f m else f i) = (if f j = n then f m else f j) at e
      split at e <;> split at e
      · exact hi i j (by omega) (by omega) (by omega)
      · have := hi m j (by omega) (by omega) e
        omega
      · have := hi i m (by omega) (by omega) e
        omega
      · exact hi i j (by omega) (by omega) e)
    omega
/-- How far down a place is. -/
def Dep (par : Nat → Nat) : Nat → Nat → Prop
  | 0, a => a = 0
  | k + 1, a => 0 < a ∧ Dep par k (par a)
theorem Dep.upd {par : Nat → Nat} {m x : Nat} (hp : ∀ v, 0 < v → v < m → par v < v) : ∀ {k a : Nat}, Dep par k a → a < m → Dep (Dfs.upd par m x) k a
  | 0, a, h, _ => h
  | k + 1, a, h, ha => by
    refine ⟨h.1, ?_⟩
    rw [Dfs.upd_ne _ _ (by omega)]
    exact Dep.upd hp h.2 (by have := hp a h.1 ha; omega)
theorem stkP_congr {blk blk' par par' tr tr' : Nat → Nat} : ∀ {dp a : Nat}, Dep par dp a → (∀ v, 0 < v → v ≤ a → par v < v) → (∀ j, j ≤ a → blk j = blk' j ∧ tr (blk j) = tr' (blk' j)) → (∀ j, 0 < j → j ≤ a → par' j = par j) → stkP blk par tr dp a = stkP blk' par' tr' dp a
  | 0, a, _, _, h, _ => by
    unfold stkP
    obtain ⟨h1, h2⟩ := h a (Nat.le_refl _)
    rw [h2, h1]
  | d + 1, a, hd, hp, h, hpar => by
    unfold stkP
    obtain ⟨h1, h2⟩ := h a (Nat.le_refl _)
    have h3 := hp a hd.1 (Nat.le_refl _)
    rw [h2, h1, hpar a hd.1 (Nat.le_refl _), stkP_congr hd.2 (fun v h0 hv => hp v h0 (by omega)) (fun j hj => h j (by omega)) (fun j h0 hj => hpar j h0 (by omega))]
theorem stkP_top {blk par tr : Nat → Nat} {dp a : Nat} : ∃ stk, stkP blk par tr dp a = (blk a, tr (blk a)) :: stk := by
  cases dp with
  | zero => exact ⟨_, rfl⟩
  | succ d => exact ⟨_, rfl⟩
/-- The top's number of tried ones turns, no other. -/
theorem stkP_turn {blk par tr tr' : Nat → Nat} {dp a : Nat} (hd : Dep par dp a) (hp : ∀ v, 0 < v → v ≤ a → par v < v) (hinj : ∀ j, j < a → tr (blk j) = tr' (blk j)) : ∃ stk, stkP blk par tr dp a = (blk a, tr (blk a)) :: stk ∧ stkP blk par tr' dp a = (blk a, tr' (blk a)) :: stk := by
  cases dp with
  | zero => exact ⟨[], rfl, rfl⟩
  | succ d =>
    have h3 := hp a hd.1 (Nat.le_refl _)
    exact ⟨stkP blk par tr d (par a), rfl, by
      show (blk a, tr' (blk a)) :: stkP blk par tr' d (par a) = _
      rw [stkP_congr (tr := tr') (tr' := tr) (blk' := blk) (par' := par) hd.2 (fun v h0 hv => hp v h0 (by omega)) (fun j hj => ⟨rfl, (hinj j (by omega)).symm⟩) (fun j _ _ => rfl)]⟩
/-- What is left to be looked at. -/
def rest (len tri : Nat → Nat) : Nat → Nat
  | 0 => 0
  | k + 1 => rest len tri k + (len k - tri k)
theorem rest_same {len tri : Nat → Nat} {b x : Nat} : ∀ k, k ≤ b → rest len (Dfs.upd tri b x) k = rest len tri k
  | 0, _ => rfl
  | k + 1, h => by
    unfold rest
    rw [rest_same k (by omega), Dfs.upd_ne _ _ (by omega)]
theorem rest_less {len tri : Nat → Nat} {b : Nat} (h : tri b < len b) : ∀ k, b < k → rest len (Dfs.upd tri b (tri b + 1)) k + 1 = rest len tri k
  | k + 1, hk => by
    unfold rest
    by_cases e : b = k
    · subst e
      rw [rest_same b (Nat.le_refl _), Dfs.upd_same]
      omega
    · have := rest_less h k (by omega)
      rw [Dfs.upd_ne _ _ (fun e2 => e e2.symm)]
      omega
/-- The blocks to which one leads, in order; none: no block is there. -/
def toL (n : Nat) (l : List Int) : List (Option Nat) := l.map (fun t : Int => if 0 ≤ t ∧ t < (n : Int) then some t.toNat else none)
/-- What the walk keeps: m places are met, it stands at a, some of them are left; M places are in came. -/
structure Wk (n : Nat) (tos : Nat → List Int) (m M a : Nat) (left : List Nat) (dp : Nat) (blk par tried tr : Nat → Nat) (plc frm : Nat → Int) (came : List Int) : Prop where
  met : Met (fun b => toL n (tos b)) m a blk par tried
  b0 : blk 0 = 0
  lt : ∀ j, j < m → blk j < n
  came : came = (List.range M).map (fun j => (blk j : Int))
  hM : M ≤ m ∧ m ≤ M + 1
  pl : ∀ j, j < M → plc (blk j) = j
  pn : ∀ b, b < n → (∀ j, j < M → blk j ≠ b) → plc b = -1
  fr : ∀ j, 0 < j → j < m → frm (blk j) = blk (par j)
  f0 : frm (blk 0) = -1
  tm : ∀ j, j < m → tr (blk j) = tried j
  tn : ∀ b, b < n → (∀ j, j < m → blk j ≠ b) → tr b = 0
  dep : Dep par dp a
  cnt : left.length + dp + 1 = m
  tl : ∀ j, j < m → tried j ≤ (tos (blk j)).length
  run : RunsS tos n start0 (metP m blk, stkP blk par tr dp a, left)
section
variable {n m a dp : Nat} {left : List Nat} {tos : Nat → List Int} {blk par tried tr : Nat → Nat} {plc frm : Nat → Int} {came : List Int}
theorem Wk.ne (h : Wk n tos m m a left dp blk par tried tr plc frm came) {t : Nat} (e : plc t = -1) : ∀ v, v < m → blk v ≠ t := fun v hv e2 => by
  have := h.pl v hv
  rw [e2, e] at this
  omega
theorem Wk.next_old (h : Wk n tos m m a left dp blk par tried tr plc frm came) {t : Int} (ht : (tos (blk a))[tried a]? = some t) (hn : (0 ≤ t ∧ t < n) → plc t.toNat ≠ -1) :
    Wk n tos m m a left dp blk par (Dfs.upd tried a (tried a + 1)) (Dfs.upd tr (blk a) (tr (blk a) + 1)) plc frm came := by
  have ha := h.met.at_
  have hne : ∀ j, j < m → j ≠ a → blk j ≠ blk a := fun j hj hja e => hja (h.met.inj j a hj ha e)
  refine ⟨?_, h.b0, h.lt, h.came, h.hM, h.pl, h.pn, h.fr, h.f0, fun j hj => ?_, fun b hb hbn => ?_, h.dep, h.cnt, fun j hj => ?_, ?_⟩
  rotate_left 3
  · by_cases e : j = a
    · subst e
      rw [Dfs.upd_same]
      exact (List.getElem?_eq_some_iff.1 ht).1
    · rw [Dfs.upd_ne _ _ e]
      exact h.tl j hj
  · obtain ⟨stk, e1, e2⟩ := stkP_turn (blk := blk) (tr := tr) (tr' := Dfs.upd tr (blk a) (tr (blk a) + 1)) h.dep (fun v h0 hv => h.met.par_lt v h0 (by omega)) (fun j hj => (Dfs.upd_ne _ _ (hne j (by omega) (by omega))).symm)
    have hr := h.run
    rw [e1] at hr
    rw [e2, Dfs.upd_same]
    refine hr.trans (.one (stepS_skip (t := t) (by rw [h.tm a ha]; exact ht) (fun h0 h1 => ?_)))
    apply Classical.byContradiction
    intro hno
    exact hn ⟨h0, h1⟩ (h.pn t.toNat (by omega) (fun j hj e => hno ⟨j, hj, e⟩))
  · by_cases hr : 0 ≤ t ∧ t < n
    · have hex : ∃ v, v < m ∧ blk v = t.toNat := by
        apply Classical.byContradiction
        intro hno
        exact hn hr (h.pn t.toNat (by omega) (fun j hj e => hno ⟨j, hj, e⟩))
      refine h.met.look (t := t.toNat) ?_ hex
      unfold toL
      rw [List.getElem?_map, ht]
      simp [hr]
    · refine h.met.skip ?_
      unfold toL
      rw [List.getElem?_map, ht]
      simp [hr]
  · by_cases e : j = a
    · subst e
      rw [Dfs.upd_same, Dfs.upd_same, h.tm j hj]
    · rw [Dfs.upd_ne _ _ (hne j hj e), Dfs.upd_ne _ _ e]
      exact h.tm j hj
  · rw [Dfs.upd_ne _ _ (fun e => hbn a ha e.symm)]
    exact h.tn b hb hbn
theorem Wk.next_new (h : Wk n tos m m a left dp blk par tried tr plc frm came) {t : Nat} (ht : (tos (blk a))[tried a]? = some (t : Int)) (htn : t < n) (hp : plc t = -1) :
    Wk n tos (m + 1) m m left (dp + 1) (Dfs.upd blk m t) (Dfs.upd par m a) (Dfs.upd (Dfs.upd tried a (tried a + 1)) m 0) (Dfs.upd tr (blk a) (tr (blk a) + 1)) plc (Dfs.upd frm t (blk a)) came := by
  have ha := h.met.at_
  have hnew := h.ne hp
  have hne : ∀ j, j < m → j ≠ a → blk j ≠ blk a := fun j hj hja e => hja (h.met.inj j a hj ha e)
  have hb : ∀ {j}, j < m → Dfs.upd blk m t j = blk j := fun hj => Dfs.upd_ne _ _ (by omega)
  have hm0 : 0 < m := by omega
  refine ⟨h.met.come ?_ hnew, by rw [hb hm0]; exact h.b0, fun j hj => ?_, ?_, by omega, fun j hj => by rw [hb hj]; exact h.pl j hj, fun b hbn hno => h.pn b hbn (fun j hj e => hno j hj (by rw [hb hj]; exact e)), fun j h0 hj => ?_, ?_, fun j hj => ?_, fun b hbn hno => ?_, ?_, by have := h.cnt; omega, fun j hj => ?_, ?_⟩
  rotate_left 8
  · by_cases e : j = m
    · subst e
      rw [Dfs.upd_same]
      exact Nat.zero_le _
    · rw [hb (by omega), Dfs.upd_ne _ _ e]
      by_cases e2 : j = a
      · subst e2
        rw [Dfs.upd_same]
        exact (List.getElem?_eq_some_iff.1 ht).1
      · rw [Dfs.upd_ne _ _ e2]
        exact h.tl j (by omega)
  · obtain ⟨stk, e1, e2⟩ := stkP_turn (blk := blk) (tr := tr) (tr' := Dfs.upd tr (blk a) (tr (blk a) + 1)) h.dep (fun v h0 hv => h.met.par_lt v h0 (by omega)) (fun j hj => (Dfs.upd_ne _ _ (hne j (by omega) (by omega))).symm)
    have hr := h.run
    rw [e1] at hr
    have e3 : stkP (Dfs.upd blk m t) (Dfs.upd par m a) (Dfs.upd tr (blk a) (tr (blk a) + 1)) dp a = (blk a, tr (blk a) + 1) :: stk := by
      rw [← stkP_congr (blk := blk) (par := par) (tr := Dfs.upd tr (blk a) (tr (blk a) + 1)) h.dep (fun v h0 hv => h.met.par_lt v h0 (by omega)) (fun j hj => by rw [hb (by omega)]; exact ⟨rfl, rfl⟩) (fun j h0 hj => Dfs.upd_ne _ _ (by omega)), e2, Dfs.upd_same]
    show RunsS tos n start0 (_, (Dfs.upd blk m t m, Dfs.upd tr (blk a) (tr (blk a) + 1) (Dfs.upd blk m t m)) :: stkP (Dfs.upd blk m t) (Dfs.upd par m a) (Dfs.upd tr (blk a) (tr (blk a) + 1)) dp (Dfs.upd par m a m), left)
    rw [Dfs.upd_same, Dfs.upd_same, Dfs.upd_ne _ _ (fun e => hnew a ha e.symm), h.tn t htn hnew, e3]
    have em : metP (m + 1) (Dfs.upd blk m t) = fun x => metP m blk x ∨ x = t := by
      funext x
      refine propext ⟨fun ⟨j, hj, e⟩ => ?_, fun hx => ?_⟩
      · by_cases e2 : j = m
        · subst e2
          rw [Dfs.upd_same] at e
          exact .inr e.symm
        · rw [hb (by omega)] at e
          exact .inl ⟨j, by omega, e⟩
      · rcases hx with ⟨j, hj, e⟩ | e
        · exact ⟨j, by omega, by rw [hb hj]; exact e⟩
        · exact ⟨m, by omega, by rw [Dfs.upd_same]; exact e.symm⟩
    rw [em]
    exact hr.trans (.one (stepS_push (by rw [h.tm a ha]; exact ht) htn (fun ⟨j, hj, e⟩ => hnew j hj e)))
  · unfold toL
    rw [List.getElem?_map, ht]
    have : (0 : Int) ≤ t ∧ (t : Int) < n := by omega
    simp [this]
  · by_cases e : j = m
    · subst e; rw [Dfs.upd_same]; exact htn
    · rw [hb (by omega)]; exact h.lt j (by omega)
  · rw [h.came]
    exact List.map_congr_left (fun j hj => by rw [hb (List.mem_range.1 hj)])
  · by_cases e : j = m
    · subst e
      rw [Dfs.upd_same, Dfs.upd_same, Dfs.upd_same, hb ha]
    · have hjp := h.met.par_lt j h0 (by omega)
      rw [hb (by omega), Dfs.upd_ne _ _ (hnew j (by omega)), Dfs.upd_ne _ _ e, hb (by omega)]
      exact h.fr j h0 (by omega)
  · rw [hb hm0, Dfs.upd_ne _ _ (hnew 0 hm0)]
    exact h.f0
  · by_cases e : j = m
    · subst e
      rw [Dfs.upd_same, Dfs.upd_same, Dfs.upd_ne _ _ (fun e => hnew a ha e.symm)]
      exact h.tn t htn hnew
    · rw [hb (by omega), Dfs.upd_ne _ _ e]
      by_cases e2 : j = a
      · subst e2
        rw [Dfs.upd_same, Dfs.upd_same, h.tm j (by omega)]
      · rw [Dfs.upd_ne _ _ (hne j (by omega) e2), Dfs.upd_ne _ _ e2]
        exact h.tm j (by omega)
  · have hno' : ∀ j, j < m → blk j ≠ b := fun j hj e => hno j (by omega) (by rw [hb hj]; exact e)
    rw [Dfs.upd_ne _ _ (fun e => hno' a ha e.symm)]
    exact h.tn b hbn hno'
  · refine ⟨hm0, ?_⟩
    rw [Dfs.upd_same]
    exact h.dep.upd h.met.par_lt ha
theorem Wk.placed (h : Wk n tos (m + 1) m m left dp blk par tried tr plc frm came) : Wk n tos (m + 1) (m + 1) m left dp blk par tried tr (Dfs.upd plc (blk m) m) frm (came ++ [(blk m : Int)]) := by
  refine ⟨h.met, h.b0, h.lt, ?_, by omega, fun j hj => ?_, fun b hb hno => ?_, h.fr, h.f0, h.tm, h.tn, h.dep, h.cnt, h.tl, h.run⟩
  · rw [h.came, List.range_succ, List.map_append]
    rfl
  · by_cases e : j = m
    · subst e; exact Dfs.upd_same _ _ _
    · rw [Dfs.upd_ne _ _ (fun e2 => e (h.met.inj j m hj (by omega) e2))]
      exact h.pl j (by omega)
  · rw [Dfs.upd_ne _ _ (fun e => hno m (by omega) e.symm)]
    exact h.pn b hb (fun j hj => hno j (by omega))
theorem Wk.leave (h : Wk n tos m m a left dp blk par tried tr plc frm came) (h0 : 0 < a) (ht : (tos (blk a)).length ≤ tried a) : ∃ dp', dp = dp' + 1 ∧ Wk n tos m m (par a) (left ++ [blk a]) dp' blk par tried tr plc frm came := by
  cases dp with
  | zero =>
    have : a = 0 := h.dep
    omega
  | succ dp =>
    refine ⟨dp, rfl, h.met.leave h0 (by simpa [toL] using ht), h.b0, h.lt, h.came, h.hM, h.pl, h.pn, h.fr, h.f0, h.tm, h.tn, h.dep.2, by have := h.cnt; rw [List.length_append, List.length_singleton]; omega, h.tl, h.run.trans (.one (stepS_pop (List.getElem?_eq_none (by rw [h.tm a h.met.at_]; exact ht))))⟩
theorem Wk.begin (tos : Nat → List Int) (hn : 0 < n) : Wk n tos 1 0 0 [] 0 (fun _ => 0) (fun _ => 0) (fun _ => 0) (fun _ => 0) (fun _ => -1) (fun _ => -1) [] :=
  ⟨Met.begin 0, rfl, fun j _ => hn, rfl, by omega, fun j hj => by omega, fun _ _ _ => rfl, fun j h0 hj => by omega, rfl, fun _ _ => rfl, fun _ _ _ => rfl, rfl, rfl, fun _ _ => Nat.zero_le _, by
    have e : metP 1 (fun _ => 0) = fun x => x = 0 := by
      funext x
      exact propext ⟨fun ⟨_, _, e⟩ => e.symm, fun e => ⟨0, by omega, e.symm⟩⟩
    rw [e]
    exact .refl _⟩
theorem Wk.le {M : Nat} (h : Wk n tos m M a left dp blk par tried tr plc frm came) : m ≤ n := pigeon n m blk h.lt h.met.inj
/-- The walk's end. -/
theorem Wk.last (h : Wk n tos m m 0 left dp blk par tried tr plc frm came) (ht : (tos (blk 0)).length ≤ tried 0) : RunsS tos n start0 (metP m blk, [], left ++ [blk 0]) := by
  have hr := h.run
  cases dp with
  | zero => exact hr.trans (.one (stepS_pop (List.getElem?_eq_none (by rw [h.tm 0 h.met.at_]; exact ht))))
  | succ d =>
    have := h.dep.1
    omega
end
end
end Go.Proofs.Ytgkaeoieclegjaa
