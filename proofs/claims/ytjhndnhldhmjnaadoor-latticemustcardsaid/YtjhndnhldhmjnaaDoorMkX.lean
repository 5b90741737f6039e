/- A region in which rows are made, in any order: by calls and by itself. -/
import Derived.Test.YtjhndnhldhmjnaaDoorFreeP
import Derived.Test.YtjhndnhldhmjnaaDoorStX
namespace Go.Proofs.YtjhndnhldhmjnaaDoor
open Go Go.RowKit
set_option linter.unusedVariables false
section
variable {P : Program} {ops : Array Oper} {W : World} {R : Nat → World → Value → (Nat → Prop) → Prop} {d : Nat → Nat}
/-- Things made so far: that of operation k as s k has it, with the blocks that it lies in. -/
structure MkG (W : World) (R : Nat → World → Value → (Nat → Prop) → Prop) (s : Nat → Option (Value × (Nat → Prop))) (w : World) : Prop where
  below : Below W.heap.size W w
  made : ∀ k x, s k = some x → R k w x.1 x.2 ∧ ∀ b, x.2 b → W.heap.size ≤ b ∧ b < w.heap.size
  ne : ∀ k k' x x' b, s k = some x → s k' = some x' → x.2 b → x'.2 b → k = k'
def Stay (R : Nat → World → Value → (Nat → Prop) → Prop) : Prop := ∀ k w w' v S, R k w v S → Below w.heap.size w w' → R k w' v S
theorem MkG.on {R : Nat → World → Value → (Nat → Prop) → Prop} (hR : Stay R) {s : Nat → Option (Value × (Nat → Prop))} {w w' : World} (h : MkG W R s w) (hb : Below w.heap.size w w') : MkG W R s w' :=
  ⟨below_up h.below hb, fun k x e => ⟨hR k _ _ _ _ (h.made k x e).1 hb, fun b hx => by have := (h.made k x e).2 b hx; have := hb.size; omega⟩, h.ne⟩
theorem MkG.new {R : Nat → World → Value → (Nat → Prop) → Prop} (hR : Stay R) {s : Nat → Option (Value × (Nat → Prop))} {w w' : World} {k : Nat} {v : Value} {S : Nat → Prop} (h : MkG W R s w) (hb : Below w.heap.size w w') (hn : ∀ b, S b → w.heap.size ≤ b ∧ b < w'.heap.size) (hr : R k w' v S) : MkG W R (upd s k (some (v, S))) w' := by
  have h2 := h.on hR hb
  refine ⟨h2.below, fun j x e => ?_, fun j j' x x' b e e' hx hx' => ?_⟩
  · by_cases hj : j = k
    · subst hj
      rw [upd_at] at e
      injection e with e
      subst e
      exact ⟨hr, fun b hx => by have := hn b hx; have := h.below.size; omega⟩
    · rw [upd_ne _ _ hj] at e
      exact h2.made j x e
  · by_cases hj : j = k
    · by_cases hj' : j' = k
      · omega
      · subst hj
        rw [upd_at] at e
        rw [upd_ne _ _ hj'] at e'
        injection e with e
        subst e
        have := (h.made j' _ e').2 b hx'
        have := hn b hx
        omega
    · rw [upd_ne _ _ hj] at e
      by_cases hj' : j' = k
      · subst hj'
        rw [upd_at] at e'
        injection e' with e'
        subst e'
        have := (h.made j _ e).2 b hx
        have := hn b hx'
        omega
      · rw [upd_ne _ _ hj'] at e'
        exact h.ne j j' x x' b e e' hx hx'
def setS (s : Nat → Option (Value × (Nat → Prop))) : List Nat → Array Bool → Array Bool
  | [], l => l
  | k :: ks, l => setS s ks (match s k with | some _ => l.setIfInBounds k true | none => l)
def putS (d : Nat → Nat) (s : Nat → Option (Value × (Nat → Prop))) : List Nat → Act → Act
  | [], a => a
  | k :: ks, a => putS d s ks (match s k with | some b => a.put (some (d k)) b.1 | none => a)
theorem setS_comm (s : Nat → Option (Value × (Nat → Prop))) (i : Nat) : ∀ (ks : List Nat) (l : Array Bool), (setS s ks l).setIfInBounds i true = setS s ks (l.setIfInBounds i true)
  | [], l => rfl
  | k :: ks, l => by
    unfold setS
    rw [setS_comm s i ks]
    cases s k with
    | none => rfl
    | some b =>
      by_cases e : k = i
      · subst e; rfl
      · dsimp only
        rw [Array.setIfInBounds_comm _ _ e]
theorem setS_congr {s s' : Nat → Option (Value × (Nat → Prop))} : ∀ (ks : List Nat) (l : Array Bool), (∀ k ∈ ks, s k = s' k) → setS s ks l = setS s' ks l
  | [], l, _ => rfl
  | k :: ks, l, h => by
    unfold setS
    rw [h k (by simp)]
    exact setS_congr ks _ (fun j hj => h j (by simp [hj]))
theorem setS_upd {s : Nat → Option (Value × (Nat → Prop))} {i : Nat} {b : Value × (Nat → Prop)} : ∀ (ks : List Nat) (l : Array Bool), ks.Nodup → i ∈ ks → s i = none → (setS s ks l).setIfInBounds i true = setS (upd s i (some b)) ks l
  | k :: ks, l, hn, hi, hs => by
    obtain ⟨hk, hn'⟩ := List.nodup_cons.1 hn
    by_cases e : k = i
    · subst e
      rw [setS_comm]
      unfold setS
      rw [hs, upd_at]
      dsimp only
      rw [← setS_comm, ← setS_comm, setS_congr ks l (s := s) (s' := upd s k (some b)) (fun j hj => (upd_ne _ _ (fun e : j = k => hk (by rw [← e]; exact hj))).symm), setS_comm]
    · have hi' : i ∈ ks := by simpa [Ne.symm e] using hi
      unfold setS
      rw [setS_upd ks _ hn' hi' hs, upd_ne _ _ e]
theorem setS_all {s : Nat → Option (Value × (Nat → Prop))} : ∀ (ks : List Nat) (l : Array Bool), (∀ k ∈ ks, s k ≠ none) → setS s ks l = marksF l ks
  | [], l, _ => rfl
  | k :: ks, l, h => by
    unfold setS marksF
    cases e : s k with
    | none => exact absurd e (h k (by simp))
    | some b => exact setS_all ks _ (fun j hj => h j (by simp [hj]))
theorem setS_true {s : Nat → Option (Value × (Nat → Prop))} {i : Nat} : ∀ (ks : List Nat) (l : Array Bool), l.getD i false = true → (setS s ks l).getD i false = true
  | [], l, h => h
  | k :: ks, l, h => by
    unfold setS
    cases s k with
    | none => exact setS_true ks _ h
    | some b => exact setS_true ks _ (getD_set_true h)
theorem setS_done {s : Nat → Option (Value × (Nat → Prop))} {i : Nat} : ∀ (ks : List Nat) (l : Array Bool), i ∈ ks → s i ≠ none → i < l.size → (setS s ks l).getD i false = true
  | k :: ks, l, hi, hs, hl => by
    unfold setS
    by_cases e : k = i
    · subst e
      cases e2 : s k with
      | none => exact absurd e2 hs
      | some b => exact setS_true ks _ (by simp [hl])
    · have hi' : i ∈ ks := by simpa [Ne.symm e] using hi
      cases s k with
      | none => exact setS_done ks _ hi' hs hl
      | some b => exact setS_done ks _ hi' hs (by simpa using hl)
theorem setS_undone {s : Nat → Option (Value × (Nat → Prop))} {i : Nat} {x : Bool} : ∀ (ks : List Nat) (l : Array Bool), s i = none → (setS s ks l).getD i x = l.getD i x
  | [], l, _ => rfl
  | k :: ks, l, hs => by
    unfold setS
    cases e : s k with
    | none => exact setS_undone ks _ hs
    | some b =>
      have : k ≠ i := fun e2 => by
        subst e2
        rw [hs] at e
        cases e
      rw [setS_undone ks _ hs, getD_set_ne x this]
theorem putS_comm {s : Nat → Option (Value × (Nat → Prop))} {x : Nat} {v : Value} : ∀ (ks : List Nat) (a : Act), (∀ k ∈ ks, d k ≠ x) → (putS d s ks a).put (some x) v = putS d s ks (a.put (some x) v)
  | [], a, _ => rfl
  | k :: ks, a, h => by
    unfold putS
    rw [putS_comm ks _ (fun j hj => h j (by simp [hj]))]
    cases s k with
    | none => rfl
    | some b =>
      dsimp only
      rw [Act.put_comm _ _ _ (fun y e => by injection e with e; subst e; intro e2; injection e2 with e2; exact h k (by simp) e2.symm)]
theorem putS_congr {s s' : Nat → Option (Value × (Nat → Prop))} : ∀ (ks : List Nat) (a : Act), (∀ k ∈ ks, s k = s' k) → putS d s ks a = putS d s' ks a
  | [], a, _ => rfl
  | k :: ks, a, h => by
    unfold putS
    rw [h k (by simp)]
    exact putS_congr ks _ (fun j hj => h j (by simp [hj]))
theorem putS_upd {s : Nat → Option (Value × (Nat → Prop))} {i : Nat} {b : Value × (Nat → Prop)} : ∀ (ks : List Nat) (a : Act), ks.Nodup → (∀ j ∈ ks, ∀ k ∈ ks, d j = d k → j = k) → i ∈ ks → s i = none →
    (putS d s ks a).put (some (d i)) b.1 = putS d (upd s i (some b)) ks a
  | k :: ks, a, hn, hd, hi, hs => by
    obtain ⟨hk, hn'⟩ := List.nodup_cons.1 hn
    by_cases e : k = i
    · subst e
      unfold putS
      rw [hs, upd_at]
      dsimp only
      rw [putS_comm ks _ (fun j hj e2 => hk (by rw [← hd j (by simp [hj]) k (by simp) e2]; exact hj))]
      exact putS_congr ks _ (fun j hj => (upd_ne _ _ (fun e : j = k => hk (by rw [← e]; exact hj))).symm)
    · have hi' : i ∈ ks := by simpa [Ne.symm e] using hi
      unfold putS
      rw [putS_upd ks _ hn' (fun j hj k' hk' => hd j (by simp [hj]) k' (by simp [hk'])) hi' hs, upd_ne _ _ e]
theorem least_ex {Q : Nat → Prop} : ∀ b k, k ≤ b → Q k → ∃ k, Q k ∧ ∀ j, j < k → ¬ Q j
  | 0, k, hk, h => ⟨k, h, fun j hj => by omega⟩
  | b + 1, k, hk, h => by
    by_cases e : ∃ j, j < k ∧ Q j
    · obtain ⟨j, h1, h2⟩ := e
      exact least_ex b j (by omega) h2
    · exact ⟨k, h, fun j hj hq => e ⟨j, hj, hq⟩⟩
def left (s : Nat → Option (Value × (Nat → Prop))) (ks : List Nat) : Nat := (ks.filter (fun k => (s k).isNone)).length
theorem left_upd {s : Nat → Option (Value × (Nat → Prop))} {i : Nat} {b : Value × (Nat → Prop)} : ∀ (ks : List Nat), ks.Nodup → i ∈ ks → s i = none → left (upd s i (some b)) ks + 1 = left s ks
  | k :: ks, hn, hi, hs => by
    obtain ⟨hk, hn'⟩ := List.nodup_cons.1 hn
    unfold left
    by_cases e : k = i
    · subst e
      have : ks.filter (fun j => (upd s k (some b) j).isNone) = ks.filter (fun j => (s j).isNone) := List.filter_congr (fun j hj => by rw [upd_ne _ _ (fun e : j = k => hk (by rw [← e]; exact hj))])
      rw [List.filter_cons, List.filter_cons, this]
      simp [upd_at, hs]
    · have hi' : i ∈ ks := by simpa [Ne.symm e] using hi
      have ih := left_upd (b := b) ks hn' hi' hs
      unfold left at ih
      rw [List.filter_cons, List.filter_cons, upd_ne _ _ e]
      split
      · simp only [List.length_cons]
        omega
      · omega
/-- What a maker does. -/
def Makes (P : Program) (R : Nat → World → Value → (Nat → Prop) → Prop) (k : Nat) (o : Oper) (a : Act) (w : World) : Prop :=
  (∃ v S w1, (execOp a.eval o).run P w = .ok (.value v) w1 ∧ (∀ b, S b → w.heap.size ≤ b ∧ b < w1.heap.size) ∧ R k w1 v S ∧ Below w.heap.size w w1) ∨
  (∃ f args, (execOp a.eval o).run P w = .ok (.enter f args) w ∧ Calls P f args w fun e w1 => ∃ v S, e = .returned v ∧ (∀ b, S b → w.heap.size ≤ b ∧ b < w1.heap.size) ∧ R k w1 v S ∧ Below w.heap.size w w1)
theorem eval_putS {s : Nat → Option (Value × (Nat → Prop))} {j : Nat} : ∀ (ks : List Nat) (a : Act), (∀ k ∈ ks, d k ≠ j) → (putS d s ks a).eval (.tmp j) = a.eval (.tmp j)
  | [], a, _ => rfl
  | k :: ks, a, h => by
    unfold putS
    rw [eval_putS ks _ (fun j hj => h j (by simp [hj]))]
    cases s k with
    | none => rfl
    | some b =>
      have := h k (by simp)
      simp [Act.eval, Act.put, Array.getElem?_setIfInBounds_ne this]
def makB (ops : Array Oper) (n : Nat) (l0 : Array Bool) (ks : List Nat) : Bool :=
  ks.all (fun k => !(l0.getD k true) && match ops[k]? with
    | some o => o.after.all (fun e => !(Region.binds .any e) || l0.getD e.on false || (ks.contains e.on && decide (e.on < k)))
    | none => true) && (List.range n).all (fun i => l0.getD i true || ks.contains i)
theorem makB_spec {n : Nat} {l0 : Array Bool} {ks : List Nat} (h : makB ops n l0 ks = true) : (∀ k ∈ ks, l0.getD k true = false) ∧
    (∀ k ∈ ks, ∀ o, ops[k]? = some o → ∀ e ∈ o.after, Region.binds .any e = true → l0.getD e.on false = true ∨ (e.on ∈ ks ∧ e.on < k)) ∧ (∀ i, i < n → l0.getD i true = false → i ∈ ks) := by
  unfold makB at h
  simp only [Bool.and_eq_true, List.all_eq_true, List.mem_range] at h
  obtain ⟨h1, h2⟩ := h
  refine ⟨fun k hk => by simpa using (h1 k hk).1, fun k hk o ho e he hb => ?_, fun i hi hl => ?_⟩
  · have h3 := (h1 k hk).2
    rw [ho] at h3
    have h4 := Array.all_eq_true_iff_forall_mem.1 h3 e he
    rw [hb] at h4
    simpa using h4
  · have h3 := h2 i hi
    rw [hl] at h3
    simpa using h3
theorem headF_makers (hR : Stay R) {n : Nat} {fr : Nat → Bool} {L : (Nat → Option (Value × (Nat → Prop))) → Array Bool → Act → Prop} {ks : List Nat} {l0 : Array Bool} {a0 : Act} (hs : Region.sinkB .any ops n = true) (hc : Region.chainB .any ops n = true) (hn : n < ops.size)
    (hnd : ks.Nodup) (hd : ∀ j ∈ ks, ∀ k ∈ ks, d j = d k → j = k) (hl0 : l0.size = ops.size)
    (hk : ∀ k ∈ ks, k < n ∧ fr k = false ∧ l0.getD k true = false ∧ ∃ o, ops[k]? = some o ∧ o.guard = none ∧ o.dst = some (d k) ∧ ∀ s w, Below W.heap.size W w → Makes P R k o (putS d s ks a0) w)
    (hdep : ∀ k ∈ ks, ∀ o, ops[k]? = some o → ∀ e ∈ o.after, Region.binds .any e = true → l0.getD e.on false = true ∨ (e.on ∈ ks ∧ e.on < k))
    (hfree : ∀ i, i < n → l0.getD i true = false → i ∈ ks) (hL : ∀ s, (∀ k ∈ ks, s k ≠ none) → L s (marksF l0 ks) (putS d s ks a0)) :
    ∀ (m : Nat) (s : Nat → Option (Value × (Nat → Prop))), left s ks = m → HeadInv .any ops n (setS s ks l0) → HeadF P ops (MkG W R) n fr L m s (setS s ks l0) (putS d s ks a0)
  | 0, s, hm, inv => by
    have hall : ∀ k ∈ ks, s k ≠ none := fun k hkk e => by
      unfold left at hm
      have := List.eq_nil_of_length_eq_zero hm
      have h1 : k ∈ ks.filter (fun k => (s k).isNone) := List.mem_filter.2 ⟨hkk, by simp [e]⟩
      rw [this] at h1
      cases h1
    show L s (setS s ks l0) _
    rw [setS_all ks l0 hall]
    exact hL s hall
  | m + 1, s, hm, inv => by
    have hex : ∃ k, k ∈ ks ∧ s k = none := by
      unfold left at hm
      cases e : ks.filter (fun k => (s k).isNone) with
      | nil => rw [e] at hm; cases hm
      | cons k l =>
        have h1 : k ∈ ks.filter (fun k => (s k).isNone) := by rw [e]; simp
        obtain ⟨h2, h3⟩ := List.mem_filter.1 h1
        exact ⟨k, h2, by simpa using h3⟩
    obtain ⟨k1, h1⟩ := hex
    obtain ⟨k0, ⟨hk0, hs0⟩, hmin⟩ := least_ex (Q := fun k => k ∈ ks ∧ s k = none) k1 k1 (Nat.le_refl _) h1
    obtain ⟨hkn, hkf, hkl, o0, ho0, _⟩ := hk k0 hk0
    have hr0 : k0 ∈ Region.ready .any ops (setS s ks l0) := by
      refine mem_ready.2 ⟨by rw [setS_undone ks l0 hs0]; exact hkl, o0, ho0, fun e he hb => ?_⟩
      rcases hdep k0 hk0 o0 ho0 e he hb with h | ⟨h, h'⟩
      · exact setS_true ks l0 h
      · have hlt : e.on < l0.size := by
          have := (hk e.on h).1
          omega
        exact setS_done ks l0 h (fun e2 => hmin e.on h' ⟨h, e2⟩) hlt
    refine ⟨fun e => (by rw [e] at hr0; cases hr0), fun i hi => ?_⟩
    have hin := head_only hs hc hn hkn inv hr0 hi
    have hiu := (mem_ready.1 hi).1
    have hil0 : l0.getD i true = false := by
      cases e : l0.getD i true with
      | false => rfl
      | true =>
        have hlt : i < l0.size := by omega
        have : l0.getD i false = true := by simp [hlt] at e ⊢; exact e
        have := setS_true (s := s) ks l0 this
        rw [getD_both hiu] at this
        cases this
    have hik := hfree i hin hil0
    have hsi : s i = none := by
      cases e : s i with
      | none => rfl
      | some b =>
        have := setS_done (s := s) ks l0 hik (by rw [e]; simp) (by omega)
        rw [getD_both hiu] at this
        cases this
    obtain ⟨_, hif, _, o, ho, hog, hod, hmk⟩ := hk i hik
    have next : ∀ b : Value × (Nat → Prop), HeadF P ops (MkG W R) n fr L m (upd s i (some b)) ((setS s ks l0).setIfInBounds i true) ((putS d s ks a0).put o.dst b.1) := fun b => by
      have inv' := inv.set hi hin
      rw [setS_upd (b := b) ks l0 hnd hik hsi] at inv' ⊢
      rw [hod, putS_upd ks a0 hnd hd hik hsi]
      exact headF_makers hR hs hc hn hnd hd hl0 hk hdep hfree hL m _ (by have := left_upd (b := b) ks hnd hik hsi; omega) inv'
    refine ⟨hin, .inl ⟨hif, o, ho, by simp [Region.wanted, hog], fun w hw => ?_⟩⟩
    rcases hmk s w hw.below with ⟨v, S, w1, h1, h2, h3, h4⟩ | ⟨f, args, h1, h2⟩
    · exact .inl ⟨_, _, w1, h1, hw.new hR h4 h2 h3, next (v, S)⟩
    · refine .inr ⟨f, args, h1, h2.mono ?_⟩
      rintro e w1 ⟨v, S, rfl, h2, h3, h4⟩
      exact ⟨_, _, rfl, hw.new hR h4 h2 h3, next (v, S)⟩
theorem setS_none : ∀ (ks : List Nat) (l : Array Bool), setS (fun _ => none) ks l = l
  | [], l => rfl
  | k :: ks, l => setS_none ks l
theorem putS_none : ∀ (ks : List Nat) (a : Act), putS d (fun _ => none) ks a = a
  | [], a => rfl
  | k :: ks, a => putS_none ks a
theorem headF_make (hR : Stay R) {n : Nat} {fr : Nat → Bool} {L : (Nat → Option (Value × (Nat → Prop))) → Array Bool → Act → Prop} (d : Nat → Nat) (ks : List Nat) {l0 : Array Bool} {a0 : Act} (hs : Region.sinkB .any ops n = true) (hc : Region.chainB .any ops n = true) (hn : n < ops.size)
    (hnd : ks.Nodup) (hd : ∀ j ∈ ks, ∀ k ∈ ks, d j = d k → j = k) (hl0 : l0.size = ops.size) (hB : makB ops n l0 ks = true) (hI : invB ops n l0 = true)
    (hk : ∀ k ∈ ks, k < n ∧ fr k = false ∧ ∃ o, ops[k]? = some o ∧ o.guard = none ∧ o.dst = some (d k) ∧ ∀ s w, Below W.heap.size W w → Makes P R k o (putS d s ks a0) w)
    (hL : ∀ s, (∀ k ∈ ks, s k ≠ none) → L s (marksF l0 ks) (putS d s ks a0)) : HeadF P ops (MkG W R) n fr L ks.length (fun _ => none) l0 a0 := by
  obtain ⟨m1, m2, m3⟩ := makB_spec hB
  have h := headF_makers (W := W) (R := R) (d := d) (fr := fr) (L := L) (a0 := a0) hR hs hc hn hnd hd hl0 (fun k hkk => by
    obtain ⟨h1, h2, h3⟩ := hk k hkk
    exact ⟨h1, h2, m1 k hkk, h3⟩) m2 m3 hL ks.length (fun _ => none) (by simp [left]) (by rw [setS_none]; exact inv_of hI)
  rwa [setS_none, putS_none] at h
end
end Go.Proofs.YtjhndnhldhmjnaaDoor
