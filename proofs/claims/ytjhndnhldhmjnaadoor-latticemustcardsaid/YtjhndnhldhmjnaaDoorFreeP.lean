/- A region that draws its order: what yields one value anywhere comes first, in an order of one's own; the others (calls, and what makes memory) in any order. -/
import Derived.Test.YtjhndnhldhmjnaaDoorFreeB
namespace Go.Proofs.YtjhndnhldhmjnaaDoor
open Go Go.RowKit
set_option linter.unusedVariables false
section
variable {P : Program} {ops : Array Oper} {σ : Type} {C : σ → World → Prop} {W : World}
/-- Operation i comes up in state a, the worlds being of class s. -/
def xOpF (P : Program) (ops : Array Oper) (C : σ → World → Prop) (fr : Nat → Bool) (i : Nat) (K : σ → Act → Prop) (s : σ) (a : Act) : Prop :=
  (fr i = false ∧ ∃ o, ops[i]? = some o ∧ Region.wanted o (yielded ops a.tmps) = true ∧ ∀ w, C s w →
    (∃ v s' w1, (execOp a.eval o).run P w = .ok (.value v) w1 ∧ C s' w1 ∧ K s' (a.put o.dst v)) ∨
    (∃ f args, (execOp a.eval o).run P w = .ok (.enter f args) w ∧ Calls P f args w fun e w1 => ∃ v s', e = .returned v ∧ C s' w1 ∧ K s' (a.put o.dst v))) ∨
  (fr i = true ∧ ∃ o v, ops[i]? = some o ∧ YieldsB P ops C o v a ∧ K s (a.put o.dst v))
/-- Whatever order is picked for the head, L holds behind it. -/
def HeadF (P : Program) (ops : Array Oper) (C : σ → World → Prop) (n : Nat) (fr : Nat → Bool) (L : σ → Array Bool → Act → Prop) : Nat → σ → Array Bool → Act → Prop
  | 0, s, listed, a => L s listed a
  | f + 1, s, listed, a => Region.ready .any ops listed ≠ [] ∧
      ∀ i ∈ Region.ready .any ops listed, i < n ∧ xOpF P ops C fr i (fun s' a' => HeadF P ops C n fr L f s' (listed.setIfInBounds i true) a') s a
theorem any_of_headF {n g : Nat} {fr : Nat → Bool} {L : σ → Array Bool → Act → Prop} {Q' : Exit → Act → World → Prop} (hL : ∀ s listed a w, C s w → L s listed a → wpAny P .any ops Q' g listed a w) :
    ∀ (f : Nat) (s : σ) (listed : Array Bool) (a : Act) (w : World), C s w → HeadF P ops C n fr L f s listed a → wpAny P .any ops Q' (f + g) listed a w
  | 0, s, listed, a, w, hw, h => by
    rw [Nat.zero_add]; exact hL _ _ _ _ hw h
  | f + 1, s, listed, a, w, hw, h => by
    have e : f + 1 + g = (f + g) + 1 := by omega
    rw [e]
    refine ⟨fun h0 => absurd h0 h.1, fun i hi => ?_⟩
    rcases (h.2 i hi).2 with ⟨_, o, ho, hwn, hr⟩ | ⟨_, o, v, ho, hy, hK⟩
    · unfold wpOp
      simp only [ho, hwn, if_true]
      refine .inl ?_
      unfold Oper.wp
      rcases hr w hw with ⟨v, s', w1, hr1, hC, hK⟩ | ⟨fu, args, hr1, hcall⟩
      · rw [hr1]
        exact any_of_headF hL f s' _ _ w1 hC hK
      · rw [hr1, Oper.upon_enter]
        refine hcall.mono ?_
        rintro e w1 ⟨v, s', rfl, hC, hK⟩
        exact any_of_headF hL f s' _ _ w1 hC hK
    · exact wpOp_of_qOp hw (fun a' w' hw' h' => any_of_headF hL f s _ a' w' hw' h') ((hy s).qOp (K := HeadF P ops C n fr L f s (listed.setIfInBounds i true)) ho hK)

theorem headF_first {n i : Nat} {fr : Nat → Bool} {oi : Oper} {v : Value} {L : σ → Array Bool → Act → Prop} (hi : ops[i]? = some oi) (hix : fr i = true) (hsel : ∀ (j : Nat) (o : Oper) cs b, ops[j]? = some o → o.op ≠ .select cs b)
    (hs : Region.sinkB .any ops n = true) (hc : Region.chainB .any ops n = true) (hn : n < ops.size) (hin : i < n)
    (hdone : ∀ s listed a, L s listed a → ∀ j ∈ Region.ready .any ops listed, n ≤ j) :
    ∀ (f : Nat) (b : σ) (listed : Array Bool) (a : Act), HeadInv .any ops n listed →
      (∀ j oj, ops[j]? = some oj → j ≠ i → listed.getD j true = false → (∀ e ∈ oj.after, Region.binds .any e = true → e.on ≠ i) → oi.apart ops oj = true) →
      i ∈ Region.ready .any ops listed → YieldsB P ops C oi v a →
      HeadF P ops C n fr L f b (listed.setIfInBounds i true) (a.put oi.dst v) → HeadF P ops C n fr L (f + 1) b listed a
  | 0, b, listed, a, inv, _, hr, hy, H => by
    refine ⟨fun h => (by rw [h] at hr; cases hr), fun j hj => ⟨head_only hs hc hn hin inv hr hj, ?_⟩⟩
    by_cases hji : j = i
    · subst hji
      exact .inr ⟨hix, oi, v, hi, hy, H⟩
    · have h1 := hdone _ _ _ H j (ready_mono hj hji)
      have h2 := head_only hs hc hn hin inv hr hj
      omega
  | f + 1, b, listed, a, inv, hfree, hr, hy, H => by
    refine ⟨fun h => (by rw [h] at hr; cases hr), fun j hj => ⟨head_only hs hc hn hin inv hr hj, ?_⟩⟩
    by_cases hji : j = i
    · subst hji
      exact .inr ⟨hix, oi, v, hi, hy, H⟩
    · obtain ⟨hjun, oj, hoj, hall⟩ := mem_ready.1 hj
      have hnot : ∀ e ∈ oj.after, Region.binds .any e = true → e.on ≠ i := fun e he hb heq => by
        have h1 := hall e he hb
        rw [heq, getD_both (mem_ready.1 hr).1] at h1
        cases h1
      have hap := hfree j oj hoj hji hjun hnot
      obtain ⟨p1, p2, p3⟩ := Oper.apart_spec hap
      have hfree' : ∀ k ok, ops[k]? = some ok → k ≠ i → (listed.setIfInBounds j true).getD k true = false → (∀ e ∈ ok.after, Region.binds .any e = true → e.on ≠ i) → oi.apart ops ok = true := fun k ok hk hki hun hno => by
        refine hfree k ok hk hki ?_ hno
        by_cases hjk : j = k
        · subst hjk
          exact hjun
        · rwa [getD_set_ne true hjk] at hun
      have inv' := inv.set hj (head_only hs hc hn hin inv hr hj)
      rcases (H.2 j (ready_mono hj hji)).2 with ⟨hjx, o, ho, hwn, hrun⟩ | ⟨hjx, o, u, ho, hyj, hK⟩
      · obtain rfl : oj = o := by rw [hoj] at ho; exact Option.some.inj ho
        refine .inl ⟨hjx, oj, hoj, ?_, ?_⟩
        · rw [wanted_put oj a oi.dst v p1] at hwn
          exact hwn
        · intro w hw
          have turn : ∀ s' u, HeadF P ops C n fr L f s' ((listed.setIfInBounds i true).setIfInBounds j true) ((a.put oi.dst v).put oj.dst u) → HeadF P ops C n fr L (f + 1) s' (listed.setIfInBounds j true) (a.put oj.dst u) := fun s' u hK => by
            refine headF_first hi hix hsel hs hc hn hin hdone f s' (listed.setIfInBounds j true) _ inv' hfree' (ready_mono hr (Ne.symm hji)) (yieldsB_put (fun cs b => hsel i oi cs b hi) hap hy) ?_
            rw [Array.setIfInBounds_comm _ _ hji, ← Act.put_comm a v u p2]
            exact hK
          rcases hrun w hw with ⟨u, s', w1, hr1, hC1, hK⟩ | ⟨fu, args, hr1, hcall⟩
          · rw [execOp_put oj (fun cs b => hsel j oj cs b hoj) a oi.dst v p1] at hr1
            exact .inl ⟨u, s', w1, hr1, hC1, turn s' u hK⟩
          · rw [execOp_put oj (fun cs b => hsel j oj cs b hoj) a oi.dst v p1] at hr1
            exact .inr ⟨fu, args, hr1, hcall.mono fun e w1 ⟨u, s', he, hC1, hK⟩ => ⟨u, s', he, hC1, turn s' u hK⟩⟩
      · obtain rfl : oj = o := by rw [hoj] at ho; exact Option.some.inj ho
        refine .inr ⟨hjx, oj, u, hoj, yieldsB_back (fun cs b => hsel j oj cs b hoj) hap hyj, ?_⟩
        refine headF_first hi hix hsel hs hc hn hin hdone f b (listed.setIfInBounds j true) _ inv' hfree' (ready_mono hr (Ne.symm hji)) (yieldsB_put (fun cs b => hsel i oi cs b hi) hap hy) ?_
        rw [Array.setIfInBounds_comm _ _ hji, ← Act.put_comm a v u p2]
        exact hK


/-- May these come first, one behind the other? -/
def pickB (ops : Array Oper) : List Nat → Array Bool → Bool
  | [], _ => true
  | k :: js, listed => (Region.ready .any ops listed).contains k && Region.free .any ops listed k && pickB ops js (listed.setIfInBounds k true)
def marksF (listed : Array Bool) : List Nat → Array Bool
  | [] => listed
  | k :: js => marksF (listed.setIfInBounds k true) js
theorem headF_lex {n m : Nat} {fr : Nat → Bool} {L : σ → Array Bool → Act → Prop} (hsel : Region.noSelect ops = true) (hs : Region.sinkB .any ops n = true) (hc : Region.chainB .any ops n = true) (hn : n < ops.size)
    (hdone : ∀ s listed a, L s listed a → ∀ j ∈ Region.ready .any ops listed, n ≤ j) (hCW : ∀ s w, C s w → Below W.heap.size W w) (hCB : ∀ s w w', C s w → Below w.heap.size w w' → C s w') (s0 : σ) :
    ∀ (js : List Nat) (l : List Oper) (listed : Array Bool) (a : Act), (js.map (fun k => ops[k]?) = l.map some) → (∀ k ∈ js, fr k = true ∧ k < n) → HeadInv .any ops n listed → pickB ops js listed = true →
    wpFreeB P ops W (fun a' => HeadF P ops C n fr L m s0 (marksF listed js) a') l a → HeadF P ops C n fr L (js.length + m) s0 listed a
  | [], l, listed, a, hl, _, inv, hB, h => by
    have : l = [] := by cases l with
      | nil => rfl
      | cons x l => simp at hl
    subst this
    rw [List.length_nil, Nat.zero_add]
    exact h
  | k :: js, l, listed, a, hl, hk, inv, hB, h => by
    cases l with
    | nil => simp at hl
    | cons o l =>
      simp only [List.map_cons, List.cons.injEq] at hl
      obtain ⟨h0, hl⟩ := hl
      simp only [List.length_cons]
      rw [show js.length + 1 + m = (js.length + m) + 1 by omega]
      rw [pickB] at hB
      simp only [Bool.and_eq_true] at hB
      obtain ⟨⟨hr, hf⟩, hB'⟩ := hB
      have hr' : k ∈ Region.ready .any ops listed := by simpa using hr
      obtain ⟨hfr, hkn⟩ := hk k (by simp)
      have hst : ∃ v, YieldsB P ops C o v a ∧ wpFreeB P ops W (fun a' => HeadF P ops C n fr L m s0 (marksF (listed.setIfInBounds k true) js) a') l (a.put o.dst v) := by
        unfold wpFreeB at h
        by_cases hw : Region.wanted o (yielded ops a.tmps) = true
        · simp only [hw, if_true] at h
          obtain ⟨v, h1, h2⟩ := h
          exact ⟨v, fun b => .inl ⟨hw, fun w hC => quietUpon_classB (fun w' hw' => hCB b w w' hC hw') (h1 ⟨w, hCW b w hC⟩)⟩, h2⟩
        · simp only [hw] at h
          exact ⟨undef, fun b => .inr ⟨by simpa using hw, rfl⟩, h⟩
      obtain ⟨v, hy', hK⟩ := hst
      exact headF_first h0 hfr (Region.noSelect_spec hsel) hs hc hn hkn hdone (js.length + m) s0 listed a inv (Region.free_spec h0 hf) hr' hy'
        (headF_lex hsel hs hc hn hdone hCW hCB s0 js l _ _ hl (fun j hj => hk j (by simp [hj])) (inv.set hr' hkn) hB' hK)
/-- One of the others. -/
theorem headF_step {n f : Nat} {fr : Nat → Bool} {L : σ → Array Bool → Act → Prop} {s : σ} {listed : Array Bool} {a : Act} (r : List Nat) (hr : Region.ready .any ops listed = r) (hne : r ≠ []) (h : ∀ i ∈ r, i < n ∧ xOpF P ops C fr i (fun s' a' => HeadF P ops C n fr L f s' (listed.setIfInBounds i true) a') s a) : HeadF P ops C n fr L (f + 1) s listed a := by
  subst hr
  exact ⟨hne, h⟩
theorem pick_ops (l : List Oper) : ∀ js : List Nat, (∀ k ∈ js, k < l.length) → js.map (fun k => l.toArray[k]?) = (js.filterMap (fun k => l[k]?)).map some
  | [], _ => rfl
  | k :: js, h => by
    have hk := h k (by simp)
    rw [List.map_cons, List.filterMap_cons_some (List.getElem?_eq_getElem hk), List.map_cons, pick_ops l js (fun j hj => h j (by simp [hj]))]
    simp [hk]
theorem region_pick {id : Nat} {Q : Exit → Act → World → Prop} {a : Act} {w : World} {l : List Oper} (C : σ → World → Prop) (s0 : σ) (n m : Nat) (fr : Nat → Bool) (js : List Nat) (hm : P.follows .mixedOrders = true)
    (hsel : Region.noSelect l.toArray = true) (hs : Region.sinkB .any l.toArray n = true) (hc : Region.chainB .any l.toArray n = true) (hn : n < l.length) (hjm : js.length + m = n)
    (hjs : ∀ k ∈ js, fr k = true ∧ k < n) (hB : pickB l.toArray js (Array.replicate l.toArray.size false) = true)
    (hC0 : C s0 w.drew) (hCW : ∀ s w', C s w' → Below w.heap.size w w') (hCB : ∀ s w1 w', C s w1 → Below w1.heap.size w1 w' → C s w')
    (h : HeadInv .any l.toArray n (Array.replicate l.toArray.size false) → wpFreeB P l.toArray w (fun a' => HeadF P l.toArray C n fr (fun s listed a' => Region.seqB .any l.toArray (l.toArray.size - n) n listed = true ∧ ∀ w', C s w' → wpList P l.toArray Q (l.drop n) a' w') m s0 (marksF (Array.replicate l.toArray.size false) js) a') (js.filterMap (fun k => l[k]?)) a) : (Code.region id l.toArray true).wp P Q a w := by
  have hn' : n < l.toArray.size := by simpa using hn
  have hdl : (l.drop n).length = l.toArray.size - n := by simp
  have inv0 : HeadInv .any l.toArray n (Array.replicate l.toArray.size false) :=
    ⟨by simp, fun j oj _ hl => (by rw [getD_replicate_false] at hl; cases hl), fun t _ ht => getD_in (by simpa using ht) (getD_replicate_false _ _)⟩
  have H := headF_lex (W := w) (C := C) (fr := fr) (L := fun s listed a' => Region.seqB .any l.toArray (l.toArray.size - n) n listed = true ∧ ∀ w', C s w' → wpList P l.toArray Q (l.drop n) a' w') hsel hs hc hn' (fun s _ _ h => seqB_ready h.1) hCW hCB s0 js _ _ a (pick_ops l js (fun k hk => by have := (hjs k hk).2; omega)) hjs inv0 hB (h inv0)
  refine wp_region_any hm ?_
  have := any_of_headF (Q' := Q) (g := l.toArray.size - n) (fun s listed a' w' hw' hL => by
    have := wpAny_of_seq (md := .any) (Q' := Q) (l.drop n) n listed a' w' (fun j => by simp [List.getElem?_drop]) (by rw [hdl]; exact hL.1) (hL.2 w' hw')
    rwa [hdl] at this) _ _ _ _ w.drew hC0 H
  rw [hjm, show n + (l.toArray.size - n) = l.toArray.size by omega] at this
  exact this
def invB (ops : Array Oper) (n : Nat) (listed : Array Bool) : Bool :=
  decide (listed.size = ops.size) && ((List.range ops.size).all (fun j => !(listed.getD j false) || match ops[j]? with
    | some oj => oj.after.all (fun e => !(Region.binds .any e) || listed.getD e.on false)
    | none => true) && (List.range ops.size).all (fun t => decide (t < n) || !(listed.getD t true)))
theorem inv_of {n : Nat} {listed : Array Bool} (h : invB ops n listed = true) : HeadInv .any ops n listed := by
  unfold invB at h
  simp only [Bool.and_eq_true, decide_eq_true_eq, List.all_eq_true, List.mem_range] at h
  obtain ⟨h1, h2, h3⟩ := h
  refine ⟨h1, fun j oj hj hl e he hb => ?_, fun t ht ht' => ?_⟩
  · have hlt := (Array.getElem?_eq_some_iff.1 hj).1
    have := h2 j hlt
    rw [hl, hj] at this
    simp only [Bool.not_true, Bool.false_or] at this
    have := Array.all_eq_true_iff_forall_mem.1 this e he
    rw [hb] at this
    simpa using this
  · have := h3 t ht'
    simp only [Bool.or_eq_true, decide_eq_true_eq, Bool.not_eq_true'] at this
    exact this.resolve_left (by omega)
end
end Go.Proofs.YtjhndnhldhmjnaaDoor
