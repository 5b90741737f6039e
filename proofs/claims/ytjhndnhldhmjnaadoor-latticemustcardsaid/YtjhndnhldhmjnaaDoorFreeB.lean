/- A region that draws its order: its operations yield one value in every world behind this one (calls may make memory of their own), but for some that make memory and may come up in between; the others come behind them, one behind the other. -/
import Derived.Test.YtjhndnhldhmjnaaDoorQuiet
import Derived.Test.YtjhndnhldhmjnaaDoorBase
namespace Go.Proofs.YtjhndnhldhmjnaaDoor
open Go Go.RowKit
set_option linter.unusedVariables false

section
variable {P : Program} {ops : Array Oper} {σ : Type} {C : σ → World → Prop} {W : World}

/-- Each operation yields one value in every world behind W, and leaves the world alone. -/
def wpFreeB (P : Program) (ops : Array Oper) (W : World) (Q : Act → Prop) : List Oper → Act → Prop
  | [], a => Q a
  | o :: rest, a => if Region.wanted o (yielded ops a.tmps) then (∃ v, (∀ t : After W, Oper.quietUpon P (fun w' => Below t.1.heap.size t.1 w') t.1 v ((execOp a.eval o).run P t.1)) ∧ wpFreeB P ops W Q rest (a.put o.dst v)) else wpFreeB P ops W Q rest (a.put o.dst undef)
theorem wpFreeB_nil {Q : Act → Prop} {a : Act} (h : Q a) : wpFreeB P ops W Q [] a := h
theorem wpFreeB_step {Q : Act → Prop} {a : Act} {o : Oper} {rest : List Oper}
    (h : ∀ K : Act → Prop, (∀ a, wpFreeB P ops W Q rest a → K a) → if Region.wanted o (yielded ops a.tmps) then (∃ v, (∀ t : After W, Oper.quietUpon P (fun w' => Below t.1.heap.size t.1 w') t.1 v ((execOp a.eval o).run P t.1)) ∧ K (a.put o.dst v)) else K (a.put o.dst undef)) : wpFreeB P ops W Q (o :: rest) a :=
  h _ (fun _ h => h)

theorem quietUpon_classB {w : World} {v : Value} {r : Result Next} {D : World → Prop} (hw : ∀ w', Below w.heap.size w w' → D w') (h : Oper.quietUpon P (fun w' => Below w.heap.size w w') w v r) : Oper.quietUpon P D w v r := by
  unfold Oper.quietUpon at *
  split at h
  · exact h
  · exact h
  · exact ⟨h.1, h.2.mono fun e w'' ⟨he, hw''⟩ => ⟨he, hw _ hw''⟩⟩
  · exact h

/-- In state a the operation yields v, whichever class the world is of. -/
def YieldsB (P : Program) (ops : Array Oper) (C : σ → World → Prop) (o : Oper) (v : Value) (a : Act) : Prop := ∀ b, YieldsIn P ops (C b) o v a

/-- Operation i comes up in state a, the worlds being of class s. -/
def xOpB (P : Program) (ops : Array Oper) (C : σ → World → Prop) (x i : Nat) (K : σ → Act → Prop) (s : σ) (a : Act) : Prop :=
  (x ≤ i ∧ ∃ o, ops[i]? = some o ∧ Region.wanted o (yielded ops a.tmps) = true ∧ ∀ w, C s w → ∃ v s' w1, (execOp a.eval o).run P w = .ok (.value v) w1 ∧ C s' w1 ∧ K s' (a.put o.dst v)) ∨
  (i < x ∧ ∃ o v, ops[i]? = some o ∧ YieldsB P ops C o v a ∧ K s (a.put o.dst v))

/-- Whatever order is picked for the head, L holds behind it. -/
def HeadB (P : Program) (ops : Array Oper) (C : σ → World → Prop) (n x : Nat) (L : σ → Array Bool → Act → Prop) : Nat → σ → Array Bool → Act → Prop
  | 0, s, listed, a => L s listed a
  | f + 1, s, listed, a => Region.ready .any ops listed ≠ [] ∧
      ∀ i ∈ Region.ready .any ops listed, i < n ∧ xOpB P ops C x i (fun s' a' => HeadB P ops C n x L f s' (listed.setIfInBounds i true) a') s a

theorem any_of_headB {n x g : Nat} {L : σ → Array Bool → Act → Prop} {Q' : Exit → Act → World → Prop} (hL : ∀ s listed a w, C s w → L s listed a → wpAny P .any ops Q' g listed a w) :
    ∀ (f : Nat) (s : σ) (listed : Array Bool) (a : Act) (w : World), C s w → HeadB P ops C n x L f s listed a → wpAny P .any ops Q' (f + g) listed a w
  | 0, s, listed, a, w, hw, h => by
    rw [Nat.zero_add]; exact hL _ _ _ _ hw h
  | f + 1, s, listed, a, w, hw, h => by
    have e : f + 1 + g = (f + g) + 1 := by omega
    rw [e]
    refine ⟨fun h0 => absurd h0 h.1, fun i hi => ?_⟩
    rcases (h.2 i hi).2 with ⟨_, o, ho, hwn, hr⟩ | ⟨_, o, v, ho, hy, hK⟩
    · obtain ⟨v, s', w1, hr1, hC, hK⟩ := hr w hw
      unfold wpOp
      simp only [ho, hwn, if_true]
      refine .inl ?_
      unfold Oper.wp
      rw [hr1]
      exact any_of_headB hL f s' _ _ w1 hC hK
    · exact wpOp_of_qOp hw (fun a' w' hw' h' => any_of_headB hL f s _ a' w' hw' h') ((hy s).qOp (K := HeadB P ops C n x L f s (listed.setIfInBounds i true)) ho hK)

theorem yieldsB_put {oi oj : Oper} {v u : Value} {a : Act} (hsi : ∀ cs b, oi.op ≠ .select cs b) (hap : oi.apart ops oj = true) (hy : YieldsB P ops C oi v a) : YieldsB P ops C oi v (a.put oj.dst u) := by
  obtain ⟨h1, h2, h3⟩ := Oper.apart_spec hap
  exact fun b => (hy b).of_same (execOp_put oi hsi a oj.dst u h3) (wanted_put oi a oj.dst u h3)
theorem yieldsB_back {oi oj : Oper} {v u : Value} {a : Act} (hsj : ∀ cs b, oj.op ≠ .select cs b) (hap : oi.apart ops oj = true) (hy : YieldsB P ops C oj u (a.put oi.dst v)) : YieldsB P ops C oj u a := by
  obtain ⟨h1, h2, h3⟩ := Oper.apart_spec hap
  exact fun b => (hy b).of_same (execOp_put oj hsj a oi.dst v h1).symm (wanted_put oj a oi.dst v h1).symm

theorem headB_first {n x i : Nat} {oi : Oper} {v : Value} {L : σ → Array Bool → Act → Prop} (hi : ops[i]? = some oi) (hix : i < x) (hsel : ∀ (j : Nat) (o : Oper) cs b, ops[j]? = some o → o.op ≠ .select cs b)
    (hs : Region.sinkB .any ops n = true) (hc : Region.chainB .any ops n = true) (hn : n < ops.size) (hin : i < n)
    (hdone : ∀ s listed a, L s listed a → ∀ j ∈ Region.ready .any ops listed, n ≤ j) :
    ∀ (f : Nat) (b : σ) (listed : Array Bool) (a : Act), HeadInv .any ops n listed →
      (∀ j oj, ops[j]? = some oj → j ≠ i → listed.getD j true = false → (∀ e ∈ oj.after, Region.binds .any e = true → e.on ≠ i) → oi.apart ops oj = true) →
      i ∈ Region.ready .any ops listed → YieldsB P ops C oi v a →
      HeadB P ops C n x L f b (listed.setIfInBounds i true) (a.put oi.dst v) → HeadB P ops C n x L (f + 1) b listed a
  | 0, b, listed, a, inv, _, hr, hy, H => by
    refine ⟨fun h => (by rw [h] at hr; cases hr), fun j hj => ⟨head_only hs hc hn hin inv hr hj, ?_⟩⟩
    by_cases hji : j = i
    · subst hji
      exact .inr ⟨hix, oi, v, hi, hy, H⟩
    · have h1 := hdone _ _ _ H j (ready_mono hj hji)
      have h2 := head_only hs hc hn hin inv hr hj
      omega
  | f + 1, b, listed, a, inv, hfree, hr, hy, H => by
    refine ⟨fun h => (by rw [h] at hr; cases hr), fun j hj => ⟨head_only hs hc hn hin inv hr hj, ?_⟩⟩
    by_cases hji : j = i
    · subst hji
      exact .inr ⟨hix, oi, v, hi, hy, H⟩
    · obtain ⟨hjun, oj, hoj, hall⟩ := mem_ready.1 hj
      have hnot : ∀ e ∈ oj.after, Region.binds .any e = true → e.on ≠ i := fun e he hb heq => by
        have h1 := hall e he hb
        rw [heq, getD_both (mem_ready.1 hr).1] at h1
        cases h1
      have hap := hfree j oj hoj hji hjun hnot
      obtain ⟨p1, p2, p3⟩ := Oper.apart_spec hap
      have hfree' : ∀ k ok, ops[k]? = some ok → k ≠ i → (listed.setIfInBounds j true).getD k true = false → (∀ e ∈ ok.after, Region.binds .any e = true → e.on ≠ i) → oi.apart ops ok = true := fun k ok hk hki hun hno => by
        refine hfree k ok hk hki ?_ hno
        by_cases hjk : j = k
        · subst hjk
          exact hjun
        · rwa [getD_set_ne true hjk] at hun
      have inv' := inv.set hj (head_only hs hc hn hin inv hr hj)
      rcases (H.2 j (ready_mono hj hji)).2 with ⟨hjx, o, ho, hwn, hrun⟩ | ⟨hjx, o, u, ho, hyj, hK⟩
      · obtain rfl : oj = o := by rw [hoj] at ho; exact Option.some.inj ho
        refine .inl ⟨hjx, oj, hoj, ?_, ?_⟩
        · rw [wanted_put oj a oi.dst v p1] at hwn
          exact hwn
        · intro w hw
          obtain ⟨u, s', w1, hr1, hC1, hK⟩ := hrun w hw
          rw [execOp_put oj (fun cs b => hsel j oj cs b hoj) a oi.dst v p1] at hr1
          refine ⟨u, s', w1, hr1, hC1, ?_⟩
          refine headB_first hi hix hsel hs hc hn hin hdone f s' (listed.setIfInBounds j true) _ inv' hfree' (ready_mono hr (Ne.symm hji)) (yieldsB_put (fun cs b => hsel i oi cs b hi) hap hy) ?_
          rw [Array.setIfInBounds_comm _ _ hji, ← Act.put_comm a v u p2]
          exact hK
      · obtain rfl : oj = o := by rw [hoj] at ho; exact Option.some.inj ho
        refine .inr ⟨hjx, oj, u, hoj, yieldsB_back (fun cs b => hsel j oj cs b hoj) hap hyj, ?_⟩
        refine headB_first hi hix hsel hs hc hn hin hdone f b (listed.setIfInBounds j true) _ inv' hfree' (ready_mono hr (Ne.symm hji)) (yieldsB_put (fun cs b => hsel i oi cs b hi) hap hy) ?_
        rw [Array.setIfInBounds_comm _ _ hji, ← Act.put_comm a v u p2]
        exact hK

/-- The first k are marked, and n behind them. -/
def marksB (listed : Array Bool) (k : Nat) : Nat → Array Bool
  | 0 => listed
  | n + 1 => marksB (listed.setIfInBounds k true) (k + 1) n
theorem headB_lex {x m g : Nat} {L : σ → Array Bool → Act → Prop} (hsel : Region.noSelect ops = true) (hs : Region.sinkB .any ops (x + m) = true) (hc : Region.chainB .any ops (x + m) = true) (hn : x + m < ops.size)
    (hL : ∀ s listed a, L s listed a → Region.seqB .any ops g (x + m) listed = true) (hCW : ∀ s w, C s w → Below W.heap.size W w) (hCB : ∀ s w w', C s w → Below w.heap.size w w' → C s w') (s0 : σ) :
    ∀ (l : List Oper) (k : Nat) (listed : Array Bool) (a : Act), (∀ j, j < l.length → l[j]? = ops[k + j]?) → k + l.length = x → HeadInv .any ops (x + m) listed →
    Region.lexHead .any ops g (l.length + m) k listed = true → wpFreeB P ops W (fun a' => HeadB P ops C (x + m) x L m s0 (marksB listed k l.length) a') l a →
    HeadB P ops C (x + m) x L (l.length + m) s0 listed a
  | [], k, listed, a, _, hk, inv, hB, h => by
    rw [List.length_nil, Nat.zero_add]
    exact h
  | o :: l, k, listed, a, hl, hk, inv, hB, h => by
    have h0 : ops[k]? = some o := by simpa using (hl 0 (by simp)).symm
    simp only [List.length_cons] at hB hk ⊢
    rw [show l.length + 1 + m = (l.length + m) + 1 by omega] at hB ⊢
    rw [Region.lexHead] at hB
    simp only [Bool.and_eq_true] at hB
    obtain ⟨⟨hr, hf⟩, hB'⟩ := hB
    have hr' : k ∈ Region.ready .any ops listed := by simpa using hr
    have hst : ∃ v, YieldsB P ops C o v a ∧ wpFreeB P ops W (fun a' => HeadB P ops C (x + m) x L m s0 (marksB (listed.setIfInBounds k true) (k + 1) l.length) a') l (a.put o.dst v) := by
      unfold wpFreeB at h
      by_cases hw : Region.wanted o (yielded ops a.tmps) = true
      · simp only [hw, if_true] at h
        obtain ⟨v, h1, h2⟩ := h
        exact ⟨v, fun b => .inl ⟨hw, fun w hC => quietUpon_classB (fun w' hw' => hCB b w w' hC hw') (h1 ⟨w, hCW b w hC⟩)⟩, h2⟩
      · simp only [hw] at h
        exact ⟨undef, fun b => .inr ⟨by simpa using hw, rfl⟩, h⟩
    obtain ⟨v, hy', hK⟩ := hst
    exact headB_first h0 (by omega) (Region.noSelect_spec hsel) hs hc hn (by omega) (fun s _ _ h => seqB_ready (hL s _ _ h)) (l.length + m) s0 listed a inv (Region.free_spec h0 hf) hr' hy'
      (headB_lex hsel hs hc hn hL hCW hCB s0 l (k + 1) _ _ (fun j hj => by have := hl (j + 1) (by simp; omega); simpa [Nat.add_assoc, Nat.add_comm 1 j] using this) (by omega) (inv.set hr' (by omega)) hB' hK)

/-- The head in the order of the text; then those that make memory, in any order; then the tail. -/
theorem region_mixB {id : Nat} {Q : Exit → Act → World → Prop} {a : Act} {w : World} {l : List Oper} (C : σ → World → Prop) (s0 : σ) (x m : Nat) (hm : P.follows .mixedOrders = true) (hB : Region.lexTailB .any l.toArray (x + m) = true)
    (hC0 : C s0 w.drew) (hCW : ∀ s w', C s w' → Below w.heap.size w w') (hCB : ∀ s w1 w', C s w1 → Below w1.heap.size w1 w' → C s w')
    (h : wpFreeB P l.toArray w (fun a' => HeadB P l.toArray C (x + m) x (fun s listed a' => Region.seqB .any l.toArray (l.toArray.size - (x + m)) (x + m) listed = true ∧ ∀ w', C s w' → wpList P l.toArray Q (l.drop (x + m)) a' w') m s0 (marksB (Array.replicate l.toArray.size false) 0 (l.take x).length) a') (l.take x) a) : (Code.region id l.toArray true).wp P Q a w := by
  simp only [Region.lexTailB, Bool.and_eq_true, decide_eq_true_eq] at hB
  obtain ⟨⟨⟨⟨hsel, hn⟩, hs⟩, hc⟩, hlex⟩ := hB
  have hn' : x + m < l.length := by simpa using hn
  have htl : (l.take x).length = x := by simp; omega
  have hdl : (l.drop (x + m)).length = l.toArray.size - (x + m) := by simp
  have inv0 : HeadInv .any l.toArray (x + m) (Array.replicate l.toArray.size false) :=
    ⟨by simp, fun j oj _ hl => (by rw [getD_replicate_false] at hl; cases hl), fun t _ ht => getD_in (by simpa using ht) (getD_replicate_false _ _)⟩
  have H := headB_lex (W := w) (C := C) (g := l.toArray.size - (x + m)) (L := fun s listed a' => Region.seqB .any l.toArray (l.toArray.size - (x + m)) (x + m) listed = true ∧ ∀ w', C s w' → wpList P l.toArray Q (l.drop (x + m)) a' w') hsel hs hc hn (fun s _ _ h => h.1) hCW hCB s0 (l.take x) 0 _ a (fun j hj => by
      have hj' : j < x := by rw [htl] at hj; exact hj
      simp [hj']) (by simpa using htl) inv0 (by rw [htl]; exact hlex) h
  refine wp_region_any hm ?_
  have := any_of_headB (Q' := Q) (g := l.toArray.size - (x + m)) (fun s listed a' w' hw' hL => by
    have := wpAny_of_seq (md := .any) (Q' := Q) (l.drop (x + m)) (x + m) listed a' w' (fun j => by simp [List.getElem?_drop]) (by rw [hdl]; exact hL.1) (hL.2 w' hw')
    rwa [hdl] at this) _ _ _ _ w.drew hC0 H
  rw [htl, show x + m + (l.toArray.size - (x + m)) = l.toArray.size by omega] at this
  exact this
/-- Two new blocks: which are there. -/
structure NewB (W : World) (o : Obj) (s : Option Nat × Option Nat) (w : World) : Prop where
  below : Below W.heap.size W w
  p : ∀ b, s.1 = some b → W.heap.size ≤ b ∧ w.heap[b]? = some o
  q : ∀ b, s.2 = some b → W.heap.size ≤ b ∧ w.heap[b]? = some o
  ne : ∀ b, s.1 = some b → s.2 ≠ some b
theorem NewB.on {W : World} {o : Obj} {s : Option Nat × Option Nat} {w w' : World} (h : NewB W o s w) (hb : Below w.heap.size w w') : NewB W o s w' :=
  ⟨below_up h.below hb, fun b e => ⟨(h.p b e).1, by rw [hb.block _ (Array.getElem?_eq_some_iff.1 (h.p b e).2).1]; exact (h.p b e).2⟩, fun b e => ⟨(h.q b e).1, by rw [hb.block _ (Array.getElem?_eq_some_iff.1 (h.q b e).2).1]; exact (h.q b e).2⟩, h.ne⟩
theorem NewB.one {W : World} {o : Obj} {w : World} (h : NewB W o (none, none) w) : NewB W o (some w.heap.size, none) (w.alloc o) ∧ NewB W o (none, some w.heap.size) (w.alloc o) := by
  have hb := h.below.alloc h.below.size o
  refine ⟨⟨hb, fun b e => ?_, (fun b e => by cases e), (fun b _ e => by cases e)⟩, ⟨hb, (fun b e => by cases e), fun b e => ?_, (fun b e => by cases e)⟩⟩
  · injection e with e
    subst e
    exact ⟨h.below.size, heap_alloc_new _ _⟩
  · injection e with e
    subst e
    exact ⟨h.below.size, heap_alloc_new _ _⟩
theorem NewB.two {W : World} {o : Obj} {w : World} {b : Nat} : (NewB W o (some b, none) w → NewB W o (some b, some w.heap.size) (w.alloc o)) ∧ (NewB W o (none, some b) w → NewB W o (some w.heap.size, some b) (w.alloc o)) := by
  refine ⟨fun h => ?_, fun h => ?_⟩
  · have hp := h.p b rfl
    have hlt := (Array.getElem?_eq_some_iff.1 hp.2).1
    refine ⟨h.below.alloc h.below.size o, fun c e => ?_, fun c e => ?_, fun c e e2 => ?_⟩
    · injection e with e
      subst e
      exact ⟨hp.1, by rw [Below.heap_alloc _ _ _ hlt]; exact hp.2⟩
    · injection e with e
      subst e
      exact ⟨h.below.size, heap_alloc_new _ _⟩
    · injection e with e
      injection e2 with e2
      omega
  · have hp := h.q b rfl
    have hlt := (Array.getElem?_eq_some_iff.1 hp.2).1
    refine ⟨h.below.alloc h.below.size o, fun c e => ?_, fun c e => ?_, fun c e e2 => ?_⟩
    · injection e with e
      subst e
      exact ⟨h.below.size, heap_alloc_new _ _⟩
    · injection e with e
      subst e
      exact ⟨hp.1, by rw [Below.heap_alloc _ _ _ hlt]; exact hp.2⟩
    · injection e with e
      injection e2 with e2
      omega
/-- Two new blocks, in either order. -/
theorem headB_two {n x : Nat} {L : Option Nat × Option Nat → Array Bool → Act → Prop} {listed : Array Bool} {a : Act} {ox oy : Oper} {o : Obj} (hx : ops[x]? = some ox) (hy : ops[x + 1]? = some oy) (hn : x + 1 < n)
    (r0 : Region.ready .any ops listed = [x, x + 1]) (r1 : Region.ready .any ops (listed.setIfInBounds x true) = [x + 1]) (r2 : Region.ready .any ops (listed.setIfInBounds (x + 1) true) = [x])
    (hX : ∀ (a : Act), Region.wanted ox (yielded ops a.tmps) = true ∧ ∀ w : World, (execOp a.eval ox).run P w = .ok (.value (.pointer (some ⟨w.heap.size, 0, none⟩))) (w.alloc o))
    (hY : ∀ (a : Act), Region.wanted oy (yielded ops a.tmps) = true ∧ ∀ w : World, (execOp a.eval oy).run P w = .ok (.value (.pointer (some ⟨w.heap.size, 0, none⟩))) (w.alloc o))
    (h1 : ∀ b c, L (some b, some c) ((listed.setIfInBounds x true).setIfInBounds (x + 1) true) ((a.put ox.dst (.pointer (some ⟨b, 0, none⟩))).put oy.dst (.pointer (some ⟨c, 0, none⟩))))
    (h2 : ∀ b c, L (some b, some c) ((listed.setIfInBounds x true).setIfInBounds (x + 1) true) ((a.put oy.dst (.pointer (some ⟨c, 0, none⟩))).put ox.dst (.pointer (some ⟨b, 0, none⟩)))) :
    HeadB P ops (NewB W o) n x L 2 (none, none) listed a := by
  refine ⟨by rw [r0]; simp, fun i hi => ?_⟩
  rw [r0] at hi
  rcases List.mem_cons.1 hi with rfl | hi
  · refine ⟨by omega, .inl ⟨Nat.le_refl _, ox, hx, (hX a).1, fun w hw => ⟨_, _, _, (hX a).2 w, hw.one.1, ?_⟩⟩⟩
    refine ⟨by rw [r1]; simp, fun j hj => ?_⟩
    rw [r1] at hj
    obtain rfl := List.mem_singleton.1 hj
    exact ⟨by omega, .inl ⟨by omega, oy, hy, (hY _).1, fun w' hw' => ⟨_, _, _, (hY _).2 w', NewB.two.1 hw', h1 _ _⟩⟩⟩
  · obtain rfl := List.mem_singleton.1 hi
    have ec : (listed.setIfInBounds (x + 1) true).setIfInBounds x true = (listed.setIfInBounds x true).setIfInBounds (x + 1) true := Array.setIfInBounds_comm _ _ (by omega)
    refine ⟨by omega, .inl ⟨by omega, oy, hy, (hY a).1, fun w hw => ⟨_, _, _, (hY a).2 w, hw.one.2, ?_⟩⟩⟩
    refine ⟨by rw [r2]; simp, fun j hj => ?_⟩
    rw [r2] at hj
    obtain rfl := List.mem_singleton.1 hj
    refine ⟨by omega, .inl ⟨Nat.le_refl _, ox, hx, (hX _).1, fun w' hw' => ⟨_, _, _, (hX _).2 w', NewB.two.2 hw', ?_⟩⟩⟩
    show L _ ((listed.setIfInBounds (j + 1) true).setIfInBounds j true) _
    rw [ec]
    exact h2 _ _
/-- A call as one of the head. -/
theorem free_call {o : Oper} {a : Act} {K : Act → Prop} (hg : o.guard = none) (f : FuncId) (xs : Array Operand) (ts : Array TypeId) (hop : o.op = Op.call { callee := Callee.value (.func f), args := xs, argTypes := ts })
    (args : Array Value) (ha : xs.map a.eval = args) (hen : ∀ W : World, (callFunc f args).run P W = .ok (.enter f args) W) (v : Value) (hc : ∀ t : After W, Calls P f args t.1 fun e w' => e = .returned v ∧ Below t.1.heap.size t.1 w') (hK : K (a.put o.dst v)) :
    if Region.wanted o (yielded ops a.tmps) = true then (∃ v, (∀ t : After W, Oper.quietUpon P (fun w' => Below t.1.heap.size t.1 w') t.1 v ((execOp a.eval o).run P t.1)) ∧ K (a.put o.dst v)) else K (a.put o.dst undef) := by
  have hw : Region.wanted o (yielded ops a.tmps) = true := by simp [Region.wanted, hg]
  rw [if_pos hw]
  refine ⟨v, fun t => ?_, hK⟩
  have he : (execOp a.eval o).run P t.1 = .ok (.enter f args) t.1 := by
    simp [execOp, hop, resolve, invoke, Act.eval, ha, hen, Deferred.ofValue, go_sem]
  rw [he]
  exact ⟨rfl, hc t⟩
end
end Go.Proofs.YtjhndnhldhmjnaaDoor
