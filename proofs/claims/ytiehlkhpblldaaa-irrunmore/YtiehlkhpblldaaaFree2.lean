/- A region that draws its order: its operations yield one value in every world behind this one and leave the world alone, but for some that make memory and may come up in between; the others come behind them, one behind the other. -/
import Derived.Test.YtiehlkhpblldaaaQuiet
namespace Go.Proofs.Ytiehlkhpblldaaa
open Go Go.RowKit
set_option linter.unusedVariables false

section
variable {P : Program} {ops : Array Oper} {C : Nat → World → Prop} {W : World}

/-- Each operation yields one value in every world behind W, and leaves the world alone. -/
def wpFree (P : Program) (ops : Array Oper) (W : World) (Q : Act → Prop) : List Oper → Act → Prop
  | [], a => Q a
  | o :: rest, a => if Region.wanted o (yielded ops a.tmps) then (∃ v, (∀ t : After W, Oper.quietUpon P (fun w' => w' = t.1) t.1 v ((execOp a.eval o).run P t.1)) ∧ wpFree P ops W Q rest (a.put o.dst v)) else wpFree P ops W Q rest (a.put o.dst undef)
theorem wpFree_nil {Q : Act → Prop} {a : Act} (h : Q a) : wpFree P ops W Q [] a := h
theorem wpFree_step {Q : Act → Prop} {a : Act} {o : Oper} {rest : List Oper}
    (h : ∀ K : Act → Prop, (∀ a, wpFree P ops W Q rest a → K a) → if Region.wanted o (yielded ops a.tmps) then (∃ v, (∀ t : After W, Oper.quietUpon P (fun w' => w' = t.1) t.1 v ((execOp a.eval o).run P t.1)) ∧ K (a.put o.dst v)) else K (a.put o.dst undef)) : wpFree P ops W Q (o :: rest) a :=
  h _ (fun _ h => h)

theorem quietUpon_class {w : World} {v : Value} {r : Result Next} {D : World → Prop} (hw : D w) (h : Oper.quietUpon P (fun w' => w' = w) w v r) : Oper.quietUpon P D w v r := by
  unfold Oper.quietUpon at *
  split at h
  · exact h
  · exact h
  · exact ⟨h.1, h.2.mono fun e w'' ⟨he, hw''⟩ => ⟨he, hw'' ▸ hw⟩⟩
  · exact h

/-- In state a the operation yields v, whichever class the world is of. -/
def Yields2 (P : Program) (ops : Array Oper) (C : Nat → World → Prop) (o : Oper) (v : Value) (a : Act) : Prop := ∀ b, YieldsIn P ops (C b) o v a

/-- Operation i comes up in state a, the worlds being of class s. -/
def xOp (P : Program) (ops : Array Oper) (C : Nat → World → Prop) (x i : Nat) (K : Nat → Act → Prop) (s : Nat) (a : Act) : Prop :=
  (x ≤ i ∧ ∃ o v s', ops[i]? = some o ∧ Region.wanted o (yielded ops a.tmps) = true ∧ (∀ w, C s w → ∃ w1, ((execOp a.eval o).run P w = .ok (.value v) w1 ∨ (execOp a.eval o).run P w = .ok .skip w1 ∧ v = undef) ∧ C s' w1) ∧ K s' (a.put o.dst v)) ∨
  (i < x ∧ ∃ o v, ops[i]? = some o ∧ Yields2 P ops C o v a ∧ K s (a.put o.dst v))

/-- Whatever order is picked for the head, L holds behind it. -/
def HeadX (P : Program) (ops : Array Oper) (C : Nat → World → Prop) (n x : Nat) (L : Nat → Array Bool → Act → Prop) : Nat → Nat → Array Bool → Act → Prop
  | 0, s, listed, a => L s listed a
  | f + 1, s, listed, a => Region.ready .any ops listed ≠ [] ∧
      ∀ i ∈ Region.ready .any ops listed, i < n ∧ xOp P ops C x i (fun s' a' => HeadX P ops C n x L f s' (listed.setIfInBounds i true) a') s a

theorem any_of_headX {n x g : Nat} {L : Nat → Array Bool → Act → Prop} {Q' : Exit → Act → World → Prop} (hL : ∀ s listed a w, C s w → L s listed a → wpAny P .any ops Q' g listed a w) :
    ∀ (f : Nat) (s : Nat) (listed : Array Bool) (a : Act) (w : World), C s w → HeadX P ops C n x L f s listed a → wpAny P .any ops Q' (f + g) listed a w
  | 0, s, listed, a, w, hw, h => by
    rw [Nat.zero_add]; exact hL _ _ _ _ hw h
  | f + 1, s, listed, a, w, hw, h => by
    have e : f + 1 + g = (f + g) + 1 := by omega
    rw [e]
    refine ⟨fun h0 => absurd h0 h.1, fun i hi => ?_⟩
    rcases (h.2 i hi).2 with ⟨_, o, v, s', ho, hwn, hr, hK⟩ | ⟨_, o, v, ho, hy, hK⟩
    · obtain ⟨w1, hr1, hC⟩ := hr w hw
      unfold wpOp
      simp only [ho, hwn, if_true]
      refine .inl ?_
      unfold Oper.wp
      rcases hr1 with hr1 | ⟨hr1, hv⟩
      · rw [hr1]
        exact any_of_headX hL f s' _ _ w1 hC hK
      · rw [hr1]
        subst hv
        exact any_of_headX hL f s' _ _ w1 hC hK
    · exact wpOp_of_qOp hw (fun a' w' hw' h' => any_of_headX hL f s _ a' w' hw' h') ((hy s).qOp (K := HeadX P ops C n x L f s (listed.setIfInBounds i true)) ho hK)

theorem yields2_put {oi oj : Oper} {v u : Value} {a : Act} (hsi : ∀ cs b, oi.op ≠ .select cs b) (hap : oi.apart ops oj = true) (hy : Yields2 P ops C oi v a) : Yields2 P ops C oi v (a.put oj.dst u) := by
  obtain ⟨h1, h2, h3⟩ := Oper.apart_spec hap
  exact fun b => (hy b).of_same (execOp_put oi hsi a oj.dst u h3) (wanted_put oi a oj.dst u h3)
theorem yields2_back {oi oj : Oper} {v u : Value} {a : Act} (hsj : ∀ cs b, oj.op ≠ .select cs b) (hap : oi.apart ops oj = true) (hy : Yields2 P ops C oj u (a.put oi.dst v)) : Yields2 P ops C oj u a := by
  obtain ⟨h1, h2, h3⟩ := Oper.apart_spec hap
  exact fun b => (hy b).of_same (execOp_put oj hsj a oi.dst v h1).symm (wanted_put oj a oi.dst v h1).symm

theorem headX_first {n x i : Nat} {oi : Oper} {v : Value} {L : Nat → Array Bool → Act → Prop} (hi : ops[i]? = some oi) (hix : i < x) (hsel : ∀ (j : Nat) (o : Oper) cs b, ops[j]? = some o → o.op ≠ .select cs b)
    (hs : Region.sinkB .any ops n = true) (hc : Region.chainB .any ops n = true) (hn : n < ops.size) (hin : i < n)
    (hdone : ∀ s listed a, L s listed a → ∀ j ∈ Region.ready .any ops listed, n ≤ j) :
    ∀ (f : Nat) (b : Nat) (listed : Array Bool) (a : Act), HeadInv .any ops n listed →
      (∀ j oj, ops[j]? = some oj → j ≠ i → listed.getD j true = false → (∀ e ∈ oj.after, Region.binds .any e = true → e.on ≠ i) → oi.apart ops oj = true) →
      i ∈ Region.ready .any ops listed → Yields2 P ops C oi v a →
      HeadX P ops C n x L f b (listed.setIfInBounds i true) (a.put oi.dst v) → HeadX P ops C n x L (f + 1) b listed a
  | 0, b, listed, a, inv, _, hr, hy, H => by
    refine ⟨fun h => (by rw [h] at hr; cases hr), fun j hj => ⟨head_only hs hc hn hin inv hr hj, ?_⟩⟩
    by_cases hji : j = i
    · subst hji
      exact .inr ⟨hix, oi, v, hi, hy, H⟩
    · have h1 := hdone _ _ _ H j (ready_mono hj hji)
      have h2 := head_only hs hc hn hin inv hr hj
      omega
  | f + 1, b, listed, a, inv, hfree, hr, hy, H => by
    refine ⟨fun h => (by rw [h] at hr; cases hr), fun j hj => ⟨head_only hs hc hn hin inv hr hj, ?_⟩⟩
    by_cases hji : j = i
    · subst hji
      exact .inr ⟨hix, oi, v, hi, hy, H⟩
    · obtain ⟨hjun, oj, hoj, hall⟩ := mem_ready.1 hj
      have hnot : ∀ e ∈ oj.after, Region.binds .any e = true → e.on ≠ i := fun e he hb heq => by
        have h1 := hall e he hb
        rw [heq, getD_both (mem_ready.1 hr).1] at h1
        cases h1
      have hap := hfree j oj hoj hji hjun hnot
      obtain ⟨p1, p2, p3⟩ := Oper.apart_spec hap
      have hfree' : ∀ k ok, ops[k]? = some ok → k ≠ i → (listed.setIfInBounds j true).getD k true = false → (∀ e ∈ ok.after, Region.binds .any e = true → e.on ≠ i) → oi.apart ops ok = true := fun k ok hk hki hun hno => by
        refine hfree k ok hk hki ?_ hno
        by_cases hjk : j = k
        · subst hjk
          exact hjun
        · rwa [getD_set_ne true hjk] at hun
      have inv' := inv.set hj (head_only hs hc hn hin inv hr hj)
      rcases (H.2 j (ready_mono hj hji)).2 with ⟨hjx, o, u, s', ho, hwn, hrun, hK⟩ | ⟨hjx, o, u, ho, hyj, hK⟩
      · obtain rfl : oj = o := by rw [hoj] at ho; exact Option.some.inj ho
        refine .inl ⟨hjx, oj, u, s', hoj, ?_, ?_, ?_⟩
        · rw [wanted_put oj a oi.dst v p1] at hwn
          exact hwn
        · intro w hw
          have := hrun w hw
          rwa [execOp_put oj (fun cs b => hsel j oj cs b hoj) a oi.dst v p1] at this
        · refine headX_first hi hix hsel hs hc hn hin hdone f s' (listed.setIfInBounds j true) _ inv' hfree' (ready_mono hr (Ne.symm hji)) (yields2_put (fun cs b => hsel i oi cs b hi) hap hy) ?_
          rw [Array.setIfInBounds_comm _ _ hji, ← Act.put_comm a v u p2]
          exact hK
      · obtain rfl : oj = o := by rw [hoj] at ho; exact Option.some.inj ho
        refine .inr ⟨hjx, oj, u, hoj, yields2_back (fun cs b => hsel j oj cs b hoj) hap hyj, ?_⟩
        refine headX_first hi hix hsel hs hc hn hin hdone f b (listed.setIfInBounds j true) _ inv' hfree' (ready_mono hr (Ne.symm hji)) (yields2_put (fun cs b => hsel i oi cs b hi) hap hy) ?_
        rw [Array.setIfInBounds_comm _ _ hji, ← Act.put_comm a v u p2]
        exact hK

/-- The first k are marked, and n behind them. -/
def marks (listed : Array Bool) (k : Nat) : Nat → Array Bool
  | 0 => listed
  | n + 1 => marks (listed.setIfInBounds k true) (k + 1) n
theorem headX_lex {x m g : Nat} {L : Nat → Array Bool → Act → Prop} (hsel : Region.noSelect ops = true) (hs : Region.sinkB .any ops (x + m) = true) (hc : Region.chainB .any ops (x + m) = true) (hn : x + m < ops.size)
    (hL : ∀ s listed a, L s listed a → Region.seqB .any ops g (x + m) listed = true) (hCW : ∀ s w, C s w → Below W.heap.size W w) :
    ∀ (l : List Oper) (k : Nat) (listed : Array Bool) (a : Act), (∀ j, j < l.length → l[j]? = ops[k + j]?) → k + l.length = x → HeadInv .any ops (x + m) listed →
    Region.lexHead .any ops g (l.length + m) k listed = true → wpFree P ops W (fun a' => HeadX P ops C (x + m) x L m 0 (marks listed k l.length) a') l a →
    HeadX P ops C (x + m) x L (l.length + m) 0 listed a
  | [], k, listed, a, _, hk, inv, hB, h => by
    rw [List.length_nil, Nat.zero_add]
    exact h
  | o :: l, k, listed, a, hl, hk, inv, hB, h => by
    have h0 : ops[k]? = some o := by simpa using (hl 0 (by simp)).symm
    simp only [List.length_cons] at hB hk ⊢
    rw [show l.length + 1 + m = (l.length + m) + 1 by omega] at hB ⊢
    rw [Region.lexHead] at hB
    simp only [Bool.and_eq_true] at hB
    obtain ⟨⟨hr, hf⟩, hB'⟩ := hB
    have hr' : k ∈ Region.ready .any ops listed := by simpa using hr
    have hst : ∃ v, Yields2 P ops C o v a ∧ wpFree P ops W (fun a' => HeadX P ops C (x + m) x L m 0 (marks (listed.setIfInBounds k true) (k + 1) l.length) a') l (a.put o.dst v) := by
      unfold wpFree at h
      by_cases hw : Region.wanted o (yielded ops a.tmps) = true
      · simp only [hw, if_true] at h
        obtain ⟨v, h1, h2⟩ := h
        exact ⟨v, fun b => .inl ⟨hw, fun w hC => quietUpon_class hC (h1 ⟨w, hCW b w hC⟩)⟩, h2⟩
      · simp only [hw] at h
        exact ⟨undef, fun b => .inr ⟨by simpa using hw, rfl⟩, h⟩
    obtain ⟨v, hy', hK⟩ := hst
    exact headX_first h0 (by omega) (Region.noSelect_spec hsel) hs hc hn (by omega) (fun s _ _ h => seqB_ready (hL s _ _ h)) (l.length + m) 0 listed a inv (Region.free_spec h0 hf) hr' hy'
      (headX_lex hsel hs hc hn hL hCW l (k + 1) _ _ (fun j hj => by have := hl (j + 1) (by simp; omega); simpa [Nat.add_assoc, Nat.add_comm 1 j] using this) (by omega) (inv.set hr' (by omega)) hB' hK)

/-- The head in the order of the text, in whatever world behind this one; then those that make memory, in any order; then the tail. -/
theorem region_mix {id : Nat} {Q : Exit → Act → World → Prop} {a : Act} {w : World} {l : List Oper} (V : Nat → World) (x m : Nat) (hm : P.follows .mixedOrders = true) (hB : Region.lexTailB .any l.toArray (x + m) = true)
    (hV : V 0 = w.drew) (hVW : ∀ s, Below w.heap.size w (V s))
    (h : wpFree P l.toArray w (fun a' => HeadX P l.toArray (fun s w' => w' = V s) (x + m) x (fun s listed a' => Region.seqB .any l.toArray (l.toArray.size - (x + m)) (x + m) listed = true ∧ wpList P l.toArray Q (l.drop (x + m)) a' (V s)) m 0 (marks (Array.replicate l.toArray.size false) 0 (l.take x).length) a') (l.take x) a) : (Code.region id l.toArray true).wp P Q a w := by
  simp only [Region.lexTailB, Bool.and_eq_true, decide_eq_true_eq] at hB
  obtain ⟨⟨⟨⟨hsel, hn⟩, hs⟩, hc⟩, hlex⟩ := hB
  have hn' : x + m < l.length := by simpa using hn
  have htl : (l.take x).length = x := by simp; omega
  have hdl : (l.drop (x + m)).length = l.toArray.size - (x + m) := by simp
  have inv0 : HeadInv .any l.toArray (x + m) (Array.replicate l.toArray.size false) :=
    ⟨by simp, fun j oj _ hl => (by rw [getD_replicate_false] at hl; cases hl), fun t _ ht => getD_in (by simpa using ht) (getD_replicate_false _ _)⟩
  have H := headX_lex (W := w) (C := fun s w' => w' = V s) (g := l.toArray.size - (x + m)) (L := fun s listed a' => Region.seqB .any l.toArray (l.toArray.size - (x + m)) (x + m) listed = true ∧ wpList P l.toArray Q (l.drop (x + m)) a' (V s)) hsel hs hc hn (fun s _ _ h => h.1) (fun s w' hw' => by rw [hw']; exact hVW s) (l.take x) 0 _ a (fun j hj => by
      have hj' : j < x := by rw [htl] at hj; exact hj
      simp [hj']) (by simpa using htl) inv0 (by rw [htl]; exact hlex) h
  refine wp_region_any hm ?_
  have := any_of_headX (Q' := Q) (g := l.toArray.size - (x + m)) (fun s listed a' w' hw' hL => by
    obtain rfl : w' = V s := hw'
    have := wpAny_of_seq (md := .any) (Q' := Q) (l.drop (x + m)) (x + m) listed a' (V s) (fun j => by simp [List.getElem?_drop]) (by rw [hdl]; exact hL.1) hL.2
    rwa [hdl] at this) _ _ _ _ w.drew hV.symm H
  rw [htl, show x + m + (l.toArray.size - (x + m)) = l.toArray.size by omega] at this
  exact this

/-- Two that may come in either order, then a third. -/
theorem headX_two {n x : Nat} {L : Nat → Array Bool → Act → Prop} {listed : Array Bool} {a : Act} (V : Nat → World) {ox oy oz : Oper} {p0 p1 : Value} (hx : ops[x]? = some ox) (hy : ops[x + 1]? = some oy) (hz : ops[x + 2]? = some oz) (hn : x + 2 < n)
    (r0 : Region.ready .any ops listed = [x, x + 1]) (r1 : Region.ready .any ops (listed.setIfInBounds x true) = [x + 1]) (r2 : Region.ready .any ops (listed.setIfInBounds (x + 1) true) = [x]) (r3 : Region.ready .any ops ((listed.setIfInBounds x true).setIfInBounds (x + 1) true) = [x + 2])
    (hX : ∀ (a : Act), Region.wanted ox (yielded ops a.tmps) = true ∧ (execOp a.eval ox).run P (V 0) = .ok (.value p0) (V 1) ∧ (execOp a.eval ox).run P (V 1) = .ok (.value p1) (V 2))
    (hY : ∀ (a : Act), Region.wanted oy (yielded ops a.tmps) = true ∧ (execOp a.eval oy).run P (V 0) = .ok (.value p0) (V 1) ∧ (execOp a.eval oy).run P (V 1) = .ok (.value p1) (V 2))
    (hZ1 : Region.wanted oz (yielded ops ((a.put ox.dst p0).put oy.dst p1).tmps) = true ∧ (execOp ((a.put ox.dst p0).put oy.dst p1).eval oz).run P (V 2) = .ok .skip (V 3))
    (hZ2 : Region.wanted oz (yielded ops ((a.put oy.dst p0).put ox.dst p1).tmps) = true ∧ (execOp ((a.put oy.dst p0).put ox.dst p1).eval oz).run P (V 2) = .ok .skip (V 4))
    (h1 : L 3 (((listed.setIfInBounds x true).setIfInBounds (x + 1) true).setIfInBounds (x + 2) true) (((a.put ox.dst p0).put oy.dst p1).put oz.dst undef))
    (h2 : L 4 (((listed.setIfInBounds x true).setIfInBounds (x + 1) true).setIfInBounds (x + 2) true) (((a.put oy.dst p0).put ox.dst p1).put oz.dst undef)) :
    HeadX P ops (fun s w' => w' = V s) n x L 3 0 listed a := by
  refine ⟨by rw [r0]; simp, fun i hi => ?_⟩
  rw [r0] at hi
  rcases List.mem_cons.1 hi with rfl | hi
  · refine ⟨by omega, .inl ⟨Nat.le_refl _, ox, p0, 1, hx, (hX a).1, fun w hw => ⟨V 1, .inl (by rw [hw]; exact (hX a).2.1), rfl⟩, ?_⟩⟩
    refine ⟨by rw [r1]; simp, fun j hj => ?_⟩
    rw [r1] at hj
    obtain rfl := List.mem_singleton.1 hj
    refine ⟨by omega, .inl ⟨by omega, oy, p1, 2, hy, (hY _).1, fun w hw => ⟨V 2, .inl (by rw [hw]; exact (hY _).2.2), rfl⟩, ?_⟩⟩
    refine ⟨by rw [r3]; simp, fun j hj => ?_⟩
    rw [r3] at hj
    obtain rfl := List.mem_singleton.1 hj
    exact ⟨by omega, .inl ⟨by omega, oz, undef, 3, hz, hZ1.1, fun w hw => ⟨V 3, .inr ⟨by rw [hw]; exact hZ1.2, rfl⟩, rfl⟩, h1⟩⟩
  · obtain rfl := List.mem_singleton.1 hi
    have ec : (listed.setIfInBounds (x + 1) true).setIfInBounds x true = (listed.setIfInBounds x true).setIfInBounds (x + 1) true := Array.setIfInBounds_comm _ _ (by omega)
    refine ⟨by omega, .inl ⟨by omega, oy, p0, 1, hy, (hY a).1, fun w hw => ⟨V 1, .inl (by rw [hw]; exact (hY a).2.1), rfl⟩, ?_⟩⟩
    refine ⟨by rw [r2]; simp, fun j hj => ?_⟩
    rw [r2] at hj
    obtain rfl := List.mem_singleton.1 hj
    refine ⟨by omega, .inl ⟨Nat.le_refl _, ox, p1, 2, hx, (hX _).1, fun w hw => ⟨V 2, .inl (by rw [hw]; exact (hX _).2.2), rfl⟩, ?_⟩⟩
    show HeadX P ops (fun s w' => w' = V s) n j L 1 2 ((listed.setIfInBounds (j + 1) true).setIfInBounds j true) _
    rw [ec]
    refine ⟨by rw [r3]; simp, fun i hj => ?_⟩
    rw [r3] at hj
    obtain rfl := List.mem_singleton.1 hj
    exact ⟨by omega, .inl ⟨by omega, oz, undef, 4, hz, hZ2.1, fun w hw => ⟨V 4, .inr ⟨by rw [hw]; exact hZ2.2, rfl⟩, rfl⟩, h2⟩⟩
end
end Go.Proofs.Ytiehlkhpblldaaa
