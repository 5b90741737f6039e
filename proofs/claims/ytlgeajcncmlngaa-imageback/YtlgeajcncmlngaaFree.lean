/- A region that draws its order: its operations yield one value in every world and leave the world alone, but for one that makes a new block and may come up at any time; the others come behind them, one behind the other. Then the order of the text serves every order. -/
import Derived.Test.YtlgeajcncmlngaaQuiet
namespace Go.Proofs.Ytlgeajcncmlngaa
open Go Go.RowKit
set_option linter.unusedVariables false

section
variable {P : Program} {ops : Array Oper} {C : Bool → World → Prop}

/-- Each operation yields one value in every world, and leaves the world alone. -/
def wpFree (P : Program) (ops : Array Oper) (Q : Act → Prop) : List Oper → Act → Prop
  | [], a => Q a
  | o :: rest, a => if Region.wanted o (yielded ops a.tmps) then (∃ v, (∀ w, Oper.quietUpon P (fun w' => w' = w) w v ((execOp a.eval o).run P w)) ∧ wpFree P ops Q rest (a.put o.dst v)) else wpFree P ops Q rest (a.put o.dst undef)
theorem wpFree_nil {Q : Act → Prop} {a : Act} (h : Q a) : wpFree P ops Q [] a := h
theorem wpFree_step {Q : Act → Prop} {a : Act} {o : Oper} {rest : List Oper}
    (h : ∀ K : Act → Prop, (∀ a, wpFree P ops Q rest a → K a) → if Region.wanted o (yielded ops a.tmps) then (∃ v, (∀ w, Oper.quietUpon P (fun w' => w' = w) w v ((execOp a.eval o).run P w)) ∧ K (a.put o.dst v)) else K (a.put o.dst undef)) : wpFree P ops Q (o :: rest) a :=
  h _ (fun _ h => h)

theorem quietUpon_class {w : World} {v : Value} {r : Result Next} {D : World → Prop} (hw : D w) (h : Oper.quietUpon P (fun w' => w' = w) w v r) : Oper.quietUpon P D w v r := by
  unfold Oper.quietUpon at *
  split at h
  · exact h
  · exact h
  · exact ⟨h.1, h.2.mono fun e w'' ⟨he, hw''⟩ => ⟨he, hw'' ▸ hw⟩⟩
  · exact h

/-- In state a the operation yields v, whichever class the world is of. -/
def Yields2 (P : Program) (ops : Array Oper) (C : Bool → World → Prop) (o : Oper) (v : Value) (a : Act) : Prop := ∀ b, YieldsIn P ops (C b) o v a

/-- Operation i comes up in state a; b: has x come up? -/
def xOp (P : Program) (ops : Array Oper) (C : Bool → World → Prop) (x i : Nat) (K : Bool → Act → Prop) (b : Bool) (a : Act) : Prop :=
  (i = x ∧ b = false ∧ ∃ o v, ops[i]? = some o ∧ Region.wanted o (yielded ops a.tmps) = true ∧ (∀ w, C false w → ∃ w1, (execOp a.eval o).run P w = .ok (.value v) w1 ∧ C true w1) ∧ K true (a.put o.dst v)) ∨
  (i ≠ x ∧ ∃ o v, ops[i]? = some o ∧ Yields2 P ops C o v a ∧ K b (a.put o.dst v))

/-- Whatever order is picked for the head, L holds behind it. -/
def HeadX (P : Program) (ops : Array Oper) (C : Bool → World → Prop) (n x : Nat) (L : Array Bool → Act → Prop) : Nat → Bool → Array Bool → Act → Prop
  | 0, b, listed, a => b = true ∧ L listed a
  | f + 1, b, listed, a => Region.ready .any ops listed ≠ [] ∧
      ∀ i ∈ Region.ready .any ops listed, i < n ∧ xOp P ops C x i (fun b' a' => HeadX P ops C n x L f b' (listed.setIfInBounds i true) a') b a

theorem any_of_headX {n x g : Nat} {L : Array Bool → Act → Prop} {Q' : Exit → Act → World → Prop} (hL : ∀ listed a w, C true w → L listed a → wpAny P .any ops Q' g listed a w) :
    ∀ (f : Nat) (b : Bool) (listed : Array Bool) (a : Act) (w : World), C b w → HeadX P ops C n x L f b listed a → wpAny P .any ops Q' (f + g) listed a w
  | 0, b, listed, a, w, hw, h => by
    obtain ⟨rfl, h⟩ := h
    rw [Nat.zero_add]; exact hL _ _ _ hw h
  | f + 1, b, listed, a, w, hw, h => by
    have e : f + 1 + g = (f + g) + 1 := by omega
    rw [e]
    refine ⟨fun h0 => absurd h0 h.1, fun i hi => ?_⟩
    rcases (h.2 i hi).2 with ⟨_, rfl, o, v, ho, hwn, hr, hK⟩ | ⟨_, o, v, ho, hy, hK⟩
    · obtain ⟨w1, hr, hC⟩ := hr w hw
      unfold wpOp
      simp only [ho, hwn, if_true]
      refine .inl ?_
      unfold Oper.wp
      rw [hr]
      exact any_of_headX hL f true _ _ w1 hC hK
    · exact wpOp_of_qOp hw (fun a' w' hw' h' => any_of_headX hL f b _ a' w' hw' h') ((hy b).qOp (K := HeadX P ops C n x L f b (listed.setIfInBounds i true)) ho hK)

theorem yields2_put {oi oj : Oper} {v u : Value} {a : Act} (hsi : ∀ cs b, oi.op ≠ .select cs b) (hap : oi.apart ops oj = true) (hy : Yields2 P ops C oi v a) : Yields2 P ops C oi v (a.put oj.dst u) := by
  obtain ⟨h1, h2, h3⟩ := Oper.apart_spec hap
  exact fun b => (hy b).of_same (execOp_put oi hsi a oj.dst u h3) (wanted_put oi a oj.dst u h3)
theorem yields2_back {oi oj : Oper} {v u : Value} {a : Act} (hsj : ∀ cs b, oj.op ≠ .select cs b) (hap : oi.apart ops oj = true) (hy : Yields2 P ops C oj u (a.put oi.dst v)) : Yields2 P ops C oj u a := by
  obtain ⟨h1, h2, h3⟩ := Oper.apart_spec hap
  exact fun b => (hy b).of_same (execOp_put oj hsj a oi.dst v h1).symm (wanted_put oj a oi.dst v h1).symm

theorem headX_first {n x i : Nat} {oi : Oper} {v : Value} {L : Array Bool → Act → Prop} (hi : ops[i]? = some oi) (hix : i ≠ x) (hsel : ∀ (j : Nat) (o : Oper) cs b, ops[j]? = some o → o.op ≠ .select cs b)
    (hs : Region.sinkB .any ops n = true) (hc : Region.chainB .any ops n = true) (hn : n < ops.size) (hin : i < n)
    (hdone : ∀ listed a, L listed a → ∀ j ∈ Region.ready .any ops listed, n ≤ j) :
    ∀ (f : Nat) (b : Bool) (listed : Array Bool) (a : Act), HeadInv .any ops n listed →
      (∀ j oj, ops[j]? = some oj → j ≠ i → listed.getD j true = false → (∀ e ∈ oj.after, Region.binds .any e = true → e.on ≠ i) → oi.apart ops oj = true) →
      i ∈ Region.ready .any ops listed → Yields2 P ops C oi v a →
      HeadX P ops C n x L f b (listed.setIfInBounds i true) (a.put oi.dst v) → HeadX P ops C n x L (f + 1) b listed a
  | 0, b, listed, a, inv, _, hr, hy, H => by
    refine ⟨fun h => (by rw [h] at hr; cases hr), fun j hj => ⟨head_only hs hc hn hin inv hr hj, ?_⟩⟩
    by_cases hji : j = i
    · subst hji
      exact .inr ⟨hix, oi, v, hi, hy, H⟩
    · have h1 := hdone _ _ H.2 j (ready_mono hj hji)
      have h2 := head_only hs hc hn hin inv hr hj
      omega
  | f + 1, b, listed, a, inv, hfree, hr, hy, H => by
    refine ⟨fun h => (by rw [h] at hr; cases hr), fun j hj => ⟨head_only hs hc hn hin inv hr hj, ?_⟩⟩
    by_cases hji : j = i
    · subst hji
      exact .inr ⟨hix, oi, v, hi, hy, H⟩
    · obtain ⟨hjun, oj, hoj, hall⟩ := mem_ready.1 hj
      have hnot : ∀ e ∈ oj.after, Region.binds .any e = true → e.on ≠ i := fun e he hb heq => by
        have h1 := hall e he hb
        rw [heq, getD_both (mem_ready.1 hr).1] at h1
        cases h1
      have hap := hfree j oj hoj hji hjun hnot
      obtain ⟨p1, p2, p3⟩ := Oper.apart_spec hap
      have hfree' : ∀ k ok, ops[k]? = some ok → k ≠ i → (listed.setIfInBounds j true).getD k true = false → (∀ e ∈ ok.after, Region.binds .any e = true → e.on ≠ i) → oi.apart ops ok = true := fun k ok hk hki hun hno => by
        refine hfree k ok hk hki ?_ hno
        by_cases hjk : j = k
        · subst hjk
          exact hjun
        · rwa [getD_set_ne true hjk] at hun
      have inv' := inv.set hj (head_only hs hc hn hin inv hr hj)
      rcases (H.2 j (ready_mono hj hji)).2 with ⟨hjx, hb, o, u, ho, hwn, hrun, hK⟩ | ⟨hjx, o, u, ho, hyj, hK⟩
      · obtain rfl : oj = o := by rw [hoj] at ho; exact Option.some.inj ho
        refine .inl ⟨hjx, hb, oj, u, hoj, ?_, ?_, ?_⟩
        · rw [wanted_put oj a oi.dst v p1] at hwn
          exact hwn
        · intro w hw
          have := hrun w hw
          rwa [execOp_put oj (fun cs b => hsel j oj cs b hoj) a oi.dst v p1] at this
        · refine headX_first hi hix hsel hs hc hn hin hdone f true (listed.setIfInBounds j true) _ inv' hfree' (ready_mono hr (Ne.symm hji)) (yields2_put (fun cs b => hsel i oi cs b hi) hap hy) ?_
          rw [Array.setIfInBounds_comm _ _ hji, ← Act.put_comm a v u p2]
          exact hK
      · obtain rfl : oj = o := by rw [hoj] at ho; exact Option.some.inj ho
        refine .inr ⟨hjx, oj, u, hoj, yields2_back (fun cs b => hsel j oj cs b hoj) hap hyj, ?_⟩
        refine headX_first hi hix hsel hs hc hn hin hdone f b (listed.setIfInBounds j true) _ inv' hfree' (ready_mono hr (Ne.symm hji)) (yields2_put (fun cs b => hsel i oi cs b hi) hap hy) ?_
        rw [Array.setIfInBounds_comm _ _ hji, ← Act.put_comm a v u p2]
        exact hK

theorem headX_lex {x g : Nat} {ox : Oper} {p : Value} {Lq : Act → Prop} (hx : ops[x]? = some ox) (hsel : Region.noSelect ops = true) (hs : Region.sinkB .any ops (x + 1) = true) (hc : Region.chainB .any ops (x + 1) = true) (hn : x + 1 < ops.size)
    (hX : ∀ a : Act, Region.wanted ox (yielded ops a.tmps) = true ∧ ∀ w, C false w → ∃ w1, (execOp a.eval ox).run P w = .ok (.value p) w1 ∧ C true w1) :
    ∀ (l : List Oper) (k : Nat) (listed : Array Bool) (a : Act), (∀ j, j < l.length → l[j]? = ops[k + j]?) → k + l.length = x → HeadInv .any ops (x + 1) listed →
    Region.lexHead .any ops g (l.length + 1) k listed = true → wpFree P ops (fun a' => Lq (a'.put ox.dst p)) l a →
    HeadX P ops C (x + 1) x (fun listed' a' => Region.seqB .any ops g (x + 1) listed' = true ∧ Lq a') (l.length + 1) false listed a
  | [], k, listed, a, _, hk, inv, hB, h => by
    obtain rfl : k = x := by simpa using hk
    simp only [List.length_nil, Region.lexHead, Bool.and_eq_true] at hB
    obtain ⟨⟨hr, hf⟩, hB'⟩ := hB
    have hr' : k ∈ Region.ready .any ops listed := by simpa using hr
    refine ⟨fun h => (by rw [h] at hr'; cases hr'), fun j hj => ⟨head_only hs hc hn (by omega) inv hr' hj, ?_⟩⟩
    by_cases hjk : j = k
    · subst hjk
      exact .inl ⟨rfl, rfl, ox, p, hx, (hX a).1, (hX a).2, rfl, hB', h⟩
    · have h1 := seqB_ready hB' j (ready_mono hj hjk)
      have h2 := head_only hs hc hn (by omega) inv hr' hj
      omega
  | o :: l, k, listed, a, hl, hk, inv, hB, h => by
    have h0 : ops[k]? = some o := by simpa using (hl 0 (by simp)).symm
    simp only [List.length_cons] at hB hk ⊢
    rw [Region.lexHead] at hB
    simp only [Bool.and_eq_true] at hB
    obtain ⟨⟨hr, hf⟩, hB'⟩ := hB
    have hr' : k ∈ Region.ready .any ops listed := by simpa using hr
    have hst : ∃ v, Yields2 P ops C o v a ∧ wpFree P ops (fun a' => Lq (a'.put ox.dst p)) l (a.put o.dst v) := by
      unfold wpFree at h
      by_cases hw : Region.wanted o (yielded ops a.tmps) = true
      · simp only [hw, if_true] at h
        obtain ⟨v, h1, h2⟩ := h
        exact ⟨v, fun b => .inl ⟨hw, fun w hC => quietUpon_class hC (h1 w)⟩, h2⟩
      · simp only [hw] at h
        exact ⟨undef, fun b => .inr ⟨by simpa using hw, rfl⟩, h⟩
    obtain ⟨v, hy, hK⟩ := hst
    exact headX_first h0 (by omega) (Region.noSelect_spec hsel) hs hc hn (by omega) (fun _ _ hL => seqB_ready hL.1) (l.length + 1) false listed a inv (Region.free_spec h0 hf) hr' hy
      (headX_lex hx hsel hs hc hn hX l (k + 1) _ _ (fun j hj => by have := hl (j + 1) (by simp; omega); simpa [Nat.add_assoc, Nat.add_comm 1 j] using this) (by omega) (inv.set hr' (by omega)) hB' hK)

/-- The head in the order of the text, in whatever world; then the new block; then the tail. -/
theorem region_free {id : Nat} {Q : Exit → Act → World → Prop} {a : Act} {w w1 : World} {l : List Oper} {ox : Oper} {p : Value} (x : Nat) (hm : P.follows .mixedOrders = true) (hB : Region.lexTailB .any l.toArray (x + 1) = true) (hx : l[x]? = some ox)
    (hX : ∀ a : Act, Region.wanted ox (yielded l.toArray a.tmps) = true ∧ (execOp a.eval ox).run P w.drew = .ok (.value p) w1)
    (h : wpFree P l.toArray (fun a' => wpList P l.toArray Q (l.drop (x + 1)) (a'.put ox.dst p) w1) (l.take x) a) : (Code.region id l.toArray true).wp P Q a w := by
  simp only [Region.lexTailB, Bool.and_eq_true, decide_eq_true_eq] at hB
  obtain ⟨⟨⟨⟨hsel, hn⟩, hs⟩, hc⟩, hlex⟩ := hB
  have hn' : x + 1 < l.length := by simpa using hn
  have htl : (l.take x).length = x := by simp; omega
  have hdl : (l.drop (x + 1)).length = l.toArray.size - (x + 1) := by simp
  have inv0 : HeadInv .any l.toArray (x + 1) (Array.replicate l.toArray.size false) :=
    ⟨by simp, fun j oj _ hl => (by rw [getD_replicate_false] at hl; cases hl), fun t _ ht => getD_in (by simpa using ht) (getD_replicate_false _ _)⟩
  have H := headX_lex (C := fun b w' => w' = if b then w1 else w.drew) (g := l.toArray.size - (x + 1)) (Lq := fun a' => wpList P l.toArray Q (l.drop (x + 1)) a' w1) (by simpa using hx) hsel hs hc hn
    (fun a => ⟨(hX a).1, fun w' hw' => ⟨w1, by obtain rfl : w' = w.drew := hw'; exact (hX a).2, rfl⟩⟩) (l.take x) 0 _ a (fun j hj => by
      have hj' : j < x := by rw [htl] at hj; exact hj
      simp [hj']) (by simpa using htl) inv0 (by rw [htl]; exact hlex) h
  refine wp_region_any hm ?_
  have := any_of_headX (Q' := Q) (g := l.toArray.size - (x + 1)) (fun listed a' w' hw' hL => by
    obtain rfl : w' = w1 := hw'
    have := wpAny_of_seq (md := .any) (Q' := Q) (l.drop (x + 1)) (x + 1) listed a' w' (fun j => by simp [List.getElem?_drop]) (by rw [hdl]; exact hL.1) hL.2
    rwa [hdl] at this) _ _ _ _ w.drew rfl H
  rw [htl, show x + 1 + (l.toArray.size - (x + 1)) = l.toArray.size by omega] at this
  exact this
end
end Go.Proofs.Ytlgeajcncmlngaa
