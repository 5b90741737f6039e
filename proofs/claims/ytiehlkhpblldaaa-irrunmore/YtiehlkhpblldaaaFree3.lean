/- A region that draws its order: as in the text before this one, the worlds in between having one property. -/
import Derived.Test.YtiehlkhpblldaaaFree2
namespace Go.Proofs.Ytiehlkhpblldaaa
open Go Go.RowKit
set_option linter.unusedVariables false
section
variable {P : Program} {ops : Array Oper} {C : Nat → World → Prop} {D : World → Prop}
/-- Each operation yields one value in every world of D, and leaves the world alone. -/
def wpFreeD (P : Program) (ops : Array Oper) (D : World → Prop) (Q : Act → Prop) : List Oper → Act → Prop
  | [], a => Q a
  | o :: rest, a => if Region.wanted o (yielded ops a.tmps) then (∃ v, (∀ t : { w : World // D w }, Oper.quietUpon P (fun w' => w' = t.1) t.1 v ((execOp a.eval o).run P t.1)) ∧ wpFreeD P ops D Q rest (a.put o.dst v)) else wpFreeD P ops D Q rest (a.put o.dst undef)
theorem wpFreeD_nil {Q : Act → Prop} {a : Act} (h : Q a) : wpFreeD P ops D Q [] a := h
theorem wpFreeD_step {Q : Act → Prop} {a : Act} {o : Oper} {rest : List Oper}
    (h : ∀ K : Act → Prop, (∀ a, wpFreeD P ops D Q rest a → K a) → if Region.wanted o (yielded ops a.tmps) then (∃ v, (∀ t : { w : World // D w }, Oper.quietUpon P (fun w' => w' = t.1) t.1 v ((execOp a.eval o).run P t.1)) ∧ K (a.put o.dst v)) else K (a.put o.dst undef)) : wpFreeD P ops D Q (o :: rest) a :=
  h _ (fun _ h => h)
theorem headX_lexD {x m g : Nat} {L : Nat → Array Bool → Act → Prop} (hsel : Region.noSelect ops = true) (hs : Region.sinkB .any ops (x + m) = true) (hc : Region.chainB .any ops (x + m) = true) (hn : x + m < ops.size)
    (hL : ∀ s listed a, L s listed a → Region.seqB .any ops g (x + m) listed = true) (hCW : ∀ s w, C s w → D w) :
    ∀ (l : List Oper) (k : Nat) (listed : Array Bool) (a : Act), (∀ j, j < l.length → l[j]? = ops[k + j]?) → k + l.length = x → HeadInv .any ops (x + m) listed →
    Region.lexHead .any ops g (l.length + m) k listed = true → wpFreeD P ops D (fun a' => HeadX P ops C (x + m) x L m 0 (marks listed k l.length) a') l a →
    HeadX P ops C (x + m) x L (l.length + m) 0 listed a
  | [], k, listed, a, _, hk, inv, hB, h => by
    rw [List.length_nil, Nat.zero_add]
    exact h
  | o :: l, k, listed, a, hl, hk, inv, hB, h => by
    have h0 : ops[k]? = some o := by simpa using (hl 0 (by simp)).symm
    simp only [List.length_cons] at hB hk ⊢
    rw [show l.length + 1 + m = (l.length + m) + 1 by omega] at hB ⊢
    rw [Region.lexHead] at hB
    simp only [Bool.and_eq_true] at hB
    obtain ⟨⟨hr, hf⟩, hB'⟩ := hB
    have hr' : k ∈ Region.ready .any ops listed := by simpa using hr
    have hst : ∃ v, Yields2 P ops C o v a ∧ wpFreeD P ops D (fun a' => HeadX P ops C (x + m) x L m 0 (marks (listed.setIfInBounds k true) (k + 1) l.length) a') l (a.put o.dst v) := by
      unfold wpFreeD at h
      by_cases hw : Region.wanted o (yielded ops a.tmps) = true
      · simp only [hw, if_true] at h
        obtain ⟨v, h1, h2⟩ := h
        exact ⟨v, fun b => .inl ⟨hw, fun w hC => quietUpon_class hC (h1 ⟨w, hCW b w hC⟩)⟩, h2⟩
      · simp only [hw] at h
        exact ⟨undef, fun b => .inr ⟨by simpa using hw, rfl⟩, h⟩
    obtain ⟨v, hy', hK⟩ := hst
    exact headX_first h0 (by omega) (Region.noSelect_spec hsel) hs hc hn (by omega) (fun s _ _ h => seqB_ready (hL s _ _ h)) (l.length + m) 0 listed a inv (Region.free_spec h0 hf) hr' hy'
      (headX_lexD hsel hs hc hn hL hCW l (k + 1) _ _ (fun j hj => by have := hl (j + 1) (by simp; omega); simpa [Nat.add_assoc, Nat.add_comm 1 j] using this) (by omega) (inv.set hr' (by omega)) hB' hK)
/-- The head in the order of the text, in whatever world of D; then those that make memory, in any order; then the tail. -/
theorem region_mixD {id : Nat} {Q : Exit → Act → World → Prop} {a : Act} {w : World} {l : List Oper} (V : Nat → World) (D : World → Prop) (x m : Nat) (hm : P.follows .mixedOrders = true) (hB : Region.lexTailB .any l.toArray (x + m) = true)
    (hV : V 0 = w.drew) (hVW : ∀ s, D (V s))
    (h : wpFreeD P l.toArray D (fun a' => HeadX P l.toArray (fun s w' => w' = V s) (x + m) x (fun s listed a' => Region.seqB .any l.toArray (l.toArray.size - (x + m)) (x + m) listed = true ∧ wpList P l.toArray Q (l.drop (x + m)) a' (V s)) m 0 (marks (Array.replicate l.toArray.size false) 0 (l.take x).length) a') (l.take x) a) : (Code.region id l.toArray true).wp P Q a w := by
  simp only [Region.lexTailB, Bool.and_eq_true, decide_eq_true_eq] at hB
  obtain ⟨⟨⟨⟨hsel, hn⟩, hs⟩, hc⟩, hlex⟩ := hB
  have hn' : x + m < l.length := by simpa using hn
  have htl : (l.take x).length = x := by simp; omega
  have hdl : (l.drop (x + m)).length = l.toArray.size - (x + m) := by simp
  have inv0 : HeadInv .any l.toArray (x + m) (Array.replicate l.toArray.size false) :=
    ⟨by simp, fun j oj _ hl => (by rw [getD_replicate_false] at hl; cases hl), fun t _ ht => getD_in (by simpa using ht) (getD_replicate_false _ _)⟩
  have H := headX_lexD (D := D) (C := fun s w' => w' = V s) (g := l.toArray.size - (x + m)) (L := fun s listed a' => Region.seqB .any l.toArray (l.toArray.size - (x + m)) (x + m) listed = true ∧ wpList P l.toArray Q (l.drop (x + m)) a' (V s)) hsel hs hc hn (fun s _ _ h => h.1) (fun s w' hw' => by rw [hw']; exact hVW s) (l.take x) 0 _ a (fun j hj => by
      have hj' : j < x := by rw [htl] at hj; exact hj
      simp [hj']) (by simpa using htl) inv0 (by rw [htl]; exact hlex) h
  refine wp_region_any hm ?_
  have := any_of_headX (Q' := Q) (g := l.toArray.size - (x + m)) (fun s listed a' w' hw' hL => by
    obtain rfl : w' = V s := hw'
    have := wpAny_of_seq (md := .any) (Q' := Q) (l.drop (x + m)) (x + m) listed a' (V s) (fun j => by simp [List.getElem?_drop]) (by rw [hdl]; exact hL.1) hL.2
    rwa [hdl] at this) _ _ _ _ w.drew hV.symm H
  rw [htl, show x + m + (l.toArray.size - (x + m)) = l.toArray.size by omega] at this
  exact this
/-- append as an operation, by what it tells. -/
theorem run_append_op (ρ : Operand → Value) (dst : Option Tmp) (xs : Array Operand) (ats : Array TypeId) (ty : TypeId) (pos : String) (after : Array Edge) (guard : Option (Nat × Bool)) {w w' : World} {v : Value} {args : Array Value} (hx : xs.map ρ = args) (h : (Builtin.append_ ats ty args).run P w = .ok v w') :
    (execOp ρ { dst, op := .call { callee := .builtin .append, args := xs, argTypes := ats }, type := ty, pos, after, guard }).run P w = .ok (.value v) w' := by
  show (do pure (Next.value (← Builtin.append_ ats ty (xs.map ρ))) : Sem Next).run P w = _
  rw [hx]
  simp only [Sem.run_bind, h, Result.andThen_ok]
  rfl
/-- Two, one behind the other. -/
theorem headX_row2 {n x : Nat} {L : Nat → Array Bool → Act → Prop} {listed : Array Bool} {a : Act} (V : Nat → World) {ox oy : Oper} {p0 p1 : Value} (hx : ops[x]? = some ox) (hy : ops[x + 1]? = some oy) (hn : x + 1 < n)
    (r0 : Region.ready .any ops listed = [x]) (r1 : Region.ready .any ops (listed.setIfInBounds x true) = [x + 1])
    (hX : Region.wanted ox (yielded ops a.tmps) = true ∧ (execOp a.eval ox).run P (V 0) = .ok (.value p0) (V 1))
    (hY : Region.wanted oy (yielded ops (a.put ox.dst p0).tmps) = true ∧ (execOp (a.put ox.dst p0).eval oy).run P (V 1) = .ok (.value p1) (V 2))
    (h1 : L 2 ((listed.setIfInBounds x true).setIfInBounds (x + 1) true) ((a.put ox.dst p0).put oy.dst p1)) :
    HeadX P ops (fun s w' => w' = V s) n x L 2 0 listed a := by
  refine ⟨by rw [r0]; simp, fun i hi => ?_⟩
  rw [r0] at hi
  obtain rfl := List.mem_singleton.1 hi
  refine ⟨by omega, .inl ⟨Nat.le_refl _, ox, p0, 1, hx, hX.1, fun w hw => ⟨V 1, .inl (by rw [hw]; exact hX.2), rfl⟩, ?_⟩⟩
  refine ⟨by rw [r1]; simp, fun j hj => ?_⟩
  rw [r1] at hj
  obtain rfl := List.mem_singleton.1 hj
  exact ⟨by omega, .inl ⟨by omega, oy, p1, 2, hy, hY.1, fun w hw => ⟨V 2, .inl (by rw [hw]; exact hY.2), rfl⟩, h1⟩⟩
end
end Go.Proofs.Ytiehlkhpblldaaa
