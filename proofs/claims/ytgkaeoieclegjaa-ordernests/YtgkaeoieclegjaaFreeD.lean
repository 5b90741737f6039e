/- As FreeP, over classes that step through; what is free tells the same over a class that all of them lie in. -/
import Derived.Test.YtgkaeoieclegjaaFreeC
namespace Go.Proofs.Ytgkaeoieclegjaa
open Go Go.RowKit
set_option linter.unusedVariables false
section
variable {P : Program} {ops : Array Oper} {σ : Type} {C : σ → World → Prop} {D : World → Prop}
def wpFreeD (P : Program) (ops : Array Oper) (D : World → Prop) (Q : Act → Prop) : List Oper → Act → Prop
  | [], a => Q a
  | o :: rest, a => if Region.wanted o (yielded ops a.tmps) then (∃ v, (∀ t : InC D, Oper.quietUpon P (fun w' => Below t.1.heap.size t.1 w') t.1 v ((execOp a.eval o).run P t.1)) ∧ wpFreeD P ops D Q rest (a.put o.dst v)) else wpFreeD P ops D Q rest (a.put o.dst undef)
theorem wpFreeD_nil {Q : Act → Prop} {a : Act} (h : Q a) : wpFreeD P ops D Q [] a := h
theorem wpFreeD_step {Q : Act → Prop} {a : Act} {o : Oper} {rest : List Oper}
    (h : ∀ K : Act → Prop, (∀ a, wpFreeD P ops D Q rest a → K a) → if Region.wanted o (yielded ops a.tmps) then (∃ v, (∀ t : InC D, Oper.quietUpon P (fun w' => Below t.1.heap.size t.1 w') t.1 v ((execOp a.eval o).run P t.1)) ∧ K (a.put o.dst v)) else K (a.put o.dst undef)) : wpFreeD P ops D Q (o :: rest) a :=
  h _ (fun _ h => h)
theorem headD_lex {n m : Nat} {fr : Nat → Bool} {L : σ → Array Bool → Act → Prop} (hsel : Region.noSelect ops = true) (hs : Region.sinkB .any ops n = true) (hc : Region.chainB .any ops n = true) (hn : n < ops.size)
    (hdone : ∀ s listed a, L s listed a → ∀ j ∈ Region.ready .any ops listed, n ≤ j) (hCW : ∀ s w, C s w → D w) (hCB : ∀ s w w', C s w → Below w.heap.size w w' → C s w') (s0 : σ) :
    ∀ (js : List Nat) (l : List Oper) (listed : Array Bool) (a : Act), (js.map (fun k => ops[k]?) = l.map some) → (∀ k ∈ js, fr k = true ∧ k < n) → HeadInv .any ops n listed → pickB ops js listed = true →
    wpFreeD P ops D (fun a' => HeadF P ops C n fr L m s0 (marksF listed js) a') l a → HeadF P ops C n fr L (js.length + m) s0 listed a
  | [], l, listed, a, hl, _, inv, hB, h => by
    have : l = [] := by cases l with
      | nil => rfl
      | cons x l => simp at hl
    subst this
    rw [List.length_nil, Nat.zero_add]
    exact h
  | k :: js, l, listed, a, hl, hk, inv, hB, h => by
    cases l with
    | nil => simp at hl
    | cons o l =>
      simp only [List.map_cons, List.cons.injEq] at hl
      obtain ⟨h0, hl⟩ := hl
      simp only [List.length_cons]
      rw [show js.length + 1 + m = (js.length + m) + 1 by omega]
      rw [pickB] at hB
      simp only [Bool.and_eq_true] at hB
      obtain ⟨⟨hr, hf⟩, hB'⟩ := hB
      have hr' : k ∈ Region.ready .any ops listed := by simpa using hr
      obtain ⟨hfr, hkn⟩ := hk k (by simp)
      have hst : ∃ v, YieldsB P ops C o v a ∧ wpFreeD P ops D (fun a' => HeadF P ops C n fr L m s0 (marksF (listed.setIfInBounds k true) js) a') l (a.put o.dst v) := by
        unfold wpFreeD at h
        by_cases hw : Region.wanted o (yielded ops a.tmps) = true
        · simp only [hw, if_true] at h
          obtain ⟨v, h1, h2⟩ := h
          exact ⟨v, fun b => .inl ⟨hw, fun w hC => quietUpon_classB (fun w' hw' => hCB b w w' hC hw') (h1 ⟨w, hCW b w hC⟩)⟩, h2⟩
        · simp only [hw] at h
          exact ⟨undef, fun b => .inr ⟨by simpa using hw, rfl⟩, h⟩
      obtain ⟨v, hy', hK⟩ := hst
      exact headF_first h0 hfr (Region.noSelect_spec hsel) hs hc hn hkn hdone (js.length + m) s0 listed a inv (Region.free_spec h0 hf) hr' hy'
        (headD_lex hsel hs hc hn hdone hCW hCB s0 js l _ _ hl (fun j hj => hk j (by simp [hj])) (inv.set hr' hkn) hB' hK)
theorem region_pickD {id : Nat} {Q : Exit → Act → World → Prop} {a : Act} {w : World} {l : List Oper} (D : World → Prop) (C : σ → World → Prop) (s0 : σ) (n m : Nat) (fr : Nat → Bool) (js : List Nat) (hm : P.follows .mixedOrders = true)
    (hsel : Region.noSelect l.toArray = true) (hs : Region.sinkB .any l.toArray n = true) (hc : Region.chainB .any l.toArray n = true) (hn : n < l.length) (hjm : js.length + m = n)
    (hjs : ∀ k ∈ js, fr k = true ∧ k < n) (hB : pickB l.toArray js (Array.replicate l.toArray.size false) = true)
    (hC0 : C s0 w.drew) (hCW : ∀ s w', C s w' → D w') (hCB : ∀ s w1 w', C s w1 → Below w1.heap.size w1 w' → C s w')
    (h : HeadInv .any l.toArray n (Array.replicate l.toArray.size false) → wpFreeD P l.toArray D (fun a' => HeadF P l.toArray C n fr (fun s listed a' => Region.seqB .any l.toArray (l.toArray.size - n) n listed = true ∧ ∀ w', C s w' → wpList P l.toArray Q (l.drop n) a' w') m s0 (marksF (Array.replicate l.toArray.size false) js) a') (js.filterMap (fun k => l[k]?)) a) : (Code.region id l.toArray true).wp P Q a w := by
  have hn' : n < l.toArray.size := by simpa using hn
  have hdl : (l.drop n).length = l.toArray.size - n := by simp
  have inv0 : HeadInv .any l.toArray n (Array.replicate l.toArray.size false) :=
    ⟨by simp, fun j oj _ hl => (by rw [getD_replicate_false] at hl; cases hl), fun t _ ht => getD_in (by simpa using ht) (getD_replicate_false _ _)⟩
  have H := headD_lex (D := D) (C := C) (fr := fr) (L := fun s listed a' => Region.seqB .any l.toArray (l.toArray.size - n) n listed = true ∧ ∀ w', C s w' → wpList P l.toArray Q (l.drop n) a' w') hsel hs hc hn' (fun s _ _ h => seqB_ready h.1) hCW hCB s0 js _ _ a (pick_ops l js (fun k hk => by have := (hjs k hk).2; omega)) hjs inv0 hB (h inv0)
  refine wp_region_any hm ?_
  have := any_of_headF (Q' := Q) (g := l.toArray.size - n) (fun s listed a' w' hw' hL => by
    have := wpAny_of_seq (md := .any) (Q' := Q) (l.drop n) n listed a' w' (fun j => by simp [List.getElem?_drop]) (by rw [hdl]; exact hL.1) (hL.2 w' hw')
    rwa [hdl] at this) _ _ _ _ w.drew hC0 H
  rw [hjm, show n + (l.toArray.size - n) = l.toArray.size by omega] at this
  exact this
end
end Go.Proofs.Ytgkaeoieclegjaa
