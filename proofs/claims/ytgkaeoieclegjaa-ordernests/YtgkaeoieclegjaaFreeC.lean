/- As FreeP, over a class of worlds that calls may turn within. -/
import Derived.Test.YtgkaeoieclegjaaFreeP
namespace Go.Proofs.Ytgkaeoieclegjaa
open Go Go.RowKit
set_option linter.unusedVariables false
section
variable {P : Program} {ops : Array Oper} {C : World → Prop}
def InC (C : World → Prop) := { w : World // C w }
def wpFreeC (P : Program) (ops : Array Oper) (C : World → Prop) (Q : Act → Prop) : List Oper → Act → Prop
  | [], a => Q a
  | o :: rest, a => if Region.wanted o (yielded ops a.tmps) then (∃ v, (∀ t : InC C, Oper.quietUpon P C t.1 v ((execOp a.eval o).run P t.1)) ∧ wpFreeC P ops C Q rest (a.put o.dst v)) else wpFreeC P ops C Q rest (a.put o.dst undef)
theorem wpFreeC_nil {Q : Act → Prop} {a : Act} (h : Q a) : wpFreeC P ops C Q [] a := h
theorem wpFreeC_step {Q : Act → Prop} {a : Act} {o : Oper} {rest : List Oper}
    (h : ∀ K : Act → Prop, (∀ a, wpFreeC P ops C Q rest a → K a) → if Region.wanted o (yielded ops a.tmps) then (∃ v, (∀ t : InC C, Oper.quietUpon P C t.1 v ((execOp a.eval o).run P t.1)) ∧ K (a.put o.dst v)) else K (a.put o.dst undef)) : wpFreeC P ops C Q (o :: rest) a :=
  h _ (fun _ h => h)
theorem headC_lex {n m : Nat} {fr : Nat → Bool} {L : Unit → Array Bool → Act → Prop} (hsel : Region.noSelect ops = true) (hs : Region.sinkB .any ops n = true) (hc : Region.chainB .any ops n = true) (hn : n < ops.size)
    (hdone : ∀ s listed a, L s listed a → ∀ j ∈ Region.ready .any ops listed, n ≤ j) :
    ∀ (js : List Nat) (l : List Oper) (listed : Array Bool) (a : Act), (js.map (fun k => ops[k]?) = l.map some) → (∀ k ∈ js, fr k = true ∧ k < n) → HeadInv .any ops n listed → pickB ops js listed = true →
    wpFreeC P ops C (fun a' => HeadF P ops (fun _ : Unit => C) n fr L m () (marksF listed js) a') l a → HeadF P ops (fun _ : Unit => C) n fr L (js.length + m) () listed a
  | [], l, listed, a, hl, _, inv, hB, h => by
    have : l = [] := by cases l with
      | nil => rfl
      | cons x l => simp at hl
    subst this
    rw [List.length_nil, Nat.zero_add]
    exact h
  | k :: js, l, listed, a, hl, hk, inv, hB, h => by
    cases l with
    | nil => simp at hl
    | cons o l =>
      simp only [List.map_cons, List.cons.injEq] at hl
      obtain ⟨h0, hl⟩ := hl
      simp only [List.length_cons]
      rw [show js.length + 1 + m = (js.length + m) + 1 by omega]
      rw [pickB] at hB
      simp only [Bool.and_eq_true] at hB
      obtain ⟨⟨hr, hf⟩, hB'⟩ := hB
      have hr' : k ∈ Region.ready .any ops listed := by simpa using hr
      obtain ⟨hfr, hkn⟩ := hk k (by simp)
      have hst : ∃ v, YieldsB P ops (fun _ : Unit => C) o v a ∧ wpFreeC P ops C (fun a' => HeadF P ops (fun _ : Unit => C) n fr L m () (marksF (listed.setIfInBounds k true) js) a') l (a.put o.dst v) := by
        unfold wpFreeC at h
        by_cases hw : Region.wanted o (yielded ops a.tmps) = true
        · simp only [hw, if_true] at h
          obtain ⟨v, h1, h2⟩ := h
          exact ⟨v, fun b => .inl ⟨hw, fun w hC => h1 ⟨w, hC⟩⟩, h2⟩
        · simp only [hw] at h
          exact ⟨undef, fun b => .inr ⟨by simpa using hw, rfl⟩, h⟩
      obtain ⟨v, hy', hK⟩ := hst
      exact headF_first h0 hfr (Region.noSelect_spec hsel) hs hc hn hkn hdone (js.length + m) () listed a inv (Region.free_spec h0 hf) hr' hy'
        (headC_lex hsel hs hc hn hdone js l _ _ hl (fun j hj => hk j (by simp [hj])) (inv.set hr' hkn) hB' hK)
theorem region_pickC {id : Nat} {Q : Exit → Act → World → Prop} {a : Act} {w : World} {l : List Oper} (C : World → Prop) (n m : Nat) (fr : Nat → Bool) (js : List Nat) (hm : P.follows .mixedOrders = true)
    (hsel : Region.noSelect l.toArray = true) (hs : Region.sinkB .any l.toArray n = true) (hc : Region.chainB .any l.toArray n = true) (hn : n < l.length) (hjm : js.length + m = n)
    (hjs : ∀ k ∈ js, fr k = true ∧ k < n) (hB : pickB l.toArray js (Array.replicate l.toArray.size false) = true)
    (hC0 : C w.drew)
    (h : HeadInv .any l.toArray n (Array.replicate l.toArray.size false) → wpFreeC P l.toArray C (fun a' => HeadF P l.toArray (fun _ : Unit => C) n fr (fun s listed a' => Region.seqB .any l.toArray (l.toArray.size - n) n listed = true ∧ ∀ w', C w' → wpList P l.toArray Q (l.drop n) a' w') m () (marksF (Array.replicate l.toArray.size false) js) a') (js.filterMap (fun k => l[k]?)) a) : (Code.region id l.toArray true).wp P Q a w := by
  have hn' : n < l.toArray.size := by simpa using hn
  have hdl : (l.drop n).length = l.toArray.size - n := by simp
  have inv0 : HeadInv .any l.toArray n (Array.replicate l.toArray.size false) :=
    ⟨by simp, fun j oj _ hl => (by rw [getD_replicate_false] at hl; cases hl), fun t _ ht => getD_in (by simpa using ht) (getD_replicate_false _ _)⟩
  have H := headC_lex (C := C) (fr := fr) (L := fun (s : Unit) listed a' => Region.seqB .any l.toArray (l.toArray.size - n) n listed = true ∧ ∀ w', C w' → wpList P l.toArray Q (l.drop n) a' w') hsel hs hc hn' (fun s _ _ h => seqB_ready h.1) js _ _ a (pick_ops l js (fun k hk => by have := (hjs k hk).2; omega)) hjs inv0 hB (h inv0)
  refine wp_region_any hm ?_
  have := any_of_headF (C := fun _ : Unit => C) (Q' := Q) (g := l.toArray.size - n) (fun s listed a' w' hw' hL => by
    have := wpAny_of_seq (md := .any) (Q' := Q) (l.drop n) n listed a' w' (fun j => by simp [List.getElem?_drop]) (by rw [hdl]; exact hL.1) (hL.2 w' hw')
    rwa [hdl] at this) _ _ _ _ w.drew hC0 H
  rw [hjm, show n + (l.toArray.size - n) = l.toArray.size by omega] at this
  exact this
end
end Go.Proofs.Ytgkaeoieclegjaa
