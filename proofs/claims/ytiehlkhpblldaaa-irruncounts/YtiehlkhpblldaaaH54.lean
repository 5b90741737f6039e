/- The document's Count and Run, as they are called. -/
import Derived.Test.YtiehlkhpblldaaaH00
import Derived.Test.YtiehlkhpblldaaaH52
import Derived.Test.YtiehlkhpblldaaaH53
set_option linter.unusedVariables false
set_option linter.unusedSimpArgs false
set_option maxRecDepth 20000
set_option maxHeartbeats 8000000
namespace Go.Proofs.Ytiehlkhpblldaaa
open Go.RowKit Go.Maps
theorem count12 {W : World} {p : Pg} (hp : Pg.ok W p) {input : ByteArray} (hin : input.size ≤ big2) {fuel deep sf sa : Int} (hfu : fuel ≤ 32768) {sv : Value} {sl : List Int} (hsv : Src icell W sv sl) (hsl : sl.length * 8 ≤ big) :
    Calls Try.prog 12 #[p.val, .string input, .int .i64 fuel, .int .i64 deep, .int .i64 sa, sv, .int .i64 sf] W fun e w' => e = .returned (.tuple #[.int .i64 (dcntN p input fuel deep sf sa sv sl), (dcntE p input fuel deep sf sa sv sl).val]) ∧ Below W.heap.size W w' := by
  unfold dcntN dcntE
  cases h : pgF p with
  | false =>
    rw [if_neg (by decide), if_neg (by decide)]
    exact count12_no hp h
  | true =>
    rw [if_pos rfl, if_pos rfl]
    exact count12_yes hp hin hfu hsv hsl h
end Go.Proofs.Ytiehlkhpblldaaa
namespace Go.Proofs.Ytiehlkhpblldaaa
open Go Go.RowKit
section
variable {P : Program} {ops : Array Oper} {σ : Type} {C : σ → World → Prop} {W : World}
/-- Operation i comes up in state a, the worlds being of class s. -/
def xOpF (P : Program) (ops : Array Oper) (C : σ → World → Prop) (fr : Nat → Bool) (i : Nat) (K : σ → Act → Prop) (s : σ) (a : Act) : Prop :=
  (fr i = false ∧ ∃ o, ops[i]? = some o ∧ Region.wanted o (yielded ops a.tmps) = true ∧ ∀ w, C s w →
    (∃ v s' w1, (execOp a.eval o).run P w = .ok (.value v) w1 ∧ C s' w1 ∧ K s' (a.put o.dst v)) ∨
    (∃ f args, (execOp a.eval o).run P w = .ok (.enter f args) w ∧ Calls P f args w fun e w1 => ∃ v s', e = .returned v ∧ C s' w1 ∧ K s' (a.put o.dst v))) ∨
  (fr i = true ∧ ∃ o v, ops[i]? = some o ∧ YieldsB P ops C o v a ∧ K s (a.put o.dst v))
/-- Whatever order is picked for the head, L holds behind it. -/
def HeadF (P : Program) (ops : Array Oper) (C : σ → World → Prop) (n : Nat) (fr : Nat → Bool) (L : σ → Array Bool → Act → Prop) : Nat → σ → Array Bool → Act → Prop
  | 0, s, listed, a => L s listed a
  | f + 1, s, listed, a => Region.ready .any ops listed ≠ [] ∧
      ∀ i ∈ Region.ready .any ops listed, i < n ∧ xOpF P ops C fr i (fun s' a' => HeadF P ops C n fr L f s' (listed.setIfInBounds i true) a') s a
theorem any_of_headF {n g : Nat} {fr : Nat → Bool} {L : σ → Array Bool → Act → Prop} {Q' : Exit → Act → World → Prop} (hL : ∀ s listed a w, C s w → L s listed a → wpAny P .any ops Q' g listed a w) :
    ∀ (f : Nat) (s : σ) (listed : Array Bool) (a : Act) (w : World), C s w → HeadF P ops C n fr L f s listed a → wpAny P .any ops Q' (f + g) listed a w
  | 0, s, listed, a, w, hw, h => by
    rw [Nat.zero_add]; exact hL _ _ _ _ hw h
  | f + 1, s, listed, a, w, hw, h => by
    have e : f + 1 + g = (f + g) + 1 := by omega
    rw [e]
    refine ⟨fun h0 => absurd h0 h.1, fun i hi => ?_⟩
    rcases (h.2 i hi).2 with ⟨_, o, ho, hwn, hr⟩ | ⟨_, o, v, ho, hy, hK⟩
    · unfold wpOp
      simp only [ho, hwn, if_true]
      refine .inl ?_
      unfold Oper.wp
      rcases hr w hw with ⟨v, s', w1, hr1, hC, hK⟩ | ⟨fu, args, hr1, hcall⟩
      · rw [hr1]
        exact any_of_headF hL f s' _ _ w1 hC hK
      · rw [hr1, Oper.upon_enter]
        refine hcall.mono ?_
        rintro e w1 ⟨v, s', rfl, hC, hK⟩
        exact any_of_headF hL f s' _ _ w1 hC hK
    · exact wpOp_of_qOp hw (fun a' w' hw' h' => any_of_headF hL f s _ a' w' hw' h') ((hy s).qOp (K := HeadF P ops C n fr L f s (listed.setIfInBounds i true)) ho hK)

theorem headF_first {n i : Nat} {fr : Nat → Bool} {oi : Oper} {v : Value} {L : σ → Array Bool → Act → Prop} (hi : ops[i]? = some oi) (hix : fr i = true) (hsel : ∀ (j : Nat) (o : Oper) cs b, ops[j]? = some o → o.op ≠ .select cs b)
    (hs : Region.sinkB .any ops n = true) (hc : Region.chainB .any ops n = true) (hn : n < ops.size) (hin : i < n)
    (hdone : ∀ s listed a, L s listed a → ∀ j ∈ Region.ready .any ops listed, n ≤ j) :
    ∀ (f : Nat) (b : σ) (listed : Array Bool) (a : Act), HeadInv .any ops n listed →
      (∀ j oj, ops[j]? = some oj → j ≠ i → listed.getD j true = false → (∀ e ∈ oj.after, Region.binds .any e = true → e.on ≠ i) → oi.apart ops oj = true) →
      i ∈ Region.ready .any ops listed → YieldsB P ops C oi v a →
      HeadF P ops C n fr L f b (listed.setIfInBounds i true) (a.put oi.dst v) → HeadF P ops C n fr L (f + 1) b listed a
  | 0, b, listed, a, inv, _, hr, hy, H => by
    refine ⟨fun h => (by rw [h] at hr; cases hr), fun j hj => ⟨head_only hs hc hn hin inv hr hj, ?_⟩⟩
    by_cases hji : j = i
    · subst hji
      exact .inr ⟨hix, oi, v, hi, hy, H⟩
    · have h1 := hdone _ _ _ H j (ready_mono hj hji)
      have h2 := head_only hs hc hn hin inv hr hj
      omega
  | f + 1, b, listed, a, inv, hfree, hr, hy, H => by
    refine ⟨fun h => (by rw [h] at hr; cases hr), fun j hj => ⟨head_only hs hc hn hin inv hr hj, ?_⟩⟩
    by_cases hji : j = i
    · subst hji
      exact .inr ⟨hix, oi, v, hi, hy, H⟩
    · obtain ⟨hjun, oj, hoj, hall⟩ := mem_ready.1 hj
      have hnot : ∀ e ∈ oj.after, Region.binds .any e = true → e.on ≠ i := fun e he hb heq => by
        have h1 := hall e he hb
        rw [heq, getD_both (mem_ready.1 hr).1] at h1
        cases h1
      have hap := hfree j oj hoj hji hjun hnot
      obtain ⟨p1, p2, p3⟩ := Oper.apart_spec hap
      have hfree' : ∀ k ok, ops[k]? = some ok → k ≠ i → (listed.setIfInBounds j true).getD k true = false → (∀ e ∈ ok.after, Region.binds .any e = true → e.on ≠ i) → oi.apart ops ok = true := fun k ok hk hki hun hno => by
        refine hfree k ok hk hki ?_ hno
        by_cases hjk : j = k
        · subst hjk
          exact hjun
        · rwa [getD_set_ne true hjk] at hun
      have inv' := inv.set hj (head_only hs hc hn hin inv hr hj)
      rcases (H.2 j (ready_mono hj hji)).2 with ⟨hjx, o, ho, hwn, hrun⟩ | ⟨hjx, o, u, ho, hyj, hK⟩
      · obtain rfl : oj = o := by rw [hoj] at ho; exact Option.some.inj ho
        refine .inl ⟨hjx, oj, hoj, ?_, ?_⟩
        · rw [wanted_put oj a oi.dst v p1] at hwn
          exact hwn
        · intro w hw
          have turn : ∀ s' u, HeadF P ops C n fr L f s' ((listed.setIfInBounds i true).setIfInBounds j true) ((a.put oi.dst v).put oj.dst u) → HeadF P ops C n fr L (f + 1) s' (listed.setIfInBounds j true) (a.put oj.dst u) := fun s' u hK => by
            refine headF_first hi hix hsel hs hc hn hin hdone f s' (listed.setIfInBounds j true) _ inv' hfree' (ready_mono hr (Ne.symm hji)) (yieldsB_put (fun cs b => hsel i oi cs b hi) hap hy) ?_
            rw [Array.setIfInBounds_comm _ _ hji, ← Act.put_comm a v u p2]
            exact hK
          rcases hrun w hw with ⟨u, s', w1, hr1, hC1, hK⟩ | ⟨fu, args, hr1, hcall⟩
          · rw [execOp_put oj (fun cs b => hsel j oj cs b hoj) a oi.dst v p1] at hr1
            exact .inl ⟨u, s', w1, hr1, hC1, turn s' u hK⟩
          · rw [execOp_put oj (fun cs b => hsel j oj cs b hoj) a oi.dst v p1] at hr1
            exact .inr ⟨fu, args, hr1, hcall.mono fun e w1 ⟨u, s', he, hC1, hK⟩ => ⟨u, s', he, hC1, turn s' u hK⟩⟩
      · obtain rfl : oj = o := by rw [hoj] at ho; exact Option.some.inj ho
        refine .inr ⟨hjx, oj, u, hoj, yieldsB_back (fun cs b => hsel j oj cs b hoj) hap hyj, ?_⟩
        refine headF_first hi hix hsel hs hc hn hin hdone f b (listed.setIfInBounds j true) _ inv' hfree' (ready_mono hr (Ne.symm hji)) (yieldsB_put (fun cs b => hsel i oi cs b hi) hap hy) ?_
        rw [Array.setIfInBounds_comm _ _ hji, ← Act.put_comm a v u p2]
        exact hK


/-- May these come first, one behind the other? -/
def pickB (ops : Array Oper) : List Nat → Array Bool → Bool
  | [], _ => true
  | k :: js, listed => (Region.ready .any ops listed).contains k && Region.free .any ops listed k && pickB ops js (listed.setIfInBounds k true)
def marksF (listed : Array Bool) : List Nat → Array Bool
  | [] => listed
  | k :: js => marksF (listed.setIfInBounds k true) js
theorem headF_lex {n m : Nat} {fr : Nat → Bool} {L : σ → Array Bool → Act → Prop} (hsel : Region.noSelect ops = true) (hs : Region.sinkB .any ops n = true) (hc : Region.chainB .any ops n = true) (hn : n < ops.size)
    (hdone : ∀ s listed a, L s listed a → ∀ j ∈ Region.ready .any ops listed, n ≤ j) (hCW : ∀ s w, C s w → Below W.heap.size W w) (hCB : ∀ s w w', C s w → Below w.heap.size w w' → C s w') (s0 : σ) :
    ∀ (js : List Nat) (l : List Oper) (listed : Array Bool) (a : Act), (js.map (fun k => ops[k]?) = l.map some) → (∀ k ∈ js, fr k = true ∧ k < n) → HeadInv .any ops n listed → pickB ops js listed = true →
    wpFreeB P ops W (fun a' => HeadF P ops C n fr L m s0 (marksF listed js) a') l a → HeadF P ops C n fr L (js.length + m) s0 listed a
  | [], l, listed, a, hl, _, inv, hB, h => by
    have : l = [] := by cases l with
      | nil => rfl
      | cons x l => simp at hl
    subst this
    rw [List.length_nil, Nat.zero_add]
    exact h
  | k :: js, l, listed, a, hl, hk, inv, hB, h => by
    cases l with
    | nil => simp at hl
    | cons o l =>
      simp only [List.map_cons, List.cons.injEq] at hl
      obtain ⟨h0, hl⟩ := hl
      simp only [List.length_cons]
      rw [show js.length + 1 + m = (js.length + m) + 1 by omega]
      rw [pickB] at hB
      simp only [Bool.and_eq_true] at hB
      obtain ⟨⟨hr, hf⟩, hB'⟩ := hB
      have hr' : k ∈ Region.ready .any ops listed := by simpa using hr
      obtain ⟨hfr, hkn⟩ := hk k (by simp)
      have hst : ∃ v, YieldsB P ops C o v a ∧ wpFreeB P ops W (fun a' => HeadF P ops C n fr L m s0 (marksF (listed.setIfInBounds k true) js) a') l (a.put o.dst v) := by
        unfold wpFreeB at h
        by_cases hw : Region.wanted o (yielded ops a.tmps) = true
        · simp only [hw, if_true] at h
          obtain ⟨v, h1, h2⟩ := h
          exact ⟨v, fun b => .inl ⟨hw, fun w hC => quietUpon_classB (fun w' hw' => hCB b w w' hC hw') (h1 ⟨w, hCW b w hC⟩)⟩, h2⟩
        · simp only [hw] at h
          exact ⟨undef, fun b => .inr ⟨by simpa using hw, rfl⟩, h⟩
      obtain ⟨v, hy', hK⟩ := hst
      exact headF_first h0 hfr (Region.noSelect_spec hsel) hs hc hn hkn hdone (js.length + m) s0 listed a inv (Region.free_spec h0 hf) hr' hy'
        (headF_lex hsel hs hc hn hdone hCW hCB s0 js l _ _ hl (fun j hj => hk j (by simp [hj])) (inv.set hr' hkn) hB' hK)
/-- One of the others. -/
theorem headF_step {n f : Nat} {fr : Nat → Bool} {L : σ → Array Bool → Act → Prop} {s : σ} {listed : Array Bool} {a : Act} (r : List Nat) (hr : Region.ready .any ops listed = r) (hne : r ≠ []) (h : ∀ i ∈ r, i < n ∧ xOpF P ops C fr i (fun s' a' => HeadF P ops C n fr L f s' (listed.setIfInBounds i true) a') s a) : HeadF P ops C n fr L (f + 1) s listed a := by
  subst hr
  exact ⟨hne, h⟩
theorem pick_ops (l : List Oper) : ∀ js : List Nat, (∀ k ∈ js, k < l.length) → js.map (fun k => l.toArray[k]?) = (js.filterMap (fun k => l[k]?)).map some
  | [], _ => rfl
  | k :: js, h => by
    have hk := h k (by simp)
    rw [List.map_cons, List.filterMap_cons_some (List.getElem?_eq_getElem hk), List.map_cons, pick_ops l js (fun j hj => h j (by simp [hj]))]
    simp [hk]
theorem region_pick {id : Nat} {Q : Exit → Act → World → Prop} {a : Act} {w : World} {l : List Oper} (C : σ → World → Prop) (s0 : σ) (n m : Nat) (fr : Nat → Bool) (js : List Nat) (hm : P.follows .mixedOrders = true)
    (hsel : Region.noSelect l.toArray = true) (hs : Region.sinkB .any l.toArray n = true) (hc : Region.chainB .any l.toArray n = true) (hn : n < l.length) (hjm : js.length + m = n)
    (hjs : ∀ k ∈ js, fr k = true ∧ k < n) (hB : pickB l.toArray js (Array.replicate l.toArray.size false) = true)
    (hC0 : C s0 w.drew) (hCW : ∀ s w', C s w' → Below w.heap.size w w') (hCB : ∀ s w1 w', C s w1 → Below w1.heap.size w1 w' → C s w')
    (h : HeadInv .any l.toArray n (Array.replicate l.toArray.size false) → wpFreeB P l.toArray w (fun a' => HeadF P l.toArray C n fr (fun s listed a' => Region.seqB .any l.toArray (l.toArray.size - n) n listed = true ∧ ∀ w', C s w' → wpList P l.toArray Q (l.drop n) a' w') m s0 (marksF (Array.replicate l.toArray.size false) js) a') (js.filterMap (fun k => l[k]?)) a) : (Code.region id l.toArray true).wp P Q a w := by
  have hn' : n < l.toArray.size := by simpa using hn
  have hdl : (l.drop n).length = l.toArray.size - n := by simp
  have inv0 : HeadInv .any l.toArray n (Array.replicate l.toArray.size false) :=
    ⟨by simp, fun j oj _ hl => (by rw [getD_replicate_false] at hl; cases hl), fun t _ ht => getD_in (by simpa using ht) (getD_replicate_false _ _)⟩
  have H := headF_lex (W := w) (C := C) (fr := fr) (L := fun s listed a' => Region.seqB .any l.toArray (l.toArray.size - n) n listed = true ∧ ∀ w', C s w' → wpList P l.toArray Q (l.drop n) a' w') hsel hs hc hn' (fun s _ _ h => seqB_ready h.1) hCW hCB s0 js _ _ a (pick_ops l js (fun k hk => by have := (hjs k hk).2; omega)) hjs inv0 hB (h inv0)
  refine wp_region_any hm ?_
  have := any_of_headF (Q' := Q) (g := l.toArray.size - n) (fun s listed a' w' hw' hL => by
    have := wpAny_of_seq (md := .any) (Q' := Q) (l.drop n) n listed a' w' (fun j => by simp [List.getElem?_drop]) (by rw [hdl]; exact hL.1) (hL.2 w' hw')
    rwa [hdl] at this) _ _ _ _ w.drew hC0 H
  rw [hjm, show n + (l.toArray.size - n) = l.toArray.size by omega] at this
  exact this
def invB (ops : Array Oper) (n : Nat) (listed : Array Bool) : Bool :=
  decide (listed.size = ops.size) && ((List.range ops.size).all (fun j => !(listed.getD j false) || match ops[j]? with
    | some oj => oj.after.all (fun e => !(Region.binds .any e) || listed.getD e.on false)
    | none => true) && (List.range ops.size).all (fun t => decide (t < n) || !(listed.getD t true)))
theorem inv_of {n : Nat} {listed : Array Bool} (h : invB ops n listed = true) : HeadInv .any ops n listed := by
  unfold invB at h
  simp only [Bool.and_eq_true, decide_eq_true_eq, List.all_eq_true, List.mem_range] at h
  obtain ⟨h1, h2, h3⟩ := h
  refine ⟨h1, fun j oj hj hl e he hb => ?_, fun t ht ht' => ?_⟩
  · have hlt := (Array.getElem?_eq_some_iff.1 hj).1
    have := h2 j hlt
    rw [hl, hj] at this
    simp only [Bool.not_true, Bool.false_or] at this
    have := Array.all_eq_true_iff_forall_mem.1 this e he
    rw [hb] at this
    simpa using this
  · have := h3 t ht'
    simp only [Bool.or_eq_true, decide_eq_true_eq, Bool.not_eq_true'] at this
    exact this.resolve_left (by omega)
end
end Go.Proofs.Ytiehlkhpblldaaa
namespace Go.Proofs.Ytiehlkhpblldaaa
open Go.RowKit Go.Maps
section
variable {C : Cst}
theorem run_same {s : St} {j k : Nat} (hj : (runN C j s).kind ≠ 0) (hk : (runN C k s).kind ≠ 0) : runN C j s = runN C k s := by
  rcases Nat.le_total j k with h | h
  · obtain ⟨e, rfl⟩ := Nat.exists_eq_add_of_le h
    rw [runN_add, runN_end C hj]
  · obtain ⟨e, rfl⟩ := Nat.exists_eq_add_of_le h
    rw [runN_add, runN_end C hk]
theorem d0_ok (P : PgOk C.p) {fuel : Int} (hf : fuel ≤ 32768) : DOk C 1 (d0D C.p fuel C.p.data.length) := by
  have hg := P.gl
  have hl : (laidN C.p C.p.data.length).length = C.p.global.toNat := laidN_len _ _
  refine ⟨⟨by show (laidN C.p _).length ≤ 65536; rw [hl]; omega, stk_len, by show (8126464 : Int) ≤ 8388608 ∧ (8388608 : Int) ≤ 8388608; decide⟩, ⟨fun o => ?_, fun o => ?_⟩, hf, by show (0 : Int) ≤ 0 ∧ (0 : Int) + fuel.toNat + 1 ≤ 40000; omega, by show 0 + fuel.toNat + 1 ≤ 40000; omega, Nat.zero_le _, by show (0 : Int) ≤ 0 ∧ (0 : Int) + fuel.toNat + 1 ≤ 40000; omega, fun k hk => by cases hk⟩
  · have hc := (st0_core P fuel).mem.gb
    exact bytes_get2 hc o
  · show 0 ≤ stk0.getD o 0 ∧ stk0.getD o 0 < 256
    exact bytes_get2 (bytes_rep 262144) o
theorem st0_rel (p : Pg) (fuel : Int) : RelM (st0 p fuel) (d0D p fuel p.data.length) := by
  have hcur : ∀ fn i, cur (st0 p fuel) fn i = ⟨0, 0⟩ := fun fn i => by
    unfold cur regsOf
    have : (st0 p fuel).banks.getD fn none = none := by
      show (List.replicate p.funcs.length (none : Option (List Rg))).getD fn none = none
      simp only [List.getD]
      rw [List.getElem?_replicate]
      split <;> rfl
    rw [this]
    rfl
  refine ⟨rfl, rfl, rfl, rfl, rfl, ⟨rfl, rfl, fun a h1 h2 => ?_⟩, rfl, rfl, rfl, ⟨fun fn i => ?_, fun e he => by cases he⟩⟩
  · have h1 : (8388608 : Int) ≤ a := h1
    omega
  · rw [hcur]
    exact Int.le_refl _
/-- The same comes of both machines. -/
theorem both_same (P : PgOk C.p) {fuel : Int} (hf : fuel ≤ 32768) : (runF C fuel).times = (runD C fuel).2.count ∧ enOf (runF C fuel) = enD (runD C fuel) := by
  have hend := runF_ends P hf
  have hm := P.main
  have hpm := P.pm
  have hk := st1_kpt P hf
  have h := sim_enter P (sim P (fuel.toNat + 1)) (st0_rel C.p fuel) (st0_core P fuel) (fun c hc => by cases hc) (fn := C.p.main.toNat) (by omega) (xs := []) (by show (0 : Int) = _; exact hpm.symm) (fun k => by simp [List.getD]) (d0_ok P hf) rfl rfl (m := fuel.toNat + 1) (by show fuel.toNat < _; omega) (by show fuel.toNat < _; omega) hk
  unfold runD callD
  have est : entF C (st0 C.p fuel) C.p.main.toNat (fnOf C C.p.main.toNat) [] = st1 C fuel := rfl
  rw [est] at h
  rcases h with ⟨g1, g2⟩ | ⟨g1, nc, g2, k, g3⟩
  · rw [if_pos g1]
    have e : runF C fuel = trapF (st0 C.p fuel) 3 := by
      unfold runF
      rw [g2]
      exact runN_end C (by show (2 : Int) ≠ 0; decide) _
    rw [e]
    refine ⟨rfl, ?_⟩
    unfold enD
    rw [if_neg (show ¬ (({ d0D C.p fuel C.p.data.length with trap := 3 } : Ds).over = true) by show ¬ (false = true); decide)]
    rfl
  · rw [if_neg g1]
    generalize bodyD C (fuel.toNat + 1) C.p.main.toNat 0 (-1) (regD [] (fnOf C C.p.main.toNat).regs.toNat) (begD (d0D C.p fuel C.p.data.length) (fnOf C C.p.main.toNat).slots.toNat) = q at *
    have hrun : (runN C k (st1 C fuel)).kind ≠ 0 → runF C fuel = runN C k (st1 C fuel) := fun hk' => run_same hend hk'
    rcases g3 with ⟨o1, o2, o3, o4⟩ | ⟨o1, o2, o3, o4, o5⟩ | ⟨o1, o2, s0, c0, l0, o3, o4, o5⟩
    · have e := hrun (by rw [o2]; decide)
      rw [e]
      refine ⟨o4.times, ?_⟩
      unfold enD enOf
      have ho : (endC q.2 (fnOf C C.p.main.toNat).slots).over = true := o1
      rw [if_pos ho, if_pos ho, if_pos ho, o2, o3, o4.code, o4.out, o4.used]
      rfl
    · have e := hrun (by rw [o3]; decide)
      rw [e]
      refine ⟨o5.times, ?_⟩
      unfold enD enOf
      have ho : ¬ (endC q.2 (fnOf C C.p.main.toNat).slots).over = true := by show ¬ q.2.over = true; rw [o1]; decide
      have htr : (endC q.2 (fnOf C C.p.main.toNat).slots).trap ≠ 0 := o2
      rw [if_neg ho, if_neg ho, if_neg ho, if_pos htr, if_pos htr, o3, o4, o5.code, o5.out, o5.used]
      rfl
    · have hN : (fnOf C c0.fn).slots = (fnOf C C.p.main.toNat).slots := by rw [o5, g2]
      obtain ⟨a1, a2, a3, a4, a5, a6⟩ := left_all P o4 hN
      have hlv : levF C s0 c0 q.1 = exitS (leftS s0 c0 (fnOf C C.p.main.toNat).slots) q.1 := by
        unfold levF
        dsimp only
        rw [hN, a3]
        rfl
      rw [hlv] at o3
      have e := hrun (by rw [o3]; show (1 : Int) ≠ 0; decide)
      rw [e, o3]
      refine ⟨a1.times, ?_⟩
      unfold enD enOf exitS
      have ho : ¬ (endC q.2 (fnOf C C.p.main.toNat).slots).over = true := by show ¬ q.2.over = true; rw [o1]; decide
      have htr : ¬ (endC q.2 (fnOf C C.p.main.toNat).slots).trap ≠ 0 := fun z => z o2
      rw [if_neg ho, if_neg ho, if_neg ho, if_neg htr, if_neg htr]
      have t0 : (endC q.2 (fnOf C C.p.main.toNat).slots).trap = 0 := o2
      rw [t0]
      dsimp only
      rw [a1.trap, a1.out, a1.used]
end
theorem cnt_same (p : Pg) (input : ByteArray) {fuel : Int} (deep sf sa : Int) (sv : Value) (sl : List Int) (hf : fuel ≤ 32768) : cntN p input fuel deep sf sa sv sl = dcntN p input fuel deep sf sa sv sl ∧ cntE p input fuel deep sf sa sv sl = dcntE p input fuel deep sf sa sv sl := by
  unfold cntN cntE dcntN dcntE
  cases h : pgF p with
  | false => exact ⟨rfl, rfl⟩
  | true =>
    rw [if_pos rfl, if_pos rfl, if_pos rfl, if_pos rfl]
    exact both_same (C := cstOf p input deep sf sa sv sl) (pg_ok h) hf
end Go.Proofs.Ytiehlkhpblldaaa
namespace Go.Proofs.Ytiehlkhpblldaaa
open Go.RowKit Go.Maps
section
variable {W : World} {p : Pg} {x : ByteArray} {f g : Int}
theorem light_fuel (h : lightF p f = true) : f ≤ 32768 := by
  unfold lightF at h
  simp only [Bool.and_eq_true, decide_eq_true_eq] at h
  exact h.1
end
end Go.Proofs.Ytiehlkhpblldaaa
namespace Go.Proofs.Ytiehlkhpblldaaa
open Go.RowKit Go.Maps
section
variable {W : World} {p : Pg} {x : ByteArray} {f g a n : Int} {sv : Value} {sl : List Int}
set_option maxHeartbeats 20000000 in
theorem counts4_no (hp : Pg.ok W p) (hs : Src icell W sv sl) (h : lightF p f = false) :
    Calls Try.prog 4 #[p.val, .string x, .agg #[.int .i64 f, .int .i64 g, .int .i64 a, sv, .int .i64 n]] W fun e w' => e = .returned (.bool true) ∧ Below W.heap.size W w' := by
  have H7 : Hid (∀ w1, Below W.heap.size W w1 → _) := fun w1 hb => light7 (hp.on hb) f g
  rw [h] at H7
  obtain ⟨so, sc, rfl⟩ := hs.len
  obtain ⟨fv, funcs, gl, dv, data, main⟩ := p
  unfold Pg.val at *
  dsimp only at *
  clear hp h hs
  go_enter Try.func4, Try.ntmps4
  go_wp2_with (first
    | (go_at_call 7; refine (H7.out _ (below2 _ _ _)).mono ?_; rintro e1 w1 ⟨rfl, hb1⟩)
    | (go_at_call 8; refine (awake8 _).mono ?_; rintro e3 w3 ⟨rfl, hb3⟩))
  go_ret
  exact ⟨rfl, below_up (below_up (below2 _ _ _) hb1) hb3⟩
/-- The counted registers' memory does not matter. -/
theorem runN_sv (p : Pg) (input : ByteArray) (deep sf sa : Int) (sv sv' : Value) (sl : List Int) : ∀ (k : Nat) (s : St), runN (cstOf p input deep sf sa sv sl) k s = runN (cstOf p input deep sf sa sv' sl) k s
  | 0, s => rfl
  | k + 1, s => by
    unfold runN
    have e : stepF (cstOf p input deep sf sa sv sl) s = stepF (cstOf p input deep sf sa sv' sl) s := rfl
    rw [e, runN_sv p input deep sf sa sv sv' sl k]
theorem cnt_sv (p : Pg) (input : ByteArray) (fuel deep sf sa : Int) (sv sv' : Value) (sl : List Int) : cntN p input fuel deep sf sa sv sl = cntN p input fuel deep sf sa sv' sl ∧ cntE p input fuel deep sf sa sv sl = cntE p input fuel deep sf sa sv' sl := by
  have e : runF (cstOf p input deep sf sa sv sl) fuel = runF (cstOf p input deep sf sa sv' sl) fuel := by
    unfold runF
    have : st1 (cstOf p input deep sf sa sv sl) fuel = st1 (cstOf p input deep sf sa sv' sl) fuel := rfl
    rw [this, runN_sv p input deep sf sa sv sv' sl]
  unfold cntN cntE
  rw [e]
  exact ⟨rfl, rfl⟩
/-- What has been made. -/
structure Mk where
  e : Option Nat
  av : Option Value
  al : Option Nat
def zero31 : Array Value := #[.int .i64 0, .int .i32 0, .int .i64 0, .string ⟨#[]⟩, .int .i64 0]
structure MkC (w1 : World) (sl : List Int) (s : Mk) (w : World) : Prop where
  below : Below w1.heap.size w1 w
  e : ∀ b, s.e = some b → w1.heap.size ≤ b ∧ w.heap[b]? = some (.cells #[] 3 (0, 0))
  av : ∀ v, s.av = some v → Src icell w v sl
  al : ∀ c, s.al = some c → w1.heap.size ≤ c ∧ w.heap[c]? = some (.cells zero31 31 (0, 0))
theorem MkC.on {w1 : World} {s : Mk} {w w' : World} (h : MkC w1 sl s w) (hb : Below w.heap.size w w') : MkC w1 sl s w' :=
  ⟨below_on h.below hb h.below.size, fun b e => ⟨(h.e b e).1, by rw [hb.block _ (Array.getElem?_eq_some_iff.1 (h.e b e).2).1]; exact (h.e b e).2⟩, fun v e => (h.av v e).below (Nat.le_refl _) hb, fun c e => ⟨(h.al c e).1, by rw [hb.block _ (Array.getElem?_eq_some_iff.1 (h.al c e).2).1]; exact (h.al c e).2⟩⟩
theorem MkC.build {w1 : World} {al : Option Nat} {w : World} (h : MkC w1 sl ⟨none, none, al⟩ w) : MkC w1 sl ⟨some w.heap.size, none, al⟩ (w.alloc (.cells #[] 3)) := by
  have := h.on (below1 w (.cells #[] 3))
  exact ⟨this.below, (fun b e => by injection e with e; subst e; exact ⟨h.below.size, heap_alloc_new _ _⟩), (fun v e => by cases e), this.al⟩
theorem MkC.alloc {w1 : World} {e : Option Nat} {av : Option Value} {w : World} (h : MkC w1 sl ⟨e, av, none⟩ w) : MkC w1 sl ⟨e, av, some w.heap.size⟩ (w.alloc (.cells zero31 31)) := by
  have := h.on (below1 w (.cells zero31 31))
  exact ⟨this.below, this.e, this.av, fun b e => by injection e with e; subst e; exact ⟨h.below.size, heap_alloc_new _ _⟩⟩
theorem inf3c : (Try.prog.info? 3).map (fun i => (i.zero, i.size, i.bytes)) = some (some (.int .i64 0), 1, 8) := by kernel_rfl
theorem MkC.app {w1 : World} {b : Nat} {al : Option Nat} {w : World} {xv : Value} (h : MkC w1 sl ⟨some b, none, al⟩ w) (hx : Src icell w xv sl) (hsl : sl.length * 8 ≤ big) : ∃ v' w', (∀ ty, (Builtin.append_ #[34, 34] ty #[.slice (some ⟨b, 0, none⟩) 0 0, xv]).run Try.prog w = .ok v' w') ∧ MkC w1 sl ⟨none, some v', al⟩ w' := by
  obtain ⟨hb, hc⟩ := h.e b rfl
  have ho : Own 3 1 icell w w1.heap.size (.slice (some ⟨b, 0, none⟩) 0 0) [] := ⟨rfl, .inr ⟨b, 0, #[], rfl, hb, hc, Nat.le_refl _, Nat.zero_le _, by simp, by simp; rfl⟩⟩
  unfold big at hsl
  obtain ⟨v', w', h1, h2, h3, _⟩ := append_own (f := icell) (st := 34) (et := 3) (bytes := 8) ic1 (by intro y u hu; simp only [icell, List.mem_singleton] at hu; subst hu; rfl) Try.underlying34 inf3c rfl (by decide) ho hx (by simp; omega) (by simp; unfold maxLen; omega) h.below.size 0
  have h1' : ∀ ty, (Builtin.append_ #[34, 34] ty #[.slice (some ⟨b, 0, none⟩) 0 0, xv]).run Try.prog w = .ok v' w' := fun ty => h1
  have K : Kept (fun q => (Value.slice (some ⟨b, 0, none⟩) 0 0).ownBlock = some q) w w' := grown_kept h3
  have hbl : Below w1.heap.size w1 w' := h.below.trans (K.below h.below.size (fun k e => by have e : some b = some k := e; injection e with e; omega))
  rw [List.nil_append] at h2
  refine ⟨v', w', h1', hbl, (fun b e => by cases e), (fun v e => by injection e with e; subst e; exact h2.src ic1), fun c e => ?_⟩
  obtain ⟨c1, c2⟩ := h.al c e
  refine ⟨c1, ?_⟩
  rw [K.block _ (Array.getElem?_eq_some_iff.1 c2).1 (fun e => ?_)]
  · exact c2
  · have e : some b = some c := e
    injection e with e
    subst e
    rw [hc] at c2
    injection c2 with c2
    injection c2 with _ c2
    exact absurd c2 (by decide)
set_option maxHeartbeats 40000000 in
theorem counts4_yes (hp : Pg.ok W p) (hx : x.size ≤ big2) (hs : Src icell W sv sl) (hsl : sl.length * 8 ≤ big) (h : lightF p f = true) :
    Calls Try.prog 4 #[p.val, .string x, .agg #[.int .i64 f, .int .i64 g, .int .i64 a, sv, .int .i64 n]] W fun e w' => e = .returned (.bool true) ∧ Below W.heap.size W w' := by
  have hfu := light_fuel h
  have H7 : Hid (∀ w1, Below W.heap.size W w1 → _) := fun w1 hb => light7 (hp.on hb) f g
  have H11 : Hid (∀ w1, Below W.heap.size W w1 → ∀ v, Src icell w1 v sl → Calls Try.prog 11 #[p.val, .string x, .int .i64 f, .int .i64 g, .int .i64 a, v, .int .i64 n] w1 fun e w' => e = .returned (.tuple #[.int .i64 (cntN p x f g n a sv sl), (cntE p x f g n a sv sl).val]) ∧ Below w1.heap.size w1 w') := fun w1 hb v hv => by
    have := count11 (hp.on hb) hx (deep := g) (sf := n) (sa := a) hfu hv hsl
    rw [(cnt_sv p x f g n a v sv sl).1, (cnt_sv p x f g n a v sv sl).2] at this
    exact this
  have H12 : Hid (∀ w1, Below W.heap.size W w1 → _) := fun w1 hb => count12 (hp.on hb) hx (deep := g) (sf := n) (sa := a) hfu (hs.below (Nat.le_refl _) hb) hsl
  obtain ⟨ecn, ece⟩ := cnt_same p x g n a sv sl hfu
  rw [← ecn, ← ece] at H12
  have HS := hid' hs
  have HSL := hid' hsl
  obtain ⟨so, sc, es⟩ := hs.len
  generalize cntE p x f g n a sv sl = E at *
  generalize cntN p x f g n a sv sl = N at *
  obtain ⟨k, c, t, o, u⟩ := E
  subst es
  rw [h] at H7
  obtain ⟨fv, funcs, gl, dv, data, main⟩ := p
  unfold Pg.val En.val at *
  dsimp only at *
  clear hp hx hs hsl h hfu ecn ece
  go_enter Try.func4, Try.ntmps4
  go_upto_region 3 with (go_at_call 7; refine (H7.out _ (below2 _ _ _)).mono ?_; rintro e1 w1 ⟨rfl, hb1⟩; obtain ⟨hp1, hr1, hB1, hs1⟩ := blk2 hb1; have HR1 := hid' hr1; have HP1 := hid' hp1; have HB1 := hid' hB1; clear hr1 hp1 hB1 hb1)
  have P0 : ∀ w2 : World, Below w1.heap.size w1 w2 → ∀ j, w2.cell? ⟨W.heap.size, j, none⟩ = (#[fv, .int .i64 gl, dv, .int .i64 main] : Array Value)[j]? := fun w2 hb j => cell_of_row w2 W.heap.size j _ 25 (0, 0) (by rw [hb.block _ (by omega)]; exact HP1.out)
  have A0 : ∀ w2 : World, Below w1.heap.size w1 w2 → ∀ j, w2.cell? ⟨W.heap.size + 1, j, none⟩ = (#[.int .i64 f, .int .i64 g, .int .i64 a, .slice so sl.length sc, .int .i64 n] : Array Value)[j]? := fun w2 hb j => cell_of_row w2 (W.heap.size + 1) j _ 36 (0, 0) (by rw [hb.block _ hs1]; exact HR1.out)
  have HP0 := hid' P0
  have HA0 := hid' A0
  go_cut [7, 8] (fun nv pv wx => ∃ b, nv = .int .i64 N ∧ pv = .pointer (some ⟨b, 0, none⟩) ∧ Below w1.heap.size w1 wx ∧ w1.heap.size ≤ b ∧ wx.heap[b]? = some (.cells #[.int .i64 k, .int .i32 c, .int .i64 t, .string o, .int .i64 u] 31 (0, 0)))
  case first =>
    have r0 := fun q : After w1 => P0 q.1 q.2 0
    have r1 := fun q : After w1 => P0 q.1 q.2 1
    have r2 := fun q : After w1 => P0 q.1 q.2 2
    have r3 := fun q : After w1 => P0 q.1 q.2 3
    have y0 := fun q : After w1 => A0 q.1 q.2 0
    have y1 := fun q : After w1 => A0 q.1 q.2 1
    have y2 := fun q : After w1 => A0 q.1 q.2 2
    have y3 := fun q : After w1 => A0 q.1 q.2 3
    have y4 := fun q : After w1 => A0 q.1 q.2 4
    simp only [List.getElem?_toArray, List.getElem?_cons_succ, List.getElem?_cons_zero] at r0 r1 r2 r3 y0 y1 y2 y3 y4
    have hne := after_some w1
    refine region_pick (MkC w1 sl) ⟨none, none, none⟩ 20 8 (fun k => decide (k ≠ 8 ∧ k ≠ 11 ∧ k ≠ 14 ∧ k ≠ 18)) [0, 1, 2, 3, 4, 5, 6, 7, 9, 10, 12, 13] mixed (by kernel_rfl) (by kernel_rfl) (by kernel_rfl) (by simp) rfl (by decide) (by kernel_rfl) ⟨⟨rfl, rfl, rfl, Nat.le_refl _, fun _ _ => rfl⟩, (fun b e => by cases e), (fun b e => by cases e), (fun b e => by cases e)⟩ (fun s w' h => h.below) (fun s w2 w' h hb => h.on hb) (fun _ => ?_)
    simp only [List.filterMap_cons, List.filterMap_nil, List.getElem?_cons_zero, List.getElem?_cons_succ]
    repeat (
      refine wpFreeB_step (fun K hK => ?_)
      go_simp
      first
        | (refine hK _ ?_; clear hK K)
        | (apply Exists.intro
           refine ⟨fun _ => ?_, hK _ ?_⟩
           (with_reducible rfl)
           clear hK K))
    refine wpFreeB_nil ?_
    refine headF_step [8, 18] (by kernel_rfl) (by simp) (fun i hi => ?_)
    simp only [List.mem_cons, List.not_mem_nil, or_false] at hi
    rcases hi with rfl | rfl
    · refine ⟨by omega, .inl ⟨by decide, _, rfl, by simp [Region.wanted], fun w hw => .inl ⟨.slice (some ⟨w.heap.size, 0, none⟩) 0 0, ⟨some w.heap.size, none, none⟩, _, ?_, hw.build, ?_⟩⟩⟩
      · simp [go_sem]
      · clear hw
        generalize w.heap.size = b1
        refine headF_step [11, 18] (by kernel_rfl) (by simp) (fun i hi => ?_)
        simp only [List.mem_cons, List.not_mem_nil, or_false] at hi
        rcases hi with rfl | rfl
        · refine ⟨by omega, .inl ⟨by decide, _, rfl, by simp [Region.wanted], fun w hw => ?_⟩⟩
          obtain ⟨v1, w7, hr, hC⟩ := hw.app (HS.out.below (Nat.le_refl _) (below_up HB1.out hw.below)) HSL.out
          refine .inl ⟨v1, ⟨none, some v1, none⟩, w7, ?_, hC, ?_⟩
          · simp [execOp, resolve, invoke, builtin, Act.eval, Act.put, hr, Result.andThen]
          · clear hr hC hw
            refine headF_step [14, 18] (by kernel_rfl) (by simp) (fun i hi => ?_)
            simp only [List.mem_cons, List.not_mem_nil, or_false] at hi
            rcases hi with rfl | rfl
            · refine ⟨by omega, .inl ⟨by decide, _, rfl, by simp [Region.wanted], fun w hw => ?_⟩⟩
              refine .inr ⟨11, #[.agg #[fv, .int .i64 gl, dv, .int .i64 main], .string x, .int .i64 f, .int .i64 g, .int .i64 a, v1, .int .i64 n], ?_, (H11.out _ (below_up HB1.out hw.below) v1 (hw.av v1 rfl)).mono ?_⟩
              · simp [execOp, resolve, invoke, Act.eval, Act.put, Deferred.ofValue, go_sem, Try.func11]
              · rintro e5 w5 ⟨rfl, hb5⟩
                refine ⟨_, ⟨none, some v1, none⟩, rfl, hw.on hb5, ?_⟩
                clear hb5 hw
                refine headF_lex (W := w1) (m := 2) (by kernel_rfl) (by kernel_rfl) (by kernel_rfl) (by simp) (fun s _ _ h => seqB_ready h.1) (fun s w' h => h.below) (fun s w2 w' h hb => h.on hb) _ [15, 16, 17] _ _ _ (pick_ops _ [15, 16, 17] (by simp)) (by decide) (inv_of (by kernel_rfl)) (by kernel_rfl) ?_
                simp only [List.filterMap_cons, List.filterMap_nil, List.getElem?_cons_zero, List.getElem?_cons_succ]
                repeat (
                  refine wpFreeB_step (fun K hK => ?_)
                  go_simp
                  first
                    | (refine hK _ ?_; clear hK K)
                    | (apply Exists.intro
                       refine ⟨fun _ => ?_, hK _ ?_⟩
                       (with_reducible rfl)
                       clear hK K))
                refine wpFreeB_nil ?_
                refine headF_step [18] (by kernel_rfl) (by simp) (fun i hi => ?_)
                obtain rfl : i = 18 := by simpa using hi
                refine ⟨by omega, .inl ⟨by decide, _, rfl, by simp [Region.wanted], fun w hw => .inl ⟨.pointer (some ⟨w.heap.size, 0, none⟩), ⟨none, some v1, some w.heap.size⟩, _, ?_, hw.alloc, ?_⟩⟩⟩
                · simp [go_sem, zero31]
                · clear hw
                  generalize w.heap.size = cb
                  refine headF_lex (W := w1) (m := 0) (by kernel_rfl) (by kernel_rfl) (by kernel_rfl) (by simp) (fun s _ _ h => seqB_ready h.1) (fun s w' h => h.below) (fun s w2 w' h hb => h.on hb) _ [19] _ _ _ (pick_ops _ [19] (by simp)) (by decide) (inv_of (by kernel_rfl)) (by kernel_rfl) ?_
                  simp only [List.filterMap_cons, List.filterMap_nil, List.getElem?_cons_zero, List.getElem?_cons_succ]
                  repeat (
                    refine wpFreeB_step (fun K hK => ?_)
                    go_simp
                    first
                      | (refine hK _ ?_; clear hK K)
                      | (apply Exists.intro
                         refine ⟨fun _ => ?_, hK _ ?_⟩
                         (with_reducible rfl)
                         clear hK K))
                  refine wpFreeB_nil ?_
                  refine ⟨by kernel_rfl, fun w9 hw9 => ?_⟩
                  obtain ⟨hc1, hc2⟩ := hw9.al cb rfl
                  unfold zero31 at hc2
                  obtain ⟨d0, d1, d2, d3, d4, df⟩ := res5 hc2
                  obtain ⟨h9, hK9⟩ := set5 (w := w9) (u0 := .int .i64 k) (u1 := .int .i32 c) (u2 := .int .i64 t) (u3 := .string o) (u4 := .int .i64 u) hc2
                  have hBW := hw9.below.trans (hK9.below hw9.below.size (fun q e => by omega))
                  have H9 := hid' h9
                  have HBW := hid' hBW
                  clear h9 hK9 hBW hc2 hw9
                  go_wp2_with fail
                  go_meet
                  exact ⟨_, rfl, rfl, HBW.out, hc1, H9.out⟩
            · refine ⟨by omega, .inl ⟨by decide, _, rfl, by simp [Region.wanted], fun w hw => .inl ⟨.pointer (some ⟨w.heap.size, 0, none⟩), ⟨none, some v1, some w.heap.size⟩, _, ?_, hw.alloc, ?_⟩⟩⟩
              · simp [go_sem, zero31]
              · clear hw
                generalize w.heap.size = cb
                refine headF_step [14] (by kernel_rfl) (by simp) (fun i hi => ?_)
                obtain rfl : i = 14 := by simpa using hi
                refine ⟨by omega, .inl ⟨by decide, _, rfl, by simp [Region.wanted], fun w hw => ?_⟩⟩
                refine .inr ⟨11, #[.agg #[fv, .int .i64 gl, dv, .int .i64 main], .string x, .int .i64 f, .int .i64 g, .int .i64 a, v1, .int .i64 n], ?_, (H11.out _ (below_up HB1.out hw.below) v1 (hw.av v1 rfl)).mono ?_⟩
                · simp [execOp, resolve, invoke, Act.eval, Act.put, Deferred.ofValue, go_sem, Try.func11]
                · rintro e5 w5 ⟨rfl, hb5⟩
                  refine ⟨_, ⟨none, some v1, (some cb)⟩, rfl, hw.on hb5, ?_⟩
                  clear hb5 hw
                  refine headF_lex (W := w1) (m := 0) (by kernel_rfl) (by kernel_rfl) (by kernel_rfl) (by simp) (fun s _ _ h => seqB_ready h.1) (fun s w' h => h.below) (fun s w2 w' h hb => h.on hb) _ [15, 16, 17, 19] _ _ _ (pick_ops _ [15, 16, 17, 19] (by simp)) (by decide) (inv_of (by kernel_rfl)) (by kernel_rfl) ?_
                  simp only [List.filterMap_cons, List.filterMap_nil, List.getElem?_cons_zero, List.getElem?_cons_succ]
                  repeat (
                    refine wpFreeB_step (fun K hK => ?_)
                    go_simp
                    first
                      | (refine hK _ ?_; clear hK K)
                      | (apply Exists.intro
                         refine ⟨fun _ => ?_, hK _ ?_⟩
                         (with_reducible rfl)
                         clear hK K))
                  refine wpFreeB_nil ?_
                  refine ⟨by kernel_rfl, fun w9 hw9 => ?_⟩
                  obtain ⟨hc1, hc2⟩ := hw9.al cb rfl
                  unfold zero31 at hc2
                  obtain ⟨d0, d1, d2, d3, d4, df⟩ := res5 hc2
                  obtain ⟨h9, hK9⟩ := set5 (w := w9) (u0 := .int .i64 k) (u1 := .int .i32 c) (u2 := .int .i64 t) (u3 := .string o) (u4 := .int .i64 u) hc2
                  have hBW := hw9.below.trans (hK9.below hw9.below.size (fun q e => by omega))
                  have H9 := hid' h9
                  have HBW := hid' hBW
                  clear h9 hK9 hBW hc2 hw9
                  go_wp2_with fail
                  go_meet
                  exact ⟨_, rfl, rfl, HBW.out, hc1, H9.out⟩
        · refine ⟨by omega, .inl ⟨by decide, _, rfl, by simp [Region.wanted], fun w hw => .inl ⟨.pointer (some ⟨w.heap.size, 0, none⟩), ⟨some b1, none, some w.heap.size⟩, _, ?_, hw.alloc, ?_⟩⟩⟩
          · simp [go_sem, zero31]
          · clear hw
            generalize w.heap.size = cb
            refine headF_step [11] (by kernel_rfl) (by simp) (fun i hi => ?_)
            obtain rfl : i = 11 := by simpa using hi
            refine ⟨by omega, .inl ⟨by decide, _, rfl, by simp [Region.wanted], fun w hw => ?_⟩⟩
            obtain ⟨v1, w7, hr, hC⟩ := hw.app (HS.out.below (Nat.le_refl _) (below_up HB1.out hw.below)) HSL.out
            refine .inl ⟨v1, ⟨none, some v1, (some cb)⟩, w7, ?_, hC, ?_⟩
            · simp [execOp, resolve, invoke, builtin, Act.eval, Act.put, hr, Result.andThen]
            · clear hr hC hw
              refine headF_step [14] (by kernel_rfl) (by simp) (fun i hi => ?_)
              obtain rfl : i = 14 := by simpa using hi
              refine ⟨by omega, .inl ⟨by decide, _, rfl, by simp [Region.wanted], fun w hw => ?_⟩⟩
              refine .inr ⟨11, #[.agg #[fv, .int .i64 gl, dv, .int .i64 main], .string x, .int .i64 f, .int .i64 g, .int .i64 a, v1, .int .i64 n], ?_, (H11.out _ (below_up HB1.out hw.below) v1 (hw.av v1 rfl)).mono ?_⟩
              · simp [execOp, resolve, invoke, Act.eval, Act.put, Deferred.ofValue, go_sem, Try.func11]
              · rintro e5 w5 ⟨rfl, hb5⟩
                refine ⟨_, ⟨none, some v1, (some cb)⟩, rfl, hw.on hb5, ?_⟩
                clear hb5 hw
                refine headF_lex (W := w1) (m := 0) (by kernel_rfl) (by kernel_rfl) (by kernel_rfl) (by simp) (fun s _ _ h => seqB_ready h.1) (fun s w' h => h.below) (fun s w2 w' h hb => h.on hb) _ [15, 16, 17, 19] _ _ _ (pick_ops _ [15, 16, 17, 19] (by simp)) (by decide) (inv_of (by kernel_rfl)) (by kernel_rfl) ?_
                simp only [List.filterMap_cons, List.filterMap_nil, List.getElem?_cons_zero, List.getElem?_cons_succ]
                repeat (
                  refine wpFreeB_step (fun K hK => ?_)
                  go_simp
                  first
                    | (refine hK _ ?_; clear hK K)
                    | (apply Exists.intro
                       refine ⟨fun _ => ?_, hK _ ?_⟩
                       (with_reducible rfl)
                       clear hK K))
                refine wpFreeB_nil ?_
                refine ⟨by kernel_rfl, fun w9 hw9 => ?_⟩
                obtain ⟨hc1, hc2⟩ := hw9.al cb rfl
                unfold zero31 at hc2
                obtain ⟨d0, d1, d2, d3, d4, df⟩ := res5 hc2
                obtain ⟨h9, hK9⟩ := set5 (w := w9) (u0 := .int .i64 k) (u1 := .int .i32 c) (u2 := .int .i64 t) (u3 := .string o) (u4 := .int .i64 u) hc2
                have hBW := hw9.below.trans (hK9.below hw9.below.size (fun q e => by omega))
                have H9 := hid' h9
                have HBW := hid' hBW
                clear h9 hK9 hBW hc2 hw9
                go_wp2_with fail
                go_meet
                exact ⟨_, rfl, rfl, HBW.out, hc1, H9.out⟩
    · refine ⟨by omega, .inl ⟨by decide, _, rfl, by simp [Region.wanted], fun w hw => .inl ⟨.pointer (some ⟨w.heap.size, 0, none⟩), ⟨none, none, some w.heap.size⟩, _, ?_, hw.alloc, ?_⟩⟩⟩
      · simp [go_sem, zero31]
      · clear hw
        generalize w.heap.size = cb
        refine headF_step [8] (by kernel_rfl) (by simp) (fun i hi => ?_)
        obtain rfl : i = 8 := by simpa using hi
        refine ⟨by omega, .inl ⟨by decide, _, rfl, by simp [Region.wanted], fun w hw => .inl ⟨.slice (some ⟨w.heap.size, 0, none⟩) 0 0, ⟨some w.heap.size, none, (some cb)⟩, _, ?_, hw.build, ?_⟩⟩⟩
        · simp [go_sem]
        · clear hw
          generalize w.heap.size = b1
          refine headF_step [11] (by kernel_rfl) (by simp) (fun i hi => ?_)
          obtain rfl : i = 11 := by simpa using hi
          refine ⟨by omega, .inl ⟨by decide, _, rfl, by simp [Region.wanted], fun w hw => ?_⟩⟩
          obtain ⟨v1, w7, hr, hC⟩ := hw.app (HS.out.below (Nat.le_refl _) (below_up HB1.out hw.below)) HSL.out
          refine .inl ⟨v1, ⟨none, some v1, (some cb)⟩, w7, ?_, hC, ?_⟩
          · simp [execOp, resolve, invoke, builtin, Act.eval, Act.put, hr, Result.andThen]
          · clear hr hC hw
            refine headF_step [14] (by kernel_rfl) (by simp) (fun i hi => ?_)
            obtain rfl : i = 14 := by simpa using hi
            refine ⟨by omega, .inl ⟨by decide, _, rfl, by simp [Region.wanted], fun w hw => ?_⟩⟩
            refine .inr ⟨11, #[.agg #[fv, .int .i64 gl, dv, .int .i64 main], .string x, .int .i64 f, .int .i64 g, .int .i64 a, v1, .int .i64 n], ?_, (H11.out _ (below_up HB1.out hw.below) v1 (hw.av v1 rfl)).mono ?_⟩
            · simp [execOp, resolve, invoke, Act.eval, Act.put, Deferred.ofValue, go_sem, Try.func11]
            · rintro e5 w5 ⟨rfl, hb5⟩
              refine ⟨_, ⟨none, some v1, (some cb)⟩, rfl, hw.on hb5, ?_⟩
              clear hb5 hw
              refine headF_lex (W := w1) (m := 0) (by kernel_rfl) (by kernel_rfl) (by kernel_rfl) (by simp) (fun s _ _ h => seqB_ready h.1) (fun s w' h => h.below) (fun s w2 w' h hb => h.on hb) _ [15, 16, 17, 19] _ _ _ (pick_ops _ [15, 16, 17, 19] (by simp)) (by decide) (inv_of (by kernel_rfl)) (by kernel_rfl) ?_
              simp only [List.filterMap_cons, List.filterMap_nil, List.getElem?_cons_zero, List.getElem?_cons_succ]
              repeat (
                refine wpFreeB_step (fun K hK => ?_)
                go_simp
                first
                  | (refine hK _ ?_; clear hK K)
                  | (apply Exists.intro
                     refine ⟨fun _ => ?_, hK _ ?_⟩
                     (with_reducible rfl)
                     clear hK K))
              refine wpFreeB_nil ?_
              refine ⟨by kernel_rfl, fun w9 hw9 => ?_⟩
              obtain ⟨hc1, hc2⟩ := hw9.al cb rfl
              unfold zero31 at hc2
              obtain ⟨d0, d1, d2, d3, d4, df⟩ := res5 hc2
              obtain ⟨h9, hK9⟩ := set5 (w := w9) (u0 := .int .i64 k) (u1 := .int .i32 c) (u2 := .int .i64 t) (u3 := .string o) (u4 := .int .i64 u) hc2
              have hBW := hw9.below.trans (hK9.below hw9.below.size (fun q e => by omega))
              have H9 := hid' h9
              have HBW := hid' hBW
              clear h9 hK9 hBW hc2 hw9
              go_wp2_with fail
              go_meet
              exact ⟨_, rfl, rfl, HBW.out, hc1, H9.out⟩
  case rest =>
    obtain ⟨b, rfl, rfl, hbx, hbs, hcb⟩ := hcut
    have HBX := hid' (below_up HB1.out hbx)
    have r0 := HP0.out _ hbx 0
    have r1 := HP0.out _ hbx 1
    have r2 := HP0.out _ hbx 2
    have r3 := HP0.out _ hbx 3
    have y0 := HA0.out _ hbx 0
    have y1 := HA0.out _ hbx 1
    have y2 := HA0.out _ hbx 2
    have y3 := HA0.out _ hbx 3
    have y4 := HA0.out _ hbx 4
    simp only [List.getElem?_toArray, List.getElem?_cons_succ, List.getElem?_cons_zero] at r0 r1 r2 r3 y0 y1 y2 y3 y4
    have HCB := hid' hcb
    have hbw := (Array.getElem?_eq_some_iff.1 hcb).1
    clear hcb hbx HP0 HA0
    go_upto_region 5 with (go_at_call 12; refine (H12.out _ HBX.out).mono ?_; rintro e6 w6 ⟨rfl, hb6⟩; have hc6 : w6.heap[b]? = some (.cells #[.int .i64 k, .int .i32 c, .int .i64 t, .string o, .int .i64 u] 31 (0, 0)) := (hb6.block _ hbw).trans HCB.out; have hbw6 := (Array.getElem?_eq_some_iff.1 hc6).1; obtain ⟨d0, d1, d2, d3, d4, df⟩ := res5 hc6; have HB6 := hid' hb6; clear hb6 hc6 r0 r1 r2 r3 y0 y1 y2 y3 y4)
    go_wp2_with (go_at_call 8; refine (awake8 _).mono ?_; rintro e7 w7 ⟨rfl, hb7⟩)
    go_ret
    exact ⟨rfl, below_up (below_up (below_up HBX.out HB6.out) (below1 _ _)) hb7⟩
/-- The law. -/
theorem counts4 (hp : Pg.ok W p) (hx : x.size ≤ big2) (hs : Src icell W sv sl) (hsl : sl.length * 8 ≤ big) :
    Calls Try.prog 4 #[p.val, .string x, .agg #[.int .i64 f, .int .i64 g, .int .i64 a, sv, .int .i64 n]] W fun e w' => e = .returned (.bool true) ∧ Below W.heap.size W w' := by
  cases h : lightF p f with
  | false => exact counts4_no hp hs h
  | true => exact counts4_yes hp hx hs hsl h
end
end Go.Proofs.Ytiehlkhpblldaaa
