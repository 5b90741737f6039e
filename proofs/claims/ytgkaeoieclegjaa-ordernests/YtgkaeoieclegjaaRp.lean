/- The predecessors that are reached. -/
import Derived.Test.YtgkaeoieclegjaaDl
import Derived.Deep.DeepCutAuto
import Derived.Deep.RegionLaw
namespace Go.Proofs.Ytgkaeoieclegjaa
open Go.RowKit Go.Maps
set_option linter.unusedVariables false
set_option linter.unusedSimpArgs false
theorem addP_mem {L : List (List Int)} {b tt : Int} {t : Nat} {x : Int} (ht : t < L.length) : x ∈ (addP L b tt).getD t [] ↔ x ∈ L.getD t [] ∨ (x = b ∧ tt = t) := by
  by_cases h : 0 ≤ tt ∧ tt < L.length
  · cases e : hasF (L.getD tt.toNat []) b with
    | true =>
      rw [addP_has e]
      refine ⟨.inl, ?_⟩
      rintro (h1 | ⟨rfl, rfl⟩)
      · exact h1
      · simpa [hasF] using e
    | false =>
      rw [addP_new h e]
      by_cases e2 : tt.toNat = t
      · subst e2
        have : (L.set tt.toNat (L.getD tt.toNat [] ++ [b])).getD tt.toNat [] = L.getD tt.toNat [] ++ [b] := by
          simp [ht]
        rw [this, List.mem_append, List.mem_singleton]
        have : tt = (tt.toNat : Int) := by omega
        simp [← this]
      · have : (L.set tt.toNat (L.getD tt.toNat [] ++ [b])).getD t [] = L.getD t [] := by
          simp [List.getD, List.getElem?_set_ne e2]
        rw [this]
        refine ⟨.inl, ?_⟩
        rintro (h1 | ⟨rfl, rfl⟩)
        · exact h1
        · simp at e2
  · rw [addP_out h]
    refine ⟨.inl, ?_⟩
    rintro (h1 | ⟨rfl, rfl⟩)
    · exact h1
    · omega
theorem addB_mem : ∀ (tos : List Int) {L : List (List Int)} {b : Int} {t : Nat} {x : Int}, t < L.length → (x ∈ (addB L b tos).getD t [] ↔ x ∈ L.getD t [] ∨ (x = b ∧ (t : Int) ∈ tos))
  | [], L, b, t, x, ht => by simp [addB]
  | tt :: tos, L, b, t, x, ht => by
    have h1 := addB_mem tos (L := addP L b tt) (b := b) (t := t) (x := x) (by rw [addP_len]; exact ht)
    have e : addB L b (tt :: tos) = addB (addP L b tt) b tos := rfl
    rw [e, h1, addP_mem ht, List.mem_cons]
    constructor
    · rintro ((h | ⟨h, h'⟩) | ⟨h, h'⟩)
      · exact .inl h
      · exact .inr ⟨h, .inl h'.symm⟩
      · exact .inr ⟨h, .inr h'⟩
    · rintro (h | ⟨h, h' | h'⟩)
      · exact .inl (.inl h)
      · exact .inl (.inr ⟨h, h'.symm⟩)
      · exact .inr ⟨h, h'⟩
/-- The blocks tt which one leads. -/
def succN (bl : List Bl) (b : Nat) : List Int := (bl[b]?.map Bl.to).getD []
theorem predsN_mem (bl : List Bl) {t : Nat} {x : Int} (ht : t < bl.length) : ∀ k, k ≤ bl.length → (x ∈ (predsN bl k).getD t [] ↔ ∃ m : Nat, m < k ∧ x = m ∧ (t : Int) ∈ succN bl m)
  | 0, _ => by
    have : predsN bl 0 = List.replicate bl.length [] := rfl
    rw [this]
    constructor
    · intro h
      simp [ht] at h
    · rintro ⟨m, h, _⟩
      omega
  | k + 1, hk => by
    rw [predsN_succ bl k (by omega), addB_mem _ (by rw [predsN_len]; exact ht), predsN_mem bl ht k (by omega)]
    have e : succN bl k = bl[k].to := by unfold succN; rw [List.getElem?_eq_getElem (by omega)]; rfl
    constructor
    · rintro (⟨m, h1, h2, h3⟩ | ⟨h1, h2⟩)
      · exact ⟨m, by omega, h2, h3⟩
      · exact ⟨k, by omega, h1, by rw [e]; exact h2⟩
    · rintro ⟨m, h1, h2, h3⟩
      by_cases em : m = k
      · subst em
        exact .inr ⟨h2, by rw [← e]; exact h3⟩
      · exact .inl ⟨m, by omega, h2, h3⟩
theorem predsF_len (bl : List Bl) : (predsF bl).length = bl.length := predsN_len bl _
theorem predsF_mem (bl : List Bl) {t : Nat} {x : Int} (ht : t < bl.length) : x ∈ (predsF bl).getD t [] ↔ ∃ m : Nat, m < bl.length ∧ x = m ∧ (t : Int) ∈ succN bl m := predsN_mem bl ht _ (Nat.le_refl _)
theorem predsF_bound (bl : List Bl) {l : List Int} (hl : l ∈ predsF bl) : (∀ x ∈ l, 0 ≤ x ∧ x < bl.length) ∧ l.length ≤ bl.length + 1 := by
  obtain ⟨t, ht, rfl⟩ := List.getElem_of_mem hl
  have ht' : t < bl.length := by rw [← predsF_len]; exact ht
  refine ⟨fun x hx => ?_, ?_⟩
  · have : x ∈ (predsF bl).getD t [] := by simpa [ht] using hx
    obtain ⟨m, h1, h2, _⟩ := (predsF_mem bl ht').1 this
    omega
  · have := inv_predsN bl bl.length _ hl
    exact this.2.2.2
theorem runR_len (bl : List Bl) : ∀ (n : Nat) (sn : List Bool) (st : List Int), (runR bl n sn st).length = sn.length
  | 0, sn, st => rfl
  | n + 1, sn, st => by
    unfold runR
    cases st.getLast? with
    | none => rfl
    | some i =>
      dsimp only
      rw [runR_len bl n]
      unfold popS
      rw [fold_len]
theorem reachF_len (bl : List Bl) : (reachF bl).length = bl.length := by
  unfold reachF
  split
  · rename_i h; simp [h]
  · rw [runR_len]; simp
/-- Of each block those predecessors that are reached. -/
def reN (bl : List Bl) (k : Nat) : Bool := (reachF bl).getD k false
def rpF (bl : List Bl) : List (List Int) := (predsF bl).map (keepF (reN bl))
theorem rpF_mem (bl : List Bl) {t : Nat} {x : Int} (ht : t < bl.length) : x ∈ (rpF bl).getD t [] ↔ ∃ m : Nat, m < bl.length ∧ x = m ∧ (t : Int) ∈ succN bl m ∧ reN bl m = true := by
  have e : (rpF bl).getD t [] = keepF (reN bl) ((predsF bl).getD t []) := by
    unfold rpF
    have : t < (predsF bl).length := by rw [predsF_len]; exact ht
    simp [this]
  rw [e]
  unfold keepF
  rw [List.mem_filter, predsF_mem bl ht]
  constructor
  · rintro ⟨⟨m, h1, h2, h3⟩, h4⟩
    subst h2
    exact ⟨m, h1, rfl, h3, by simpa using h4⟩
  · rintro ⟨m, h1, h2, h3, h4⟩
    subst h2
    exact ⟨⟨m, h1, rfl, h3⟩, by simpa using h4⟩
theorem PM.put {W W2 : World} {B g j : Nat} {vs : List Value} {L : List (List Int)} {v' : Value} {l' : List Int} (h : PM W B g vs L) (hj : j < vs.length) (K : Kept (fun k => vs[j].ownBlock = some k) W W2)
    (hown : Own 3 1 icell W2 B v' l') (hsub : ∀ b, v'.ownBlock = some b → vs[j].ownBlock = some b) : PM (W2.setCell ⟨g, j, none⟩ v') B g (vs.set j v') (L.set j l') := by
  have hg := h.g
  have hr : W2.ownsRow B 26 1 (.slice (some ⟨g, 0, none⟩) L.length L.length) L.length vs := K.owns h.row (fun b hb e => by
    have hb : some g = some b := hb
    injection hb with hb
    subst hb
    exact h.ng j hj e)
  have KB : Kept (fun k => k = g) W2 (W2.setCell ⟨g, j, none⟩ v') := (Kept.rfl (fun k => k = g) W2).set (.inl (Eq.refl _)) _
  have hel : ∀ i (hi : i < vs.length), ∀ b, ((vs.set j v')[i]'(by rw [List.length_set]; exact hi)).ownBlock = some b → vs[i].ownBlock = some b := fun i hi b hb => by
    by_cases e : j = i
    · subst e
      rw [List.getElem_set_self] at hb
      exact hsub b hb
    · rw [List.getElem_set_ne e] at hb
      exact hb
  refine ⟨by simp [h.len], ?_, fun i h1 h2 => ?_, fun i k hi hk hne b hb e => ?_, fun i hi e => ?_⟩
  · have := (World.ownsRow.stored hr j v').1
    rw [List.length_set]
    exact this
  · have hi : i < vs.length := by simpa using h1
    have hi2 : i < L.length := by simpa using h2
    by_cases e : j = i
    · subst e
      rw [List.getElem_set_self, List.getElem_set_self]
      exact KB.owns hown (fun b hb e => by subst e; exact h.ng j hj (hsub _ hb))
    · rw [List.getElem_set_ne e, List.getElem_set_ne e]
      refine KB.owns (K.owns (h.el i hi hi2) (fun b hb e2 => h.ne i j hi hj (fun e3 => e e3.symm) b hb e2)) (fun b hb e => by subst e; exact h.ng i hi hb)
  · have hi' : i < vs.length := by simpa using hi
    have hk' : k < vs.length := by simpa using hk
    exact h.ne i k hi' hk' hne b (hel i hi' b hb) (hel k hk' b e)
  · have hi' : i < vs.length := by simpa using hi
    exact h.ng i hi' (hel i hi' _ e)
theorem step_call {P : Program} {ops : Array Oper} {o : Oper} {a : Act} {w : World} {K : Act → World → Prop} {Q : Exit → Act → World → Prop} {E : Prop}
    (hg : o.guard = none) (f : FuncId) (xs : Array Operand) (ts : Array TypeId) (hop : o.op = Op.call { callee := Callee.value (.func f), args := xs, argTypes := ts })
    (args : Array Value) (ha : xs.map a.eval = args) (hen : ∀ W : World, (callFunc f args).run P W = .ok (.enter f args) W)
    (h : Calls P f args w fun e w' => ∃ v, e = .returned v ∧ K (a.put o.dst v) w') :
    if Region.wanted o (yielded ops a.tmps) = true then Oper.wp P o a w K Q else E := by
  have hw : Region.wanted o (yielded ops a.tmps) = true := by simp [Region.wanted, hg]
  rw [if_pos hw]
  unfold Oper.wp
  have he : (execOp a.eval o).run P w = .ok (.enter f args) w := by
    simp [execOp, hop, resolve, invoke, Act.eval, ha, hen, Deferred.ofValue, go_sem]
  rw [he, Oper.upon_enter]
  refine h.mono ?_
  rintro e w' ⟨v, rfl, hk⟩
  exact hk
theorem own_base {t : TypeId} {z : Nat} {α : Type} {f : α → List Value} {W : World} {B B' : Nat} {v : Value} {l : List α} (h : Own t z f W B v l) (hb : B' ≤ B) : Own t z f W B' v l := by
  refine ⟨h.1, ?_⟩
  rcases h.2 with e | ⟨g, c, cu, e, a1, a2⟩
  · exact .inl e
  · exact .inr ⟨g, c, cu, e, by omega, a2⟩
theorem PM.base {W : World} {B B' g : Nat} {vs : List Value} {L : List (List Int)} (h : PM W B g vs L) (hb : B' ≤ B) : PM W B' g vs L := by
  refine ⟨h.len, ⟨h.row.1, ?_⟩, fun j h1 h2 => own_base (h.el j h1 h2) hb, h.ne, h.ng⟩
  rcases h.row.2 with e | ⟨g', c, cu, e, a1, a2⟩
  · exact .inl e
  · exact .inr ⟨g', c, cu, e, by omega, a2⟩
theorem PM.kept {S : Nat → Prop} {W W' : World} {B g : Nat} {vs : List Value} {L : List (List Int)} (h : PM W B g vs L) (K : Kept S W W') (hg : ¬ S g) (hr : ∀ j (hj : j < vs.length) b, vs[j].ownBlock = some b → ¬ S b) : PM W' B g vs L :=
  ⟨h.len, K.owns h.row (fun b hb e => by injection hb with hb; subst hb; exact hg e), fun j h1 h2 => K.owns (h.el j h1 h2) (fun b hb => hr j h1 b hb), h.ne, h.ng⟩
theorem PM.lt {W : World} {B g : Nat} {vs : List Value} {L : List (List Int)} (h : PM W B g vs L) : ∀ j (hj : j < vs.length) b, vs[j].ownBlock = some b → B ≤ b ∧ b < W.heap.size :=
  fun j hj b hb => World.ownsRow.lt (h.el j hj (by rw [← h.len]; exact hj)) b hb
theorem zero34 : (Try.prog.info? 34).map (fun i => (i.zero, i.size, i.bytes)) = some (some (.slice none 0 0), 1, 24) := by kernel_rfl
theorem bdw' {B : Nat} {W w : World} (h : Below B W w) : Below B W w.drew := ⟨h.os, h.tape, h.output, h.size, h.block⟩
theorem newcell {W w1 : World} {v : Value} {T : TypeId} (hb : Below (W.alloc (.cells #[v] T)).heap.size (W.alloc (.cells #[v] T)) w1) : w1.cell? ⟨W.heap.size, 0, none⟩ = some v ∧ w1.frozen? ⟨W.heap.size, 0, none⟩ = false := by
  have h := hb.block W.heap.size (by simp)
  rw [heap_alloc_new] at h
  exact ⟨cell_of_row w1 W.heap.size 0 #[v] T (0, 0) h, by simp [World.frozen?, h]⟩
theorem newkeep {w1 w2 : World} {q : Nat} {v : Value} (h0 : w1.cell? ⟨q, 0, none⟩ = some v) (h1 : w1.frozen? ⟨q, 0, none⟩ = false) (hb : Below w1.heap.size w1 w2) : w2.cell? ⟨q, 0, none⟩ = some v ∧ w2.frozen? ⟨q, 0, none⟩ = false :=
  ⟨keep_cell h0 hb, (hb.frozen (p := ⟨q, 0, none⟩) (World.block_lt_of_cell? w1 _ h0)).trans h1⟩
theorem step_new {ops : Array Oper} {o : Oper} {a : Act} {w : World} {K : Act → World → Prop} {Q : Exit → Act → World → Prop} {E : Prop}
    (hg : o.guard = none) (hop : o.op = Op.alloc 34)
    (h : ∀ q w3, w.heap.size ≤ q → q < w3.heap.size → Below w.heap.size w w3 → w3.cell? ⟨q, 0, none⟩ = some (.slice none 0 0) → w3.frozen? ⟨q, 0, none⟩ = false → K (a.put o.dst (.pointer (some ⟨q, 0, none⟩))) w3) :
    if Region.wanted o (yielded ops a.tmps) = true then Oper.wp Try.prog o a w K Q else E := by
  have hw : Region.wanted o (yielded ops a.tmps) = true := by simp [Region.wanted, hg]
  rw [if_pos hw]
  unfold Oper.wp
  have he : (execOp a.eval o).run Try.prog w = .ok (.value (.pointer (some ⟨w.heap.size, 0, none⟩))) (w.alloc (.cells #[.slice none 0 0] 34)) := by
    simp [execOp, hop, go_sem]
  rw [he]
  obtain ⟨h1, h2⟩ := newcell (Below.refl _ (w.alloc (.cells #[.slice none 0 0] 34)))
  exact h _ _ (Nat.le_refl _) (by simp) (below1 _ _) h1 h2
/-- Behind the region of the two calls. -/
structure Two (w : World) (bl : List Bl) (wx : World) (g : Nat) (vs : List Value) (q : Nat) (ao : Option Addr) (cap : Nat) : Prop where
  pm : PM wx w.heap.size g vs (predsF bl)
  var : wx.cell? ⟨q, 0, none⟩ = some (.slice ao bl.length cap)
  src : Src bcl wx (.slice ao bl.length cap) (reachF bl)
  ql : q < wx.heap.size ∧ q ≠ g ∧ ∀ j (hj : j < vs.length), vs[j].ownBlock ≠ some q
  al : ∀ b off, ao = some ⟨b, off, none⟩ → b ≠ g ∧ ∀ j (hj : j < vs.length), vs[j].ownBlock ≠ some b
  below : Below w.heap.size w wx
theorem Src.kept {α : Type} {f : α → List Value} {S : Nat → Prop} {w w' : World} {ao : Option Addr} {n cap : Nat} {l : List α} (h : Src f w (.slice ao n cap) l) (K : Kept S w w') (hn : ∀ b off, ao = some ⟨b, off, none⟩ → ¬ S b) : Src f w' (.slice ao n cap) l := by
  rcases h with h | ⟨b, off, c, hv, hl, hcp, hc⟩
  · exact .inl h
  · injection hv with e1 e2 e3
    subst e1 e2 e3
    exact .inr ⟨b, off, cap, rfl, Nat.lt_of_lt_of_le hl K.size, hcp, fun j u hj => (K.cell hl (hn b off rfl)).trans (hc j u hj)⟩
theorem Two.set {w w1 w2 : World} {bl : List Bl} {B' g q : Nat} {vs : List Value} {ao : Option Addr} {cap : Nat} {x : Value} (hP : PM w1 B' g vs (predsF bl)) (hB : w.heap.size ≤ B') (h12 : Below w1.heap.size w1 w2) (hS : Src bcl w2 (.slice ao bl.length cap) (reachF bl)) (hw : Below w.heap.size w w1)
    (hal : ∀ b off, ao = some ⟨b, off, none⟩ → w1.heap.size ≤ b ∧ b ≠ q) (hq : w.heap.size ≤ q) (hc : w2.cell? ⟨q, 0, none⟩ = some x) (hqP : q < B' ∨ w1.heap.size ≤ q) : Two w bl (w2.setCell ⟨q, 0, none⟩ (.slice ao bl.length cap)) g vs q ao cap := by
  have K : Kept (fun k => k = q) w2 (w2.setCell ⟨q, 0, none⟩ (.slice ao bl.length cap)) := (Kept.rfl (fun k => k = q) w2).set (.inl (Eq.refl _)) _
  have hql := World.block_lt_of_cell? w2 _ hc
  have hg := hP.g
  have hr := hP.lt
  have hqr : ∀ j (hj : j < vs.length), vs[j].ownBlock ≠ some q := fun j hj e => by
    have := hr j hj q e
    omega
  have hP2 := hP.on h12
  refine ⟨(hP2.base hB).kept K (by omega) (fun j hj b hb e => by subst e; exact hqr j hj hb), ?_, hS.kept K (fun b off e => (hal b off e).2), ⟨Nat.lt_of_lt_of_le hql K.size, by omega, hqr⟩, fun b off e => ?_, ?_⟩
  · exact World.cell?_setCell_same' w2 ⟨q, 0, none⟩ _ (by rw [hc]; rfl)
  · have := (hal b off e).1
    refine ⟨by omega, fun j hj e2 => ?_⟩
    have := hr j hj b e2
    omega
  · exact (below_up hw h12).trans (K.below (Nat.le_trans hw.size h12.size) (fun k e => by omega))
theorem Two.new {w w1 w2 : World} {bl : List Bl} {B' g : Nat} {vs : List Value} {ao : Option Addr} {cap : Nat} (hP : PM w1 B' g vs (predsF bl)) (hB : w.heap.size ≤ B') (h12 : Below w1.heap.size w1 w2) (hS : Src bcl w2 (.slice ao bl.length cap) (reachF bl)) (hw : Below w.heap.size w w1)
    (hal : ∀ b off, ao = some ⟨b, off, none⟩ → w1.heap.size ≤ b) : Two w bl (w2.alloc (.cells #[.slice ao bl.length cap] 34)) g vs w2.heap.size ao cap := by
  have hg := hP.g
  have hr := hP.lt
  have hs := h12.size
  have hqr : ∀ j (hj : j < vs.length), vs[j].ownBlock ≠ some w2.heap.size := fun j hj e => by
    have := hr j hj _ e
    omega
  refine ⟨((hP.on h12).base hB).on (below1 _ _), (newcell (Below.refl _ _)).1, hS.on (below1 _ _), ⟨by simp, by omega, hqr⟩, fun b off e => ?_, below_up (below_up hw h12) (below1 _ _)⟩
  have := hal b off e
  refine ⟨by omega, fun j hj e2 => ?_⟩
  have := hr j hj b e2
  omega
/-- What reachedPreds leaves. -/
def RpR (bl : List Bl) (w : World) (e : Ending) (w' : World) : Prop :=
  ∃ (g : Nat) (vs : List Value), e = .returned (.slice (some ⟨g, 0, none⟩) bl.length bl.length) ∧ PM w' w.heap.size g vs (rpF bl) ∧ Below w.heap.size w w'
set_option maxRecDepth 20000 in
set_option maxHeartbeats 8000000 in
theorem rpreds28 {w : World} {f : Fn} (h : Fn.ok w f) : Calls Try.prog 28 #[f.val] w (RpR f.blocks w) := by
  have H43 : Hid (∀ w1, Below w.heap.size w w1 → Calls Try.prog 43 #[f.val] w1 (PredR f.blocks w1)) := fun w1 hb => preds14 (h.on hb)
  have H44 : Hid (∀ w1, Below w.heap.size w w1 → Calls Try.prog 44 #[f.val] w1 (RchR f.blocks w1)) := fun w1 hb => reached16 (h.on hb)
  have HR0 : Hid ((reachF f.blocks).length = f.blocks.length) := reachF_len f.blocks
  have HOK := hid' h
  have hbl := h.bl
  obtain ⟨nm, ps, rs, sl, bv, bl⟩ := f
  obtain ⟨hb, _, _, _⟩ := h
  dsimp only at *
  unfold Fn.val at *
  dsimp only at *
  unfold big at hbl
  clear hb
  go_enter Try.func28, Try.ntmps28
  go_upto_region 1 with fail
  obtain ⟨w0, ew0⟩ : ∃ w0, w0 = w.alloc (.cells #[.string nm, .int .i64 ps, .int .i64 rs, .int .i64 sl, bv] 24) := ⟨_, rfl⟩
  have hD : Below w.heap.size w w0.drew := by rw [ew0]; exact bdw' (below1 _ _)
  have hC : Hid (∀ W : World, Below w0.drew.heap.size w0.drew W → W.cell? ⟨w.heap.size, 0, none⟩ = some (.string nm) ∧ W.cell? ⟨w.heap.size, 1, none⟩ = some (.int .i64 ps) ∧ W.cell? ⟨w.heap.size, 2, none⟩ = some (.int .i64 rs) ∧ W.cell? ⟨w.heap.size, 3, none⟩ = some (.int .i64 sl) ∧ W.cell? ⟨w.heap.size, 4, none⟩ = some bv) := fun W hW => by
    rw [ew0] at hW
    obtain ⟨_, _, m0, m1, m2, m3, m4⟩ := fbox (W := W) (w := w) (T := 24) ⟨hW.os, hW.tape, hW.output, hW.size, hW.block⟩
    exact ⟨m0, m1, m2, m3, m4⟩
  have HC := hid' hD
  have HC0 := hid' hD
  have HE : Hid (Below w0.drew.heap.size w0.drew w0.drew) := Below.refl _ _
  rw [← ew0]
  obtain ⟨k0, k1, k2, k3, k4⟩ := hC.out w0.drew (Below.refl _ _)
  have r0 := k0
  have r1 : w0.drew.frozen? ⟨w.heap.size, 0, none⟩ = false := by
    have h := heap_alloc_new w (.cells #[.string nm, .int .i64 ps, .int .i64 rs, .int .i64 sl, bv] 24)
    rw [← ew0] at h
    have h' : w0.drew.heap[w.heap.size]? = w0.heap[w.heap.size]? := rfl
    simp [World.frozen?, h', h]
  clear hD ew0
  go_cut [3, 4] (fun lv pv wx => ∃ (g : Nat) (vs : List Value) (q : Nat) (ao : Option Addr) (cap : Nat), lv = .slice (some ⟨g, 0, none⟩) bl.length bl.length ∧ pv = .pointer (some ⟨q, 0, none⟩) ∧ Two w bl wx g vs q ao cap)
  case first =>
    obtain ⟨x0, x1, x2, x3, x4⟩ := hC.out (w0.drew.alloc (.cells #[.slice none 0 0] 34)) (below1 _ _)
    change (w0.alloc (.cells #[.slice none 0 0] 34)).cell? _ = _ at x0 x1 x2 x3 x4
    go_region_law (first
      | (refine step_call rfl 43 #[.tmp 6] #[24] rfl #[.agg #[.string nm, .int .i64 ps, .int .i64 rs, .int .i64 sl, bv]] (by simp [Act.eval, Act.put]) (fun W => by simp [go_sem, Try.func43]) ?_; refine (H43.out _ (by first | exact HC.out | exact below_up HC.out (below1 _ _))).mono ?_; rintro e1 w1 ⟨g, vs, rfl, hP, hb1⟩; refine ⟨_, rfl, ?_⟩; have HE1 : Hid (Below w0.drew.heap.size w0.drew w1) := (by first | exact hb1 | exact below_up (below1 _ _) hb1); have HC := hid' (below_up HC.out HE1.out); obtain ⟨n0, n1, n2, n3, n4⟩ := hC.out w1 HE1.out; obtain ⟨p0, p1, p2, p3, p4⟩ := hC.out (w1.alloc (.cells #[.slice none 0 0] 34)) (below_up HE1.out (below1 _ _)); have HP := hid' hP; obtain ⟨r0, r1⟩ := (by first | exact (show w1.cell? ⟨w0.heap.size, 0, none⟩ = some (.slice none 0 0) ∧ w1.frozen? ⟨w0.heap.size, 0, none⟩ = false from newcell (W := w0.drew) (v := .slice none 0 0) (T := 34) hb1) | exact newkeep r0 r1 HE1.out); have HX1 := hid' (World.block_lt_of_cell? w1 _ r0); clear hP hb1)
      | (refine step_call rfl 44 #[.tmp 8] #[24] rfl #[.agg #[.string nm, .int .i64 ps, .int .i64 rs, .int .i64 sl, bv]] (by simp [Act.eval, Act.put]) (fun W => by simp [go_sem, Try.func44]) ?_; refine (H44.out _ (by first | exact HC.out | exact below_up HC.out (below1 _ _))).mono ?_; rintro e2 w2 ⟨ao, cap, rfl, hS, hb2, hn2, _⟩; refine ⟨_, rfl, ?_⟩; have HE2 : Hid (Below w1.heap.size w1 w2) := (by first | exact hb2 | exact below_up (below1 _ _) hb2); have HS := hid' hS; have HN2 := hid' hn2; obtain ⟨r0, r1⟩ := (by first | exact newcell (W := w1) (v := .slice none 0 0) (T := 34) hb2 | exact newkeep r0 r1 HE2.out); clear hS hb2 hn2))
    all_goals go_wp2_with fail
    all_goals go_meet
    all_goals first
      | exact ⟨g, vs, _, ao, cap, rfl, rfl, Two.new HP.out (by have h9 := HC0.out.size; simp at h9 ⊢; omega) HE2.out HS.out HC.out (fun b off e => HN2.out b off e)⟩
      | exact ⟨g, vs, _, ao, cap, rfl, rfl, Two.set HP.out (by have h9 := HC0.out.size; simp at h9 ⊢; omega) HE2.out HS.out HC.out (fun b off e => by have h9 := HN2.out b off e; simp at h9; omega) (by have h9 := HC.out.size; omega) r0 (.inr (Nat.le_refl _))⟩
      | exact ⟨g, vs, _, ao, cap, rfl, rfl, Two.set HP.out (by have h9 := HC0.out.size; simp at h9 ⊢; omega) HE2.out HS.out HC.out (fun b off e => by have h9 := HN2.out b off e; have h8 : w0.heap.size < w1.heap.size := HX1.out; omega) (HC0.out.size) r0 (.inl (by first | (simp; done) | (simp; omega)))⟩
      | skip
    all_goals trace_state
  case rest =>
    obtain ⟨g, vs, q, ao, cap, rfl, rfl, hT⟩ := hcut
    have HT := hid' hT
    clear hT k0 k1 k2 k3 k4 r0 r1
    go_wp2_with fail
    go_loopw [12] (fun iv wr => ∃ (i : Nat) (vs' : List Value), i ≤ bl.length ∧ iv = .int .i64 i ∧ PM wr w.heap.size g vs' ((rpF bl).take i ++ (predsF bl).drop i) ∧ vs'.length = vs.length ∧ (∀ j (hj : j < vs.length) (hj' : j < vs'.length) b, vs'[j].ownBlock = some b → vs[j].ownBlock = some b) ∧ Below w.heap.size w wr ∧
      (∀ b, (b = q ∨ ∃ off, ao = some ⟨b, off, none⟩) → wr.heap[b]? = wc.heap[b]?)) (fun iv _ => bl.length - (intOf iv).toNat)
    case atStart => exact ⟨0, vs, Nat.zero_le _, rfl, by simpa using HT.out.pm, rfl, fun _ _ _ _ h => h, HT.out.below, fun _ _ => rfl⟩
    case round =>
      obtain ⟨i, vs', hi, rfl, hP, hvl, hvo, hbr, hkp⟩ := hrel
      have hLl : ((rpF bl).take i ++ (predsF bl).drop i).length = bl.length := by simp [rpF, predsF_len]; omega
      have HP := hid' hP
      by_cases hil : i < bl.length
      · have hv1 : i < vs'.length := by rw [hP.len, hLl]; exact hil
        have hL1 : i < ((rpF bl).take i ++ (predsF bl).drop i).length := by rw [hLl]; exact hil
        have hLi : ((rpF bl).take i ++ (predsF bl).drop i)[i] = (predsF bl)[i]'(by rw [predsF_len]; exact hil) := by
          rw [List.getElem_append_right (by simp [rpF, predsF_len]; omega)]
          simp [rpF, predsF_len, Nat.min_eq_left hi]
        have hel := hP.el i hv1 hL1
        rw [hLi] at hel
        have hcell : wr.cell? ⟨g, i, none⟩ = some vs'[i] := (World.ownsRow.cellAt hP.row i (by omega)).trans (List.getElem?_eq_getElem hv1)
        have hfro := World.ownsRow.frozenAt hP.row i
        obtain ⟨hbd, hbl2⟩ := predsF_bound bl (List.getElem_mem (by rw [predsF_len]; exact hil : i < (predsF bl).length))
        have hrl : (reachF bl).length = bl.length := HR0.out
        obtain ⟨ha, off, rfl⟩ : ∃ b off, ao = some ⟨b, off, none⟩ := by
          obtain ⟨ao', cap', e, hf⟩ := HT.out.src.form bc1
          obtain ⟨b, off, e2, _⟩ := hf 0 (by omega)
          injection e with e1
          exact ⟨b, off, e1.trans e2⟩
        have hal := HT.out.al ha off rfl
        have hq := HT.out.ql
        have hhl : ha < wc.heap.size := by
          rcases HT.out.src with ⟨e, _⟩ | ⟨b, off', c', e, hl, _⟩
          · rw [e] at hrl; simp at hrl; omega
          · injection e with e1
            injection e1 with e1
            injection e1 with e1
            rw [e1]; exact hl
        have hkq := hkp q (.inl rfl)
        have hkh := hkp ha (.inr ⟨off, rfl⟩)
        have hR : ReM wr q ha off cap bl.length (reN bl) := by
          refine ⟨(World.cell?_of_block hkq).trans HT.out.var, fun k hk => (World.cell?_of_block hkh).trans ?_⟩
          rcases HT.out.src with ⟨e, _⟩ | ⟨b, off', c', e, hl, _, hc⟩
          · rw [e] at hrl; simp at hrl; omega
          · injection e with e1 e2 e3
            injection e1 with e1
            injection e1 with e1 e4
            subst e1 e4
            refine hc k _ ?_
            rw [flat_b]
            have hkr : k < (reachF bl).length := by omega
            simp [reN, hkr]
        have hql : q < wr.heap.size := by
          have h1 : wr.heap[q]? ≠ none := by rw [hkq]; simp; exact hq.1
          simpa using h1
        have hhl2 : ha < wr.heap.size := by
          have h1 : wr.heap[ha]? ≠ none := by rw [hkh]; simp; exact hhl
          simpa using h1
        have hD := delete45 hR hel (by unfold big; omega) hbd (by unfold big; omega) (fun e => hq.2.2 i (by omega) (hvo i (by omega) hv1 q e)) (fun e => hal.2 i (by omega) (hvo i (by omega) hv1 ha e)) hql hhl2
        have HD := hid' hD
        have HKQ := hid' hkp
        have HVO := hid' hvo
        have HB := hid' hbr
        have hgl := hP.g
        have hgn := hP.ng i hv1
        have HRP : Hid (keepF (reN bl) ((predsF bl)[i]'(by rw [predsF_len]; exact hil)) = (rpF bl)[i]'(by simp [rpF, predsF_len]; exact hil)) := by unfold Hid; simp [rpF]
        clear hD hP hel hkp hvo hbr hR
        go_wp2_with (go_at_call 45; refine HD.out.mono ?_; rintro e1 w1 ⟨v', rfl, hown, hsub, hK⟩; obtain ⟨ao2, cap2, rfl⟩ := (hown.src ic1).len; have d0 := (hK.cell (b := g) (o := i) hgl.2 (fun e => hgn e)).trans hcell; have d1 := (hK.frozen (b := g) (o := i) hgl.2 (fun e => hgn e)).trans hfro; have HOWN := hid' hown; have HSUB := hid' hsub; have HK := hid' hK; clear hown hsub hK)
        go_roundw
        case rel =>
          have hP2 := HP.out.put hv1 HK.out HOWN.out HSUB.out
          refine ⟨i + 1, vs'.set i (.slice ao2 (keepF (reN bl) ((predsF bl)[i]'(by rw [predsF_len]; exact hil))).length cap2), by omega, by go_num, ?_, by rw [List.length_set]; exact hvl, fun j hj hj' b hb => ?_, ?_, fun b hb => ?_⟩
          rotate_left
          · have hj2 : j < vs'.length := by simpa using hj'
            by_cases e : i = j
            · subst e
              rw [List.getElem_set_self] at hb
              exact HVO.out i hj hj2 b (HSUB.out b hb)
            · rw [List.getElem_set_ne e] at hb
              exact HVO.out j hj hj2 b hb
          · have K2 : Kept (fun k => w.heap.size ≤ k) wr w1 := HK.out.mono (fun k hk e => (World.ownsRow.lt (HP.out.el i hv1 hL1) k e).1)
            exact HB.out.trans ((K2.set (.inl (by show w.heap.size ≤ g; exact hgl.1)) _).below HB.out.size (fun k e => e))
          · have hbg : b ≠ g := by
              rcases hb with rfl | ⟨o, e⟩
              · exact hq.2.1
              · injection e with e; injection e with e; subst e; exact hal.1
            have hbv : vs'[i].ownBlock ≠ some b := fun e => by
              have e3 := HVO.out i (by omega) hv1 b e
              rcases hb with rfl | ⟨o, e2⟩
              · exact hq.2.2 i (by omega) e3
              · injection e2 with e2; injection e2 with e2; subst e2; exact hal.2 i (by omega) e3
            have hbs : b < wr.heap.size := by
              rcases hb with rfl | ⟨o, e2⟩
              · exact hql
              · injection e2 with e2; injection e2 with e2; subst e2; exact hhl2
            rw [Below.heap_setCell _ _ _ _ hbg]
            exact (HK.out.block b hbs hbv).trans (HKQ.out b hb)
          · have eL : ((rpF bl).take i ++ (predsF bl).drop i).set i (keepF (reN bl) ((predsF bl)[i]'(by rw [predsF_len]; exact hil))) = (rpF bl).take (i + 1) ++ (predsF bl).drop (i + 1) := by
              have hpl := predsF_len bl
              have hrpl : (rpF bl).length = bl.length := by simp [rpF, hpl]
              rw [HRP.out, take_snoc (rpF bl) i (by omega), List.set_append_right _ _ (by rw [List.length_take]; omega), List.length_take, Nat.min_eq_left (by omega), Nat.sub_self]
              have e0 : (predsF bl).drop i = (predsF bl)[i]'(by omega) :: (predsF bl).drop (i + 1) := List.drop_eq_getElem_cons _
              rw [e0, List.set_cons_zero, List.append_assoc]
              rfl
            rw [eL] at hP2
            exact hP2
        case measure => simp [intOf]; omega
      · have ei : i = bl.length := by omega
        subst ei
        have hrpl : (rpF bl).length = bl.length := by simp [rpF, predsF_len]
        rw [List.take_of_length_le (by omega), List.drop_of_length_le (by rw [predsF_len]; exact Nat.le_refl _), List.append_nil] at HP
        have HB := hid' hbr
        clear hP hvl hvo hbr hkp
        go_wp2_with fail
        go_ret
        exact ⟨g, vs', rfl, HP.out, HB.out⟩
end Go.Proofs.Ytgkaeoieclegjaa
