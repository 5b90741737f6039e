/- A function with its blocks' ends alone: what lies where. bare. -/
import Derived.Test.YtgkaeoieclegjaaOw
import Derived.Test.YtgkaeoieclegjaaLsts
import Derived.BigRegion
namespace Go.Proofs.Ytgkaeoieclegjaa
section
open Go Go.RowKit Go.Maps
set_option linter.unusedVariables false
set_option linter.unusedSimpArgs false
theorem infB : (Try.prog.info? 45).map (fun i => (i.zero, i.size, i.bytes)) = some (some (.agg #[.slice none 0 0, .int .i64 0, .int .i64 0, .slice none 0 0]), 4, 64) := by kernel_rfl
/-- A bare block's Arg. -/
def bareA (en arg : Int) : Int := if en = 2 then 0 else if en = 3 then -1 else arg
def bareB (b : Bl) : Bl := ⟨.slice none 0 0, [], b.en, bareA b.en b.arg, b.tv, b.to⟩
def rawB (b : Bl) : Bl := ⟨.slice none 0 0, [], b.en, b.arg, b.tv, b.to⟩
def gcells (hv : Value) : Array Value := #[.string ⟨#[]⟩, .int .i64 0, .int .i64 1, .int .i64 0, hv]
def zcells : Array Value := #[.string ⟨#[]⟩, .int .i64 0, .int .i64 0, .int .i64 0, .slice none 0 0]
/-- The boxes: of the function, of the answer, of the bare one. -/
structure BD (w : World) (fc : Array Value) (hv : Value) (W : World) : Prop where
  f : W.heap[w.heap.size]? = some (.cells fc 24 (0, 0))
  a : W.heap[w.heap.size + 1]? = some (.cells zcells 24 (0, 0))
  g : W.heap[w.heap.size + 1 + 1]? = some (.cells (gcells hv) 24 (0, 0))
  below : Below w.heap.size w W
/-- .. and the row of blocks. -/
structure BM (w : World) (fc : Array Value) (hv v : Value) (l : List Bl) (W : World) : Prop extends BD w fc hv W where
  row : Own 45 4 Bl.cells W w.heap.size v l
theorem BD.on {w W W' : World} {fc : Array Value} {hv : Value} (h : BD w fc hv W) (hb : Below W.heap.size W W') : BD w fc hv W' :=
  ⟨(hb.block _ (Array.getElem?_eq_some_iff.1 h.f).1).trans h.f, (hb.block _ (Array.getElem?_eq_some_iff.1 h.a).1).trans h.a, (hb.block _ (Array.getElem?_eq_some_iff.1 h.g).1).trans h.g, below_on h.below hb h.below.size⟩
theorem BM.on {w W W' : World} {fc : Array Value} {hv v : Value} {l : List Bl} (h : BM w fc hv v l W) (hb : Below W.heap.size W W') : BM w fc hv v l W' :=
  ⟨h.toBD.on hb, (Kept.of_below (S := fun _ => False) hb).owns h.row (fun _ _ e => e)⟩
theorem bare_one (b : Bl) (hc : b.cv = .slice none 0 0) {w : World} (ht : Src icell w b.tv b.to) : ∀ u ∈ Bl.cells b, u.oneCell' = true := by
  intro u hu
  obtain ⟨ao', cap', e'⟩ := ht.len
  simp only [Bl.cells, List.mem_cons, List.not_mem_nil, or_false] at hu
  rcases hu with rfl | rfl | rfl | rfl
  · rw [hc]; rfl
  · rfl
  · rfl
  · rw [e']; rfl
theorem exec_append {P : Program} {o : Oper} {a : Act} {w w' : World} (s x : Operand) (t : TypeId) (hop : o.op = Op.call { callee := Callee.builtin Builtin.append, args := #[s, x], argTypes := #[t, t] }) (v xv v' : Value) (hs : a.eval s = v) (hx : a.eval x = xv)
    (hrun : (Builtin.append_ #[t, t] o.type #[v, xv]).run P w = .ok v' w') : (execOp a.eval o).run P w = .ok (.value v') w' := by
  simp [execOp, hop, resolve, invoke, builtin, hs, hx, hrun, Result.andThen]
/-- A block more. -/
theorem BM.app {w W : World} {fc : Array Value} {hv v : Value} {l : List Bl} {x : Bl} {q : Nat} (h : BM w fc hv v l W) (hq : W.heap[q]? = some (.cells (Bl.cells x).toArray 45 (0, 0))) (hx : ∀ u ∈ Bl.cells x, u.oneCell' = true) (hl : (l.length + 1) * 64 ≤ 140737488355328) :
    ∃ b cap w', (∀ ty, (Builtin.append_ #[22, 22] ty #[v, .slice (some ⟨q, 0, none⟩) 1 1]).run Try.prog W = .ok (.slice (some ⟨b, 0, none⟩) (l.length + 1) cap) w') ∧ BM w fc hv (.slice (some ⟨b, 0, none⟩) (l.length + 1) cap) (l ++ [x]) w' := by
  have hqlt := (Array.getElem?_eq_some_iff.1 hq).1
  have hsrc : Src Bl.cells W (.slice (some ⟨q, 0, none⟩) 1 1) [x] := .inr ⟨q, 0, 1, rfl, hqlt, Nat.le_refl _, fun j u hj => by
    rw [Nat.zero_add, cell_of_row W q j _ 45 (0, 0) hq]
    simpa [flat] using hj⟩
  obtain ⟨v', w', h1, h2, h3, h4⟩ := append_own2 (f := Bl.cells) (st := 22) (et := 45) (bytes := 64) bl4 (l := l) (m := [x]) (base := w.heap.size) (w := W) (v := v) (x := .slice (some ⟨q, 0, none⟩) 1 1) (fun y hy => (List.mem_singleton.1 hy) ▸ hx) Try.underlying22 infB rfl (by decide) h.row hsrc (by simp only [List.length_singleton]; omega) (by simp only [List.length_singleton]; unfold maxLen; omega) h.below.size 22
  unfold Own at h2
  rw [List.length_append, List.length_singleton] at h2
  obtain ⟨b, cap, rfl⟩ := own_form h2
  have K := grown_kept h3
  refine ⟨b, cap, w', fun ty => h1, ⟨grown_r h.row h.f (by decide) K, grown_r h.row h.a (by decide) K, grown_r h.row h.g (by decide) K, h.below.trans (K.below h.below.size (fun k e => (World.ownsRow.lt h.row k e).1))⟩, ?_⟩
  unfold Own
  rw [List.length_append, List.length_singleton]
  exact h2
/-- The header is stored. -/
theorem BM.head {w W : World} {fc : Array Value} {hv v : Value} {l : List Bl} (h : BM w fc hv v l W) : BM w fc v v l (W.setCell ⟨w.heap.size + 1 + 1, 4, none⟩ v) := by
  have K := setK W (w.heap.size + 1 + 1) 4 v
  have hg := h.g
  refine ⟨⟨(K.block _ (Array.getElem?_eq_some_iff.1 h.f).1 (by omega)).trans h.f, (K.block _ (Array.getElem?_eq_some_iff.1 h.a).1 (by omega)).trans h.a, ?_, h.below.trans (K.below h.below.size (fun k e => by omega))⟩, own_ty h.row hg (by decide) K⟩
  rw [heap_setCell_same W (w.heap.size + 1 + 1) 4 _ 24 _ hg]
  rfl
/-- A block's Arg is put. -/
theorem BM.arg {w W : World} {fc : Array Value} {hv : Value} {l : List Bl} {b i cap : Nat} {x : Bl} {n : Int} (h : BM w fc hv (.slice (some ⟨b, 0, none⟩) l.length cap) l W) (hi : i < l.length) (hx : Bl.cells x = (Bl.cells l[i]).set 2 (.int .i64 n)) :
    BM w fc hv (.slice (some ⟨b, 0, none⟩) l.length cap) (l.set i x) (W.setCell ⟨b, i * 4 + 2, none⟩ (.int .i64 n)) := by
  obtain ⟨cur, hbc⟩ := own_block h.row (b := b) rfl
  have K := setK W b (i * 4 + 2) (.int .i64 n)
  have hne : ∀ k c, W.heap[k]? = some (.cells c 24 (0, 0)) → k ≠ b := fun k c hk e => by
    subst e
    rw [hbc] at hk
    injection hk with hk
    injection hk with _ e2
    cases e2
  have hlt := World.ownsRow.lt h.row b rfl
  refine ⟨⟨(K.block _ (Array.getElem?_eq_some_iff.1 h.f).1 (hne _ _ h.f)).trans h.f, (K.block _ (Array.getElem?_eq_some_iff.1 h.a).1 (hne _ _ h.a)).trans h.a, (K.block _ (Array.getElem?_eq_some_iff.1 h.g).1 (hne _ _ h.g)).trans h.g, h.below.trans (K.below h.below.size (fun k e => by subst e; exact hlt.1))⟩, ?_⟩
  have := (World.ownsRow.stored h.row (i * 4 + 2) (.int .i64 n)).1
  unfold Own
  rw [List.length_set, flat_set Bl.cells bl4 l i 2 x _ hi (by omega) hx]
  exact this
theorem BM.src {w W : World} {fc : Array Value} {hv v : Value} {l : List Bl} (h : BM w fc hv v l W) : Src Bl.cells W v l := Own.src bl4 h.row
end
section
open Go Go.RowKit Go.Maps
set_option linter.unusedVariables false
set_option linter.unusedSimpArgs false
/-- The region's class: the piece that is made, the row that has it. -/
def BaC (w : World) (fc : Array Value) (hv : Value) (l : List Bl) (x : Bl) : Option Nat × Option (Nat × Nat) → World → Prop
  | (none, none), W => BM w fc hv hv l W
  | (some q, none), W => BM w fc hv hv l W ∧ W.heap[q]? = some (.cells (Bl.cells x).toArray 45 (0, 0))
  | (_, some (b, cap)), W => BM w fc hv (.slice (some ⟨b, 0, none⟩) (l.length + 1) cap) (l ++ [x]) W
theorem BaC.bd {w : World} {fc : Array Value} {hv : Value} {l : List Bl} {x : Bl} : ∀ s W, BaC w fc hv l x s W → BD w fc hv W
  | (none, none), _, h => h.toBD
  | (some _, none), _, h => h.1.toBD
  | (none, some (_, _)), _, h => BM.toBD h
  | (some _, some (_, _)), _, h => BM.toBD h
theorem BaC.on {w : World} {fc : Array Value} {hv : Value} {l : List Bl} {x : Bl} : ∀ s W W', BaC w fc hv l x s W → Below W.heap.size W W' → BaC w fc hv l x s W'
  | (none, none), _, _, h, hb => BM.on h hb
  | (some _, none), _, _, h, hb => ⟨h.1.on hb, (hb.block _ (Array.getElem?_eq_some_iff.1 h.2).1).trans h.2⟩
  | (none, some (_, _)), _, _, h, hb => BM.on h hb
  | (some _, some (_, _)), _, _, h, hb => BM.on h hb
theorem BD.cells {w W : World} {fc : Array Value} {hv : Value} (h : BD w fc hv W) : (∀ o, W.cell? ⟨w.heap.size, o, none⟩ = fc[o]?) ∧ W.cell? ⟨w.heap.size + 1 + 1, 4, none⟩ = some hv :=
  ⟨fun o => cell_of_row W _ o _ 24 (0, 0) h.f, cell_of_row W _ 4 _ 24 (0, 0) h.g⟩
theorem BM.arg2 {w W : World} {fc : Array Value} {hv : Value} {l : List Bl} {b k cap : Nat} {x y : Bl} {n : Int} (hk : l.length = k) (h : BM w fc hv (.slice (some ⟨b, 0, none⟩) (k + 1) cap) (l ++ [x]) W) (hx : Bl.cells y = (Bl.cells x).set 2 (.int .i64 n)) :
    BM w fc hv (.slice (some ⟨b, 0, none⟩) (k + 1) cap) (l ++ [y]) (W.setCell ⟨b, k * 4 + 2, none⟩ (.int .i64 n)) := by
  subst hk
  have e : (l ++ [x]).length = l.length + 1 := by simp
  rw [← e] at h ⊢
  have := h.arg (i := l.length) (x := y) (n := n) (by simp) (by simpa using hx)
  simpa using this
theorem bare_ok {w : World} {x : Bl} (h : Bl.ok w x) : Bl.ok w (bareB x) := ⟨.inl ⟨rfl, _, _, rfl⟩, by simp [bareB], h.t, h.tl, fun y hy => by simp [bareB] at hy⟩
theorem BM.fin {w W W' : World} {fc : Array Value} {hv v : Value} {l : List Bl} (h : BM w fc hv v l W) (K : Kept (fun k => k = w.heap.size + 1) W W') : Own 45 4 Bl.cells W' w.heap.size v l ∧ Below w.heap.size w W' :=
  ⟨own_ty h.row h.a (by decide) K, h.below.trans (K.below h.below.size (fun k e => by omega))⟩
/-- The bare function in memory. -/
theorem bare_fn {w W : World} {hv : Value} {bl : List Bl} {B : Nat} (h : Own 45 4 Bl.cells W B hv (bl.map bareB)) (hl : bl.length * 64 ≤ big) (hb : ∀ x ∈ bl, Bl.ok w x) (hB : Below w.heap.size w W) : Fn.ok W ⟨⟨#[]⟩, 0, 1, 0, hv, bl.map bareB⟩ := by
  refine ⟨Own.src bl4 h, by simpa using hl, (by show 0 ≤ big; exact Nat.zero_le _), fun x hx => ?_⟩
  obtain ⟨y, hy, rfl⟩ := List.mem_map.1 hx
  exact (bare_ok (hb y hy)).on hB
set_option maxRecDepth 20000 in
set_option maxHeartbeats 8000000 in
theorem bare9 {w : World} {f : Fn} (h : Fn.ok w f) : Calls Try.prog 9 #[f.val] w fun e w' => ∃ hv : Value, e = .returned (Fn.val ⟨⟨#[]⟩, 0, 1, 0, hv, f.blocks.map bareB⟩) ∧ Own 45 4 Bl.cells w' w.heap.size hv (f.blocks.map bareB) ∧ Below w.heap.size w w' := by
  have HOK := hid' h
  have hbl := h.bl
  obtain ⟨nm, ps, rs, sl, bv, bl⟩ := f
  obtain ⟨hb, _, _, hbls⟩ := h
  dsimp only at *
  obtain ⟨ao, cap, rfl, hF⟩ := hb.form bl4
  have HF := hid' hF
  have HBLS := hid' hbls
  have hbl2 := hbl
  unfold big at hbl
  unfold Fn.val
  dsimp only
  clear hb hF hbls
  go_enter Try.func9, Try.ntmps9
  go_wp2_with fail
  obtain ⟨fc, efc⟩ : ∃ fc : Array Value, fc = #[.string nm, .int .i64 ps, .int .i64 rs, .int .i64 sl, .slice ao bl.length cap] := ⟨_, rfl⟩
  have hf4 : fc[4]? = some (.slice ao bl.length cap) := by rw [efc]; rfl
  have HF4 := hid' hf4
  rw [← efc]
  have hst : BM w fc (.slice none 0 0) (.slice none 0 0) ([] : List Bl) (((w.alloc (.cells fc 24)).alloc (.cells #[.string ⟨#[]⟩, .int .i64 0, .int .i64 0, .int .i64 0, .slice none 0 0] 24)).alloc (.cells #[.string ⟨#[]⟩, .int .i64 0, .int .i64 1, .int .i64 0, .slice none 0 0] 24)) := by
    have s2 := heap_alloc_new ((w.alloc (.cells fc 24)).alloc (.cells #[.string ⟨#[]⟩, .int .i64 0, .int .i64 0, .int .i64 0, .slice none 0 0] 24)) (.cells #[.string ⟨#[]⟩, .int .i64 0, .int .i64 1, .int .i64 0, .slice none 0 0] 24)
    have s1 := heap_alloc_new (w.alloc (.cells fc 24)) (.cells #[.string ⟨#[]⟩, .int .i64 0, .int .i64 0, .int .i64 0, .slice none 0 0] 24)
    have e1 : (w.alloc (.cells fc 24)).heap.size = w.heap.size + 1 := by simp
    have e2 : ((w.alloc (.cells fc 24)).alloc (.cells #[.string ⟨#[]⟩, .int .i64 0, .int .i64 0, .int .i64 0, .slice none 0 0] 24)).heap.size = w.heap.size + 1 + 1 := by simp
    rw [e2] at s2
    rw [e1] at s1
    refine ⟨⟨?_, ?_, s2, below3 _ _ _ _⟩, World.ownsRow_nil _ _ _ _⟩
    · rw [Below.heap_alloc _ _ _ (by simp; omega), Below.heap_alloc _ _ _ (by simp), heap_alloc_new]
    · rw [Below.heap_alloc _ _ _ (by simp)]
      exact s1
  have HST := hid' hst
  clear efc hst hf4
  generalize ((w.alloc (.cells fc 24)).alloc (.cells #[.string ⟨#[]⟩, .int .i64 0, .int .i64 0, .int .i64 0, .slice none 0 0] 24)).alloc (.cells #[.string ⟨#[]⟩, .int .i64 0, .int .i64 1, .int .i64 0, .slice none 0 0] 24) = w3 at *
  go_loopw [4] (fun iv wr => ∃ (k : Nat) (hv : Value), k ≤ bl.length ∧ iv = .int .i64 k ∧ BM w fc hv hv ((bl.take k).map bareB) wr) (fun iv _ => bl.length - (intOf iv).toNat)
  case atStart => exact ⟨0, _, Nat.zero_le _, rfl, HST.out⟩
  case round =>
    obtain ⟨k, hv, hk, rfl, hM⟩ := hrel
    have HM := hid' hM
    obtain ⟨c0, c1⟩ := hM.cells
    replace c0 := (c0 4).trans HF4.out
    have HD := hid' hM.toBD
    clear hM
    by_cases hkl : k < bl.length
    · obtain ⟨b, off, rfl, hblt, hcp, hcx⟩ := HF.out k hkl
      have HBK := hid' (HBLS.out _ (List.getElem_mem hkl))
      obtain ⟨to_, tc, etv⟩ := HBK.out.t.len
      have HTK : Hid ((bl.take (k + 1)).map bareB = (bl.take k).map bareB ++ [bareB bl[k]]) := by unfold Hid; rw [take_snoc bl k hkl, List.map_append]; rfl
      have hlen : ((bl.take k).map bareB).length = k := by rw [List.length_map, List.length_take]; omega
      have HLEN := hid' hlen
      have HCX := hid' hcx
      generalize (bl.take k).map bareB = l at *
      have hraw : Hid (Bl.cells (rawB bl[k]) = [.slice none 0 0, .int .i64 bl[k].en, .int .i64 bl[k].arg, .slice to_ bl[k].to.length tc]) := by unfold Hid rawB Bl.cells; rw [etv]
      generalize bl[k] = x at *
      clear hcx hlen
      go_wp2_with fail
      have hne : Nonempty (InC (BD w fc hv)) := ⟨⟨_, HD.out⟩⟩
      have r0 := fun q : InC (BD w fc hv) => (q.2.cells.1 4).trans HF4.out
      have r1 := fun q : InC (BD w fc hv) => q.2.cells.2
      have r2 := fun q : InC (BD w fc hv) => (HCX.out q.1 q.2.below 1 (by omega))
      have r3 := fun q : InC (BD w fc hv) => (HCX.out q.1 q.2.below 2 (by omega))
      have r4 := fun q : InC (BD w fc hv) => (HCX.out q.1 q.2.below 3 (by omega))
      simp only [Bl.cells, List.getElem?_cons_zero, List.getElem?_cons_succ, etv] at r2 r3 r4
      have HC0 : BaC w fc hv l (rawB x) (none, none) wr.drew := HM.out.on (W' := wr.drew) ⟨rfl, rfl, rfl, Nat.le_refl _, fun _ _ => rfl⟩
      refine region_pickD (BD w fc hv) (BaC w fc hv l (rawB x)) (none, none) 24 3 (fun k => decide (k ≠ 21 ∧ k ≠ 22)) [0, 1, 2, 3, 4, 5, 6, 7, 8, 9, 10, 11, 12, 13, 14, 15, 16, 17, 18, 19, 20] mixed (by kernel_rfl) (by kernel_rfl) (by kernel_rfl) (by simp) rfl (by decide) (by kernel_rfl) HC0 BaC.bd BaC.on (fun _ => ?_)
      clear HC0
      simp only [List.filterMap_cons, List.filterMap_nil, List.getElem?_cons_zero, List.getElem?_cons_succ]
      repeat (
        refine wpFreeD_step (fun K hK => ?_)
        go_simp
        first
          | (refine hK _ ?_; clear hK K)
          | (apply Exists.intro
             refine ⟨fun _ => ?_, hK _ ?_⟩
             (with_reducible rfl)
             clear hK K))
      refine wpFreeD_nil ?_
      refine headF_step [21] (by kernel_rfl) (by simp) (fun q hq => ?_)
      obtain rfl : q = 21 := by simpa using hq
      refine ⟨by omega, .inl ⟨by decide, _, rfl, by simp [Region.wanted], fun w5 hw5 => .inl ⟨.slice (some ⟨w5.heap.size, 0, none⟩) 1 1, (some w5.heap.size, none), _, ?_, ⟨BM.on (hv := hv) (l := l) hw5 (below1 w5 (.cells (Bl.cells (rawB x)).toArray 45)), heap_alloc_new _ _⟩, ?_⟩⟩⟩
      · rw [hraw.out]
        simp [go_sem]
      · clear hw5
        generalize w5.heap.size = qb
        refine headF_step [22] (by kernel_rfl) (by simp) (fun q hq => ?_)
        obtain rfl : q = 22 := by simpa using hq
        refine ⟨by omega, .inl ⟨by decide, _, rfl, by simp [Region.wanted], fun w6 hw6 => ?_⟩⟩
        obtain ⟨hw6, hq6⟩ := hw6
        obtain ⟨b7, cap7, w7, hr7, hM7⟩ := hw6.app hq6 (bare_one _ rfl (w := w) (by rw [show (rawB x).tv = x.tv from rfl]; exact HBK.out.t)) (by rw [HLEN.out]; omega)
        have hM8 : BaC w fc hv l (rawB x) (some qb, some (b7, cap7)) w7 := hM7
        rw [HLEN.out] at hr7
        refine .inl ⟨.slice (some ⟨b7, 0, none⟩) (k + 1) cap7, (some qb, some (b7, cap7)), w7, ?_, hM8, ?_⟩
        · refine exec_append (.tmp 14) (.tmp 34) 22 rfl hv (.slice (some ⟨qb, 0, none⟩) 1 1) _ ?_ ?_ (hr7 _)
          · simp [Act.eval, Act.put]
          · simp [Act.eval, Act.put]
        · refine headD_lex (D := BD w fc hv) (m := 0) (by kernel_rfl) (by kernel_rfl) (by kernel_rfl) (by simp) (fun s _ _ h => seqB_ready h.1) BaC.bd BaC.on _ [23] _ _ _ (pick_ops _ [23] (by simp)) (by decide) (inv_of (by kernel_rfl)) (by kernel_rfl) ?_
          simp only [List.filterMap_cons, List.filterMap_nil, List.getElem?_cons_zero, List.getElem?_cons_succ]
          repeat (
            refine wpFreeD_step (fun K hK => ?_)
            go_simp
            first
              | (refine hK _ ?_; clear hK K)
              | (apply Exists.intro
                 refine ⟨fun _ => ?_, hK _ ?_⟩
                 (with_reducible rfl)
                 clear hK K))
          refine wpFreeD_nil ?_
          refine ⟨by kernel_rfl, fun w8 hw8 => ?_⟩
          have hM9 := show BM w fc hv (.slice (some ⟨b7, 0, none⟩) (l.length + 1) cap7) (l ++ [rawB x]) w8 from hw8
          rw [HLEN.out] at hM9
          clear hw6 hq6 hr7 hM7 hM8 hw8
          have hb9 : b7 ≠ w.heap.size + 1 + 1 := fun e => by
            obtain ⟨cur, hc⟩ := own_block hM9.row (b := b7) rfl
            rw [e, hM9.g] at hc
            injection hc with hc
            injection hc with _ e2
            cases e2
          have hb8 := Ne.symm hb9
          have q1 := hM9.cells.2
          have q2 := frozen_of_row w8 _ 4 _ 24 hM9.g
          have hrow := hM9.row
          unfold Own at hrow
          have hl1 : (l ++ [rawB x]).length = k + 1 := by rw [List.length_append, HLEN.out]; rfl
          rw [hl1] at hrow
          have HL2 := HLEN.out
          have hel : (l ++ [rawB x])[k]'(by rw [hl1]; omega) = rawB x := by rw [List.getElem_append_right (by omega)]; simp [HL2]
          have hcl : ∀ c, c < 4 → w8.cell? ⟨b7, k * 4 + c, none⟩ = (Bl.cells (rawB x))[c]? := fun c hc => by
            have h1 := World.ownsRow.cellAt hrow (k * 4 + c) (by omega)
            rw [h1, flat_get bl4 _ k c (by rw [hl1]; omega) hc, hel]
          rw [hraw.out] at hcl
          have q3 := hcl 1 (by omega)
          have q4 := hcl 2 (by omega)
          simp only [List.getElem?_cons_zero, List.getElem?_cons_succ] at q3 q4
          obtain ⟨cur, hcur⟩ := own_block hM9.row (b := b7) rfl
          have q5 := frozen_of_row w8 b7 (k * 4 + 2) _ 45 hcur
          have HM9 := hid' hM9
          clear hM9 hrow hcl hcur hl1 hel
          by_cases e2 : x.en = 2
          · have t2 : (x.en == 2) = true := by simp [e2]
            have HX : Hid (Bl.cells (bareB x) = (Bl.cells (rawB x)).set 2 (.int .i64 0)) := by unfold Hid; simp [Bl.cells, bareB, rawB, bareA, e2]
            go_wp2_with fail
            go_roundw
            case rel => exact ⟨k + 1, _, by omega, by go_num, by rw [HTK.out]; exact HM9.out.head.arg2 HLEN.out HX.out⟩
            case measure => simp [intOf]; omega
          · have t2 : (x.en == 2) = false := by simp [e2]
            by_cases e3 : x.en = 3
            · have t3 : (x.en == 3) = true := by simp [e3]
              have HX : Hid (Bl.cells (bareB x) = (Bl.cells (rawB x)).set 2 (.int .i64 (-1))) := by unfold Hid; simp [Bl.cells, bareB, rawB, bareA, e3]
              go_wp2_with fail
              go_roundw
              case rel => exact ⟨k + 1, _, by omega, by go_num, by rw [HTK.out]; exact HM9.out.head.arg2 HLEN.out HX.out⟩
              case measure => simp [intOf]; omega
            · have t3 : (x.en == 3) = false := by simp [e3]
              have HX : Hid (bareB x = rawB x) := by unfold Hid; simp [bareB, rawB, bareA, e2, e3]
              go_wp2_with fail
              go_roundw
              case rel => exact ⟨k + 1, _, by omega, by go_num, by rw [HTK.out, HX.out]; exact HM9.out.head⟩
              case measure => simp [intOf]; omega
    · have ek : k = bl.length := by omega
      subst ek
      have HM2 := HM.out
      rw [List.take_length] at HM2
      obtain ⟨ho, cc, eh⟩ := HM2.src.len
      subst eh
      have g0 := fun o => cell_of_row wr _ o _ 24 (0, 0) HM2.g
      have ga := g0 0
      have gb := g0 1
      have gc := g0 2
      have gd := g0 3
      have ge := g0 4
      have fa := frozen_of_row wr _ 0 _ 24 HM2.a
      have fb := frozen_of_row wr _ 1 _ 24 HM2.a
      have fd := frozen_of_row wr _ 2 _ 24 HM2.a
      have fe := frozen_of_row wr _ 3 _ 24 HM2.a
      have fg := frozen_of_row wr _ 4 _ 24 HM2.a
      have z0 := fun o => cell_of_row wr _ o _ 24 (0, 0) HM2.a
      have za := z0 0
      have zb := z0 1
      have zc := z0 2
      have zd := z0 3
      have ze := z0 4
      simp only [gcells, zcells] at ga gb gc gd ge za zb zc zd ze
      simp at ga gb gc gd ge za zb zc zd ze
      have HM3 := hid' HM2
      clear HM2 HM HD g0 z0 c1
      go_wp2_with fail
      (try simp only [Exit.inBlock, Exit.then])
      refine bodyPost_ret (v := .agg #[.string ⟨#[]⟩, .int .i64 0, .int .i64 1, .int .i64 0, .slice ho (List.map bareB bl).length cc]) (by simp [results, Try.results9, go_sem, za, zb, zc, zd, ze]) rfl ?_
      obtain ⟨h1, h2⟩ := HM3.out.fin (W' := _) ((((((setK wr (w.heap.size + 1) 0 (.string ⟨#[]⟩)).set (a := ⟨w.heap.size + 1, 1, none⟩) (.inl rfl) (.int .i64 0)).set (a := ⟨w.heap.size + 1, 2, none⟩) (.inl rfl) (.int .i64 1)).set (a := ⟨w.heap.size + 1, 3, none⟩) (.inl rfl) (.int .i64 0)).set (a := ⟨w.heap.size + 1, 4, none⟩) (.inl rfl) _))
      exact ⟨_, rfl, h1, h2⟩
end
end Go.Proofs.Ytgkaeoieclegjaa
