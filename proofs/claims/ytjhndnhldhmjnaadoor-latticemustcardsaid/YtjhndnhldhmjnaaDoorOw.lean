/- A row of one's own; a thing more in a row of rows. -/
import Derived.Test.YtjhndnhldhmjnaaDoorTu
import Derived.Deep.RegionLaw
namespace Go.Proofs.YtjhndnhldhmjnaaDoor
open Go.RowKit Go.Maps
set_option linter.unusedVariables false
set_option linter.unusedSimpArgs false
section
variable {α : Type} {f : α → List Value} {z : Nat}
/-- append(l, m...). -/
theorem append_own2 {st et : TypeId} {z0 : Value} {bytes : Nat} {w : World} {base : Nat} {v x : Value} {l m : List α} (hz : ∀ x, (f x).length = z) (h1 : ∀ x ∈ m, ∀ u ∈ f x, u.oneCell' = true) (hst : Tryd.prog.underlying st = some (.slice et))
    (hi' : (Tryd.prog.info? et).map (fun i => (i.zero, i.size, i.bytes)) = some (some z0, z, bytes)) (hz0 : z0.cells.size = z) (hzp : 0 < z)
    (h : Own et z f w base v l) (hs : Src f w x m) (hl : (l.length + m.length) * bytes ≤ 140737488355328) (hl2 : l.length + m.length ≤ maxLen) (hb : base ≤ w.heap.size) (ty : TypeId) :
    ∃ v' w', (Builtin.append_ #[st, st] ty #[v, x]).run Tryd.prog w = .ok v' w' ∧ Own et z f w' base v' (l ++ m) ∧ w.grownBy w' v.ownBlock ∧ (v'.ownBlock = v.ownBlock ∨ v'.ownBlock = some w.heap.size) := by
  obtain ⟨i0, hi, e0, e1, e2⟩ := info_parts hi'
  have hone : ∀ u ∈ flat f m, u.oneCell' = true := fun u hu => by
    obtain ⟨x, hm, hx⟩ := List.mem_flatMap.1 hu
    exact h1 x hm u hx
  have some_case : ∀ (a : Addr) (c : Nat), (∀ j u, (flat f m)[j]? = some u → w.cell? (a.add j) = some u) → ∃ v' w', (Builtin.append_ #[st, st] ty #[v, .slice (some a) m.length c]).run Tryd.prog w = .ok v' w' ∧ Own et z f w' base v' (l ++ m) ∧ w.grownBy w' v.ownBlock ∧ (v'.ownBlock = v.ownBlock ∨ v'.ownBlock = some w.heap.size) := fun a c hc => by
    obtain ⟨v', w', h1, h2, h3, h4, h5⟩ := run_append_own_at (P := Tryd.prog) w base st ty et i0 _ z bytes hst hi e0 e1 e2 hz0 hzp v l.length (flat f l) h a m.length c (flat f m) (flat_length hz m) hc hone hl2 hl hb
    exact ⟨v', w', h1, by unfold Own; rw [flat_append, List.length_append]; exact h2, h3, h5⟩
  rcases hs with ⟨rfl, ao, cap, rfl⟩ | ⟨b, off, cap, rfl, hlt, _, hc⟩
  · cases ao with
    | some a => exact some_case a cap (fun j u hj => by simp [flat] at hj)
    | none =>
      refine ⟨v, w, ?_, by rw [List.append_nil]; exact h, ⟨rfl, rfl, rfl, Nat.le_refl _, fun _ _ _ => rfl⟩, .inl rfl⟩
      rcases h.2 with ⟨rfl, _⟩ | ⟨g, cp, cur, rfl, hg, hh, hn, _⟩
      · simp [Builtin.append_, run_underlying hst, sizeOf, typeInfo, hi, Builtin.lenOf, Builtin.firstCells]
      · have := run_append_room_src (P := Tryd.prog) w st st ty et i0 hst hi g 0 l.length cp (.slice none 0 cap) 0 [] (Src.ofNil w hst cap) (by omega) (by simp) (by simp)
        simpa [World.setCells] using this
  · exact some_case ⟨b, off, none⟩ cap (fun j u hj => by rw [Addr.add_lit]; exact hc j u hj)
end
theorem own_block {W : World} {B : Nat} {e : TypeId} {z n : Nat} {v : Value} {xs : List Value} (h : W.ownsRow B e z v n xs) {b : Nat} (hb : v.ownBlock = some b) : ∃ cur, W.heap[b]? = some (.cells cur e (0, 0)) := by
  rcases h.2 with ⟨rfl, _⟩ | ⟨g, cap, cur, rfl, _, hh, _⟩
  · cases hb
  · injection hb with hb
    subst hb
    exact ⟨cur, hh⟩
/-- A row of another type stands. -/
theorem own_ty {W W' : World} {B : Nat} {e T : TypeId} {z n b : Nat} {v : Value} {xs : List Value} {cur : Array Value} {fr : Nat × Nat} (h : W.ownsRow B e z v n xs) (hb : W.heap[b]? = some (.cells cur T fr)) (hT : e ≠ T) (K : Kept (fun k => k = b) W W') : W'.ownsRow B e z v n xs :=
  K.owns h (fun g hg e2 => by
    subst e2
    obtain ⟨c, hc⟩ := own_block h hg
    rw [hc] at hb
    injection hb with hb
    injection hb with _ h2
    exact hT h2)
theorem setK (W : World) (b o : Nat) (v : Value) : Kept (fun k => k = b) W (W.setCell ⟨b, o, none⟩ v) := by refine Kept.set (Kept.rfl _ _) (.inl ?_) v; rfl

theorem step_run {P : Program} {ops : Array Oper} {o : Oper} {a : Act} {w w' : World} {K : Act → World → Prop} {Q : Exit → Act → World → Prop} {E : Prop}
    (hg : o.guard = none) (s x : Operand) (t : TypeId) (hop : o.op = Op.call { callee := Callee.builtin Builtin.append, args := #[s, x], argTypes := #[t, t] })
    (v xv v' : Value) (hs : a.eval s = v) (hx : a.eval x = xv) (hrun : (Builtin.append_ #[t, t] o.type #[v, xv]).run P w = .ok v' w') (hK : K (a.put o.dst v') w') :
    if Region.wanted o (yielded ops a.tmps) = true then Oper.wp P o a w K Q else E := by
  have hw : Region.wanted o (yielded ops a.tmps) = true := by simp [Region.wanted, hg]
  rw [if_pos hw]
  unfold Oper.wp
  simp [execOp, hop, resolve, invoke, builtin, hs, hx, hrun, Result.andThen]
  exact hK
theorem own_form {W : World} {B : Nat} {e : TypeId} {z n : Nat} {v : Value} {xs : List Value} (h : W.ownsRow B e z v (n + 1) xs) : ∃ b cap, v = .slice (some ⟨b, 0, none⟩) (n + 1) cap := by
  rcases h.2 with ⟨_, e⟩ | ⟨g, cap, cur, e, _⟩
  · cases e
  · exact ⟨g, cap, e⟩
theorem own_len {W : World} {B : Nat} {e : TypeId} {z n : Nat} {v : Value} {xs : List Value} (h : W.ownsRow B e z v n xs) : ∃ ao cap, v = .slice ao n cap ∧ n ≤ cap := by
  rcases h.2 with ⟨e, e2⟩ | ⟨g, cap, cur, e, _, _, hc, _⟩
  · subst e2
    exact ⟨_, _, e, Nat.le_refl _⟩
  · exact ⟨_, cap, e, hc⟩
/-- A thing more in one of the rows. -/
theorem PM.push {W : World} {B g j : Nat} {vs : List Value} {L : List (List Int)} {x : Int} (h : PM W B g vs L) (hj : j < L.length) (hB : B ≤ W.heap.size) (hl : (L[j].length + 1) * 8 ≤ 140737488355328) :
    ∃ b cap w2, (∀ ty, (Builtin.append_ #[46, 46] ty #[vs[j]'(by rw [h.len]; exact hj), .slice (some ⟨W.heap.size, 0, none⟩) 1 1]).run Tryd.prog (W.alloc (.cells #[.int .i64 x] 3)) = .ok (.slice (some ⟨b, 0, none⟩) (L[j].length + 1) cap) w2) ∧
      w2.cell? ⟨g, j, none⟩ = some (vs[j]'(by rw [h.len]; exact hj)) ∧ w2.frozen? ⟨g, j, none⟩ = false ∧
      PM (w2.setCell ⟨g, j, none⟩ (.slice (some ⟨b, 0, none⟩) (L[j].length + 1) cap)) B g (vs.set j (.slice (some ⟨b, 0, none⟩) (L[j].length + 1) cap)) (L.set j (L[j] ++ [x])) ∧
      Below B W (w2.setCell ⟨g, j, none⟩ (.slice (some ⟨b, 0, none⟩) (L[j].length + 1) cap)) ∧
      Kept (fun k => k = g ∨ (vs[j]'(by rw [h.len]; exact hj)).ownBlock = some k) W (w2.setCell ⟨g, j, none⟩ (.slice (some ⟨b, 0, none⟩) (L[j].length + 1) cap)) ∧
      ((vs[j]'(by rw [h.len]; exact hj)).ownBlock = some b ∨ W.heap.size ≤ b) ∧ Kept (fun k => k = g ∨ (vs[j]'(by rw [h.len]; exact hj)).ownBlock = some k) W w2 := by
  have hv : j < vs.length := by rw [h.len]; exact hj
  have hq := heap_alloc_new W (.cells #[.int .i64 x] 3)
  have hqlt := (Array.getElem?_eq_some_iff.1 hq).1
  have hbq := below1 W (.cells #[.int .i64 x] 3)
  have hsrc : Src icell (W.alloc (.cells #[.int .i64 x] 3)) (.slice (some ⟨W.heap.size, 0, none⟩) 1 1) [x] := .inr ⟨W.heap.size, 0, 1, rfl, hqlt, Nat.le_refl _, fun k u hk => by
    rw [Nat.zero_add, cell_of_row _ W.heap.size k _ 3 (0, 0) hq]
    simpa [flat, icell] using hk⟩
  have hP := h.on hbq
  have hO := hP.el j hv hj
  obtain ⟨v', w2, h1, h2, h3, h4⟩ := append_own2 (f := icell) (st := 46) (et := 3) (bytes := 8) ic1 (base := B) (v := vs[j]) (x := .slice (some ⟨W.heap.size, 0, none⟩) 1 1) (m := [x]) (fun y hy u hu => by
    obtain rfl := List.mem_singleton.1 hu
    rfl) Tryd.underlying46 info3 rfl (by decide) hO hsrc (by simp only [List.length_singleton]; omega) (by simp only [List.length_singleton]; unfold maxLen; omega) (Nat.le_trans hB hbq.size) 46
  have h2' := h2
  unfold Own at h2'
  rw [List.length_append, List.length_singleton] at h2'
  obtain ⟨b, cap, rfl⟩ := own_form h2'
  have hr1 := hP.row.kept h3 (.inr (fun e => h.ng j hv e.symm))
  have K1 : Kept (fun k => k = g ∨ vs[j].ownBlock = some k) W w2 := (Kept.of_below hbq).trans (Kept.of_grown h3 (fun k e => .inr e))
  refine ⟨b, cap, w2, fun ty => h1, ?_, World.ownsRow.frozenAt hr1 j, h.app hj hv h2 h3 h4, h.appBelow hB hj hv h3, K1.set (.inl (.inl rfl)) _, ?_, K1⟩
  · exact (World.ownsRow.cellAt hr1 j (by omega)).trans (List.getElem?_eq_getElem hv)
  · rcases h4 with e | e
    · exact .inl e.symm
    · right
      have : b = (W.alloc (.cells #[.int .i64 x] 3)).heap.size := by injection e
      rw [this]
      exact hbq.size
end Go.Proofs.YtjhndnhldhmjnaaDoor
