/- A row of one's own of things that hold lists; a thing more in a region. -/
import Derived.Test.YtgkaeoieclegjaaPm
import Derived.Test.YtgkaeoieclegjaaFreeD
import Derived.Deep.RegionLaw
namespace Go.Proofs.Ytgkaeoieclegjaa
open Go.RowKit Go.Maps
set_option linter.unusedVariables false
set_option linter.unusedSimpArgs false
section
variable {α : Type} {f : α → List Value} {z : Nat}
/-- append(l, m...). -/
theorem append_own2 {st et : TypeId} {z0 : Value} {bytes : Nat} {w : World} {base : Nat} {v x : Value} {l m : List α} (hz : ∀ x, (f x).length = z) (h1 : ∀ x ∈ m, ∀ u ∈ f x, u.oneCell' = true) (hst : Try.prog.underlying st = some (.slice et))
    (hi' : (Try.prog.info? et).map (fun i => (i.zero, i.size, i.bytes)) = some (some z0, z, bytes)) (hz0 : z0.cells.size = z) (hzp : 0 < z)
    (h : Own et z f w base v l) (hs : Src f w x m) (hl : (l.length + m.length) * bytes ≤ 140737488355328) (hl2 : l.length + m.length ≤ maxLen) (hb : base ≤ w.heap.size) (ty : TypeId) :
    ∃ v' w', (Builtin.append_ #[st, st] ty #[v, x]).run Try.prog w = .ok v' w' ∧ Own et z f w' base v' (l ++ m) ∧ w.grownBy w' v.ownBlock ∧ (v'.ownBlock = v.ownBlock ∨ v'.ownBlock = some w.heap.size) := by
  obtain ⟨i0, hi, e0, e1, e2⟩ := info_parts hi'
  have hone : ∀ u ∈ flat f m, u.oneCell' = true := fun u hu => by
    obtain ⟨x, hm, hx⟩ := List.mem_flatMap.1 hu
    exact h1 x hm u hx
  have some_case : ∀ (a : Addr) (c : Nat), (∀ j u, (flat f m)[j]? = some u → w.cell? (a.add j) = some u) → ∃ v' w', (Builtin.append_ #[st, st] ty #[v, .slice (some a) m.length c]).run Try.prog w = .ok v' w' ∧ Own et z f w' base v' (l ++ m) ∧ w.grownBy w' v.ownBlock ∧ (v'.ownBlock = v.ownBlock ∨ v'.ownBlock = some w.heap.size) := fun a c hc => by
    obtain ⟨v', w', h1, h2, h3, h4, h5⟩ := run_append_own_at (P := Try.prog) w base st ty et i0 _ z bytes hst hi e0 e1 e2 hz0 hzp v l.length (flat f l) h a m.length c (flat f m) (flat_length hz m) hc hone hl2 hl hb
    exact ⟨v', w', h1, by unfold Own; rw [flat_append, List.length_append]; exact h2, h3, h5⟩
  rcases hs with ⟨rfl, ao, cap, rfl⟩ | ⟨b, off, cap, rfl, hlt, _, hc⟩
  · cases ao with
    | some a => exact some_case a cap (fun j u hj => by simp [flat] at hj)
    | none =>
      refine ⟨v, w, ?_, by rw [List.append_nil]; exact h, ⟨rfl, rfl, rfl, Nat.le_refl _, fun _ _ _ => rfl⟩, .inl rfl⟩
      rcases h.2 with ⟨rfl, _⟩ | ⟨g, cp, cur, rfl, hg, hh, hn, _⟩
      · simp [Builtin.append_, run_underlying hst, sizeOf, typeInfo, hi, Builtin.lenOf, Builtin.firstCells]
      · have := run_append_room_src (P := Try.prog) w st st ty et i0 hst hi g 0 l.length cp (.slice none 0 cap) 0 [] (Src.ofNil w hst cap) (by omega) (by simp) (by simp)
        simpa [World.setCells] using this
  · exact some_case ⟨b, off, none⟩ cap (fun j u hj => by rw [Addr.add_lit]; exact hc j u hj)
end
theorem own_block {W : World} {B : Nat} {e : TypeId} {z n : Nat} {v : Value} {xs : List Value} (h : W.ownsRow B e z v n xs) {b : Nat} (hb : v.ownBlock = some b) : ∃ cur, W.heap[b]? = some (.cells cur e (0, 0)) := by
  rcases h.2 with ⟨rfl, _⟩ | ⟨g, cap, cur, rfl, _, hh, _⟩
  · cases hb
  · injection hb with hb
    subst hb
    exact ⟨cur, hh⟩
/-- A row of another type stands. -/
theorem own_ty {W W' : World} {B : Nat} {e T : TypeId} {z n b : Nat} {v : Value} {xs : List Value} {cur : Array Value} {fr : Nat × Nat} (h : W.ownsRow B e z v n xs) (hb : W.heap[b]? = some (.cells cur T fr)) (hT : e ≠ T) (K : Kept (fun k => k = b) W W') : W'.ownsRow B e z v n xs :=
  K.owns h (fun g hg e2 => by
    subst e2
    obtain ⟨c, hc⟩ := own_block h hg
    rw [hc] at hb
    injection hb with hb
    injection hb with _ h2
    exact hT h2)
theorem setK (W : World) (b o : Nat) (v : Value) : Kept (fun k => k = b) W (W.setCell ⟨b, o, none⟩ v) := by refine Kept.set (Kept.rfl _ _) (.inl ?_) v; rfl

/-- A block of another type stands. -/
theorem step_run {P : Program} {ops : Array Oper} {o : Oper} {a : Act} {w w' : World} {K : Act → World → Prop} {Q : Exit → Act → World → Prop} {E : Prop}
    (hg : o.guard = none) (s x : Operand) (t : TypeId) (hop : o.op = Op.call { callee := Callee.builtin Builtin.append, args := #[s, x], argTypes := #[t, t] })
    (v xv v' : Value) (hs : a.eval s = v) (hx : a.eval x = xv) (hrun : (Builtin.append_ #[t, t] o.type #[v, xv]).run P w = .ok v' w') (hK : K (a.put o.dst v') w') :
    if Region.wanted o (yielded ops a.tmps) = true then Oper.wp P o a w K Q else E := by
  have hw : Region.wanted o (yielded ops a.tmps) = true := by simp [Region.wanted, hg]
  rw [if_pos hw]
  unfold Oper.wp
  simp [execOp, hop, resolve, invoke, builtin, hs, hx, hrun, Result.andThen]
  exact hK
theorem own_form {W : World} {B : Nat} {e : TypeId} {z n : Nat} {v : Value} {xs : List Value} (h : W.ownsRow B e z v (n + 1) xs) : ∃ b cap, v = .slice (some ⟨b, 0, none⟩) (n + 1) cap := by
  rcases h.2 with ⟨_, e⟩ | ⟨g, cap, cur, e, _⟩
  · cases e
  · exact ⟨g, cap, e⟩
theorem own_len {W : World} {B : Nat} {e : TypeId} {z n : Nat} {v : Value} {xs : List Value} (h : W.ownsRow B e z v n xs) : ∃ ao cap, v = .slice ao n cap ∧ n ≤ cap := by
  rcases h.2 with ⟨e, e2⟩ | ⟨g, cap, cur, e, _, _, hc, _⟩
  · subst e2
    exact ⟨_, _, e, Nat.le_refl _⟩
  · exact ⟨_, cap, e, hc⟩
/-- A row of another type stands, behind a change of a row. -/
theorem own_ty2 {W W' : World} {B B' : Nat} {e T : TypeId} {z n z' n' : Nat} {v v' : Value} {xs xs' : List Value} (h : W.ownsRow B e z v n xs) (h' : W.ownsRow B' T z' v' n' xs') (hT : e ≠ T) (K : Kept (fun k => v'.ownBlock = some k) W W') : W'.ownsRow B e z v n xs :=
  K.owns h (fun g hg e2 => by
    obtain ⟨c, hc⟩ := own_block h hg
    obtain ⟨d, hd⟩ := own_block h' e2
    rw [hc] at hd
    injection hd with hd
    injection hd with _ h2
    exact hT h2)
theorem grown_kept {W W' : World} {v : Value} (h : W.grownBy W' v.ownBlock) : Kept (fun k => v.ownBlock = some k) W W' := Kept.of_grown h (fun _ e => e)
theorem grown_r {W W' : World} {B r : Nat} {e T : TypeId} {z n : Nat} {v : Value} {xs : List Value} {cur : Array Value} {fr : Nat × Nat} (h : W.ownsRow B e z v n xs) (hr : W.heap[r]? = some (.cells cur T fr)) (hT : e ≠ T) (K : Kept (fun k => v.ownBlock = some k) W W') : W'.heap[r]? = some (.cells cur T fr) := by
  refine (K.block r (Array.getElem?_eq_some_iff.1 hr).1 (fun e2 => ?_)).trans hr
  obtain ⟨c, hc⟩ := own_block h e2
  rw [hc] at hr
  injection hr with hr
  injection hr with _ h2
  exact hT h2
theorem flat_set {α : Type} (f : α → List Value) {z : Nat} (hz : ∀ x, (f x).length = z) : ∀ (l : List α) (i c : Nat) (x : α) (u : Value) (hi : i < l.length) (hc : c < z), f x = (f l[i]).set c u → flat f (l.set i x) = (flat f l).set (i * z + c) u
  | y :: l, 0, c, x, u, _, hc, e => by
    rw [List.set_cons_zero, flat_cons, flat_cons, e, List.set_append_left _ _ (by rw [hz]; omega)]
    simp
  | y :: l, i + 1, c, x, u, hi, hc, e => by
    rw [List.set_cons_succ, flat_cons, flat_cons, flat_set f hz l i c x u (by simpa using hi) hc e, List.set_append_right _ _ (by rw [hz, Nat.succ_mul]; omega), hz]
    congr 2
    rw [Nat.succ_mul]; omega
theorem bl_one {w : World} {b : Bl} (h : Bl.ok w b) : ∀ u ∈ Bl.cells b, u.oneCell' = true := by
  intro u hu
  obtain ⟨ao, cap, e⟩ := h.c.len
  obtain ⟨ao', cap', e'⟩ := h.t.len
  simp only [Bl.cells, List.mem_cons, List.not_mem_nil, or_false] at hu
  rcases hu with rfl | rfl | rfl | rfl
  · rw [e]; rfl
  · rfl
  · rfl
  · rw [e']; rfl
end Go.Proofs.Ytgkaeoieclegjaa
