/- The document's table in memory. -/
import Derived.Test.YtgkaeoieclegjaaWo
import Derived.Test.YtgkaeoieclegjaaBf
namespace Go.Proofs.Ytgkaeoieclegjaa
open Go Go.RowKit Go.Maps
set_option linter.unusedVariables false
set_option linter.unusedSimpArgs false
/-- The table, to be read. -/
structure TabM (W : World) (n a : Nat) (og : Nat) (gs : Nat → Nat) (t : Nat → Nat → Bool) : Prop where
  out : ∀ j, j < a → W.cell? ⟨og, j, none⟩ = some (.slice (some ⟨gs j, 0, none⟩) n n)
  row : ∀ j, j < a → RowB W (gs j) n (t j)
theorem TabM.on {W W' : World} {n a og : Nat} {gs : Nat → Nat} {t : Nat → Nat → Bool} (h : TabM W n a og gs t) (hb : Below W.heap.size W W') : TabM W' n a og gs t :=
  ⟨fun j hj => keep_cell (h.out j hj) hb, fun j hj => (h.row j hj).on hb⟩
/-- The table, as it grows: an own row of rows. -/
structure TbG (W : World) (B n a : Nat) (v : Value) (gs : Nat → Nat) (t : Nat → Nat → Bool) : Prop where
  own : Own 34 1 vcell W B v ((List.range a).map (fun j => Value.slice (some ⟨gs j, 0, none⟩) n n))
  row : ∀ j, j < a → RowB W (gs j) n (t j)
theorem TbG.on {W W' : World} {B n a : Nat} {v : Value} {gs : Nat → Nat} {t : Nat → Nat → Bool} (h : TbG W B n a v gs t) (hb : Below W.heap.size W W') : TbG W' B n a v gs t :=
  ⟨(Kept.of_below (S := fun _ => False) hb).owns h.own (fun _ _ e => e), fun j hj => (h.row j hj).on hb⟩
theorem TbG.kept {S : Nat → Prop} {W W' : World} {B n a : Nat} {v : Value} {gs : Nat → Nat} {t : Nat → Nat → Bool} (h : TbG W B n a v gs t) (hk : Kept S W W') (h1 : ∀ b, v.ownBlock = some b → ¬ S b) (h2 : ∀ j, j < a → ¬ S (gs j)) : TbG W' B n a v gs t :=
  ⟨hk.owns h.own h1, fun j hj => (h.row j hj).kept hk (h2 j hj)⟩
theorem infR : (Try.prog.info? 34).map (fun i => (i.zero, i.size, i.bytes)) = some (some (.slice none 0 0), 1, 24) := by kernel_rfl
/-- A row more. -/
theorem TbG.app {W : World} {B n a g q : Nat} {v : Value} {gs : Nat → Nat} {t : Nat → Nat → Bool} {f : Nat → Bool} (h : TbG W B n a v gs t) (hB : B ≤ W.heap.size) (hg : RowB W g n f) (hq : W.heap[q]? = some (.cells #[.slice (some ⟨g, 0, none⟩) n n] 34 (0, 0))) (ha : (a + 1) * 24 ≤ 140737488355328) :
    ∃ b cap w', (∀ ty, (Builtin.append_ #[31, 31] ty #[v, .slice (some ⟨q, 0, none⟩) 1 1]).run Try.prog W = .ok (.slice (some ⟨b, 0, none⟩) (a + 1) cap) w') ∧ TbG w' B n (a + 1) (.slice (some ⟨b, 0, none⟩) (a + 1) cap) (Dfs.upd gs a g) (fun j => if j = a then f else t j) ∧ Below B W w' ∧ Kept (fun k => ∀ c, W.heap[k]? ≠ some (.cells c 4 (0, 0))) W w' := by
  have hqlt := (Array.getElem?_eq_some_iff.1 hq).1
  have hsrc : Src vcell W (.slice (some ⟨q, 0, none⟩) 1 1) [Value.slice (some ⟨g, 0, none⟩) n n] := .inr ⟨q, 0, 1, rfl, hqlt, Nat.le_refl _, fun j u hj => by
    rw [Nat.zero_add, cell_of_row W q j _ 34 (0, 0) hq]
    simpa [flat, vcell] using hj⟩
  have hlen : ((List.range a).map (fun j => Value.slice (some ⟨gs j, 0, none⟩) n n)).length = a := by simp
  obtain ⟨v', w', h1, h2, h3, h4⟩ := append_own2 (f := vcell) (st := 31) (et := 34) (bytes := 24) vc1 (base := B) (w := W) (v := v) (x := .slice (some ⟨q, 0, none⟩) 1 1) (m := [Value.slice (some ⟨g, 0, none⟩) n n]) (fun y hy u hu => by
    obtain rfl := List.mem_singleton.1 hy
    obtain rfl := List.mem_singleton.1 hu
    rfl) Try.underlying31 infR rfl (by decide) h.own hsrc (by rw [hlen]; simp only [List.length_singleton]; omega) (by rw [hlen]; simp only [List.length_singleton]; unfold maxLen; omega) hB 31
  have hl2 : ((List.range a).map (fun j => Value.slice (some ⟨gs j, 0, none⟩) n n) ++ [Value.slice (some ⟨g, 0, none⟩) n n]) = (List.range (a + 1)).map (fun j => Value.slice (some ⟨Dfs.upd gs a g j, 0, none⟩) n n) := by
    rw [List.range_succ, List.map_append]
    congr 1
    · refine List.map_congr_left fun j hj => ?_
      rw [Dfs.upd_ne _ _ (by have := List.mem_range.1 hj; omega)]
    · simp [Dfs.upd_same]
  rw [hl2] at h2
  have h2' := h2
  unfold Own at h2'
  rw [List.length_map, List.length_range] at h2'
  obtain ⟨b, cap, rfl⟩ := own_form h2'
  have K := grown_kept h3
  have hty : ∀ k c, W.heap[k]? = some (.cells c 4 (0, 0)) → v.ownBlock ≠ some k := fun k c hk e => by
    obtain ⟨cur, hc⟩ := own_block h.own e
    rw [hk] at hc
    injection hc with hc
    injection hc with _ e2
    cases e2
  refine ⟨b, cap, w', fun ty => h1, ⟨h2, fun j hj => ?_⟩, K.below hB (fun k e => (World.ownsRow.lt h.own k e).1), K.mono (fun k _ e c hc => hty k c hc e)⟩
  by_cases e : j = a
  · subst e
    rw [Dfs.upd_same, if_pos rfl]
    obtain ⟨c, hc⟩ := hg.ty
    exact hg.kept K (hty _ c hc)
  · rw [Dfs.upd_ne _ _ e, if_neg e]
    have hr := h.row j (by omega)
    obtain ⟨c, hc⟩ := hr.ty
    exact hr.kept K (hty _ c hc)
/-- The table's answer, plainly. -/
theorem tab_val {bl : List Bl} {a b : Nat} (hn : 0 < bl.length) {r : Bool} (hr : r = true ↔ ¬ DomB bl a b) : ((reN bl a && (reN bl b && (decide (a = b) || !r))) = true) ↔ TabB bl a b := by
  have h1 := reach_way (bl := bl) hn (b := a)
  have h2 := reach_way (bl := bl) hn (b := b)
  unfold TabB
  rw [← h1, ← h2]
  simp only [Bool.and_eq_true, Bool.or_eq_true, decide_eq_true_eq, Bool.not_eq_true']
  have h3 : r = false ↔ DomB bl a b := by
    cases r with
    | false => exact ⟨fun _ => Classical.byContradiction fun h => (by have := hr.2 h; cases this), fun _ => rfl⟩
    | true => exact ⟨fun h => (by cases h), fun h => absurd h (hr.1 rfl)⟩
  rw [h3]
/-- A row of bools of one's own, read. -/
theorem own_cells4 {W : World} {B : Nat} {ao : Option Addr} {cap n : Nat} {l : List Bool} (h : Own 4 1 bcl W B (.slice ao n cap) l) (hl : l.length = n) (hn : 0 < n) : ∃ g c, ao = some ⟨g, 0, none⟩ ∧ W.heap[g]? = some (.cells c 4 (0, 0)) ∧ n ≤ cap ∧ ∀ j, j < n → W.cell? ⟨g, j, none⟩ = some (.bool (l.getD j false)) := by
  obtain ⟨n', rfl⟩ : ∃ n', n = n' + 1 := ⟨n - 1, by omega⟩
  have h2 := h
  unfold Own at h2
  rw [hl] at h2
  obtain ⟨ao', cap', e', hle⟩ := own_len h2
  obtain ⟨g, capg, eg⟩ := own_form h2
  injection e' with e1 _ e3
  injection eg with eg _ egc
  subst eg e3
  obtain ⟨c, hc⟩ := own_block h2 (b := g) rfl
  refine ⟨g, c, rfl, hc, hle, fun j hj => ?_⟩
  have h3 := World.ownsRow.cellAt h2 j (by omega)
  rw [h3, flat_b, List.getElem?_map, List.getElem?_eq_getElem (by rw [hl]; exact hj)]
  simp [hl, hj]
theorem TbG.tab {W : World} {B n a b cap : Nat} {gs : Nat → Nat} {t : Nat → Nat → Bool} (h : TbG W B n a (.slice (some ⟨b, 0, none⟩) a cap) gs t) : TabM W n a b gs t := by
  refine ⟨fun j hj => ?_, h.row⟩
  have h1 := h.own
  unfold Own at h1
  rw [List.length_map, List.length_range, flat_v] at h1
  rw [World.ownsRow.cellAt h1 j (by omega)]
  simp [hj]
end Go.Proofs.Ytgkaeoieclegjaa
