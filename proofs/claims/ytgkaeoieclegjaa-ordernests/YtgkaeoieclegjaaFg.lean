/- Frontiers, plainly. Rows of rows that grow; frontiers as they grow. Frontiers. -/
import Derived.Test.YtgkaeoieclegjaaTd
import Derived.Test.YtgkaeoieclegjaaTn
import Derived.Test.YtgkaeoieclegjaaEw
namespace Go.Proofs.Ytgkaeoieclegjaa
section
set_option linter.unusedVariables false
/-- Those below n of which P holds, rising. -/
noncomputable def inL (P : Nat → Prop) (n : Nat) : List Int := ((List.range n).filter (fun b => @decide (P b) (Classical.propDecidable _))).map (fun b : Nat => (b : Int))
theorem inL_yes {P : Nat → Prop} {n : Nat} (h : P n) : inL P (n + 1) = inL P n ++ [(n : Int)] := by
  unfold inL
  rw [List.range_succ, List.filter_append, List.map_append]
  congr 1
  simp [h]
theorem inL_no {P : Nat → Prop} {n : Nat} (h : ¬ P n) : inL P (n + 1) = inL P n := by
  unfold inL
  rw [List.range_succ, List.filter_append]
  simp [h]
theorem inL_mem {P : Nat → Prop} {n : Nat} {x : Int} (h : x ∈ inL P n) : ∃ b : Nat, b < n ∧ x = b ∧ P b := by
  unfold inL at h
  obtain ⟨b, hb, rfl⟩ := List.mem_map.1 h
  obtain ⟨h1, h2⟩ := List.mem_filter.1 hb
  exact ⟨b, List.mem_range.1 h1, rfl, by simpa using h2⟩
theorem inL_len (P : Nat → Prop) : ∀ n, (inL P n).length ≤ n
  | 0 => by simp [inL]
  | n + 1 => by
    have := inL_len P n
    by_cases h : P n
    · rw [inL_yes h, List.length_append, List.length_singleton]
      omega
    · rw [inL_no h]
      omega
theorem inL_last {P : Nat → Prop} {n : Nat} : (inL P n).getLast? ≠ some (n : Int) := fun h => by
  obtain ⟨b, h1, h2, _⟩ := inL_mem (List.mem_of_getLast? h)
  omega
theorem inL_zero (P : Nat → Prop) : inL P 0 = [] := rfl
/-- A list more by one, in a list of lists. -/
theorem range_set {n c : Nat} {F : Nat → List Int} {v : List Int} (hc : c < n) : ((List.range n).map F).set c v = (List.range n).map (Dfs.upd F c v) := by
  refine List.ext_getElem (by simp) (fun i h1 h2 => ?_)
  rw [List.getElem_set]
  simp only [List.getElem_map, List.getElem_range]
  by_cases e : c = i
  · subst e
    rw [if_pos rfl, Dfs.upd_same]
  · rw [if_neg e, Dfs.upd_ne _ _ (fun h => e h.symm)]
/-- a's dominance ends at b. -/
def InF (bl : List Bl) (a b : Nat) : Prop := (∃ m : Nat, m < bl.length ∧ (b : Int) ∈ succN bl m ∧ TabB bl a m) ∧ WayB bl b ∧ (a = b ∨ ¬ TabB bl a b)
/-- On the way up from p, ahead of b's immediate dominator. -/
def Ch (bl : List Bl) (b p a : Nat) : Prop := TabB bl a p ∧ (a = b ∨ ¬ TabB bl a b)
theorem tab_way {bl : List Bl} {a b : Nat} (h : TabB bl a b) : WayB bl a ∧ WayB bl b := ⟨h.1, h.2.1⟩
theorem tab_trans {bl : List Bl} {a b c : Nat} (h : TabB bl a b) (h' : TabB bl b c) : TabB bl a c := by
  rw [tab_dom] at *
  exact ⟨h.1, h'.2.1, domB_trans h.2.2 h'.2.2⟩
theorem tab_self {bl : List Bl} {a : Nat} (h : WayB bl a) : TabB bl a a := ⟨h, h, .inl rfl⟩
/-- What stands above, by the table. -/
theorem above_tab {bl : List Bl} {D : Nat → Option Nat} (h : DomOk bl D) {a b : Nat} (ha : a < bl.length) (hb : b < bl.length) (hw : WayB bl b) : AboveB D a b ↔ TabB bl a b := by
  rw [above_dom h hb hw, tab_dom]
  constructor
  · rintro ⟨c, h1, h2, h3, h4⟩
    obtain rfl : c = a := by omega
    exact ⟨h3, hw, h4⟩
  · rintro ⟨h1, _, h3⟩
    exact ⟨a, rfl, ha, h1, h3⟩
/-- Two that dominate one another are one. -/
theorem tab_anti {bl : List Bl} {D : Nat → Option Nat} (h : DomOk bl D) {a b : Nat} (ha : a < bl.length) (hb : b < bl.length) (h1 : TabB bl a b) (h2 : TabB bl b a) : a = b := by
  obtain ⟨num, hnum⟩ := h.fall
  have fall : ∀ (k x : Nat) (y : Nat), x < bl.length → Abv D (y : Int) k x → num y ≤ num x ∧ (y ≠ x → num y < num x) := by
    intro k
    induction k with
    | zero =>
      intro x y hx hk
      have : y = x := by
        have hk : (y : Int) = x := hk
        omega
      subst this
      exact ⟨Nat.le_refl _, fun hne => absurd rfl hne⟩
    | succ k ih =>
      intro x y hx hk
      rcases hk with hk | ⟨d', hd', hk⟩
      · have : y = x := by omega
        subst this
        exact ⟨Nat.le_refl _, fun hne => absurd rfl hne⟩
      · have h1 := ih d' y (h.yes x d' hx hd').1 hk
        have h2 := hnum x d' hx hd'
        exact ⟨by omega, fun _ => by omega⟩
  obtain ⟨k1, hk1⟩ := (above_tab h ha hb h1.2.1).2 h1
  obtain ⟨k2, hk2⟩ := (above_tab h hb ha h2.2.1).2 h2
  apply Classical.byContradiction
  intro hne
  have f1 := (fall k1 b a hb hk1).2 hne
  have f2 := (fall k2 a b ha hk2).2 (fun e => hne e.symm)
  omega
/-- Where the runner stands: it comes up from p, and b's immediate dominator is not below it. -/
structure Run (bl : List Bl) (D : Nat → Option Nat) (b p : Nat) (o : Option Nat) : Prop where
  up : ∀ c, o = some c → c < bl.length ∧ TabB bl c p
  dom : ∀ d, D b = some d → ∃ c, o = some c ∧ TabB bl d c
/-- Those that the runner has passed. -/
def Past (bl : List Bl) (b p : Nat) (o : Option Nat) (x : Nat) : Prop := Ch bl b p x ∧ ∀ c, o = some c → ¬ TabB bl x c
theorem Run.begin {bl : List Bl} {D : Nat → Option Nat} (h : DomOk bl D) {b p : Nat} (hb : b < bl.length) (hp : p < bl.length) (hw : WayB bl p) (he : (b : Int) ∈ succN bl p) : Run bl D b p (some p) := by
  refine ⟨fun c e => ?_, fun d e => ⟨p, rfl, ?_⟩⟩
  · injection e with e
    subst e
    exact ⟨hp, tab_self hw⟩
  · obtain ⟨y1, y2, y3, y4, _⟩ := h.yes b d hb e
    refine tab_dom.2 ⟨y2, hw, fun hx => y3 ?_⟩
    exact .snoc hx (toL_mem.2 ⟨hb, he⟩) (fun e => y4 e.symm)
theorem past_none {bl : List Bl} {b p x : Nat} : ¬ Past bl b p (some p) x := fun h => h.2 p rfl h.1.1
/-- The runner steps. -/
theorem Run.step {bl : List Bl} {D : Nat → Option Nat} (h : DomOk bl D) {b p c : Nat} (hb : b < bl.length) (hw : WayB bl b) (hr : Run bl D b p (some c)) (hne : some c ≠ D b) :
    Run bl D b p (D c) ∧ Ch bl b p c ∧ ∀ x, x < bl.length → (Past bl b p (D c) x ↔ Past bl b p (some c) x ∨ x = c) := by
  obtain ⟨hc, hcp⟩ := hr.up c rfl
  have hcb : c = b ∨ ¬ TabB bl c b := by
    by_cases e : c = b
    · exact .inl e
    · refine .inr fun ht => ?_
      cases hD : D b with
      | none =>
        rcases (h.no b hb).1 hD with rfl | hx
        · exact (tab_dom.1 ht).2.2 (.nil (fun e2 => e e2.symm))
        · exact hx hw
      | some d =>
        obtain ⟨c', e1, hdc⟩ := hr.dom d hD
        injection e1 with e1
        subst e1
        obtain ⟨y1, y2, y3, y4, y5⟩ := h.yes b d hb hD
        have hcd : TabB bl c d := tab_dom.2 ⟨ht.1, y2, y5 c hc ht.1 (tab_dom.1 ht).2.2 e⟩
        have := tab_anti h hc y1 hcd hdc
        exact hne (by rw [hD, this])
  have key : ∀ x, x < bl.length → (TabB bl x c ↔ x = c ∨ ∃ d, D c = some d ∧ TabB bl x d) := fun x hx => by
    have h1 := above_tab h hx hc hcp.1
    constructor
    · intro ht
      by_cases e : x = c
      · exact .inl e
      · obtain ⟨k, hk⟩ := h1.2 ht
        cases k with
        | zero => exact absurd (by have hk : (x : Int) = c := hk; omega) e
        | succ k =>
          rcases hk with hk | ⟨d, hd, hk⟩
          · exact absurd (by omega) e
          · obtain ⟨y1, y2, _⟩ := h.yes c d hc hd
            exact .inr ⟨d, hd, (above_tab h hx y1 y2).1 ⟨k, hk⟩⟩
    · rintro (rfl | ⟨d, hd, ht⟩)
      · exact tab_self hcp.1
      · obtain ⟨y1, y2, y3, _⟩ := h.yes c d hc hd
        exact tab_trans ht (tab_dom.2 ⟨y2, hcp.1, y3⟩)
  refine ⟨⟨fun c' e => ?_, fun d e => ?_⟩, ⟨hcp, hcb⟩, fun x hx => ?_⟩
  · obtain ⟨y1, y2, y3, _⟩ := h.yes c c' hc e
    exact ⟨y1, tab_trans (tab_dom.2 ⟨y2, hcp.1, y3⟩) hcp⟩
  · obtain ⟨c', e1, hdc⟩ := hr.dom d e
    injection e1 with e1
    subst e1
    obtain ⟨y1, _⟩ := h.yes b d hb e
    rcases (key d y1).1 hdc with rfl | ⟨d', hd', ht⟩
    · exact absurd e.symm hne
    · exact ⟨d', hd', ht⟩
  · constructor
    · rintro ⟨h1, h2⟩
      by_cases e : x = c
      · exact .inr e
      · refine .inl ⟨h1, fun c' e1 ht => ?_⟩
        injection e1 with e1
        subst e1
        rcases (key x hx).1 ht with h3 | ⟨d, hd, h3⟩
        · exact e h3
        · exact h2 d hd h3
    · rintro (⟨h1, h2⟩ | rfl)
      · exact ⟨h1, fun d hd ht => h2 c rfl ((key x hx).2 (.inr ⟨d, hd, ht⟩))⟩
      · refine ⟨⟨hcp, hcb⟩, fun d hd ht => ?_⟩
        obtain ⟨y1, y2, y3, y4, _⟩ := h.yes x d hc hd
        exact y4 (tab_anti h y1 hc (tab_dom.2 ⟨y2, hcp.1, y3⟩) ht)
/-- The runner has come to its end. -/
theorem Run.done {bl : List Bl} {D : Nat → Option Nat} (h : DomOk bl D) {b p x : Nat} (hb : b < bl.length) (hx : x < bl.length) : Past bl b p (D b) x ↔ Ch bl b p x := by
  refine ⟨fun h => h.1, fun hc => ⟨hc, fun d hd ht => ?_⟩⟩
  obtain ⟨y1, y2, y3, y4, _⟩ := h.yes b d hb hd
  have hwb : WayB bl b := Classical.byContradiction fun hn => by
    have := (h.no b hb).2 (.inr hn)
    rw [hd] at this
    cases this
  have hdb : TabB bl d b := tab_dom.2 ⟨y2, hwb, y3⟩
  rcases hc.2 with rfl | hn
  · exact y4 (tab_anti h y1 hb hdb ht)
  · exact hn (tab_trans ht hdb)
/-- One that has it already: all above have it. -/
theorem ch_up {bl : List Bl} {b p q c x : Nat} (hq : Ch bl b q c) (hx : Ch bl b p x) (ht : TabB bl x c) : Ch bl b q x := ⟨tab_trans ht hq.1, hx.2⟩
theorem inF_ch {bl : List Bl} {a b : Nat} (hb : b < bl.length) : InF bl a b ↔ ∃ m : Nat, m < bl.length ∧ (b : Int) ∈ succN bl m ∧ Ch bl b m a := by
  constructor
  · rintro ⟨⟨m, h1, h2, h3⟩, _, h5⟩
    exact ⟨m, h1, h2, h3, h5⟩
  · rintro ⟨m, h1, h2, h3, h5⟩
    exact ⟨⟨m, h1, h2, h3⟩, .snoc h3.2.1 (toL_mem.2 ⟨hb, h2⟩) trivial, h5⟩
end
section
open Go Go.RowKit Go.Maps
set_option linter.unusedVariables false
set_option linter.unusedSimpArgs false
theorem PM.keptB {W W' : World} {B g : Nat} {vs : List Value} {L : List (List Int)} (h : PM W B g vs L) (K : Kept (fun k => k < B) W W') : PM W' B g vs L :=
  ⟨h.len, K.owns h.row (fun b hb => Nat.not_lt.2 (h.row.lt b hb).1), fun j h1 h2 => K.owns (h.el j h1 h2) (fun b hb => Nat.not_lt.2 (World.ownsRow.lt (h.el j h1 h2) b hb).1), h.ne, h.ng⟩
theorem PM.read {W : World} {B g k : Nat} {vs : List Value} {L : List (List Int)} (h : PM W B g vs L) (hk : k < L.length) :
    ∃ ao cap, vs[k]'(by rw [h.len]; exact hk) = .slice ao (L[k]).length cap ∧ W.cell? ⟨g, k, none⟩ = some (.slice ao (L[k]).length cap) ∧ Src icell W (.slice ao (L[k]).length cap) L[k] := by
  have hv : k < vs.length := by rw [h.len]; exact hk
  have h2 : Src icell W vs[k] L[k] := Own.src ic1 (h.el k hv hk)
  obtain ⟨ao, cap, e⟩ := h2.len
  refine ⟨ao, cap, e, ?_, by rw [← e]; exact h2⟩
  rw [World.ownsRow.cellAt h.row k (by omega), List.getElem?_eq_getElem hv, e]
/-- A thing more in one of the rows. -/
theorem PM.push {W : World} {B g j : Nat} {vs : List Value} {L : List (List Int)} {x : Int} (h : PM W B g vs L) (hj : j < L.length) (hB : B ≤ W.heap.size) (hl : (L[j].length + 1) * 8 ≤ 140737488355328) :
    ∃ b cap w2, (∀ ty, (Builtin.append_ #[26, 26] ty #[vs[j]'(by rw [h.len]; exact hj), .slice (some ⟨W.heap.size, 0, none⟩) 1 1]).run Try.prog (W.alloc (.cells #[.int .i64 x] 3)) = .ok (.slice (some ⟨b, 0, none⟩) (L[j].length + 1) cap) w2) ∧
      w2.cell? ⟨g, j, none⟩ = some (vs[j]'(by rw [h.len]; exact hj)) ∧ w2.frozen? ⟨g, j, none⟩ = false ∧
      PM (w2.setCell ⟨g, j, none⟩ (.slice (some ⟨b, 0, none⟩) (L[j].length + 1) cap)) B g (vs.set j (.slice (some ⟨b, 0, none⟩) (L[j].length + 1) cap)) (L.set j (L[j] ++ [x])) ∧
      Below B W (w2.setCell ⟨g, j, none⟩ (.slice (some ⟨b, 0, none⟩) (L[j].length + 1) cap)) ∧
      Kept (fun k => k = g ∨ (vs[j]'(by rw [h.len]; exact hj)).ownBlock = some k) W (w2.setCell ⟨g, j, none⟩ (.slice (some ⟨b, 0, none⟩) (L[j].length + 1) cap)) ∧
      ((vs[j]'(by rw [h.len]; exact hj)).ownBlock = some b ∨ W.heap.size ≤ b) := by
  have hv : j < vs.length := by rw [h.len]; exact hj
  have hq := heap_alloc_new W (.cells #[.int .i64 x] 3)
  have hqlt := (Array.getElem?_eq_some_iff.1 hq).1
  have hbq := below1 W (.cells #[.int .i64 x] 3)
  have hsrc : Src icell (W.alloc (.cells #[.int .i64 x] 3)) (.slice (some ⟨W.heap.size, 0, none⟩) 1 1) [x] := .inr ⟨W.heap.size, 0, 1, rfl, hqlt, Nat.le_refl _, fun k u hk => by
    rw [Nat.zero_add, cell_of_row _ W.heap.size k _ 3 (0, 0) hq]
    simpa [flat, icell] using hk⟩
  have hP := h.on hbq
  have hO := hP.el j hv hj
  obtain ⟨v', w2, h1, h2, h3, h4⟩ := append_own2 (f := icell) (st := 26) (et := 3) (bytes := 8) ic1 (base := B) (v := vs[j]) (x := .slice (some ⟨W.heap.size, 0, none⟩) 1 1) (m := [x]) (fun y hy u hu => by
    obtain rfl := List.mem_singleton.1 hu
    rfl) Try.underlying26 info3 rfl (by decide) hO hsrc (by simp only [List.length_singleton]; omega) (by simp only [List.length_singleton]; unfold maxLen; omega) (Nat.le_trans hB hbq.size) 26
  have h2' := h2
  unfold Own at h2'
  rw [List.length_append, List.length_singleton] at h2'
  obtain ⟨b, cap, rfl⟩ := own_form h2'
  have hr1 := hP.row.kept h3 (.inr (fun e => h.ng j hv e.symm))
  have K1 : Kept (fun k => k = g ∨ vs[j].ownBlock = some k) W w2 := (Kept.of_below hbq).trans (Kept.of_grown h3 (fun k e => .inr e))
  refine ⟨b, cap, w2, fun ty => h1, ?_, World.ownsRow.frozenAt hr1 j, h.app hj hv h2 h3 h4, h.appBelow hB hj hv h3, K1.set (.inl (.inl rfl)) _, ?_⟩
  · exact (World.ownsRow.cellAt hr1 j (by omega)).trans (List.getElem?_eq_getElem hv)
  · rcases h4 with e | e
    · exact .inl e.symm
    · right
      have : b = (W.alloc (.cells #[.int .i64 x] 3)).heap.size := by injection e
      rw [this]
      exact hbq.size
section
variable {bl : List Bl}
/-- A list, in block b's round: what was there, and b where it has been added. -/
noncomputable def frF (bl : List Bl) (b : Nat) (S : Nat → Prop) (a : Nat) : List Int := inL (InF bl a) b ++ @ite _ (S a) (Classical.propDecidable _) [(b : Int)] []
theorem frF_yes {b a : Nat} {S : Nat → Prop} (h : S a) : frF bl b S a = inL (InF bl a) b ++ [(b : Int)] := by unfold frF; rw [if_pos h]
theorem frF_no {b a : Nat} {S : Nat → Prop} (h : ¬ S a) : frF bl b S a = inL (InF bl a) b := by unfold frF; rw [if_neg h, List.append_nil]
theorem frF_last {b a : Nat} {S : Nat → Prop} : (frF bl b S a).getLast? = some (b : Int) ↔ S a := by
  by_cases h : S a
  · rw [frF_yes h]
    simp [h]
  · rw [frF_no h]
    exact ⟨fun e => absurd e inL_last, fun e => absurd e h⟩
theorem frF_len {b a : Nat} {S : Nat → Prop} : (frF bl b S a).length ≤ b + 1 := by
  have := inL_len (InF bl a) b
  by_cases h : S a
  · rw [frF_yes h, List.length_append, List.length_singleton]; omega
  · rw [frF_no h]; omega
theorem frF_push {b c : Nat} {S : Nat → Prop} (h : ¬ S c) : Dfs.upd (frF bl b S) c (frF bl b S c ++ [(b : Int)]) = frF bl b (fun x => S x ∨ x = c) := by
  funext x
  by_cases e : x = c
  · subst e
    rw [Dfs.upd_same, frF_no h, frF_yes (S := fun y => S y ∨ y = x) (.inr rfl)]
  · rw [Dfs.upd_ne _ _ e]
    by_cases hx : S x
    · rw [frF_yes hx, frF_yes (S := fun y => S y ∨ y = c) (.inl hx)]
    · rw [frF_no hx, frF_no (S := fun y => S y ∨ y = c) (fun h2 => h2.elim hx e)]
theorem frF_congr {b n : Nat} {S T : Nat → Prop} (h : ∀ a, a < n → (S a ↔ T a)) : (List.range n).map (frF bl b S) = (List.range n).map (frF bl b T) := by
  refine List.map_congr_left fun a ha => ?_
  have h1 := h a (List.mem_range.1 ha)
  by_cases e : S a
  · rw [frF_yes e, frF_yes (h1.1 e)]
  · rw [frF_no e, frF_no (fun e2 => e (h1.2 e2))]
theorem frF_begin {b n : Nat} : (List.range n).map (fun a => inL (InF bl a) b) = (List.range n).map (frF bl b (fun _ => False)) :=
  List.map_congr_left fun a _ => (frF_no (fun h => h)).symm
theorem frF_end {b n : Nat} {S : Nat → Prop} (h : ∀ a, a < n → (S a ↔ InF bl a b)) : (List.range n).map (frF bl b S) = (List.range n).map (fun a => inL (InF bl a) (b + 1)) := by
  refine List.map_congr_left fun a ha => ?_
  have h1 := h a (List.mem_range.1 ha)
  by_cases e : S a
  · rw [frF_yes e, inL_yes (h1.1 e)]
  · rw [frF_no e, inL_no (fun e2 => e (h1.2 e2))]
end
end
section
open Go Go.RowKit Go.Maps
set_option linter.unusedVariables false
set_option linter.unusedSimpArgs false
/-- The frontiers as they grow: in rows of one's own, apart from the predecessors' rows, which lie between wa and wb. -/
structure FrI (n : Nat) (wa wb : World) (B g : Nat) (F : Nat → List Int) (vs : List Value) (W : World) : Prop where
  pm : PM W B g vs ((List.range n).map F)
  ap : ∀ (j : Nat) (hj : j < vs.length) (b : Nat), vs[j].ownBlock = some b → b < wa.heap.size ∨ wb.heap.size ≤ b
  kept : Kept (fun k => k < wa.heap.size) wb W
  below : Below B wa W
theorem FrI.push {n : Nat} {wa wb : World} {B g : Nat} {F : Nat → List Int} {vs : List Value} {W : World} (h : FrI n wa wb B g F vs W) {c : Nat} {x : Int} (hc : c < n) (hl : (F c).length ≤ n) (hn : n * 64 ≤ big) (hg : g < wa.heap.size) (hB : B ≤ wa.heap.size) (hab : wa.heap.size ≤ wb.heap.size) :
    ∃ ao cp b cap w2, W.cell? ⟨g, c, none⟩ = some (.slice ao (F c).length cp) ∧ Src icell W (.slice ao (F c).length cp) (F c) ∧
      (∀ ty, (Builtin.append_ #[26, 26] ty #[.slice ao (F c).length cp, .slice (some ⟨W.heap.size, 0, none⟩) 1 1]).run Try.prog (W.alloc (.cells #[.int .i64 x] 3)) = .ok (.slice (some ⟨b, 0, none⟩) ((F c).length + 1) cap) w2) ∧
      w2.cell? ⟨g, c, none⟩ = some (.slice ao (F c).length cp) ∧ w2.frozen? ⟨g, c, none⟩ = false ∧
      (∃ vs', FrI n wa wb B g (Dfs.upd F c (F c ++ [x])) vs' (w2.setCell ⟨g, c, none⟩ (.slice (some ⟨b, 0, none⟩) ((F c).length + 1) cap))) ∧ Below B W w2 := by
  have hcl : c < ((List.range n).map F).length := by simpa using hc
  have hec : ((List.range n).map F)[c] = F c := by simp
  have hsz : wb.heap.size ≤ W.heap.size := h.kept.size
  obtain ⟨ao, cp, e1, e2, e3⟩ := h.pm.read hcl
  obtain ⟨b, cap, w2, p1, p2, p3, p4, p5, p6, p7⟩ := h.pm.push (j := c) (x := x) hcl (by omega) (by rw [hec]; unfold big at hn; omega)
  rw [e1] at p1 p2 p6 p7
  rw [hec] at e1 e2 e3 p1 p2 p4 p5 p6 p7
  have hv : c < vs.length := by rw [h.pm.len]; exact hcl
  have hS : ∀ k, k = g ∨ vs[c].ownBlock = some k → k < wb.heap.size → k < wa.heap.size := fun k hk hlt => by
    rcases hk with rfl | hk
    · exact hg
    · rcases h.ap c hv k hk with h1 | h1
      · exact h1
      · omega
  rw [range_set hc] at p4
  refine ⟨ao, cp, b, cap, w2, e2, e3, p1, p2, p3, ⟨vs.set c (.slice (some ⟨b, 0, none⟩) ((F c).length + 1) cap), p4, ?_, ?_, h.below.trans p5⟩, ?_⟩
  · intro j hj k hk
    by_cases e : j = c
    · subst e
      rw [List.getElem_set_self] at hk
      have hbk : b = k := by injection hk
      subst hbk
      rcases p7 with p7 | p7
      · exact h.ap j hv b (by rw [e1]; exact p7)
      · exact .inr (Nat.le_trans hsz p7)
    · rw [List.getElem_set_ne (fun e2 => e e2.symm)] at hk
      exact h.ap j (by rw [List.length_set] at hj; exact hj) k hk
  · exact h.kept.ahead p6 (fun k hlt hk => hS k (by rw [e1]; exact hk) hlt)
  · refine ⟨p5.os, p5.tape, p5.output, by have := p5.size; simpa [World.setCell] using this, fun k hk => ?_⟩
    have h1 := p5.block k hk
    rw [← h1]
    refine (Below.heap_setCell _ _ _ _ (fun e => ?_)).symm
    have := h.pm.g.1
    have e' : k = g := e
    omega
/-- What Frontiers tells. -/
def FrR (bl : List Bl) (w : World) (e : Ending) (w' : World) : Prop :=
  (e = .returned (.slice none 0 0) ∧ ¬ (bl.length ≤ 4096 ∧ edgesF bl ≤ 8192) ∧ Below w.heap.size w w') ∨
  (∃ (g B : Nat) (vs : List Value), e = .returned (.slice (some ⟨g, 0, none⟩) bl.length bl.length) ∧ PM w' B g vs ((List.range bl.length).map (fun a => inL (InF bl a) bl.length)) ∧ Below w.heap.size w w')
end
end Go.Proofs.Ytgkaeoieclegjaa
