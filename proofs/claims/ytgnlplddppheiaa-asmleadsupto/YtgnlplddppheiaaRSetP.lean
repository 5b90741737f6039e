/- The document's rounds: which lines grow. -/
import Derived.Test.YtgnlplddppheiaaRSetB
namespace Go.Proofs.Ytgnlplddppheiaa
open Go.RowKit Go.Maps
set_option linter.unusedVariables false

/-- A line that is too far, and not long yet. -/
def GrowP (ls : List Ln) (T : Nat → Int) (S : Nat → Bool) (A : Nat → Int) (j : Nat) : Prop := ∃ h : j < ls.length, ls[j].to ≠ 0 ∧ askF ls[j].op = true ∧ lgF ls S j = false ∧ (A (T j).toNat - (A j + 1) < -32768 ∨ 32767 < A (T j).toNat - (A j + 1))

theorem ok_lab {x : Ln} (h : x.ok = true) (ht : x.to ≠ 0) : x.label = 0 := by
  unfold Ln.ok at h
  by_cases e : x.label = 0
  · exact e
  · rw [if_neg e] at h
    simp only [Bool.and_eq_true, beq_iff_eq] at h
    exact absurd h.2 ht
section
variable {ls : List Ln} {T : Nat → Int} {S : Nat → Bool} {A : Nat → Int}
theorem far_room (hok : ∀ x ∈ ls, x.ok = true) (hnd : (labL ls).Nodup) (hT : ∀ i, TOk ls T i) (hA : ∀ i, i ≤ ls.length → A i = (atF S (ixF ls i) : Nat)) {j : Nat} (hj : j < ls.length) (ht : ls[j].to ≠ 0) (hl : lgF ls S j = false) :
    labAt ls j = 0 ∧ S (ixF ls j) = false ∧ ((A (T j).toNat - (A j + 1) < -32768 ∨ 32767 < A (T j).toNat - (A j + 1)) ↔ 32767 < roomS S (mkBr (brTo (ixF ls j) ((labs ls ls[j].to).getD 0)))) := by
  have h0 : ls[j].label = 0 := ok_lab (hok _ (List.getElem_mem hj)) ht
  have h1 : labAt ls j = 0 := by rw [labAt_get hj]; exact h0
  have h2 : S (ixF ls j) = false := by
    unfold lgF at hl
    rw [h1] at hl
    simpa using hl
  have h3 := ok_to (hok _ (List.getElem_mem hj))
  obtain ⟨q, hq, hql, hqt⟩ := hT j hj (by omega)
  refine ⟨h1, h2, ?_⟩
  rw [labs_ix hnd hql hqt ht, hq, hA _ (by simp; omega), hA _ (by omega)]
  have := far_iff (S := S) (k := ixF ls j) (p := ixF ls q) h2
  simpa using this
theorem br_low (k p : Nat) : (mkBr (brTo k p)).low ≤ (mkBr (brTo k p)).high ∧ (mkBr (brTo k p)).ix = k := by
  unfold brTo mkBr
  split
  · exact ⟨by simp; omega, rfl⟩
  · exact ⟨by simp; omega, rfl⟩
theorem grow_must (hok : ∀ x ∈ ls, x.ok = true) (hnd : (labL ls).Nodup) (hT : ∀ i, TOk ls T i) (hA : ∀ i, i ≤ ls.length → A i = (atF S (ixF ls i) : Nat)) (hLow : Low (bsOf ls) S) {j : Nat} (h : GrowP ls T S A j) :
    labAt ls j = 0 ∧ ∀ S', Closed (bsOf ls) S' → S' (ixF ls j) = true := by
  obtain ⟨hj, ht, ha, hl, hf⟩ := h
  obtain ⟨h1, h2, h3⟩ := far_room hok hnd hT hA hj ht hl
  refine ⟨h1, ?_⟩
  have hm : mkBr (brTo (ixF ls j) ((labs ls ls[j].to).getD 0)) ∈ bsOf ls := by
    unfold bsOf
    refine List.mem_map_of_mem ?_
    rw [brGo_mem]
    refine ⟨j, hj, by rw [← labAt_get hj]; exact h1, ?_, by rw [Nat.zero_add]⟩
    unfold asksB
    simp [ht, ha]
  have hb := br_low (ixF ls j) ((labs ls ls[j].to).getD 0)
  have := Low.must hLow hm hb.1 (h3.1 hf)
  rw [hb.2] at this
  exact this
theorem closed_of (hok : ∀ x ∈ ls, x.ok = true) (hnd : (labL ls).Nodup) (hT : ∀ i, TOk ls T i) (hA : ∀ i, i ≤ ls.length → A i = (atF S (ixF ls i) : Nat)) (hn : ∀ j, ¬ GrowP ls T S A j) : Closed (bsOf ls) S := by
  intro b hb hS
  unfold bsOf at hb
  obtain ⟨y, hy, rfl⟩ := List.mem_map.1 hb
  rw [brGo_mem] at hy
  obtain ⟨j, hj, h0, ha, rfl⟩ := hy
  rw [Nat.zero_add] at hS ⊢
  unfold asksB at ha
  simp at ha
  have hl : lgF ls S j = false := by
    unfold lgF
    rw [(br_low _ _).2] at hS
    rw [hS]
    simp
  obtain ⟨h1, h2, h3⟩ := far_room hok hnd hT hA hj ha.1 hl
  have : ¬ 32767 < roomS S (mkBr (brTo (ixF ls j) ((labs ls ls[j].to).getD 0))) := fun h => hn j ⟨hj, ha.1, ha.2, hl, h3.2 h⟩
  unfold roomS at this
  omega
end

/-- How many cells of a row are false. -/
def cntW (W : World) (lb n : Nat) : Nat := ((List.range n).filter fun i => match W.cell? ⟨lb, i, none⟩ with | some (.bool false) => true | _ => false).length
theorem cntW_row {W : World} {lb n : Nat} {f : Nat → Bool} (h : W.rowIs lb 4 n (fun i => .bool (f i))) : cntW W lb n = ((List.range n).filter fun i => !f i).length := by
  unfold cntW
  congr 1
  refine List.filter_congr (fun i hi => ?_)
  rw [h.cell (List.mem_range.1 hi)]
  cases f i <;> rfl
theorem filter_lt {p q : Nat → Bool} : ∀ (l : List Nat), (∀ i ∈ l, q i = true → p i = true) → (∃ i ∈ l, p i = true ∧ q i = false) → (l.filter q).length < (l.filter p).length
  | [], _, h => by obtain ⟨i, hi, _⟩ := h; cases hi
  | x :: r, h, h2 => by
    have hle : (r.filter q).length ≤ (r.filter p).length := by
      have : ∀ l : List Nat, (∀ i ∈ l, q i = true → p i = true) → (l.filter q).length ≤ (l.filter p).length := by
        intro l
        induction l with
        | nil => intro _; exact Nat.le_refl _
        | cons y t ih =>
          intro h
          have ih := ih (fun i hi => h i (List.mem_cons_of_mem _ hi))
          rw [List.filter_cons, List.filter_cons]
          cases hq : q y
          · cases hp : p y
            · simpa using ih
            · simp; omega
          · rw [h y (List.mem_cons_self ..) hq]; simpa using ih
      exact this r (fun i hi => h i (List.mem_cons_of_mem _ hi))
    obtain ⟨i, hi, hp, hq⟩ := h2
    rw [List.filter_cons, List.filter_cons]
    rcases List.mem_cons.1 hi with rfl | hi
    · rw [hp, hq]; simp; omega
    · have ih := filter_lt r (fun i hi => h i (List.mem_cons_of_mem _ hi)) ⟨i, hi, hp, hq⟩
      cases hqx : q x
      · cases hpx : p x
        · simpa using ih
        · simp; omega
      · rw [h x (List.mem_cons_self ..) hqx]; simpa using ih
theorem cnt_lt {W W' : World} {lb n : Nat} {f g : Nat → Bool} (h : W.rowIs lb 4 n (fun i => .bool (f i))) (h' : W'.rowIs lb 4 n (fun i => .bool (g i))) (hfg : ∀ i, i < n → f i = true → g i = true) {j : Nat} (hj : j < n) (h1 : f j = false) (h2 : g j = true) : cntW W' lb n < cntW W lb n := by
  rw [cntW_row h, cntW_row h']
  refine filter_lt _ (fun i hi hq => ?_) ⟨j, List.mem_range.2 hj, by simp [h1], by simp [h2]⟩
  cases hf : f i
  · rfl
  · rw [hfg i (List.mem_range.1 hi) hf] at hq; cases hq
def boolN : Value → Nat
  | .bool true => 1
  | _ => 0
end Go.Proofs.Ytgnlplddppheiaa
