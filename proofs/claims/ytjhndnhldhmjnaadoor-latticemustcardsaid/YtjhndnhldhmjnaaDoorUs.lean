/- Sets of numbers: rows of words whose last one is not 0. -/
import Derived.Test.YtjhndnhldhmjnaaDoorQp
import Derived.Test.YtjhndnhldhmjnaaDoorOw
namespace Go.Proofs.YtjhndnhldhmjnaaDoor
open Go Go.RowKit Go.Maps
set_option linter.unusedVariables false
set_option linter.unusedSimpArgs false
/-- Is a number in a row? -/
def memL (xs : List Wd) (n : Nat) : Bool := (xs.getD (n / 64) 0).getLsbD (n % 64)
/-- The last word is not 0. -/
def Can (xs : List Wd) : Prop := ∀ (h : 0 < xs.length), xs[xs.length - 1] ≠ 0
theorem getD_lt {xs : List Wd} {i : Nat} (h : i < xs.length) : xs.getD i 0 = xs[i] := by simp [h]
theorem getD_ge {xs : List Wd} {i : Nat} (h : xs.length ≤ i) : xs.getD i 0 = 0 := by simp [List.getD, List.getElem?_eq_none h]
theorem can_mem {xs : List Wd} (h : Can xs) (hp : 0 < xs.length) : ∃ n, n / 64 = xs.length - 1 ∧ memL xs n = true := by
  have h1 := h hp
  obtain ⟨i, hi, hb⟩ := bit_ne h1
  refine ⟨(xs.length - 1) * 64 + i, by omega, ?_⟩
  unfold memL
  rw [show ((xs.length - 1) * 64 + i) / 64 = xs.length - 1 by omega, show ((xs.length - 1) * 64 + i) % 64 = i by omega, getD_lt (by omega)]
  simpa using hb
theorem mem_lt {xs : List Wd} {n : Nat} (h : memL xs n = true) : n / 64 < xs.length := by
  apply Classical.byContradiction
  intro hn
  unfold memL at h
  rw [getD_ge (by omega)] at h
  simp at h
/-- Two rows that have the same are one. -/
theorem can_eq {xs ys : List Wd} (hx : Can xs) (hy : Can ys) (h : ∀ n, memL xs n = memL ys n) : xs = ys := by
  have le : ∀ {xs ys : List Wd}, Can xs → (∀ n, memL xs n = memL ys n) → xs.length ≤ ys.length := fun {xs ys} hx h => by
    by_cases hp : 0 < xs.length
    · obtain ⟨n, h1, h2⟩ := can_mem hx hp
      rw [h] at h2
      have := mem_lt h2
      omega
    · omega
  have hl : xs.length = ys.length := Nat.le_antisymm (le hx h) (le hy fun n => (h n).symm)
  refine List.ext_getElem hl fun i h1 h2 => bit_ext fun b hb => ?_
  have := h (i * 64 + b)
  unfold memL at this
  rw [show (i * 64 + b) / 64 = i by omega, show (i * 64 + b) % 64 = b by omega, getD_lt h1, getD_lt h2] at this
  exact this
/-- A set in memory. -/
structure SetIs (w : World) (v : Value) (xs : List Wd) : Prop where
  src : ∃ rv, v = .agg #[rv] ∧ Src ucell w rv xs
  can : Can xs
  le : xs.length ≤ 1024
theorem SetIs.on {w w' : World} {v : Value} {xs : List Wd} (h : SetIs w v xs) (hb : Below w.heap.size w w') : SetIs w' v xs := by
  obtain ⟨⟨rv, e, hs⟩, h2, h3⟩ := h
  exact ⟨⟨rv, e, hs.on hb⟩, h2, h3⟩
theorem flat_u : ∀ l : List Wd, flat ucell l = l.map uv
  | [] => rfl
  | x :: l => by rw [flat_cons, flat_u l]; rfl
theorem RowU.src {w : World} {g m : Nat} {f : Nat → Wd} (h : RowU w g m f) : Src ucell w (.slice (some ⟨g, 0, none⟩) m m) ((List.range m).map f) := by
  by_cases hm : m = 0
  · subst hm
    exact .inl ⟨rfl, _, _, rfl⟩
  · refine .inr ⟨g, 0, m, by simp, h.lt, by simp, fun j u hj => ?_⟩
    rw [flat_u] at hj
    have hjm : j < m := by
      have := (List.getElem?_eq_some_iff.1 hj).1
      simpa using this
    rw [Nat.zero_add, h.cell hjm]
    simp [hjm] at hj
    rw [hj]
theorem Src.words {w : World} {v : Value} {l : List Wd} (h : Src ucell w v l) :
    ∃ ao cap, v = .slice ao l.length cap ∧ ∀ k (hk : k < l.length), ∃ b off, ao = some ⟨b, off, none⟩ ∧ b < w.heap.size ∧ l.length ≤ cap ∧ ∀ w', Below w.heap.size w w' → w'.cell? ⟨b, off + k, none⟩ = some (uv l[k]) := by
  obtain ⟨ao, cap, e, hf⟩ := h.form uc1
  refine ⟨ao, cap, e, fun k hk => ?_⟩
  obtain ⟨b, off, e1, hb, hc, h2⟩ := hf k hk
  refine ⟨b, off, e1, hb, hc, fun w' hw => ?_⟩
  have := h2 w' hw 0 (by omega)
  simpa [ucell] using this
/-- How many places a set of these numbers wants. -/
def szF (l : List Int) : Nat := l.foldl (fun s n => if 0 ≤ n ∧ n < 65536 then max s (n.toNat + 1) else s) 0
theorem szF_snoc (l : List Int) (j : Nat) (hj : j < l.length) : szF (l.take (j + 1)) = if 0 ≤ l[j] ∧ l[j] < 65536 then max (szF (l.take j)) (l[j].toNat + 1) else szF (l.take j) := by
  unfold szF
  rw [take_snoc l j hj, List.foldl_append]
  rfl
theorem szF_spec : ∀ (l : List Int) (s : Nat), s ≤ 65536 → (l.foldl (fun s n => if 0 ≤ n ∧ n < 65536 then max s (n.toNat + 1) else s) s ≤ 65536) ∧ s ≤ l.foldl (fun s n => if 0 ≤ n ∧ n < 65536 then max s (n.toNat + 1) else s) s ∧
    (∀ n ∈ l, 0 ≤ n → n < 65536 → n.toNat + 1 ≤ l.foldl (fun s n => if 0 ≤ n ∧ n < 65536 then max s (n.toNat + 1) else s) s) ∧ (l.foldl (fun s n => if 0 ≤ n ∧ n < 65536 then max s (n.toNat + 1) else s) s = s ∨ ∃ n ∈ l, 0 ≤ n ∧ n < 65536 ∧ n.toNat + 1 = l.foldl (fun s n => if 0 ≤ n ∧ n < 65536 then max s (n.toNat + 1) else s) s)
  | [], s, h => ⟨h, Nat.le_refl _, (fun n hn => by cases hn), .inl rfl⟩
  | x :: l, s, h => by
    rw [List.foldl_cons]
    by_cases c : 0 ≤ x ∧ x < 65536
    · rw [if_pos c]
      obtain ⟨i1, i2, i3, i4⟩ := szF_spec l (max s (x.toNat + 1)) (by omega)
      generalize l.foldl (fun s n => if 0 ≤ n ∧ n < 65536 then max s (n.toNat + 1) else s) (max s (x.toNat + 1)) = z at *
      refine ⟨i1, by clear i4; omega, fun n hn h1 h2 => ?_, ?_⟩
      · rcases List.mem_cons.1 hn with rfl | hn
        · clear i4; omega
        · exact i3 n hn h1 h2
      · rcases i4 with e | ⟨n, hn, e⟩
        · by_cases c2 : s ≤ x.toNat + 1
          · exact .inr ⟨x, List.mem_cons_self, c.1, c.2, by omega⟩
          · exact .inl (by omega)
        · exact .inr ⟨n, List.mem_cons_of_mem _ hn, e⟩
    · rw [if_neg c]
      obtain ⟨i1, i2, i3, i4⟩ := szF_spec l s h
      refine ⟨i1, i2, fun n hn h1 h2 => ?_, ?_⟩
      · rcases List.mem_cons.1 hn with rfl | hn
        · exact absurd ⟨h1, h2⟩ c
        · exact i3 n hn h1 h2
      · rcases i4 with e | ⟨n, hn, e⟩
        · exact .inl e
        · exact .inr ⟨n, List.mem_cons_of_mem _ hn, e⟩
theorem szF_ok (l : List Int) : szF l ≤ 65536 ∧ (∀ n ∈ l, 0 ≤ n → n < 65536 → n.toNat + 1 ≤ szF l) ∧ (szF l = 0 ∨ ∃ n ∈ l, 0 ≤ n ∧ n < 65536 ∧ n.toNat + 1 = szF l) := by
  have := szF_spec l 0 (by omega)
  exact ⟨this.1, this.2.2.1, this.2.2.2⟩
/-- What a new set has. -/
def newB (l : List Int) (k : Nat) : Bool := decide ((k : Int) ∈ l ∧ k < 65536)
theorem newB_snoc (l : List Int) (j : Nat) (hj : j < l.length) (k : Nat) : newB (l.take (j + 1)) k = (newB (l.take j) k || (decide ((k : Int) = l[j]) && decide (k < 65536))) := by
  unfold newB
  rw [take_snoc l j hj]
  simp only [List.mem_append, List.mem_singleton, ← Bool.decide_and, ← Bool.decide_or]
  congr 1
  exact propext ⟨fun ⟨h, k⟩ => h.elim (fun h => .inl ⟨h, k⟩) (fun h => .inr ⟨h, k⟩), fun h => h.elim (fun h => ⟨.inl h.1, h.2⟩) (fun h => ⟨.inr h.1, h.2⟩)⟩
theorem new_can {l : List Int} {f : Nat → Wd} (hf : ∀ k, k / 64 < words (szF l) → inQ f k = newB l k) : Can ((List.range (words (szF l))).map f) ∧ ∀ k, memL ((List.range (words (szF l))).map f) k = newB l k := by
  obtain ⟨h1, h2, h3⟩ := szF_ok l
  constructor
  · intro hp
    simp only [List.length_map, List.length_range] at hp ⊢
    rcases h3 with e | ⟨n, hn, a, b, e⟩
    · rw [e] at hp
      unfold words at hp
      omega
    · intro hz
      simp only [List.getElem_map, List.getElem_range] at hz
      have hk : n.toNat / 64 = words (szF l) - 1 := by unfold words; omega
      have := hf n.toNat (by omega)
      unfold inQ at this
      rw [hk, hz] at this
      have hb : newB l n.toNat = true := decide_eq_true ⟨by rw [Int.toNat_of_nonneg a]; exact hn, by omega⟩
      rw [hb] at this
      simp at this
  · intro k
    unfold memL
    by_cases c : k / 64 < words (szF l)
    · rw [getD_lt (by simpa using c)]
      simp only [List.getElem_map, List.getElem_range]
      exact hf k c
    · rw [getD_ge (by simpa using c)]
      have : newB l k = false := decide_eq_false (fun ⟨h, hk⟩ => by
        have := h2 k h (by omega) (by omega)
        unfold words at c
        omega)
      rw [this]
      simp
end Go.Proofs.YtjhndnhldhmjnaaDoor
