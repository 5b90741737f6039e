/- Reached, plainly: what there is a way to. -/
import Derived.Test.YtgkaeoieclegjaaSc
namespace Go.Proofs.Ytgkaeoieclegjaa
set_option linter.unusedVariables false
/-- A way over blocks. -/
def WayB (bl : List Bl) (b : Nat) : Prop := W (fun x y => some y ∈ toL bl.length (succN bl x)) (fun _ => True) 0 b
theorem toL_mem {n : Nat} {l : List Int} {y : Nat} : some y ∈ toL n l ↔ y < n ∧ (y : Int) ∈ l := by
  unfold toL
  rw [List.mem_map]
  constructor
  · rintro ⟨t, ht, e⟩
    split at e
    · rename_i h
      injection e with e
      subst e
      have : ((t.toNat : Nat) : Int) = t := by omega
      exact ⟨by omega, by rw [this]; exact ht⟩
    · cases e
  · rintro ⟨h1, h2⟩
    refine ⟨y, h2, ?_⟩
    have : (0 : Int) ≤ y ∧ (y : Int) < n := by omega
    simp [this]
/-- What is seen, and what waits: the successors that of block i are marked already are those of done. -/
structure RInv (bl : List Bl) (sn : List Bool) (st : List Int) (i : Option Nat) (done : List Int) : Prop where
  len : sn.length = bl.length
  zero : sn.getD 0 false = true
  st_ok : ∀ x ∈ st, 0 ≤ x ∧ x < bl.length ∧ sn.getD x.toNat false = true
  way : ∀ b, sn.getD b false = true → WayB bl b
  cl : ∀ b, sn.getD b false = true → (b : Int) ∈ st ∨ some b = i ∨ ∀ y : Nat, y < bl.length → (y : Int) ∈ succN bl b → sn.getD y false = true
  dn : ∀ y : Nat, y < bl.length → (y : Int) ∈ done → sn.getD y false = true
theorem RInv.mark {bl : List Bl} {sn : List Bool} {st : List Int} {i : Nat} {done : List Int} (h : RInv bl sn st (some i) done) (hi : sn.getD i false = true) {t : Int} (ht : t ∈ succN bl i) :
    RInv bl (markT (sn, st) t).1 (markT (sn, st) t).2 (some i) (done ++ [t]) := by
  have mono : ∀ b, sn.getD b false = true → (markT (sn, st) t).1.getD b false = true := fun b hb => by
    unfold markT
    split
    · by_cases e : t.toNat = b
      · subst e
        have hlt : t.toNat < sn.length := by rename_i h2; have h3 := h2.2.1; dsimp only at h3; omega
        simp [hlt]
      · simpa [List.getD, List.getElem?_set_ne e] using hb
    · exact hb
  have hst : ∀ x ∈ st, x ∈ (markT (sn, st) t).2 := fun x hx => by
    unfold markT
    split
    · exact List.mem_append.2 (.inl hx)
    · exact hx
  have hnew : ∀ b, (markT (sn, st) t).1.getD b false = true → sn.getD b false = true ∨ (0 ≤ t ∧ t < bl.length ∧ b = t.toNat ∧ t ∈ (markT (sn, st) t).2) := fun b hb => by
    unfold markT at hb ⊢
    split at hb
    · rename_i h2
      have hl : t.toNat < sn.length := by have := h2.2.1; dsimp only at this; omega
      rw [if_pos h2]
      by_cases e : t.toNat = b
      · subst e
        exact .inr ⟨h2.1, by have := h2.2.1; dsimp only at this; rw [h.len] at this; exact this, rfl, by simp⟩
      · exact .inl (by simpa [List.getD, List.getElem?_set_ne e] using hb)
    · exact .inl hb
  refine ⟨by rw [markT_len]; exact h.len, mono 0 h.zero, fun x hx => ?_, fun b hb => ?_, fun b hb => ?_, fun y hy hyd => ?_⟩
  · have : x ∈ st ∨ (x = t ∧ 0 ≤ t ∧ t < sn.length ∧ (markT (sn, st) t).1.getD t.toNat false = true) := by
      unfold markT at hx ⊢
      split at hx
      · rename_i h2
        rw [if_pos h2]
        rcases List.mem_append.1 hx with hx | hx
        · exact .inl hx
        · rw [List.mem_singleton] at hx
          have hl : t.toNat < sn.length := by have := h2.2.1; dsimp only at this; omega
          exact .inr ⟨hx, h2.1, h2.2.1, by simp [hl]⟩
      · exact .inl hx
    rcases this with hx | ⟨rfl, h1, h2, h3⟩
    · obtain ⟨h1, h2, h3⟩ := h.st_ok x hx
      exact ⟨h1, h2, mono _ h3⟩
    · exact ⟨h1, by rw [← h.len]; exact h2, h3⟩
  · rcases hnew b hb with hb | ⟨h0, h1, rfl, _⟩
    · exact h.way b hb
    · refine .snoc (h.way i hi) (toL_mem.2 ⟨by omega, ?_⟩) trivial
      rw [Int.toNat_of_nonneg h0]
      exact ht
  · rcases hnew b hb with hb | ⟨h0, h1, rfl, h2⟩
    · rcases h.cl b hb with h1 | h1 | h1
      · exact .inl (hst _ h1)
      · exact .inr (.inl h1)
      · exact .inr (.inr fun y hy hys => mono y (h1 y hy hys))
    · refine .inl ?_
      rw [Int.toNat_of_nonneg h0]
      exact h2
  · rcases List.mem_append.1 hyd with hyd | hyd
    · exact mono y (h.dn y hy hyd)
    · rw [List.mem_singleton] at hyd
      subst hyd
      unfold markT
      split
      · rename_i h2
        have hl : y < sn.length := by rw [h.len]; exact hy
        simp [hl]
      · rename_i h2
        cases e : sn.getD y false with
        | true => rfl
        | false =>
          have hl : y < sn.length := by rw [h.len]; exact hy
          exact absurd ⟨by omega, by dsimp only; omega, by simpa [hl, List.getD] using e⟩ h2
theorem RInv.marks {bl : List Bl} {i : Nat} : ∀ (l : List Int) {sn : List Bool} {st : List Int} {done : List Int}, RInv bl sn st (some i) done → sn.getD i false = true → (∀ t ∈ l, t ∈ succN bl i) →
    RInv bl (l.foldl markT (sn, st)).1 (l.foldl markT (sn, st)).2 (some i) (done ++ l)
  | [], sn, st, done, h, _, _ => by simpa using h
  | t :: l, sn, st, done, h, hi, hl => by
    have h1 := h.mark hi (hl t (by simp))
    have hi' : (markT (sn, st) t).1.getD i false = true := by
      unfold markT
      split
      · by_cases e : t.toNat = i
        · subst e
          have hlt : t.toNat < sn.length := by rename_i h2; have := h2.2.1; dsimp only at this; omega
          simp [hlt]
        · simpa [List.getD, List.getElem?_set_ne e] using hi
      · exact hi
    have := RInv.marks l h1 hi' (fun t ht => hl t (by simp [ht]))
    rw [List.append_assoc] at this
    exact this
theorem RInv.pop {bl : List Bl} {sn : List Bool} {st : List Int} {i : Int} (h : RInv bl sn (st ++ [i]) none []) : RInv bl (popS bl sn st i).1 (popS bl sn st i).2 none [] := by
  obtain ⟨h0, h1, h2⟩ := h.st_ok i (by simp)
  have hs : RInv bl sn st (some i.toNat) [] := ⟨h.len, h.zero, fun x hx => h.st_ok x (by simp [hx]), h.way, fun b hb => by
    rcases h.cl b hb with h3 | h3 | h3
    · rcases List.mem_append.1 h3 with h4 | h4
      · exact .inl h4
      · rw [List.mem_singleton] at h4
        exact .inr (.inl (by congr 1; omega))
    · cases h3
    · exact .inr (.inr h3), fun y _ hy => by cases hy⟩
  have := hs.marks (succN bl i.toNat) h2 (fun t ht => ht)
  have e : popS bl sn st i = (succN bl i.toNat).foldl markT (sn, st) := rfl
  rw [e]
  refine ⟨this.len, this.zero, this.st_ok, this.way, fun b hb => ?_, fun y _ hy => by cases hy⟩
  rcases this.cl b hb with h3 | h3 | h3
  · exact .inl h3
  · injection h3 with h3
    subst h3
    exact .inr (.inr fun y hy hys => this.dn y hy (by simpa using hys))
  · exact .inr (.inr h3)
theorem RInv.run {bl : List Bl} : ∀ (k : Nat) (sn : List Bool) (st : List Int), muS sn st ≤ k → RInv bl sn st none [] → RInv bl (runR bl k sn st) [] none []
  | 0, sn, st, hk, h => by
    have : st = [] := List.eq_nil_of_length_eq_zero (by unfold muS at hk; omega)
    subst this
    exact h
  | k + 1, sn, st, hk, h => by
    unfold runR
    cases e : st.getLast? with
    | none =>
      have : st = [] := List.getLast?_eq_none_iff.1 e
      subst this
      exact h
    | some i =>
      have hst : st = st.dropLast ++ [i] := by
        obtain ⟨l, hl⟩ := List.getLast?_eq_some_iff.1 e
        rw [hl]
        simp
      refine RInv.run k _ _ (by have := pop_mu (bl := bl) (sn := sn) e i; omega) ?_
      rw [hst] at h
      exact h.pop
/-- Reached is what there is a way to. -/
theorem reach_way {bl : List Bl} (hn : 0 < bl.length) {b : Nat} : reN bl b = true ↔ WayB bl b := by
  have hrep : ∀ c, ((List.replicate bl.length false)[c]?).getD false = false := fun c => by
    rw [List.getElem?_replicate]
    split <;> rfl
  have h0 : RInv bl ((List.replicate bl.length false).set 0 true) [0] none [] := by
    refine ⟨by simp, by simp [hn], fun x hx => ?_, fun c hc => ?_, fun c hc => ?_, fun y _ hy => by cases hy⟩
    · rw [List.mem_singleton] at hx
      subst hx
      exact ⟨by omega, by omega, by simp [hn]⟩
    · by_cases e : c = 0
      · subst e; exact .nil trivial
      · rw [List.getD, List.getElem?_set_ne (Ne.symm e)] at hc
        rw [hrep c] at hc
        cases hc
    · by_cases e : c = 0
      · subst e; exact .inl (by simp)
      · rw [List.getD, List.getElem?_set_ne (Ne.symm e)] at hc
        rw [hrep c] at hc
        cases hc
  have hmu : muS ((List.replicate bl.length false).set 0 true) [0] ≤ 2 * bl.length + 1 := by
    have := count_set (List.replicate bl.length false) 0 (by cases e : bl.length with | zero => omega | succ k => simp)
    simp at this
    unfold muS
    simp
    omega
  have h := RInv.run _ _ _ hmu h0
  have er : reachF bl = runR bl (2 * bl.length + 1) ((List.replicate bl.length false).set 0 true) [0] := by unfold reachF; rw [if_neg (by omega)]
  rw [← er] at h
  unfold reN
  refine ⟨h.way b, fun hw => ?_⟩
  unfold WayB at hw
  induction hw using W.ind with
  | nil _ => exact h.zero
  | snoc hw e _ ih =>
    obtain ⟨e1, e2⟩ := toL_mem.1 e
    rcases h.cl _ ih with h3 | h3 | h3
    · cases h3
    · cases h3
    · exact h3 _ e1 e2
end Go.Proofs.Ytgkaeoieclegjaa
