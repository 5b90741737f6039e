/- What a new solver's parts are to one another. -/
import Derived.Test.YtjhndnhldhmjnaaDoorNsX
namespace Go.Proofs.YtjhndnhldhmjnaaDoor
open Go Go.RowKit Go.Maps
set_option linter.unusedVariables false
set_option linter.unusedSimpArgs false
def cn1 (P : Prb Wd) (ev : Value) (q : Nat × Nat) (s j e f : FuncId) (p gi go_ gq gp gs : Nat) (us : List Value) (l : List (Int × Int)) (lv : Value) (F : List Nat) (pl : Nat → Nat) : Cn :=
  ⟨P, ev, P.bot.toNat, q, s, j, e, f, p, gi, go_, gq, gp, gs, us, succF P.n l, lv, F, pl⟩
/-- Places, those of the first j set. -/
def plJ (F : List Nat) (j k : Nat) : Nat := if F.idxOf k < j then F.idxOf k else 0
theorem idx_at {F : List Nat} {n : Nat} (h : Perm F n) {k : Nat} (hk : k < n) : F.idxOf k < F.length ∧ F.getD (F.idxOf k) 0 = k := by
  have h1 := List.idxOf_lt_length_of_mem (h.all k hk)
  refine ⟨h1, ?_⟩
  simp [List.getD, List.getElem?_eq_getElem h1, List.getElem_idxOf]
theorem idx_of {F : List Nat} {n : Nat} (h : Perm F n) {j : Nat} (hj : j < F.length) : F.idxOf F[j] = j := by
  have h0 := h.lt _ (List.getElem_mem hj)
  obtain ⟨h1, h2⟩ := idx_at h h0
  have h3 : F[F.idxOf F[j]] = F[j] := by
    simp [List.getD, List.getElem?_eq_getElem h1]
  exact (List.getElem_inj h.nd).1 h3
theorem plJ_step {F : List Nat} {n : Nat} (h : Perm F n) {j : Nat} (hj : j < F.length) : upd (plJ F j) F[j] j = plJ F (j + 1) := by
  funext k
  unfold upd plJ
  by_cases e : k = F[j]
  · subst e
    rw [if_pos rfl, idx_of h hj, if_pos (by omega)]
  · rw [if_neg e]
    have : F.idxOf k ≠ j := fun e2 => by
      have hlt : F.idxOf k < F.length := by omega
      have h3 : F[F.idxOf k] = k := List.getElem_idxOf hlt
      simp only [e2] at h3
      exact e h3.symm
    by_cases c : F.idxOf k < j
    · rw [if_pos c, if_pos (by omega)]
    · rw [if_neg c, if_neg (by omega)]
theorem succF_len (n : Nat) (l : List (Int × Int)) : (succF n l).length = n := by unfold succF; rw [turnF_len, turnF_len, giveF_len]
theorem succF_in {n : Nat} {l : List (Int × Int)} (h : edgesF l n = true) : ∀ m ∈ succF n l, ∀ x ∈ m, 0 ≤ x ∧ x < n := fun m hm x hx => by
  have := turnF_in (turnF_in (giveF_in h)) m hm x hx
  rw [turnF_len, turnF_len, giveF_len] at this
  exact this
theorem succF_le (n : Nat) (l : List (Int × Int)) : ∀ m ∈ succF n l, m.length ≤ n := fun m hm => by
  have := turnF_le _ m hm
  rw [turnF_len, giveF_len] at this
  exact this
theorem cn1_ok {P : Prb Wd} {ev : Value} {q : Nat × Nat} {s j e f : FuncId} {p gi go_ gq gp gs : Nat} {us : List Value} {l : List (Int × Int)} {lv : Value} {F : List Nat} (hn : P.n ≤ 4096) (hE : edgesF l P.n = true) (h : Perm F P.n) : CnOk (cn1 P ev q s j e f p gi go_ gq gp gs us l lv F (plJ F P.n)) := by
  have hlen := h.len
  have pk : ∀ k, k < P.n → plJ F P.n k = F.idxOf k := fun k hk => by
    unfold plJ
    have := (idx_at h hk).1
    rw [if_pos (by omega)]
  refine ⟨hn, succF_len _ _, succF_in hE, fun m hm => ?_, fun k hk => ?_, fun x y hx hy e => ?_, hlen, fun k hk => ?_, fun j hj => ?_⟩
  · have := succF_le _ _ m hm
    unfold big
    omega
  · show plJ F P.n k < P.n
    have := (idx_at h hk).1
    rw [pk k hk]
    omega
  · have e' : plJ F P.n x = plJ F P.n y := e
    have hx' : x < P.n := hx
    have hy' : y < P.n := hy
    rw [pk x hx', pk y hy'] at e'
    have h1 := (idx_at h hx').2
    have h2 := (idx_at h hy').2
    rw [← h1, ← h2, e']
  · show F.getD (plJ F P.n k) 0 = k
    rw [pk k hk]
    exact (idx_at h hk).2
  · have hj' : j < F.length := by rw [hlen]; exact hj
    have e1 : F.getD j 0 = F[j] := by simp [hj']
    have h0 := h.lt _ (List.getElem_mem hj')
    show F.getD j 0 < P.n ∧ plJ F P.n (F.getD j 0) = j
    rw [e1, pk _ h0, idx_of h hj']
    exact ⟨h0, rfl⟩
theorem natE_mem {l : List (Int × Int)} {n : Nat} (hE : edgesF l n = true) (k t : Nat) : (k, t) ∈ natE l ↔ ((k : Int), (t : Int)) ∈ l := by
  unfold natE
  rw [List.mem_map]
  constructor
  · rintro ⟨e, he, h⟩
    have hb := of_decide_eq_true hE e he
    injection h with h1 h2
    have : e = ((k : Int), (t : Int)) := Prod.ext (by show e.1 = (k : Int); omega) (by show e.2 = (t : Int); omega)
    rw [← this]
    exact he
  · intro h
    exact ⟨_, h, by simp⟩
theorem cn1_tos {P : Prb Wd} {ev : Value} {q : Nat × Nat} {s j e f : FuncId} {p gi go_ gq gp gs : Nat} {us : List Value} {l : List (Int × Int)} {lv : Value} {F : List Nat} {pl : Nat → Nat} (hE : edgesF l P.n = true) (hP : P.edges = natE l) (k : Nat) (hk : k < P.n) (t : Nat) :
    t ∈ (cn1 P ev q s j e f p gi go_ gq gp gs us l lv F pl).tos k ↔ (k, t) ∈ P.edges := by
  rw [hP, natE_mem hE]
  show t ∈ ((succF P.n l).getD k []).map Int.toNat ↔ _
  rw [List.mem_map]
  constructor
  · rintro ⟨x, hx, rfl⟩
    obtain ⟨t, rfl, ht⟩ := (succF_mem hE k hk x).1 hx
    simpa using ht
  · intro h
    exact ⟨t, (succF_mem hE k hk t).2 ⟨t, rfl, h⟩, by simp⟩
end Go.Proofs.YtjhndnhldhmjnaaDoor
