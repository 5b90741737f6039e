/- The program's Same: pairs of rows of nodes, in a list. -/
import Derived.Test.YtnnnfabpceapcaaGreatDoorSame2
import Derived.Test.YtnnnfabpceapcaaGreatDoorRevBuild
import Derived.Deep.CutBlock
import Derived.Deep.RegionLaw
import Derived.Test.YtnnnfabpceapcaaGreatDoorOwn
import Derived.Test.YtnnnfabpceapcaaGreatDoorLawS
namespace Go.Proofs.YtnnnfabpceapcaaGreatDoor
set_option linter.unusedSimpArgs false
open Go.RowKit
set_option linter.unusedVariables false

theorem least_any {α : Type} (Q : Nat → α → Prop) : ∃ m : α → Nat, ∀ W, (∃ n, Q n W) → Q (m W) W ∧ ∀ k, Q k W → m W ≤ k := by
  have hl : ∀ (R : Nat → Prop) (n : Nat), R n → ∃ m, R m ∧ ∀ k, R k → m ≤ k := fun R n => by
    induction n using Nat.strongRecOn with
    | ind n ih =>
      intro h
      by_cases hx : ∃ k, k < n ∧ R k
      · obtain ⟨k, hk, hq⟩ := hx
        exact ih k hk hq
      · exact ⟨n, h, fun k hk => Nat.le_of_not_lt fun hl => hx ⟨k, hl, hk⟩⟩
  have h : ∀ W, ∃ m, (∃ n, Q n W) → Q m W ∧ ∀ k, Q k W → m ≤ k := fun W => by
    by_cases hx : ∃ n, Q n W
    · obtain ⟨n, hn⟩ := hx
      obtain ⟨m, h1, h2⟩ := hl (fun k => Q k W) n hn
      exact ⟨m, fun _ => ⟨h1, h2⟩⟩
    · exact ⟨0, fun h => absurd h hx⟩
  exact ⟨fun W => Classical.choose (h W), fun W => Classical.choose_spec (h W)⟩
theorem isT_form {t : Tr} (h : isT t = true) : ∃ x ks, t = Tr.node x ks := by
  unfold isT at h
  split at h
  · exact ⟨_, _, rfl⟩
  · cases h
theorem isL_mem {l : List Tr} (h : isL l = true) : ∀ t ∈ l, isT t = true := by
  unfold isL at h
  rw [List.all_eq_true] at h
  exact fun t ht => h _ (List.mem_map.2 ⟨t, ht, rfl⟩)
/-- What holds of each kid holds of the rows. -/
theorem same_rows {P : Tr → Tr → Prop} (Q : List Tr → List Tr → Prop) (h0 : Q [] []) (h1 : ∀ t u r s, P t u → Q r s → Q (t :: r) (u :: s)) : ∀ (a b : List Tr), isL a = true → isL b = true → sameL a b = true → (∀ t ∈ a, ∀ u, isT u = true → sameT t u = true → P t u) → Q a b
  | [], [], _, _, _, _ => h0
  | [], _ :: _, _, _, h, _ => by cases h
  | _ :: _, [], _, _, h, _ => by cases h
  | t :: r, u :: s, ha, hb, h, hp => by
    rw [sameL_cons, Bool.and_eq_true] at h
    rw [isL_cons, Bool.and_eq_true] at ha hb
    exact h1 t u r s (hp t (by simp) u hb.1 h.1) (same_rows Q h0 h1 r s ha.2 hb.2 h.2 fun t' ht' => hp t' (by simp [ht']))
theorem sz_mem {l : List Tr} {t : Tr} (h : t ∈ l) : szT t ≤ szL l := by
  obtain ⟨i, hi, rfl⟩ := List.getElem_of_mem h
  exact sz_kid l i hi
theorem same_sz : ∀ (n : Nat) (t u : Tr), szT t ≤ n → isT t = true → isT u = true → sameT t u = true → szT t = szT u
  | 0, t, u, hn, _, _, _ => by have := szT_pos t; omega
  | n + 1, t, u, hn, ht, hu, h => by
    obtain ⟨x, ks, rfl⟩ := isT_form ht
    obtain ⟨y, ls, rfl⟩ := isT_form hu
    rw [sameT_node, Bool.and_eq_true] at h
    rw [isT_node] at ht hu
    rw [szT_node] at hn
    rw [szT_node, szT_node, same_rows (P := fun t u => szT t = szT u) (fun a b => szL a = szL b) rfl (fun t u r s p q => by rw [szL_cons, szL_cons, p, q]) ks ls ht hu h.2 (fun t' ht' u' hu' h' => same_sz n t' u' (by have := sz_mem ht'; omega) (isL_mem ht t' ht') hu' h')]
theorem eqN_comm (x y : NdH) (h : eqN x y = true) : eqN y x = true := by
  unfold eqN at h ⊢
  simp only [Bool.and_eq_true, decide_eq_true_eq, beq_iff_eq] at h ⊢
  exact ⟨h.1.symm, h.2.1.symm, h.2.2.1.symm, h.2.2.2.symm⟩
theorem eqN_self (x : NdH) : eqN x x = true := by unfold eqN; simp
theorem same_comm : ∀ (n : Nat) (t u : Tr), szT t ≤ n → isT t = true → isT u = true → sameT t u = true → sameT u t = true
  | 0, t, u, hn, _, _, _ => by have := szT_pos t; omega
  | n + 1, t, u, hn, ht, hu, h => by
    obtain ⟨x, ks, rfl⟩ := isT_form ht
    obtain ⟨y, ls, rfl⟩ := isT_form hu
    rw [sameT_node, Bool.and_eq_true] at h ⊢
    rw [isT_node] at ht hu
    rw [szT_node] at hn
    exact ⟨eqN_comm x y h.1, same_rows (P := fun t u => sameT u t = true) (fun a b => sameL b a = true) rfl (fun t u r s p q => by rw [sameL_cons, p, q]; rfl) ks ls ht hu h.2 (fun t' ht' u' hu' h' => same_comm n t' u' (by have := sz_mem ht'; omega) (isL_mem ht t' ht') hu' h')⟩
theorem same_self : ∀ (n : Nat) (t : Tr), szT t ≤ n → isT t = true → sameT t t = true
  | 0, t, hn, _ => by have := szT_pos t; omega
  | n + 1, t, hn, ht => by
    obtain ⟨x, ks, rfl⟩ := isT_form ht
    rw [isT_node] at ht
    rw [szT_node] at hn
    rw [sameT_node, eqN_self, Bool.true_and]
    have : ∀ (l : List Tr), (∀ t ∈ l, sameT t t = true) → sameL l l = true := fun l => by
      induction l with
      | nil => exact fun _ => rfl
      | cons t r ih =>
        intro h
        rw [sameL_cons, h t (by simp), ih (fun t' ht' => h t' (by simp [ht']))]
        rfl
    exact this ks fun t' ht' => same_self n t' (by have := sz_mem ht'; omega) (isL_mem ht t' ht')

end Go.Proofs.YtnnnfabpceapcaaGreatDoor
