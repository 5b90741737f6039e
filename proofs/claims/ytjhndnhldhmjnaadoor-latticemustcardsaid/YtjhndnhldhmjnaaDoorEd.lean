/- Edges, read. -/
import Derived.Test.YtjhndnhldhmjnaaDoorBase
namespace Go.Proofs.YtjhndnhldhmjnaaDoor
open Go.RowKit Go.Maps
set_option linter.unusedVariables false
set_option linter.unusedSimpArgs false
/-- A slice of edges, cell by cell. -/
theorem Src.edges {w : World} {v : Value} {l : List (Int × Int)} (h : Src ecell w v l) :
    ∃ ao cap, v = .slice ao l.length cap ∧ ∀ k (hk : k < l.length), ∃ b off, ao = some ⟨b, off, none⟩ ∧ b < w.heap.size ∧ l.length ≤ cap ∧ ∀ w', Below w.heap.size w w' → w'.cell? ⟨b, off + k * 2, none⟩ = some (.int .i64 l[k].1) ∧ w'.cell? ⟨b, off + k * 2 + 1, none⟩ = some (.int .i64 l[k].2) := by
  obtain ⟨ao, cap, e, hf⟩ := h.form ec2
  refine ⟨ao, cap, e, fun k hk => ?_⟩
  obtain ⟨b, off, e1, hb, hc, h2⟩ := hf k hk
  refine ⟨b, off, e1, hb, hc, fun w' hw => ⟨?_, ?_⟩⟩
  · have := h2 w' hw 0 (by omega)
    simpa [ecell] using this
  · have := h2 w' hw 1 (by omega)
    simpa [ecell, Nat.add_assoc] using this
/-- All name nodes. -/
def edgesF (l : List (Int × Int)) (n : Int) : Bool := decide (∀ e ∈ l, 0 ≤ e.1 ∧ e.1 < n ∧ 0 ≤ e.2 ∧ e.2 < n)
set_option maxHeartbeats 1000000 in
theorem edges12 {w : World} {v : Value} {l : List (Int × Int)} (h : Src ecell w v l) (hl : l.length * 16 ≤ big) (n : Int) :
    Calls Tryd.prog 12 #[v, .int .i64 n] w fun e w' => e = .returned (.bool (edgesF l n)) ∧ w' = w := by
  obtain ⟨ao, cap, rfl, hf⟩ := h.edges
  unfold big at hl
  have HF := hid' hf
  clear hf h
  go_enter Tryd.func12, Tryd.ntmps12
  go_wp2
  go_loop [5] (fun i => ∃ k : Nat, k ≤ l.length ∧ i = .int .i64 k ∧ (∀ j (hj : j < l.length), j < k → 0 ≤ l[j].1 ∧ l[j].1 < n ∧ 0 ≤ l[j].2 ∧ l[j].2 < n)) (fun i => l.length - (intOf i).toNat)
  case atStart => exact ⟨0, Nat.zero_le _, rfl, fun j _ hj => by omega⟩
  case round =>
    obtain ⟨k, hk, rfl, hok⟩ := hrel
    have HK := hid' hok
    clear hok
    by_cases hlt : k < l.length
    · obtain ⟨b, off, rfl, hbl, hcp, hc⟩ := HF.out k hlt
      have c0 := hc w (Below.refl _ _)
      clear hc
      obtain ⟨c0, c1⟩ := c0
      have bad : ¬ (0 ≤ l[k].1 ∧ l[k].1 < n ∧ 0 ≤ l[k].2 ∧ l[k].2 < n) → edgesF l n = false := fun hh => decide_eq_false (fun hx => hh (hx _ (List.getElem_mem hlt)))
      have BAD := hid' bad
      have good : Hid ((0 ≤ l[k].1 ∧ l[k].1 < n ∧ 0 ≤ l[k].2 ∧ l[k].2 < n) → ∀ j (hj : j < l.length), j < k + 1 → 0 ≤ l[j].1 ∧ l[j].1 < n ∧ 0 ≤ l[j].2 ∧ l[j].2 < n) := fun hh j hj hjk => by
        by_cases e : j = k
        · subst e; exact hh
        · exact HK.out j hj (by omega)
      clear bad
      generalize l[k].1 = x at c0 BAD good
      generalize l[k].2 = y at c1 BAD good
      by_cases h1 : x < 0
      · go_wp2
        go_ret
        exact ⟨by rw [BAD.out (by omega)]; rfl, rfl⟩
      by_cases h2 : n ≤ x
      · go_wp2
        go_ret
        exact ⟨by rw [BAD.out (by omega)]; rfl, rfl⟩
      by_cases h3 : y < 0
      · go_wp2
        go_ret
        exact ⟨by rw [BAD.out (by omega)]; rfl, rfl⟩
      by_cases h4 : n ≤ y
      · go_wp2
        go_ret
        exact ⟨by rw [BAD.out (by omega)]; rfl, rfl⟩
      go_wp2
      go_round
      case rel => exact ⟨k + 1, by omega, by go_num, good.out (by omega)⟩
      case measure => simp [intOf]; omega
    · have e : k = l.length := by omega
      subst e
      have HR : Hid (edgesF l n = true) := decide_eq_true (fun e he => by
        obtain ⟨i, hi, e⟩ := List.getElem_of_mem he
        subst e
        exact HK.out i hi hi)
      go_wp2
      go_ret
      exact ⟨by rw [HR.out]; rfl, rfl⟩
end Go.Proofs.YtjhndnhldhmjnaaDoor
