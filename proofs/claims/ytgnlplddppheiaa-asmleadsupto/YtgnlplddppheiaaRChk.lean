/- The document's Check: plain mathematics. -/
import Derived.Test.YtgnlplddppheiaaRFind
import Derived.Test.YtgnlplddppheiaaRLine
namespace Go.Proofs.Ytgnlplddppheiaa
open Go.RowKit Go.Maps
set_option linter.unusedVariables false

theorem IsLns.form {w : World} {v : Value} {ls : List Ln} (h : IsLns w v ls) : ∃ ao cap, v = .slice ao ls.length cap ∧ ∀ k, k < ls.length → ∃ b, ao = some ⟨b, 0, none⟩ ∧ b < w.heap.size ∧ LnsAt w b ls := by
  obtain ⟨hn, hwf, ⟨rfl, ao, cap, rfl⟩ | ⟨hp, b, cap, rfl, hl, ha⟩⟩ := h
  · exact ⟨ao, cap, rfl, fun k hk => by simp at hk⟩
  · exact ⟨_, cap, rfl, fun k hk => ⟨b, rfl, hl, ha⟩⟩
theorem ISrc.form {w : World} {v : Value} {l : List Nat} (h : ISrc w v l) : ∃ ao cap, v = .slice ao l.length cap ∧ ∀ k, k < l.length → ∃ b off, ao = some ⟨b, off, none⟩ ∧ b < w.heap.size ∧ ∀ j (h : j < l.length), w.cell? ⟨b, off + j, none⟩ = some (.int .i64 (l[j] : Nat)) := by
  rcases h with ⟨rfl, ao, cap, rfl⟩ | ⟨hp, b, off, cap, rfl, hc, hl, hx⟩
  · exact ⟨ao, cap, rfl, fun k hk => by simp at hk⟩
  · exact ⟨_, cap, rfl, fun k hk => ⟨b, off, rfl, hl, hx⟩⟩

theorem ok_to {x : Ln} (h : x.ok = true) : 0 ≤ x.to := by
  unfold Ln.ok at h
  split at h <;> simp at h
  · exact h.1.2
  · omega
theorem ok_label {x : Ln} (h : x.ok = true) : 0 ≤ x.label := by
  unfold Ln.ok at h
  split at h <;> simp at h <;> omega

theorem labL_nodup (ls : List Ln) : (labL ls).Nodup ↔ ls.Pairwise (fun x y => x.label ≠ 0 → y.label ≠ 0 → x.label ≠ y.label) := by
  unfold labL List.Nodup
  rw [List.pairwise_map, List.pairwise_filter]
  simp

theorem not_nodup {ls : List Ln} {i j : Nat} (hij : i ≠ j) (hi : i < ls.length) (hj : j < ls.length) (h0 : 0 < labAt ls i) (h : labAt ls i = labAt ls j) : ¬ (labL ls).Nodup := by
  rw [labL_nodup, List.pairwise_iff_getElem]
  intro hp
  rw [labAt_get hi] at h0 h
  rw [labAt_get hj] at h
  rcases Nat.lt_or_gt_of_ne hij with e | e
  · exact hp i j hi hj e (by omega) (by omega) h
  · exact hp j i hj hi e (by omega) (by omega) h.symm

theorem nodup_of {ls : List Ln} {s : List Nat} (hok : ∀ x ∈ ls, x.ok = true) (hS : Srt ls 0 ls.length s) (h : ∀ k (hk : k + 1 < s.length), labAt ls s[k + 1] ≠ labAt ls s[k]) : (labL ls).Nodup := by
  rw [labL_nodup, List.pairwise_iff_getElem]
  intro i j hi hj hij h1 h2 h3
  have strict : ∀ a b (hab : a < b) (hb : b < s.length), labAt ls s[a] < labAt ls s[b] := fun a b hab hb => by
    have e1 := asc_get hS.asc (show a ≤ a + 1 by omega) (show a + 1 < s.length by omega)
    have e2 := asc_get hS.asc (show a + 1 ≤ b by omega) hb
    have e3 := h a (by omega)
    omega
  have p1 := ok_label (hok _ (List.getElem_mem hi))
  have p2 := ok_label (hok _ (List.getElem_mem hj))
  obtain ⟨a, ha, ea⟩ := List.getElem_of_mem ((hS.mem i).2 ⟨by omega, hi, by rw [labAt_get hi]; omega⟩)
  obtain ⟨b, hb, eb⟩ := List.getElem_of_mem ((hS.mem j).2 ⟨by omega, hj, by rw [labAt_get hj]; omega⟩)
  have l1 : labAt ls s[a] = ls[i].label := by rw [ea, labAt_get hi]
  have l2 : labAt ls s[b] = ls[j].label := by rw [eb, labAt_get hj]
  rcases Nat.lt_trichotomy a b with e | e | e
  · have := strict a b e hb; omega
  · subst e; omega
  · have := strict b a e ha; omega

theorem find_in {ls : List Ln} {n r : Int} (h : FindRes ls n r) (hn : 0 < n) (hr : ¬ r < 0) : n ∈ labL ls := by
  rcases h with ⟨h, _⟩ | ⟨i, _, hi, e⟩
  · omega
  · rw [labAt_get hi] at e
    subst e
    exact labL_mem (List.getElem_mem hi) (by omega)
theorem find_out {ls : List Ln} {n r : Int} (h : FindRes ls n r) (hn : 0 < n) (hr : r < 0) : n ∉ labL ls := by
  rcases h with ⟨_, h⟩ | ⟨i, h, _⟩
  · intro hm
    unfold labL at hm
    obtain ⟨x, hx, e⟩ := List.mem_map.1 hm
    obtain ⟨i, hi, ei⟩ := List.getElem_of_mem (List.mem_filter.1 hx).1
    subst ei
    exact h i (by rw [labAt_get hi]; omega) (by rw [labAt_get hi]; exact e)
  · omega
end Go.Proofs.Ytgnlplddppheiaa
