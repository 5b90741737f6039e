/- BinarySearch. -/
import Derived.Test.YtiehlkhpblldaaaH06
set_option linter.unusedVariables false
set_option linter.unusedSimpArgs false
set_option maxRecDepth 20000
set_option maxHeartbeats 8000000
namespace Go.Proofs.Ytiehlkhpblldaaa
open Go.RowKit Go.Maps
/-- How many are below, at the beginning. -/
def posF (l : List Int) (t : Int) : Nat := (l.takeWhile (fun a => decide (a < t))).length
theorem posF_is : ∀ (l : List Int) (t : Int) (i : Nat), i ≤ l.length → (∀ k (h : k < l.length), k < i → l[k] < t) → (∀ h : i < l.length, t ≤ l[i]) → i = posF l t
  | [], t, i, h, _, _ => by simp at h; simp [posF, h]
  | a :: l, t, 0, _, _, h => by
    have := h (by simp)
    simp at this
    simp [posF, List.takeWhile_cons, show ¬ a < t by omega]
  | a :: l, t, i + 1, h1, h2, h3 => by
    have h0 := h2 0 (by simp) (by omega)
    simp at h0
    have := posF_is l t i (by simpa using h1) (fun k hk hki => by have := h2 (k + 1) (by simp; omega) (by omega); simpa using this) (fun hk => by have := h3 (by simp; omega); simpa using this)
    simp [posF, List.takeWhile_cons, h0] at this ⊢
    exact this
def SortedL (l : List Int) : Prop := ∀ a b (ha : a < l.length) (hb : b < l.length), a < b → l[a] < l[b]
def fndF (l : List Int) (t : Int) : Bool := decide (l[posF l t]? = some t)
section
variable {W : World}
set_option maxHeartbeats 20000000 in
theorem search45 {v : Value} {l : List Int} {tg : Int} (h : Src icell W v l) (hl : l.length * 8 ≤ big) (hS : SortedL l) :
    Calls Try.prog 45 #[v, .int .i64 tg] W fun e w' => e = .returned (.tuple #[.int .i64 (posF l tg), .bool (fndF l tg)]) ∧ Below W.heap.size W w' := by
  obtain ⟨ao, cap, rfl, hf⟩ := h.form ic1
  have HF := hid' hf
  unfold big at hl
  clear hf h
  go_enter Try.func45, Try.ntmps45
  go_wp2
  go_loopw [7, 8] (fun u q wr => ∃ i j : Nat, i ≤ j ∧ j ≤ l.length ∧ u = .int .i64 i ∧ q = .int .i64 j ∧ (∀ k (h : k < l.length), k < i → l[k] < tg) ∧ (∀ k (h : k < l.length), j ≤ k → tg ≤ l[k]) ∧ Below W.heap.size W wr) (fun u q _ => (intOf q).toNat - (intOf u).toNat)
  case atStart => exact ⟨0, l.length, Nat.zero_le _, Nat.le_refl _, rfl, rfl, fun k _ hk => by omega, fun k h hk => by omega, Below.refl _ _⟩
  case round =>
    obtain ⟨i, j, hij, hj, rfl, rfl, hlo, hhi, hbw⟩ := hrel
    have HLO := hid' hlo
    have HHI := hid' hhi
    have HB := hid' hbw
    clear hlo hhi hbw
    by_cases hlt : i < j
    · obtain ⟨m, hm⟩ : ∃ m : Nat, m = (i + j) / 2 := ⟨_, rfl⟩
      have hmi : i ≤ m := by omega
      have hmj : m < j := by omega
      have hml : m < l.length := by omega
      obtain ⟨b, o, rfl, hb, hc, hx⟩ := HF.out m hml
      have c0 : wr.cell? ⟨b, o + m, none⟩ = some (.int .i64 l[m]) := by have := hx wr HB.out 0 (by omega); simpa [icell] using this
      have w1 : IntKind.i64.wrap ((i : Int) + (j : Int)) = (i : Int) + j := by simp [IntKind.wrap, IntKind.bits, IntKind.signed]; omega
      have w2 : ((i : Int) + (j : Int)) % 18446744073709551616 = (i : Int) + j := by omega
      have w3 : ((i : Int) + (j : Int)) / 2 = (m : Int) := by omega
      have w4 : IntKind.i64.wrap (m : Int) = m := by simp [IntKind.wrap, IntKind.bits, IntKind.signed]; omega
      have hmli : (m : Int) < l.length := by omega
      clear hx
      by_cases g : l[m] < tg
      · have HN : Hid (∀ k (h : k < l.length), k < m + 1 → l[k] < tg) := fun k h hk => by
          by_cases e : k = m
          · subst e; exact g
          · have := hS k m h hml (by omega); omega
        have w5 : IntKind.i64.wrap ((m : Int) + 1) = m + 1 := by simp [IntKind.wrap, IntKind.bits, IntKind.signed]; omega
        clear hm
        go_wp2
        refine ⟨⟨m + 1, j, by omega, hj, by go_num, rfl, HN.out, HHI.out, HB.out⟩, ?_⟩
        simp [intOf]; omega
      · have HN : Hid (∀ k (h : k < l.length), m ≤ k → tg ≤ l[k]) := fun k h hk => by
          by_cases e : k = m
          · subst e; omega
          · have := hS m k hml h (by omega); omega
        clear hm
        go_wp2
        refine ⟨⟨i, m, hmi, by omega, rfl, rfl, HLO.out, HN.out, HB.out⟩, ?_⟩
        simp [intOf]; omega
    · have e : i = j := by omega
      subst e
      have HP : Hid (i = posF l tg) := posF_is l tg i hj HLO.out (fun h => HHI.out i h (Nat.le_refl _))
      have HFD : Hid (fndF l tg = decide (l[i]? = some tg)) := by unfold Hid fndF; rw [← HP.out]
      by_cases hn : i < l.length
      · obtain ⟨b, o, rfl, hb, hc, hx⟩ := HF.out i hn
        have c0 : wr.cell? ⟨b, o + i, none⟩ = some (.int .i64 l[i]) := by have := hx wr HB.out 0 (by omega); simpa [icell] using this
        have hni : (i : Int) < l.length := by omega
        clear hx
        by_cases g : l[i] = tg
        · have HQ : Hid (fndF l tg = true) := by unfold Hid; rw [HFD.out]; simp [hn, g]
          rw [g] at c0
          clear g HFD
          go_wp2
          go_ret2
          exact ⟨by rw [← HP.out, HQ.out]; rfl, HB.out⟩
        · have HQ : Hid (fndF l tg = false) := by unfold Hid; rw [HFD.out]; simp [hn, g]
          have g' : (l[i] == tg) = false := by simp [g]
          clear HFD
          go_wp2
          go_ret2
          exact ⟨by rw [← HP.out, HQ.out]; rfl, HB.out⟩
      · have HQ : Hid (fndF l tg = false) := by unfold Hid; rw [HFD.out]; simp [show l.length ≤ i by omega]
        have hni : ¬ (i : Int) < l.length := by omega
        clear HFD
        go_wp2
        go_ret2
        exact ⟨by rw [← HP.out, HQ.out]; rfl, HB.out⟩
end
end Go.Proofs.Ytiehlkhpblldaaa
