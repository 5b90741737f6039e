/- The document's find. -/
import Derived.Test.YtgnlplddppheiaaRSort
namespace Go.Proofs.Ytgnlplddppheiaa
open Go.RowKit Go.Maps
set_option linter.unusedVariables false

/-- Which line a label stands in. -/
def FindRes (ls : List Ln) (n r : Int) : Prop := (r = -1 ∧ ∀ i, 0 < labAt ls i → labAt ls i ≠ n) ∨ (∃ i : Nat, r = i ∧ i < ls.length ∧ labAt ls i = n)

theorem labAt_lt {ls : List Ln} {i : Nat} (h : 0 < labAt ls i) : i < ls.length := by
  unfold labAt at h
  by_cases e : i < ls.length
  · exact e
  · rw [List.getElem?_eq_none (by omega)] at h; simp at h

theorem find_empty (v : Value) (ao : Option Addr) (cap : Nat) (n : Int) (w : World) :
    Calls Try.prog 27 #[v, .slice ao 0 cap, .int .i64 n] w fun e w' => e = .returned (.int .i64 (-1)) ∧ w' = w := by
  go_enter Try.func27, Try.ntmps27
  go_wp2
  refine wp_loop_rounds 1 ?_
  rw [rounds_succ]
  go_wp2
  go_ret
  exact ⟨rfl, rfl⟩

theorem asc_get {ls : List Ln} {s : List Nat} (h : s.Pairwise (fun i j => labAt ls i ≤ labAt ls j)) {i j : Nat} (hij : i ≤ j) (hj : j < s.length) : labAt ls (s[i]'(by omega)) ≤ labAt ls s[j] := by
  by_cases e : i = j
  · subst e; omega
  · exact List.pairwise_iff_getElem.1 h i j (by omega) hj (by omega)

set_option maxRecDepth 100000 in
set_option maxHeartbeats 4000000 in
theorem find_s {w : World} {b cap b' off cap' : Nat} {ls : List Ln} {s : List Nat} {n : Int} (hn : ls.length ≤ 2000000) (ha : LnsAt w b ls) (hs : ∀ j (h : j < s.length), w.cell? ⟨b', off + j, none⟩ = some (.int .i64 (s[j] : Nat))) (hS : Srt ls 0 ls.length s) :
    Calls Try.prog 27 #[.slice (some ⟨b, 0, none⟩) ls.length cap, .slice (some ⟨b', off, none⟩) s.length cap', .int .i64 n] w fun e w' => ∃ r, e = .returned (.int .i64 r) ∧ w' = w ∧ FindRes ls n r := by
  have HA := hid' ha
  have HS := hid' hS
  have HC := hid' hs
  have hlen := hS.len
  clear ha hS hs
  go_enter Try.func27, Try.ntmps27
  go_wp2
  go_loopw [7, 8] (fun x y wr => ∃ f t : Nat, x = .int .i64 f ∧ y = .int .i64 t ∧ f ≤ t ∧ t ≤ s.length ∧ wr = w ∧ (∀ j (h : j < s.length), j < f → labAt ls s[j] < n) ∧ (∀ j (h : j < s.length), t ≤ j → n ≤ labAt ls s[j])) (fun x y _ => (intOf y).toNat - (intOf x).toNat)
  case atStart => exact ⟨0, s.length, rfl, rfl, by omega, by omega, rfl, fun j h h' => by omega, fun j h h' => by omega⟩
  case round =>
    obtain ⟨f, t, rfl, rfl, hft, hts, rfl, h1, h2⟩ := hrel
    have H1 := hid' h1
    have H2 := hid' h2
    clear h1 h2
    by_cases hlt : f < t
    · obtain ⟨m, hm⟩ : ∃ m, m = f + (t - f) / 2 := ⟨_, rfl⟩
      have hms : m < s.length := by omega
      have hmf : f ≤ m ∧ m < t := by omega
      have cs := HC.out m hms
      have hsl : s[m] < ls.length := ((HS.out.mem _).1 (List.getElem_mem hms)).2.1
      obtain ⟨cl, _⟩ := HA.out s[m] hsl
      rw [← labAt_get hsl] at cl
      by_cases hlab : labAt ls s[m] < n
      · have H1' : Hid (∀ j (h : j < s.length), j < m + 1 → labAt ls s[j] < n) := fun j h hj => by
          have := asc_get HS.out.asc (show j ≤ m by omega) hms
          omega
        generalize labAt ls s[m] = lx at *
        generalize s[m] = sm at *
        rw [hm] at cs
        go_wp2
        go_roundw
        case rel => exact ⟨m + 1, t, congrArg (Value.int .i64) (by omega), rfl, by omega, hts, by trivial, H1'.out, H2.out⟩
        case measure => simp [intOf]; omega
      · have H2' : Hid (∀ j (h : j < s.length), m ≤ j → n ≤ labAt ls s[j]) := fun j h hj => by
          have := asc_get HS.out.asc (show m ≤ j by omega) h
          omega
        generalize labAt ls s[m] = lx at *
        generalize s[m] = sm at *
        rw [hm] at cs
        go_wp2
        go_roundw
        case rel => exact ⟨f, m, rfl, congrArg (Value.int .i64) (by omega), by omega, by omega, by trivial, H1.out, H2'.out⟩
        case measure => simp [intOf]; omega
    · have : f = t := by omega
      subst this
      by_cases hfs : f < s.length
      · have cs := HC.out f hfs
        have hsl : s[f] < ls.length := ((HS.out.mem _).1 (List.getElem_mem hfs)).2.1
        obtain ⟨cl, _⟩ := HA.out s[f] hsl
        rw [← labAt_get hsl] at cl
        by_cases hlab : labAt ls s[f] = n
        · have HR : Hid (FindRes ls n s[f]) := .inr ⟨_, rfl, hsl, hlab⟩
          rw [hlab] at cl
          generalize s[f] = sm at *
          go_wp2
          go_ret
          exact ⟨_, rfl, rfl, HR.out⟩
        · have HR : Hid (FindRes ls n (-1)) := .inl ⟨rfl, fun i hi e => by
            obtain ⟨j, hj, ej⟩ := List.getElem_of_mem ((HS.out.mem i).2 ⟨by omega, labAt_lt hi, hi⟩)
            subst ej
            by_cases hjf : j < f
            · have := H1.out j hj hjf; omega
            · have h1 := H2.out f hfs (Nat.le_refl _)
              have h2 := asc_get HS.out.asc (show f ≤ j by omega) hj
              omega⟩
          generalize labAt ls s[f] = lx at *
          generalize s[f] = sm at *
          go_wp2
          go_ret
          exact ⟨_, rfl, rfl, HR.out⟩
      · have HR : Hid (FindRes ls n (-1)) := .inl ⟨rfl, fun i hi e => by
          obtain ⟨j, hj, ej⟩ := List.getElem_of_mem ((HS.out.mem i).2 ⟨by omega, labAt_lt hi, hi⟩)
          subst ej
          have := H1.out j hj (by omega)
          omega⟩
        go_wp2
        go_ret
        exact ⟨_, rfl, rfl, HR.out⟩

/-- find. -/
theorem find27 {w : World} {v sv : Value} {ls : List Ln} {s : List Nat} {n : Int} (h : IsLns w v ls) (hs : ISrc w sv s) (hS : Srt ls 0 ls.length s) :
    Calls Try.prog 27 #[v, sv, .int .i64 n] w fun e w' => ∃ r, e = .returned (.int .i64 r) ∧ w' = w ∧ FindRes ls n r := by
  rcases hs with ⟨rfl, ao, cap, rfl⟩ | ⟨hp, b', off, cap', rfl, hc, hl', hx⟩
  · refine (find_empty v ao cap n w).mono ?_
    rintro e w' ⟨rfl, rfl⟩
    refine ⟨_, rfl, rfl, .inl ⟨rfl, fun i hi => ?_⟩⟩
    have := (hS.mem i).2 ⟨by omega, labAt_lt hi, hi⟩
    simp at this
  · obtain ⟨hn, hwf, ⟨rfl, _⟩ | ⟨hp', b, cap, rfl, hl, ha⟩⟩ := h
    · have := hS.len
      simp at this
      subst this
      simp at hp
    · exact find_s hn ha hx hS
end Go.Proofs.Ytgnlplddppheiaa
