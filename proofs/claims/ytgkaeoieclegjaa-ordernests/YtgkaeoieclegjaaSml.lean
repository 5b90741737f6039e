/- The small functions: numbers within bounds, lists of numbers. -/
import Derived.Test.YtgkaeoieclegjaaBase
namespace Go.Proofs.Ytgkaeoieclegjaa
open Go.RowKit Go.Maps
set_option linter.unusedVariables false
set_option linter.unusedSimpArgs false

def winF (n lo hi : Int) : Bool := decide (lo ≤ n ∧ n ≤ hi)
def aluB (n : Int) : Bool := decide (1 ≤ n ∧ n ≤ 19)
def aluF (n : Int) (has : Bool) : Bool := if has then aluB n else decide (n = 0)
def wideF (n : Int) (has : Bool) : Bool := if has then decide (n = 1 ∨ n = 4) else decide (n = 0)
def trapB (n : Int) : Bool := decide (n = 4 ∨ n = 5 ∨ n = 6 ∨ n = 7)
def regB (f : Fn) (n : Int) : Bool := decide (0 ≤ n ∧ n < f.regs)
theorem register50 (f : Fn) (n : Int) (w : World) : Calls Try.prog 54 #[f.val, .int .i64 n] w fun e w' => e = .returned (.bool (regB f n)) ∧ Below w.heap.size w w' := by
  obtain ⟨nm, ps, rs, sl, bv, bl⟩ := f
  unfold regB Fn.val
  dsimp only
  by_cases h1 : 0 ≤ n
  · by_cases h2 : n < rs
    · rw [decide_eq_true ⟨h1, h2⟩]
      go_enter Try.func54, Try.ntmps54
      go_wp2
      go_ret
      exact ⟨rfl, below1 _ _⟩
    · rw [decide_eq_false (fun h => h2 h.2)]
      go_enter Try.func54, Try.ntmps54
      go_wp2
      go_ret
      exact ⟨rfl, below1 _ _⟩
  · rw [decide_eq_false (fun h => h1 h.1)]
    go_enter Try.func54, Try.ntmps54
    go_wp2
    go_ret
    exact ⟨rfl, below1 _ _⟩
def blkB (f : Fn) (n : Int) : Bool := decide (0 ≤ n ∧ n < f.blocks.length)
theorem isBlock32 (f : Fn) (n : Int) (w w0 : World) (h : Src Bl.cells w0 f.bv f.blocks) : Calls Try.prog 50 #[f.val, .int .i64 n] w fun e w' => e = .returned (.bool (blkB f n)) ∧ Below w.heap.size w w' := by
  obtain ⟨nm, ps, rs, sl, bv, bl⟩ := f
  obtain ⟨ao, cap, e⟩ := h.len
  dsimp only at e
  subst e
  clear h
  unfold blkB Fn.val
  dsimp only
  by_cases h1 : 0 ≤ n
  · by_cases h2 : n < bl.length
    · rw [decide_eq_true ⟨h1, h2⟩]
      go_enter Try.func50, Try.ntmps50
      go_wp2
      go_ret
      exact ⟨rfl, below1 _ _⟩
    · rw [decide_eq_false (fun h => h2 h.2)]
      go_enter Try.func50, Try.ntmps50
      go_wp2
      go_ret
      exact ⟨rfl, below1 _ _⟩
  · rw [decide_eq_false (fun h => h1 h.1)]
    go_enter Try.func50, Try.ntmps50
    go_wp2
    go_ret
    exact ⟨rfl, below1 _ _⟩

/-- A slice of numbers, cell by cell. -/
theorem Src.ints {w : World} {v : Value} {l : List Int} (h : Src icell w v l) :
    ∃ ao cap, v = .slice ao l.length cap ∧ ∀ k (hk : k < l.length), ∃ b off, ao = some ⟨b, off, none⟩ ∧ b < w.heap.size ∧ l.length ≤ cap ∧ ∀ w', Below w.heap.size w w' → w'.cell? ⟨b, off + k, none⟩ = some (.int .i64 l[k]) := by
  obtain ⟨ao, cap, e, hf⟩ := h.form ic1
  refine ⟨ao, cap, e, fun k hk => ?_⟩
  obtain ⟨b, off, e1, hb, hc, h2⟩ := hf k hk
  refine ⟨b, off, e1, hb, hc, fun w' hw => ?_⟩
  have := h2 w' hw 0 (by omega)
  simpa [icell] using this

def hasF (l : List Int) (n : Int) : Bool := decide (n ∈ l)
set_option maxHeartbeats 1000000 in
theorem has34 {w : World} {v : Value} {l : List Int} (h : Src icell w v l) (hl : l.length * 8 ≤ big) (n : Int) :
    Calls Try.prog 49 #[v, .int .i64 n] w fun e w' => e = .returned (.bool (hasF l n)) ∧ w' = w := by
  obtain ⟨ao, cap, rfl, hf⟩ := h.ints
  unfold big at hl
  have HF := hid' hf
  clear hf h
  go_enter Try.func49, Try.ntmps49
  go_wp2
  go_loop [5] (fun i => ∃ k : Nat, k ≤ l.length ∧ i = .int .i64 k ∧ (∀ j (hj : j < l.length), j < k → l[j] ≠ n)) (fun i => l.length - (intOf i).toNat)
  case atStart => exact ⟨0, Nat.zero_le _, rfl, fun j _ hj => by omega⟩
  case round =>
    obtain ⟨k, hk, rfl, hok⟩ := hrel
    have HK := hid' hok
    clear hok
    by_cases hlt : k < l.length
    · obtain ⟨b, off, rfl, hbl, hcp, hc⟩ := HF.out k hlt
      have c0 := hc w (Below.refl _ _)
      clear hc
      by_cases he : l[k] = n
      · have HR : Hid (hasF l n = true) := decide_eq_true (he ▸ List.getElem_mem hlt)
        rw [he] at c0
        clear he
        go_wp2
        go_ret
        exact ⟨by rw [HR.out]; rfl, rfl⟩
      · have HN : Hid (∀ j (hj : j < l.length), j < k + 1 → l[j] ≠ n) := fun j hj hjk => by
          by_cases e : j = k
          · subst e; exact he
          · exact HK.out j hj (by omega)
        go_wp2
        go_round
        case rel => exact ⟨k + 1, by omega, by go_num, HN.out⟩
        case measure => simp [intOf]; omega
    · have e : k = l.length := by omega
      subst e
      have HR : Hid (hasF l n = false) := decide_eq_false (fun hx => by
        obtain ⟨i, hi, e⟩ := List.getElem_of_mem hx
        exact HK.out i hi hi e)
      go_wp2
      go_ret
      exact ⟨by rw [HR.out]; rfl, rfl⟩

def allF (l : List Int) (n : Int) : Bool := decide (∀ i ∈ l, 0 ≤ i ∧ i < n)
theorem endsWith33 {w : World} {v : Value} {l : List Int} (h : Src icell w v l) (hl : l.length * 8 ≤ big) (n : Int) :
    Calls Try.prog 51 #[v, .int .i64 n] w fun e w' => e = .returned (.bool (decide (l.getLast? = some n))) ∧ w' = w := by
  obtain ⟨ao, cap, rfl, hf⟩ := h.ints
  unfold big at hl
  have HF := hid' hf
  clear hf h
  by_cases h0 : l.length = 0
  · have e : l = [] := List.eq_nil_of_length_eq_zero h0
    subst e
    clear h0
    simp only [List.length_nil, List.getLast?_nil]
    go_enter Try.func51, Try.ntmps51
    go_wp2
    go_ret
    exact ⟨rfl, rfl⟩
  · obtain ⟨b, off, rfl, hbl, hcp, hc⟩ := HF.out (l.length - 1) (by omega)
    have c0 := hc w (Below.refl _ _)
    clear hc
    have e1 : l.getLast? = some l[l.length - 1] := by rw [List.getLast?_eq_getElem?, List.getElem?_eq_getElem]
    rw [e1]
    have hi : ((l.length : Int) - 1).toNat = l.length - 1 := by omega
    have hpos : 0 < l.length := by omega
    clear e1
    by_cases he : l[l.length - 1] = n
    · rw [decide_eq_true (by rw [he])]
      rw [he] at c0
      clear he
      go_enter Try.func51, Try.ntmps51
      go_wp2
      go_ret
      exact ⟨rfl, rfl⟩
    · rw [decide_eq_false (fun h => he (Option.some.inj h))]
      go_enter Try.func51, Try.ntmps51
      go_wp2
      go_ret
      exact ⟨by simp [he], rfl⟩
end Go.Proofs.Ytgkaeoieclegjaa
