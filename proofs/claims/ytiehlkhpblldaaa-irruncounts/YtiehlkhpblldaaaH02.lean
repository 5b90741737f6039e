/- The small functions: numbers within bounds, lists of numbers. -/
import Derived.Test.YtiehlkhpblldaaaH00
set_option linter.unusedVariables false
set_option linter.unusedSimpArgs false
set_option maxRecDepth 20000
set_option maxHeartbeats 8000000
namespace Go.Proofs.Ytiehlkhpblldaaa
open Go.RowKit Go.Maps

def winF (n lo hi : Int) : Bool := decide (lo ≤ n ∧ n ≤ hi)
theorem within44 (n lo hi : Int) (w : World) : Calls Try.prog 36 #[.int .i64 n, .int .i64 lo, .int .i64 hi] w fun e w' => e = .returned (.bool (winF n lo hi)) ∧ w' = w := by
  unfold winF
  by_cases h1 : lo ≤ n
  · by_cases h2 : n ≤ hi
    · rw [decide_eq_true ⟨h1, h2⟩]
      go_enter Try.func36, Try.ntmps36
      go_wp2
      go_ret
      exact ⟨rfl, rfl⟩
    · rw [decide_eq_false (fun h => h2 h.2)]
      go_enter Try.func36, Try.ntmps36
      go_wp2
      go_ret
      exact ⟨rfl, rfl⟩
  · rw [decide_eq_false (fun h => h1 h.1)]
    go_enter Try.func36, Try.ntmps36
    go_wp2
    go_ret
    exact ⟨rfl, rfl⟩

def aluB (n : Int) : Bool := decide (1 ≤ n ∧ n ≤ 19)
theorem isAlu41 (n : Int) (w : World) : Calls Try.prog 93 #[.int .i64 n] w fun e w' => e = .returned (.bool (aluB n)) ∧ w' = w := by
  unfold aluB
  by_cases h1 : 1 ≤ n
  · by_cases h2 : n ≤ 19
    · rw [decide_eq_true ⟨h1, h2⟩]
      go_enter Try.func93, Try.ntmps93
      go_wp2
      go_ret
      exact ⟨rfl, rfl⟩
    · rw [decide_eq_false (fun h => h2 h.2)]
      go_enter Try.func93, Try.ntmps93
      go_wp2
      go_ret
      exact ⟨rfl, rfl⟩
  · rw [decide_eq_false (fun h => h1 h.1)]
    go_enter Try.func93, Try.ntmps93
    go_wp2
    go_ret
    exact ⟨rfl, rfl⟩
def aluF (n : Int) (has : Bool) : Bool := if has then aluB n else decide (n = 0)
theorem aluFits58 (n : Int) (has : Bool) (w : World) : Calls Try.prog 80 #[.int .i64 n, .bool has] w fun e w' => e = .returned (.bool (aluF n has)) ∧ w' = w := by
  cases has
  · by_cases h : n = 0
    · subst h
      go_enter Try.func80, Try.ntmps80
      go_wp2
      go_ret
      exact ⟨rfl, rfl⟩
    · have e : aluF n false = false := by simp [aluF, h]
      rw [e]
      go_enter Try.func80, Try.ntmps80
      go_wp2
      go_ret
      exact ⟨by simp [h], rfl⟩
  · have e : aluF n true = aluB n := rfl
    rw [e]
    go_enter Try.func80, Try.ntmps80
    go_wp2_with (go_at_call 93; refine (isAlu41 _ _).mono ?_; rintro e1 w1 ⟨rfl, rfl⟩)
    go_ret
    exact ⟨rfl, rfl⟩
def wideF (n : Int) (has : Bool) : Bool := if has then decide (n = 1 ∨ n = 4) else decide (n = 0)
theorem wideFits59 (n : Int) (has : Bool) (w : World) : Calls Try.prog 81 #[.int .i64 n, .bool has] w fun e w' => e = .returned (.bool (wideF n has)) ∧ w' = w := by
  cases has
  · by_cases h : n = 0
    · subst h
      go_enter Try.func81, Try.ntmps81
      go_wp2
      go_ret
      exact ⟨rfl, rfl⟩
    · have e : wideF n false = false := by simp [wideF, h]
      rw [e]
      go_enter Try.func81, Try.ntmps81
      go_wp2
      go_ret
      exact ⟨by simp [h], rfl⟩
  · by_cases h1 : n = 1
    · subst h1
      go_enter Try.func81, Try.ntmps81
      go_wp2
      go_ret
      exact ⟨rfl, rfl⟩
    · by_cases h4 : n = 4
      · subst h4
        go_enter Try.func81, Try.ntmps81
        go_wp2
        go_ret
        exact ⟨rfl, rfl⟩
      · have e : wideF n true = false := by simp [wideF, h1, h4]
        rw [e]
        go_enter Try.func81, Try.ntmps81
        go_wp2
        go_ret
        exact ⟨by simp [h1, h4], rfl⟩
def regB (f : Fn) (n : Int) : Bool := decide (0 ≤ n ∧ n < f.regs)
theorem register50 (f : Fn) (n : Int) (w : World) : Calls Try.prog 58 #[f.val, .int .i64 n] w fun e w' => e = .returned (.bool (regB f n)) ∧ Below w.heap.size w w' := by
  obtain ⟨nm, ps, rs, sl, bv, bl⟩ := f
  unfold regB Fn.val
  dsimp only
  by_cases h1 : 0 ≤ n
  · by_cases h2 : n < rs
    · rw [decide_eq_true ⟨h1, h2⟩]
      go_enter Try.func58, Try.ntmps58
      go_wp2
      go_ret
      exact ⟨rfl, below1 _ _⟩
    · rw [decide_eq_false (fun h => h2 h.2)]
      go_enter Try.func58, Try.ntmps58
      go_wp2
      go_ret
      exact ⟨rfl, below1 _ _⟩
  · rw [decide_eq_false (fun h => h1 h.1)]
    go_enter Try.func58, Try.ntmps58
    go_wp2
    go_ret
    exact ⟨rfl, below1 _ _⟩
def blkB (f : Fn) (n : Int) : Bool := decide (0 ≤ n ∧ n < f.blocks.length)
theorem isBlock32 (f : Fn) (n : Int) (w w0 : World) (h : Src Bl.cells w0 f.bv f.blocks) : Calls Try.prog 62 #[f.val, .int .i64 n] w fun e w' => e = .returned (.bool (blkB f n)) ∧ Below w.heap.size w w' := by
  obtain ⟨nm, ps, rs, sl, bv, bl⟩ := f
  obtain ⟨ao, cap, e⟩ := h.len
  dsimp only at e
  subst e
  clear h
  unfold blkB Fn.val
  dsimp only
  by_cases h1 : 0 ≤ n
  · by_cases h2 : n < bl.length
    · rw [decide_eq_true ⟨h1, h2⟩]
      go_enter Try.func62, Try.ntmps62
      go_wp2
      go_ret
      exact ⟨rfl, below1 _ _⟩
    · rw [decide_eq_false (fun h => h2 h.2)]
      go_enter Try.func62, Try.ntmps62
      go_wp2
      go_ret
      exact ⟨rfl, below1 _ _⟩
  · rw [decide_eq_false (fun h => h1 h.1)]
    go_enter Try.func62, Try.ntmps62
    go_wp2
    go_ret
    exact ⟨rfl, below1 _ _⟩

/-- A slice of numbers, cell by cell. -/
theorem Src.ints {w : World} {v : Value} {l : List Int} (h : Src icell w v l) :
    ∃ ao cap, v = .slice ao l.length cap ∧ ∀ k (hk : k < l.length), ∃ b off, ao = some ⟨b, off, none⟩ ∧ b < w.heap.size ∧ l.length ≤ cap ∧ ∀ w', Below w.heap.size w w' → w'.cell? ⟨b, off + k, none⟩ = some (.int .i64 l[k]) := by
  obtain ⟨ao, cap, e, hf⟩ := h.form ic1
  refine ⟨ao, cap, e, fun k hk => ?_⟩
  obtain ⟨b, off, e1, hb, hc, h2⟩ := hf k hk
  refine ⟨b, off, e1, hb, hc, fun w' hw => ?_⟩
  have := h2 w' hw 0 (by omega)
  simpa [icell] using this

def hasF (l : List Int) (n : Int) : Bool := decide (n ∈ l)
theorem has34 {w : World} {v : Value} {l : List Int} (h : Src icell w v l) (hl : l.length * 8 ≤ big) (n : Int) :
    Calls Try.prog 56 #[v, .int .i64 n] w fun e w' => e = .returned (.bool (hasF l n)) ∧ w' = w := by
  obtain ⟨ao, cap, rfl, hf⟩ := h.ints
  unfold big at hl
  have HF := hid' hf
  clear hf h
  go_enter Try.func56, Try.ntmps56
  go_wp2
  go_loop [5] (fun i => ∃ k : Nat, k ≤ l.length ∧ i = .int .i64 k ∧ (∀ j (hj : j < l.length), j < k → l[j] ≠ n)) (fun i => l.length - (intOf i).toNat)
  case atStart => exact ⟨0, Nat.zero_le _, rfl, fun j _ hj => by omega⟩
  case round =>
    obtain ⟨k, hk, rfl, hok⟩ := hrel
    have HK := hid' hok
    clear hok
    by_cases hlt : k < l.length
    · obtain ⟨b, off, rfl, hbl, hcp, hc⟩ := HF.out k hlt
      have c0 := hc w (Below.refl _ _)
      clear hc
      by_cases he : l[k] = n
      · have HR : Hid (hasF l n = true) := decide_eq_true (he ▸ List.getElem_mem hlt)
        rw [he] at c0
        clear he
        go_wp2
        go_ret
        exact ⟨by rw [HR.out]; rfl, rfl⟩
      · have HN : Hid (∀ j (hj : j < l.length), j < k + 1 → l[j] ≠ n) := fun j hj hjk => by
          by_cases e : j = k
          · subst e; exact he
          · exact HK.out j hj (by omega)
        go_wp2
        go_round
        case rel => exact ⟨k + 1, by omega, by go_num, HN.out⟩
        case measure => simp [intOf]; omega
    · have e : k = l.length := by omega
      subst e
      have HR : Hid (hasF l n = false) := decide_eq_false (fun hx => by
        obtain ⟨i, hi, e⟩ := List.getElem_of_mem hx
        exact HK.out i hi hi e)
      go_wp2
      go_ret
      exact ⟨by rw [HR.out]; rfl, rfl⟩

def allF (l : List Int) (n : Int) : Bool := decide (∀ i ∈ l, 0 ≤ i ∧ i < n)
theorem allWithin55 {w : World} {v : Value} {l : List Int} (h : Src icell w v l) (hl : l.length * 8 ≤ big) (n : Int) (hn : 0 ≤ n) (hn' : n ≤ 9000000000000000000) :
    Calls Try.prog 77 #[v, .int .i64 n] w fun e w' => e = .returned (.bool (allF l n)) ∧ w' = w := by
  obtain ⟨ao, cap, rfl, hf⟩ := h.ints
  unfold big at hl
  have HF := hid' hf
  clear hf h
  go_enter Try.func77, Try.ntmps77
  go_wp2
  go_loop [9] (fun i => ∃ k : Nat, k ≤ l.length ∧ i = .int .i64 k ∧ (∀ j (hj : j < l.length), j < k → 0 ≤ l[j] ∧ l[j] < n)) (fun i => l.length - (intOf i).toNat)
  case atStart => exact ⟨0, Nat.zero_le _, rfl, fun j _ hj => by omega⟩
  case round =>
    obtain ⟨k, hk, rfl, hok⟩ := hrel
    have HK := hid' hok
    clear hok
    by_cases hlt : k < l.length
    · obtain ⟨b, off, rfl, hbl, hcp, hc⟩ := HF.out k hlt
      have c0 := hc w (Below.refl _ _)
      clear hc
      have hw := within44 l[k] 0 (n - 1)
      cases hq : winF l[k] 0 (n - 1)
      · have HR : Hid (allF l n = false) := decide_eq_false (fun hx => by
          have := hx _ (List.getElem_mem hlt)
          simp [winF] at hq
          omega)
        rw [hq] at hw
        clear hq
        go_wp2_with (go_at_call 36; refine (hw _).mono ?_; rintro e1 w1 ⟨rfl, rfl⟩)
        go_ret
        exact ⟨by rw [HR.out]; rfl, rfl⟩
      · have HN : Hid (∀ j (hj : j < l.length), j < k + 1 → 0 ≤ l[j] ∧ l[j] < n) := fun j hj hjk => by
          by_cases e : j = k
          · subst e; simp [winF] at hq; omega
          · exact HK.out j hj (by omega)
        rw [hq] at hw
        clear hq
        go_wp2_with (go_at_call 36; refine (hw _).mono ?_; rintro e1 w1 ⟨rfl, rfl⟩)
        go_round
        case rel => exact ⟨k + 1, by omega, by go_num, HN.out⟩
        case measure => simp [intOf]; omega
    · have e : k = l.length := by omega
      subst e
      have HR : Hid (allF l n = true) := decide_eq_true (fun x hx => by
        obtain ⟨i, hi, rfl⟩ := List.getElem_of_mem hx
        exact HK.out i hi hi)
      go_wp2
      go_ret
      exact ⟨by rw [HR.out]; rfl, rfl⟩

theorem endsWith33 {w : World} {v : Value} {l : List Int} (h : Src icell w v l) (hl : l.length * 8 ≤ big) (n : Int) :
    Calls Try.prog 63 #[v, .int .i64 n] w fun e w' => e = .returned (.bool (decide (l.getLast? = some n))) ∧ w' = w := by
  obtain ⟨ao, cap, rfl, hf⟩ := h.ints
  unfold big at hl
  have HF := hid' hf
  clear hf h
  by_cases h0 : l.length = 0
  · have e : l = [] := List.eq_nil_of_length_eq_zero h0
    subst e
    clear h0
    simp only [List.length_nil, List.getLast?_nil]
    go_enter Try.func63, Try.ntmps63
    go_wp2
    go_ret
    exact ⟨rfl, rfl⟩
  · obtain ⟨b, off, rfl, hbl, hcp, hc⟩ := HF.out (l.length - 1) (by omega)
    have c0 := hc w (Below.refl _ _)
    clear hc
    have e1 : l.getLast? = some l[l.length - 1] := by rw [List.getLast?_eq_getElem?, List.getElem?_eq_getElem]
    rw [e1]
    have hi : ((l.length : Int) - 1).toNat = l.length - 1 := by omega
    have hpos : 0 < l.length := by omega
    clear e1
    by_cases he : l[l.length - 1] = n
    · rw [decide_eq_true (by rw [he])]
      rw [he] at c0
      clear he
      go_enter Try.func63, Try.ntmps63
      go_wp2
      go_ret
      exact ⟨rfl, rfl⟩
    · rw [decide_eq_false (fun h => he (Option.some.inj h))]
      go_enter Try.func63, Try.ntmps63
      go_wp2
      go_ret
      exact ⟨by simp [he], rfl⟩
end Go.Proofs.Ytiehlkhpblldaaa
