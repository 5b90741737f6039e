/- Ends of blocks: the program's and the document's. -/
import Derived.Test.YtgkaeoieclegjaaLsts
namespace Go.Proofs.Ytgkaeoieclegjaa
open Go.RowKit Go.Maps
set_option linter.unusedVariables false
set_option linter.unusedSimpArgs false

/-- May a block's end be, in a function of n blocks and rs registers? -/
def endF (n : Nat) (rs : Int) (b : Bl) : Bool :=
  if b.en = 1 then decide (b.arg = 0) && decide (b.to.length = 1) && allF b.to n
  else if b.en = 2 then winF b.arg 0 (rs - 1) && decide (b.to.length = 2) && allF b.to n
  else if b.en = 3 then winF b.arg (-1) (rs - 1) && decide (b.to.length = 0)
  else false

def endsF (f : Fn) : Bool := f.blocks.all (endF f.blocks.length f.regs)
theorem all_no {α : Type} {p : α → Bool} {l : List α} (k : Nat) (hk : k < l.length) (h : p l[k] = false) : l.all p = false := by
  rw [List.all_eq_false]
  exact ⟨l[k], List.getElem_mem hk, by simp [h]⟩
theorem all_yes {α : Type} {p : α → Bool} {l : List α} (h : ∀ k (hk : k < l.length), p l[k] = true) : l.all p = true := by
  rw [List.all_eq_true]
  intro x hx
  obtain ⟨i, hi, rfl⟩ := List.getElem_of_mem hx
  exact h i hi
theorem allF_no {l : List Int} {n : Int} {k : Nat} (hk : k < l.length) (h : ¬ (0 ≤ l[k] ∧ l[k] < n)) : allF l n = false := decide_eq_false (fun hx => h (hx _ (List.getElem_mem hk)))
theorem allF_yes {l : List Int} {n : Int} (h : ∀ j (hj : j < l.length), 0 ≤ l[j] ∧ l[j] < n) : allF l n = true := decide_eq_true (fun x hx => by
  obtain ⟨i, hi, rfl⟩ := List.getElem_of_mem hx
  exact h i hi)
theorem win_reg (f : Fn) (n : Int) : winF n 0 (f.regs - 1) = regB f n := by
  unfold winF regB
  by_cases h : 0 ≤ n ∧ n < f.regs
  · rw [decide_eq_true h, decide_eq_true (by omega)]
  · rw [decide_eq_false h, decide_eq_false (by omega)]
theorem win_reg1 (f : Fn) (n : Int) (hr : 0 ≤ f.regs) : winF n (-1) (f.regs - 1) = (decide (n = -1) || regB f n) := by
  unfold winF regB
  by_cases h1 : n = -1
  · rw [decide_eq_true h1, decide_eq_true (by omega)]; rfl
  · rw [decide_eq_false h1]
    by_cases h : 0 ≤ n ∧ n < f.regs
    · rw [decide_eq_true h, decide_eq_true (by omega)]; rfl
    · rw [decide_eq_false h, decide_eq_false (by omega)]; rfl
theorem box2 {w W : World} {v0 v1 v2 v3 v4 u0 u1 u2 u3 : Value} {T U : TypeId} (hb : Below ((w.alloc (.cells #[v0, v1, v2, v3, v4] T)).alloc (.cells #[u0, u1, u2, u3] U)).heap.size ((w.alloc (.cells #[v0, v1, v2, v3, v4] T)).alloc (.cells #[u0, u1, u2, u3] U)) W) :
    w.heap.size + 1 < W.heap.size ∧ W.cell? ⟨w.heap.size, 4, none⟩ = some v4 ∧ W.cell? ⟨w.heap.size + 1, 3, none⟩ = some u3 ∧ W.cell? ⟨w.heap.size, 2, none⟩ = some v2 ∧ W.cell? ⟨w.heap.size + 1, 2, none⟩ = some u2 := by
  refine ⟨by have := hb.size; simp at this; omega, ?_, ?_, ?_, ?_⟩ <;> (rw [hb.cell (by simp <;> omega)]; simp [go_sem])
set_option maxHeartbeats 8000000 in
theorem ends31 {w : World} {f : Fn} {b : Bl} (hf : Src Bl.cells w f.bv f.blocks) (hfl : f.blocks.length * 64 ≤ big) (hb : Bl.ok w b) (h0 : 0 ≤ f.regs) :
    Calls Try.prog 48 #[f.val, b.val] w fun e w' => e = .returned (.bool (endF f.blocks.length f.regs b)) ∧ Below w.heap.size w w' := by
  obtain ⟨r1, er1⟩ : ∃ r1, r1 = winF b.arg 0 (f.regs - 1) := ⟨_, rfl⟩
  obtain ⟨r3, er3⟩ : ∃ r3, r3 = winF b.arg (-1) (f.regs - 1) := ⟨_, rfl⟩
  have h50 := register50 f b.arg
  rw [← win_reg, ← er1] at h50
  have h31 := win_reg1 f b.arg h0
  rw [← er3, ← win_reg, ← er1] at h31
  unfold endF
  rw [← er1, ← er3]
  clear er1 er3
  obtain ⟨nm, ps, rs, sl, bv, bl⟩ := f
  obtain ⟨cv, code, en, arg, tv, to⟩ := b
  obtain ⟨hc, hcl, ht, htl, _⟩ := hb
  dsimp only at *
  obtain ⟨fo, fc, rfl⟩ := hf.len
  obtain ⟨co, cc, rfl⟩ := hc.len
  obtain ⟨tt, tc, rfl, hx⟩ := ht.ints
  have HT := hid' hx
  unfold big at hfl hcl htl
  unfold Fn.val Bl.val at *
  dsimp only at *
  clear hf hc ht hx
  by_cases e1 : en = 1
  · subst e1
    rw [if_pos rfl]
    clear h50 h31
    by_cases ha : arg = 0
    · subst ha
      by_cases hl : to.length = 1
      · have HL := hid' hl
        have hl' : (to.length : Int) = 1 := by omega
        rw [decide_eq_true hl]
        simp only [decide_true, Bool.true_and]
        clear hl
        go_enter Try.func48, Try.ntmps48
        go_wp2
        go_loopw [6] (fun i wr => ∃ k : Nat, k ≤ 1 ∧ i = .int .i64 k ∧ (∀ j (hj : j < to.length), j < k → 0 ≤ to[j] ∧ to[j] < bl.length) ∧ Below ((w.alloc (.cells #[.string nm, .int .i64 ps, .int .i64 rs, .int .i64 sl, .slice fo bl.length fc] 24)).alloc (.cells #[.slice co code.length cc, .int .i64 1, .int .i64 0, .slice tt to.length tc] 45)).heap.size ((w.alloc (.cells #[.string nm, .int .i64 ps, .int .i64 rs, .int .i64 sl, .slice fo bl.length fc] 24)).alloc (.cells #[.slice co code.length cc, .int .i64 1, .int .i64 0, .slice tt to.length tc] 45)) wr) (fun i _ => 1 - (intOf i).toNat)
        case atStart => exact ⟨0, Nat.zero_le _, rfl, fun j _ hj => by omega, Below.refl _ _⟩
        case round =>
          obtain ⟨k, hk, rfl, hok, hbw⟩ := hrel
          have HK := hid' hok
          obtain ⟨g0, g1, g2, g3, g4⟩ := box2 hbw
          have hB0 : Below w.heap.size w wr := (below2 _ _ _).trans (hbw.mono (by simp; omega))
          have HB0 := hid' hB0
          have HB := hid' hbw
          clear hok hbw hB0
          by_cases hlt : k < 1
          · obtain ⟨b, o, rfl, hb1, hc1, hx⟩ := HT.out k (by rw [HL.out]; exact hlt)
            have c0 := hx wr HB0.out
            clear hx
            by_cases g : 0 ≤ to[k]'(by rw [HL.out]; exact hlt)
            · by_cases g' : to[k]'(by rw [HL.out]; exact hlt) < bl.length
              · have HN : Hid (∀ j (hj : j < to.length), j < k + 1 → 0 ≤ to[j] ∧ to[j] < bl.length) := fun j hj hjk => by
                  by_cases e : j = k
                  · subst e; exact ⟨g, g'⟩
                  · exact HK.out j hj (by omega)
                generalize to[k]'(by rw [HL.out]; exact hlt) = tk at *
                have d1 : decide (tk < 0) = false := decide_eq_false (by omega)
                go_wp2
                go_quiet (fail)
                go_wp2
                go_roundw
                case rel => exact ⟨k + 1, by omega, by go_num, HN.out, bdrew HB.out _⟩
                case measure => simp [intOf]; omega
              · have HR := hid' (allF_no (n := bl.length) (by rw [HL.out]; exact hlt) (fun h => g' h.2))
                generalize to[k]'(by rw [HL.out]; exact hlt) = tk at *
                have d1 : decide (tk < 0) = false := decide_eq_false (by omega)
                go_wp2
                go_quiet (fail)
                go_wp2
                go_ret
                exact ⟨by rw [HR.out]; rfl, bdrew HB0.out _⟩
            · have HR := hid' (allF_no (n := bl.length) (by rw [HL.out]; exact hlt) (fun h => g h.1))
              generalize to[k]'(by rw [HL.out]; exact hlt) = tk at *
              have d1 : decide (tk < 0) = true := decide_eq_true (by omega)
              go_wp2
              go_quiet (fail)
              go_wp2
              go_ret
              exact ⟨by rw [HR.out]; rfl, bdrew HB0.out _⟩
          · have e : k = 1 := by omega
            subst e
            have HR := hid' (allF_yes (l := to) (n := bl.length) (fun j hj => HK.out j hj (by rw [← HL.out]; exact hj)))
            go_wp2
            go_ret
            exact ⟨by rw [HR.out]; rfl, HB0.out⟩
      · rw [decide_eq_false hl]
        have hl' : ¬ (to.length : Int) = 1 := by omega
        go_enter Try.func48, Try.ntmps48
        go_wp2
        go_ret
        exact ⟨by simp, below2 _ _ _⟩
    · rw [decide_eq_false ha]
      go_enter Try.func48, Try.ntmps48
      go_wp2
      go_ret
      exact ⟨by simp, below2 _ _ _⟩
  rw [if_neg e1]
  by_cases e2 : en = 2
  · subst e2
    rw [if_pos rfl]
    clear h31
    cases r1
    · go_enter Try.func48, Try.ntmps48
      go_wp2_with (go_at_call 54; refine (h50 _).mono ?_; rintro e1 w1 ⟨rfl, hb1⟩)
      go_ret
      exact ⟨by simp, below_on (below2 _ _ _) hb1 (by simp; omega)⟩
    · by_cases hl : to.length = 2
      · have HL := hid' hl
        have hl' : (to.length : Int) = 2 := by omega
        rw [decide_eq_true hl]
        simp only [Bool.true_and]
        clear hl
        go_enter Try.func48, Try.ntmps48
        go_wp2_with (go_at_call 54; refine (h50 _).mono ?_; rintro e1 w1 ⟨rfl, hb1⟩; obtain ⟨hc1, hf1⟩ := bcell hb1; have hs1 := hb1.size; have HB1 := hid' hb1)
        go_loopw [6] (fun i wr => ∃ k : Nat, k ≤ 2 ∧ i = .int .i64 k ∧ (∀ j (hj : j < to.length), j < k → 0 ≤ to[j] ∧ to[j] < bl.length) ∧ Below ((w.alloc (.cells #[.string nm, .int .i64 ps, .int .i64 rs, .int .i64 sl, .slice fo bl.length fc] 24)).alloc (.cells #[.slice co code.length cc, .int .i64 2, .int .i64 arg, .slice tt to.length tc] 45)).heap.size ((w.alloc (.cells #[.string nm, .int .i64 ps, .int .i64 rs, .int .i64 sl, .slice fo bl.length fc] 24)).alloc (.cells #[.slice co code.length cc, .int .i64 2, .int .i64 arg, .slice tt to.length tc] 45)) wr) (fun i _ => 2 - (intOf i).toNat)
        case atStart => exact ⟨0, Nat.zero_le _, rfl, fun j _ hj => by omega, HB1.out⟩
        case round =>
          obtain ⟨k, hk, rfl, hok, hbw⟩ := hrel
          have HK := hid' hok
          obtain ⟨g0, g1, g2, g3, g4⟩ := box2 hbw
          have hB0 : Below w.heap.size w wr := (below2 _ _ _).trans (hbw.mono (by simp; omega))
          have HB0 := hid' hB0
          have HB := hid' hbw
          clear hok hbw hB0
          by_cases hlt : k < 2
          · obtain ⟨b, o, rfl, hb1, hc1, hx⟩ := HT.out k (by rw [HL.out]; exact hlt)
            have c0 := hx wr HB0.out
            clear hx
            by_cases g : 0 ≤ to[k]'(by rw [HL.out]; exact hlt)
            · by_cases g' : to[k]'(by rw [HL.out]; exact hlt) < bl.length
              · have HN : Hid (∀ j (hj : j < to.length), j < k + 1 → 0 ≤ to[j] ∧ to[j] < bl.length) := fun j hj hjk => by
                  by_cases e : j = k
                  · subst e; exact ⟨g, g'⟩
                  · exact HK.out j hj (by omega)
                generalize to[k]'(by rw [HL.out]; exact hlt) = tk at *
                have d1 : decide (tk < 0) = false := decide_eq_false (by omega)
                go_wp2
                go_quiet (fail)
                go_wp2
                go_roundw
                case rel => exact ⟨k + 1, by omega, by go_num, HN.out, bdrew HB.out _⟩
                case measure => simp [intOf]; omega
              · have HR := hid' (allF_no (n := bl.length) (by rw [HL.out]; exact hlt) (fun h => g' h.2))
                generalize to[k]'(by rw [HL.out]; exact hlt) = tk at *
                have d1 : decide (tk < 0) = false := decide_eq_false (by omega)
                go_wp2
                go_quiet (fail)
                go_wp2
                go_ret
                exact ⟨by rw [HR.out]; rfl, bdrew HB0.out _⟩
            · have HR := hid' (allF_no (n := bl.length) (by rw [HL.out]; exact hlt) (fun h => g h.1))
              generalize to[k]'(by rw [HL.out]; exact hlt) = tk at *
              have d1 : decide (tk < 0) = true := decide_eq_true (by omega)
              go_wp2
              go_quiet (fail)
              go_wp2
              go_ret
              exact ⟨by rw [HR.out]; rfl, bdrew HB0.out _⟩
          · have e : k = 2 := by omega
            subst e
            have HR := hid' (allF_yes (l := to) (n := bl.length) (fun j hj => HK.out j hj (by rw [← HL.out]; exact hj)))
            go_wp2
            go_ret
            exact ⟨by rw [HR.out]; rfl, HB0.out⟩
      · rw [decide_eq_false hl]
        have hl' : ¬ (to.length : Int) = 2 := by omega
        go_enter Try.func48, Try.ntmps48
        go_wp2_with (go_at_call 54; refine (h50 _).mono ?_; rintro e1 w1 ⟨rfl, hb1⟩; obtain ⟨hc1, hf1⟩ := bcell hb1; have hs1 := hb1.size)
        go_ret
        exact ⟨by simp, below_on (below2 _ _ _) hb1 (by simp; omega)⟩
  rw [if_neg e2]
  by_cases e3 : en = 3
  · subst e3
    rw [if_pos rfl]
    by_cases ha : arg = -1
    · rw [decide_eq_true ha, Bool.true_or] at h31
      subst ha h31
      clear h50
      by_cases hl : to.length = 0
      · rw [decide_eq_true hl]
        have hl' : (to.length : Int) = 0 := by omega
        clear hl
        go_enter Try.func48, Try.ntmps48
        go_wp2
        go_loopw [6] (fun i wr => i = .int .i64 0 ∧ wr = ((w.alloc (.cells #[.string nm, .int .i64 ps, .int .i64 rs, .int .i64 sl, .slice fo bl.length fc] 24)).alloc (.cells #[.slice co code.length cc, .int .i64 3, .int .i64 (-1), .slice tt to.length tc] 45))) (fun _ _ => 0)
        case atStart => exact ⟨rfl, rfl⟩
        case round =>
          obtain ⟨rfl, rfl⟩ := hrel
          go_wp2
          go_ret
          exact ⟨by simp, below2 _ _ _⟩
      · rw [decide_eq_false hl]
        have hl' : ¬ (to.length : Int) = 0 := by omega
        go_enter Try.func48, Try.ntmps48
        go_wp2
        go_ret
        exact ⟨by simp, below2 _ _ _⟩
    · rw [decide_eq_false ha, Bool.false_or] at h31
      subst h31
      cases r3
      · go_enter Try.func48, Try.ntmps48
        go_wp2_with (go_at_call 54; refine (h50 _).mono ?_; rintro e1 w1 ⟨rfl, hb1⟩)
        go_ret
        exact ⟨by simp, below_on (below2 _ _ _) hb1 (by simp; omega)⟩
      · by_cases hl : to.length = 0
        · rw [decide_eq_true hl]
          have hl' : (to.length : Int) = 0 := by omega
          clear hl
          go_enter Try.func48, Try.ntmps48
          go_wp2_with (go_at_call 54; refine (h50 _).mono ?_; rintro e1 w1 ⟨rfl, hb1⟩; obtain ⟨hc1, hf1⟩ := bcell hb1; have hs1 := hb1.size)
          have HB1 : Hid (Below w.heap.size w w1) := below_on (below2 _ _ _) hb1 (by simp; omega)
          go_loopw [6] (fun i wr => i = .int .i64 0 ∧ wr = w1) (fun _ _ => 0)
          case atStart => exact ⟨rfl, rfl⟩
          case round =>
            obtain ⟨rfl, rfl⟩ := hrel
            go_wp2
            go_ret
            exact ⟨by simp, HB1.out⟩
        · rw [decide_eq_false hl]
          have hl' : ¬ (to.length : Int) = 0 := by omega
          go_enter Try.func48, Try.ntmps48
          go_wp2_with (go_at_call 54; refine (h50 _).mono ?_; rintro e1 w1 ⟨rfl, hb1⟩; obtain ⟨hc1, hf1⟩ := bcell hb1; have hs1 := hb1.size)
          go_ret
          exact ⟨by simp, below_on (below2 _ _ _) hb1 (by simp; omega)⟩
  rw [if_neg e3]
  go_enter Try.func48, Try.ntmps48
  go_wp2
  go_ret
  exact ⟨rfl, below2 _ _ _⟩
end Go.Proofs.Ytgkaeoieclegjaa
