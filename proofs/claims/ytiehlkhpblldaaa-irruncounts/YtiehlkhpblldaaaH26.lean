/- Ends of blocks: the program's and the document's. -/
import Derived.Test.YtiehlkhpblldaaaH03
set_option linter.unusedVariables false
set_option linter.unusedSimpArgs false
set_option maxRecDepth 20000
set_option maxHeartbeats 8000000
namespace Go.Proofs.Ytiehlkhpblldaaa
open Go.RowKit Go.Maps

/-- May a block's end be, in a function of n blocks and rs registers? -/
def endF (n : Nat) (rs : Int) (b : Bl) : Bool :=
  if b.en = 1 then decide (b.arg = 0) && decide (b.to.length = 1) && allF b.to n
  else if b.en = 2 then winF b.arg 0 (rs - 1) && decide (b.to.length = 2) && allF b.to n
  else if b.en = 3 then winF b.arg (-1) (rs - 1) && decide (b.to.length = 0)
  else false

theorem endFits47 {w : World} {f : Fn} {b : Bl} (hf : Src Bl.cells w f.bv f.blocks) (hfl : f.blocks.length * 64 ≤ big) (hb : Bl.ok w b) (h0 : 0 ≤ f.regs) (h1 : f.regs ≤ 65536) :
    Calls Try.prog 61 #[f.val, b.val] w fun e w' => e = .returned (.bool (endF f.blocks.length f.regs b)) ∧ Below w.heap.size w w' := by
  obtain ⟨nm, ps, rs, sl, bv, bl⟩ := f
  obtain ⟨cv, code, en, arg, tv, to⟩ := b
  obtain ⟨hc, hcl, ht, htl, _⟩ := hb
  dsimp only at *
  obtain ⟨fo, fc, rfl⟩ := hf.len
  obtain ⟨co, cc, rfl⟩ := hc.len
  have H55 : Hid (∀ W, Below w.heap.size w W → Calls Try.prog 77 #[tv, .int .i64 (bl.length : Nat)] W fun e w' => e = .returned (.bool (allF to (bl.length : Nat))) ∧ w' = W) := fun W hW => allWithin55 (ht.on hW) htl _ (by omega) (by unfold big at hfl; omega)
  obtain ⟨tt, tc, rfl⟩ := ht.len
  unfold big at hfl hcl htl
  unfold Fn.val Bl.val endF
  dsimp only
  clear hf hc ht
  by_cases e1 : en = 1
  · subst e1
    rw [if_pos rfl]
    by_cases ha : arg = 0
    · subst ha
      by_cases hl : to.length = 1
      · rw [decide_eq_true hl]
        generalize allF to (bl.length : Nat) = q at *
        have HL := hid' hl
        have hl' : (to.length : Int) = 1 := by omega
        clear hl
        cases q
        all_goals
          go_enter Try.func61, Try.ntmps61
          go_wp2_with (go_at_call 77; refine (H55.out _ (below2 _ _ _)).mono ?_; rintro e1 w1 ⟨rfl, rfl⟩)
          go_ret
          exact ⟨by simp, below2 _ _ _⟩
      · rw [decide_eq_false hl]
        have hl' : ¬ (to.length : Int) = 1 := by omega
        clear H55
        go_enter Try.func61, Try.ntmps61
        go_wp2
        go_ret
        exact ⟨by simp, below2 _ _ _⟩
    · rw [decide_eq_false ha]
      clear H55
      go_enter Try.func61, Try.ntmps61
      go_wp2
      go_ret
      exact ⟨by simp, below2 _ _ _⟩
  rw [if_neg e1]
  by_cases e2 : en = 2
  · subst e2
    rw [if_pos rfl]
    have hw1 := within44 arg 0 (rs - 1)
    generalize winF arg 0 (rs - 1) = q1 at *
    cases q1
    · clear H55
      go_enter Try.func61, Try.ntmps61
      go_wp2_with (go_at_call 36; refine (hw1 _).mono ?_; rintro e1 w1 ⟨rfl, rfl⟩)
      go_ret
      exact ⟨by simp, below2 _ _ _⟩
    · by_cases hl : to.length = 2
      · rw [decide_eq_true hl]
        generalize allF to (bl.length : Nat) = q at *
        have hl' : (to.length : Int) = 2 := by omega
        clear hl
        cases q
        all_goals
          go_enter Try.func61, Try.ntmps61
          go_wp2_with (first
            | (go_at_call 36; refine (hw1 _).mono ?_; rintro e1 w1 ⟨rfl, rfl⟩)
            | (go_at_call 77; refine (H55.out _ (below2 _ _ _)).mono ?_; rintro e1 w1 ⟨rfl, rfl⟩))
          go_ret
          exact ⟨by simp, below2 _ _ _⟩
      · rw [decide_eq_false hl]
        have hl' : ¬ (to.length : Int) = 2 := by omega
        clear H55
        go_enter Try.func61, Try.ntmps61
        go_wp2_with (go_at_call 36; refine (hw1 _).mono ?_; rintro e1 w1 ⟨rfl, rfl⟩)
        go_ret
        exact ⟨by simp, below2 _ _ _⟩
  rw [if_neg e2]
  clear H55
  by_cases e3 : en = 3
  · subst e3
    rw [if_pos rfl]
    have hw1 := within44 arg (-1) (rs - 1)
    generalize winF arg (-1) (rs - 1) = q1 at *
    cases q1
    · go_enter Try.func61, Try.ntmps61
      go_wp2_with (go_at_call 36; refine (hw1 _).mono ?_; rintro e1 w1 ⟨rfl, rfl⟩)
      go_ret
      exact ⟨by simp, below2 _ _ _⟩
    · by_cases hl : to.length = 0
      · rw [decide_eq_true hl]
        have hl' : (to.length : Int) = 0 := by omega
        clear hl
        go_enter Try.func61, Try.ntmps61
        go_wp2_with (go_at_call 36; refine (hw1 _).mono ?_; rintro e1 w1 ⟨rfl, rfl⟩)
        go_ret
        exact ⟨by simp, below2 _ _ _⟩
      · rw [decide_eq_false hl]
        have hl' : ¬ (to.length : Int) = 0 := by omega
        go_enter Try.func61, Try.ntmps61
        go_wp2_with (go_at_call 36; refine (hw1 _).mono ?_; rintro e1 w1 ⟨rfl, rfl⟩)
        go_ret
        exact ⟨by simp; intro e; rw [e] at hl; exact hl rfl, below2 _ _ _⟩
  rw [if_neg e3]
  go_enter Try.func61, Try.ntmps61
  go_wp2
  go_ret
  exact ⟨rfl, below2 _ _ _⟩

def endsF (f : Fn) : Bool := f.blocks.all (endF f.blocks.length f.regs)
theorem all_no {α : Type} {p : α → Bool} {l : List α} (k : Nat) (hk : k < l.length) (h : p l[k] = false) : l.all p = false := by
  rw [List.all_eq_false]
  exact ⟨l[k], List.getElem_mem hk, by simp [h]⟩
theorem all_yes {α : Type} {p : α → Bool} {l : List α} (h : ∀ k (hk : k < l.length), p l[k] = true) : l.all p = true := by
  rw [List.all_eq_true]
  intro x hx
  obtain ⟨i, hi, rfl⟩ := List.getElem_of_mem hx
  exact h i hi
theorem endsFit28 {w : World} {f : Fn} (h : Fn.ok w f) (h0 : 0 ≤ f.regs) (h1 : f.regs ≤ 65536) :
    Calls Try.prog 39 #[f.val] w fun e w' => e = .returned (.bool (endsF f)) ∧ Below w.heap.size w w' := by
  have H47 : Hid (∀ W, Below w.heap.size w W → ∀ k (hk : k < f.blocks.length), Calls Try.prog 61 #[f.val, (f.blocks[k]).val] W fun e w' => e = .returned (.bool (endF f.blocks.length f.regs f.blocks[k])) ∧ Below W.heap.size W w') := fun W hW k hk => endFits47 (h.b.on hW) h.bl ((h.bls _ (List.getElem_mem hk)).on hW) h0 h1
  obtain ⟨nm, ps, rs, sl, bv, bl⟩ := f
  obtain ⟨hb, hbl, _, hbs⟩ := h
  unfold endsF
  dsimp only at *
  obtain ⟨ao, cap, rfl, hf⟩ := hb.form bl4
  have HF := hid' hf
  have HS := hid' hbs
  unfold big at hbl
  unfold Fn.val Bl.val at *
  dsimp only at *
  clear hf hb hbs
  go_enter Try.func39, Try.ntmps39
  go_wp2
  go_loopw [8] (fun i wr => ∃ k : Nat, k ≤ bl.length ∧ i = .int .i64 k ∧ (∀ j (hj : j < bl.length), j < k → endF bl.length rs bl[j] = true) ∧ Below (w.alloc (.cells #[.string nm, .int .i64 ps, .int .i64 rs, .int .i64 sl, .slice ao bl.length cap] 49)).heap.size (w.alloc (.cells #[.string nm, .int .i64 ps, .int .i64 rs, .int .i64 sl, .slice ao bl.length cap] 49)) wr) (fun i _ => bl.length - (intOf i).toNat)
  case atStart => exact ⟨0, Nat.zero_le _, rfl, fun j _ hj => by omega, Below.refl _ _⟩
  case round =>
    obtain ⟨k, hk, rfl, hok, hbw⟩ := hrel
    have HB := hid' hbw
    have HK := hid' hok
    obtain ⟨hsz, hB0, f0, f1, f2, f3, f4⟩ := fbox hbw
    have HB0 := hid' hB0
    clear hbw hok hB0
    by_cases hlt : k < bl.length
    · obtain ⟨b, o, rfl, hb1, hc1, hx⟩ := HF.out k hlt
      obtain ⟨c0, c1, c2, c3⟩ := bl_cells (hx wr HB0.out)
      have ho := HS.out _ (List.getElem_mem hlt)
      obtain ⟨co, cc, e⟩ := ho.c.len
      obtain ⟨t1, t2, e'⟩ := ho.t.len
      have HC := fun W hW => H47.out W hW k hlt
      have HN : Hid (endF bl.length rs bl[k] = true → ∀ j (hj : j < bl.length), j < k + 1 → endF bl.length rs bl[j] = true) := fun he j hj hjk => by
        by_cases e : j = k
        · subst e; exact he
        · exact HK.out j hj (by omega)
      have HNO : Hid (endF bl.length rs bl[k] = false → bl.all (endF bl.length rs) = false) := all_no k hlt
      rw [e] at c0 HC
      rw [e'] at c3 HC
      clear hx ho e e'
      generalize endF bl.length rs bl[k] = q at *
      generalize bl[k] = x at *
      have hne : ¬ w.heap.size = wr.heap.size := by omega
      have hnb : ¬ b = wr.heap.size := by have := HB0.out.size; omega
      cases q
      · go_wp2_with (go_at_call 61; refine (HC _ (HB0.out.alloc HB0.out.size _)).mono ?_; rintro e1 w1 ⟨rfl, hb1⟩)
        go_ret
        exact ⟨by rw [HNO.out (by trivial)]; rfl, below_on (HB0.out.alloc HB0.out.size _) hb1 (by have := HB0.out.size; simp; omega)⟩
      · go_wp2_with (go_at_call 61; refine (HC _ (HB0.out.alloc HB0.out.size _)).mono ?_; rintro e1 w1 ⟨rfl, hb1⟩)
        go_roundw
        case rel => exact ⟨k + 1, by omega, by go_num, HN.out (by trivial), below_on (HB.out.alloc HB.out.size _) hb1 (by have := HB.out.size; simp at this ⊢; omega)⟩
        case measure => simp [intOf]; omega
    · have e : k = bl.length := by omega
      subst e
      have HR : Hid (bl.all (endF bl.length rs) = true) := all_yes (fun k hk => HK.out k hk hk)
      go_wp2
      go_ret
      exact ⟨by rw [HR.out]; rfl, HB0.out⟩

theorem allF_no {l : List Int} {n : Int} {k : Nat} (hk : k < l.length) (h : ¬ (0 ≤ l[k] ∧ l[k] < n)) : allF l n = false := decide_eq_false (fun hx => h (hx _ (List.getElem_mem hk)))
theorem allF_yes {l : List Int} {n : Int} (h : ∀ j (hj : j < l.length), 0 ≤ l[j] ∧ l[j] < n) : allF l n = true := decide_eq_true (fun x hx => by
  obtain ⟨i, hi, rfl⟩ := List.getElem_of_mem hx
  exact h i hi)
theorem win_reg (f : Fn) (n : Int) : winF n 0 (f.regs - 1) = regB f n := by
  unfold winF regB
  by_cases h : 0 ≤ n ∧ n < f.regs
  · rw [decide_eq_true h, decide_eq_true (by omega)]
  · rw [decide_eq_false h, decide_eq_false (by omega)]
theorem win_reg1 (f : Fn) (n : Int) (hr : 0 ≤ f.regs) : winF n (-1) (f.regs - 1) = (decide (n = -1) || regB f n) := by
  unfold winF regB
  by_cases h1 : n = -1
  · rw [decide_eq_true h1, decide_eq_true (by omega)]; rfl
  · rw [decide_eq_false h1]
    by_cases h : 0 ≤ n ∧ n < f.regs
    · rw [decide_eq_true h, decide_eq_true (by omega)]; rfl
    · rw [decide_eq_false h, decide_eq_false (by omega)]; rfl
theorem box2 {w W : World} {v0 v1 v2 v3 v4 u0 u1 u2 u3 : Value} {T U : TypeId} (hb : Below ((w.alloc (.cells #[v0, v1, v2, v3, v4] T)).alloc (.cells #[u0, u1, u2, u3] U)).heap.size ((w.alloc (.cells #[v0, v1, v2, v3, v4] T)).alloc (.cells #[u0, u1, u2, u3] U)) W) :
    w.heap.size + 1 < W.heap.size ∧ W.cell? ⟨w.heap.size, 4, none⟩ = some v4 ∧ W.cell? ⟨w.heap.size + 1, 3, none⟩ = some u3 ∧ W.cell? ⟨w.heap.size, 2, none⟩ = some v2 ∧ W.cell? ⟨w.heap.size + 1, 2, none⟩ = some u2 := by
  refine ⟨by have := hb.size; simp at this; omega, ?_, ?_, ?_, ?_⟩ <;> (rw [hb.cell (by simp <;> omega)]; simp [go_sem])
theorem ends31 {w : World} {f : Fn} {b : Bl} (hf : Src Bl.cells w f.bv f.blocks) (hfl : f.blocks.length * 64 ≤ big) (hb : Bl.ok w b) (h0 : 0 ≤ f.regs) :
    Calls Try.prog 35 #[f.val, b.val] w fun e w' => e = .returned (.bool (endF f.blocks.length f.regs b)) ∧ Below w.heap.size w w' := by
  obtain ⟨r1, er1⟩ : ∃ r1, r1 = winF b.arg 0 (f.regs - 1) := ⟨_, rfl⟩
  obtain ⟨r3, er3⟩ : ∃ r3, r3 = winF b.arg (-1) (f.regs - 1) := ⟨_, rfl⟩
  have h50 := register50 f b.arg
  rw [← win_reg, ← er1] at h50
  have h31 := win_reg1 f b.arg h0
  rw [← er3, ← win_reg, ← er1] at h31
  unfold endF
  rw [← er1, ← er3]
  clear er1 er3
  obtain ⟨nm, ps, rs, sl, bv, bl⟩ := f
  obtain ⟨cv, code, en, arg, tv, to⟩ := b
  obtain ⟨hc, hcl, ht, htl, _⟩ := hb
  dsimp only at *
  obtain ⟨fo, fc, rfl⟩ := hf.len
  obtain ⟨co, cc, rfl⟩ := hc.len
  obtain ⟨tt, tc, rfl, hx⟩ := ht.ints
  have HT := hid' hx
  unfold big at hfl hcl htl
  unfold Fn.val Bl.val at *
  dsimp only at *
  clear hf hc ht hx
  by_cases e1 : en = 1
  · subst e1
    rw [if_pos rfl]
    clear h50 h31
    by_cases ha : arg = 0
    · subst ha
      by_cases hl : to.length = 1
      · have HL := hid' hl
        have hl' : (to.length : Int) = 1 := by omega
        rw [decide_eq_true hl]
        simp only [decide_true, Bool.true_and]
        clear hl
        go_enter Try.func35, Try.ntmps35
        go_wp2
        go_loopw [6] (fun i wr => ∃ k : Nat, k ≤ 1 ∧ i = .int .i64 k ∧ (∀ j (hj : j < to.length), j < k → 0 ≤ to[j] ∧ to[j] < bl.length) ∧ Below ((w.alloc (.cells #[.string nm, .int .i64 ps, .int .i64 rs, .int .i64 sl, .slice fo bl.length fc] 49)).alloc (.cells #[.slice co code.length cc, .int .i64 1, .int .i64 0, .slice tt to.length tc] 54)).heap.size ((w.alloc (.cells #[.string nm, .int .i64 ps, .int .i64 rs, .int .i64 sl, .slice fo bl.length fc] 49)).alloc (.cells #[.slice co code.length cc, .int .i64 1, .int .i64 0, .slice tt to.length tc] 54)) wr) (fun i _ => 1 - (intOf i).toNat)
        case atStart => exact ⟨0, Nat.zero_le _, rfl, fun j _ hj => by omega, Below.refl _ _⟩
        case round =>
          obtain ⟨k, hk, rfl, hok, hbw⟩ := hrel
          have HK := hid' hok
          obtain ⟨g0, g1, g2, g3, g4⟩ := box2 hbw
          have hB0 : Below w.heap.size w wr := (below2 _ _ _).trans (hbw.mono (by simp; omega))
          have HB0 := hid' hB0
          have HB := hid' hbw
          clear hok hbw hB0
          by_cases hlt : k < 1
          · obtain ⟨b, o, rfl, hb1, hc1, hx⟩ := HT.out k (by rw [HL.out]; exact hlt)
            have c0 := hx wr HB0.out
            clear hx
            by_cases g : 0 ≤ to[k]'(by rw [HL.out]; exact hlt)
            · by_cases g' : to[k]'(by rw [HL.out]; exact hlt) < bl.length
              · have HN : Hid (∀ j (hj : j < to.length), j < k + 1 → 0 ≤ to[j] ∧ to[j] < bl.length) := fun j hj hjk => by
                  by_cases e : j = k
                  · subst e; exact ⟨g, g'⟩
                  · exact HK.out j hj (by omega)
                generalize to[k]'(by rw [HL.out]; exact hlt) = tk at *
                have d1 : decide (tk < 0) = false := decide_eq_false (by omega)
                go_wp2
                go_quiet (fail)
                go_wp2
                go_roundw
                case rel => exact ⟨k + 1, by omega, by go_num, HN.out, bdrew HB.out _⟩
                case measure => simp [intOf]; omega
              · have HR := hid' (allF_no (n := bl.length) (by rw [HL.out]; exact hlt) (fun h => g' h.2))
                generalize to[k]'(by rw [HL.out]; exact hlt) = tk at *
                have d1 : decide (tk < 0) = false := decide_eq_false (by omega)
                go_wp2
                go_quiet (fail)
                go_wp2
                go_ret
                exact ⟨by rw [HR.out]; rfl, bdrew HB0.out _⟩
            · have HR := hid' (allF_no (n := bl.length) (by rw [HL.out]; exact hlt) (fun h => g h.1))
              generalize to[k]'(by rw [HL.out]; exact hlt) = tk at *
              have d1 : decide (tk < 0) = true := decide_eq_true (by omega)
              go_wp2
              go_quiet (fail)
              go_wp2
              go_ret
              exact ⟨by rw [HR.out]; rfl, bdrew HB0.out _⟩
          · have e : k = 1 := by omega
            subst e
            have HR := hid' (allF_yes (l := to) (n := bl.length) (fun j hj => HK.out j hj (by rw [← HL.out]; exact hj)))
            go_wp2
            go_ret
            exact ⟨by rw [HR.out]; rfl, HB0.out⟩
      · rw [decide_eq_false hl]
        have hl' : ¬ (to.length : Int) = 1 := by omega
        go_enter Try.func35, Try.ntmps35
        go_wp2
        go_ret
        exact ⟨by simp, below2 _ _ _⟩
    · rw [decide_eq_false ha]
      go_enter Try.func35, Try.ntmps35
      go_wp2
      go_ret
      exact ⟨by simp, below2 _ _ _⟩
  rw [if_neg e1]
  by_cases e2 : en = 2
  · subst e2
    rw [if_pos rfl]
    clear h31
    cases r1
    · go_enter Try.func35, Try.ntmps35
      go_wp2_with (go_at_call 58; refine (h50 _).mono ?_; rintro e1 w1 ⟨rfl, hb1⟩)
      go_ret
      exact ⟨by simp, below_on (below2 _ _ _) hb1 (by simp; omega)⟩
    · by_cases hl : to.length = 2
      · have HL := hid' hl
        have hl' : (to.length : Int) = 2 := by omega
        rw [decide_eq_true hl]
        simp only [Bool.true_and]
        clear hl
        go_enter Try.func35, Try.ntmps35
        go_wp2_with (go_at_call 58; refine (h50 _).mono ?_; rintro e1 w1 ⟨rfl, hb1⟩; obtain ⟨hc1, hf1⟩ := bcell hb1; have hs1 := hb1.size; have HB1 := hid' hb1)
        go_loopw [6] (fun i wr => ∃ k : Nat, k ≤ 2 ∧ i = .int .i64 k ∧ (∀ j (hj : j < to.length), j < k → 0 ≤ to[j] ∧ to[j] < bl.length) ∧ Below ((w.alloc (.cells #[.string nm, .int .i64 ps, .int .i64 rs, .int .i64 sl, .slice fo bl.length fc] 49)).alloc (.cells #[.slice co code.length cc, .int .i64 2, .int .i64 arg, .slice tt to.length tc] 54)).heap.size ((w.alloc (.cells #[.string nm, .int .i64 ps, .int .i64 rs, .int .i64 sl, .slice fo bl.length fc] 49)).alloc (.cells #[.slice co code.length cc, .int .i64 2, .int .i64 arg, .slice tt to.length tc] 54)) wr) (fun i _ => 2 - (intOf i).toNat)
        case atStart => exact ⟨0, Nat.zero_le _, rfl, fun j _ hj => by omega, HB1.out⟩
        case round =>
          obtain ⟨k, hk, rfl, hok, hbw⟩ := hrel
          have HK := hid' hok
          obtain ⟨g0, g1, g2, g3, g4⟩ := box2 hbw
          have hB0 : Below w.heap.size w wr := (below2 _ _ _).trans (hbw.mono (by simp; omega))
          have HB0 := hid' hB0
          have HB := hid' hbw
          clear hok hbw hB0
          by_cases hlt : k < 2
          · obtain ⟨b, o, rfl, hb1, hc1, hx⟩ := HT.out k (by rw [HL.out]; exact hlt)
            have c0 := hx wr HB0.out
            clear hx
            by_cases g : 0 ≤ to[k]'(by rw [HL.out]; exact hlt)
            · by_cases g' : to[k]'(by rw [HL.out]; exact hlt) < bl.length
              · have HN : Hid (∀ j (hj : j < to.length), j < k + 1 → 0 ≤ to[j] ∧ to[j] < bl.length) := fun j hj hjk => by
                  by_cases e : j = k
                  · subst e; exact ⟨g, g'⟩
                  · exact HK.out j hj (by omega)
                generalize to[k]'(by rw [HL.out]; exact hlt) = tk at *
                have d1 : decide (tk < 0) = false := decide_eq_false (by omega)
                go_wp2
                go_quiet (fail)
                go_wp2
                go_roundw
                case rel => exact ⟨k + 1, by omega, by go_num, HN.out, bdrew HB.out _⟩
                case measure => simp [intOf]; omega
              · have HR := hid' (allF_no (n := bl.length) (by rw [HL.out]; exact hlt) (fun h => g' h.2))
                generalize to[k]'(by rw [HL.out]; exact hlt) = tk at *
                have d1 : decide (tk < 0) = false := decide_eq_false (by omega)
                go_wp2
                go_quiet (fail)
                go_wp2
                go_ret
                exact ⟨by rw [HR.out]; rfl, bdrew HB0.out _⟩
            · have HR := hid' (allF_no (n := bl.length) (by rw [HL.out]; exact hlt) (fun h => g h.1))
              generalize to[k]'(by rw [HL.out]; exact hlt) = tk at *
              have d1 : decide (tk < 0) = true := decide_eq_true (by omega)
              go_wp2
              go_quiet (fail)
              go_wp2
              go_ret
              exact ⟨by rw [HR.out]; rfl, bdrew HB0.out _⟩
          · have e : k = 2 := by omega
            subst e
            have HR := hid' (allF_yes (l := to) (n := bl.length) (fun j hj => HK.out j hj (by rw [← HL.out]; exact hj)))
            go_wp2
            go_ret
            exact ⟨by rw [HR.out]; rfl, HB0.out⟩
      · rw [decide_eq_false hl]
        have hl' : ¬ (to.length : Int) = 2 := by omega
        go_enter Try.func35, Try.ntmps35
        go_wp2_with (go_at_call 58; refine (h50 _).mono ?_; rintro e1 w1 ⟨rfl, hb1⟩; obtain ⟨hc1, hf1⟩ := bcell hb1; have hs1 := hb1.size)
        go_ret
        exact ⟨by simp, below_on (below2 _ _ _) hb1 (by simp; omega)⟩
  rw [if_neg e2]
  by_cases e3 : en = 3
  · subst e3
    rw [if_pos rfl]
    by_cases ha : arg = -1
    · rw [decide_eq_true ha, Bool.true_or] at h31
      subst ha h31
      clear h50
      by_cases hl : to.length = 0
      · rw [decide_eq_true hl]
        have hl' : (to.length : Int) = 0 := by omega
        clear hl
        go_enter Try.func35, Try.ntmps35
        go_wp2
        go_loopw [6] (fun i wr => i = .int .i64 0 ∧ wr = ((w.alloc (.cells #[.string nm, .int .i64 ps, .int .i64 rs, .int .i64 sl, .slice fo bl.length fc] 49)).alloc (.cells #[.slice co code.length cc, .int .i64 3, .int .i64 (-1), .slice tt to.length tc] 54))) (fun _ _ => 0)
        case atStart => exact ⟨rfl, rfl⟩
        case round =>
          obtain ⟨rfl, rfl⟩ := hrel
          go_wp2
          go_ret
          exact ⟨by simp, below2 _ _ _⟩
      · rw [decide_eq_false hl]
        have hl' : ¬ (to.length : Int) = 0 := by omega
        go_enter Try.func35, Try.ntmps35
        go_wp2
        go_ret
        exact ⟨by simp, below2 _ _ _⟩
    · rw [decide_eq_false ha, Bool.false_or] at h31
      subst h31
      cases r3
      · go_enter Try.func35, Try.ntmps35
        go_wp2_with (go_at_call 58; refine (h50 _).mono ?_; rintro e1 w1 ⟨rfl, hb1⟩)
        go_ret
        exact ⟨by simp, below_on (below2 _ _ _) hb1 (by simp; omega)⟩
      · by_cases hl : to.length = 0
        · rw [decide_eq_true hl]
          have hl' : (to.length : Int) = 0 := by omega
          clear hl
          go_enter Try.func35, Try.ntmps35
          go_wp2_with (go_at_call 58; refine (h50 _).mono ?_; rintro e1 w1 ⟨rfl, hb1⟩; obtain ⟨hc1, hf1⟩ := bcell hb1; have hs1 := hb1.size)
          have HB1 : Hid (Below w.heap.size w w1) := below_on (below2 _ _ _) hb1 (by simp; omega)
          go_loopw [6] (fun i wr => i = .int .i64 0 ∧ wr = w1) (fun _ _ => 0)
          case atStart => exact ⟨rfl, rfl⟩
          case round =>
            obtain ⟨rfl, rfl⟩ := hrel
            go_wp2
            go_ret
            exact ⟨by simp, HB1.out⟩
        · rw [decide_eq_false hl]
          have hl' : ¬ (to.length : Int) = 0 := by omega
          go_enter Try.func35, Try.ntmps35
          go_wp2_with (go_at_call 58; refine (h50 _).mono ?_; rintro e1 w1 ⟨rfl, hb1⟩; obtain ⟨hc1, hf1⟩ := bcell hb1; have hs1 := hb1.size)
          go_ret
          exact ⟨by simp, below_on (below2 _ _ _) hb1 (by simp; omega)⟩
  rw [if_neg e3]
  go_enter Try.func35, Try.ntmps35
  go_wp2
  go_ret
  exact ⟨rfl, below2 _ _ _⟩
end Go.Proofs.Ytiehlkhpblldaaa
