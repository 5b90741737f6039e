/- Alike: lists of instructions, blocks, functions. -/
import Derived.Test.YthnbnilammjceaaSam
import Derived.Test.YthnbnilammjceaaQuiet
namespace Go.Proofs.Ythnbnilammjceaa
open Go.RowKit Go.Maps
set_option linter.unusedVariables false
set_option linter.unusedSimpArgs false

def all2 {α : Type} (p : α → α → Bool) : List α → List α → Bool
  | [], [] => true
  | x :: l, y :: m => p x y && all2 p l m
  | _, _ => false
theorem all2_len {α : Type} {p : α → α → Bool} : ∀ {l m : List α}, ¬ l.length = m.length → all2 p l m = false
  | [], [], h => absurd rfl h
  | x :: l, [], h => rfl
  | [], y :: m, h => rfl
  | x :: l, y :: m, h => by
    unfold all2
    rw [all2_len (fun e => h (by simp [e])), Bool.and_false]
theorem all2_no {α : Type} {p : α → α → Bool} : ∀ {l m : List α} (k : Nat) (h1 : k < l.length) (h2 : k < m.length), p l[k] m[k] = false → all2 p l m = false
  | x :: l, y :: m, 0, _, _, h => by
    unfold all2
    have : p x y = false := h
    rw [this, Bool.false_and]
  | x :: l, y :: m, k + 1, h1, h2, h => by
    unfold all2
    rw [all2_no k (by simpa using h1) (by simpa using h2) (by simpa using h), Bool.and_false]
theorem all2_yes {α : Type} {p : α → α → Bool} : ∀ {l m : List α}, l.length = m.length → (∀ k (h1 : k < l.length) (h2 : k < m.length), p l[k] m[k] = true) → all2 p l m = true
  | [], [], _, _ => rfl
  | x :: l, [], h, _ => by cases h
  | [], y :: m, h, _ => by cases h
  | x :: l, y :: m, h, hp => by
    unfold all2
    have h0 : p x y = true := hp 0 (by simp) (by simp)
    rw [h0, all2_yes (by simpa using h) (fun k h1 h2 => by have := hp (k + 1) (by simp; omega) (by simp; omega); simpa using this)]
    rfl
def eqB (x y : Bl) : Bool := decide (x.en = y.en) && (decide (x.arg = y.arg) && (eqL x.to y.to && all2 eqI x.code y.code))
def eqF (x y : Fn) : Bool := decide (x.nm = y.nm) && (decide (x.params = y.params) && (decide (x.regs = y.regs) && (decide (x.slots = y.slots) && all2 eqB x.blocks y.blocks)))

set_option maxRecDepth 20000 in
set_option maxHeartbeats 8000000 in
theorem equalFunc53 {w : World} {v1 v2 : Value} {l m : List In} (h1 : Src In.cells w v1 l) (h2 : Src In.cells w v2 m) (hl1 : l.length * 88 ≤ big) (hl2 : m.length * 88 ≤ big) (ho1 : ∀ x ∈ l, In.ok w x) (ho2 : ∀ x ∈ m, In.ok w x)
    (hc : ∀ W, Below w.heap.size w W → ∀ x y, In.ok w x → In.ok w y → Calls Try.prog 54 #[x.val, y.val] W fun e w' => e = .returned (.bool (eqI x y)) ∧ Below W.heap.size W w') :
    Calls Try.prog 53 #[v1, v2, .func (.func 54) #[] #[]] w fun e w' => e = .returned (.bool (all2 eqI l m)) ∧ Below w.heap.size w w' := by
  have HC := hid' hc
  have HO1 := hid' ho1
  have HO2 := hid' ho2
  obtain ⟨ao, ac, rfl, hf1⟩ := h1.form in7
  obtain ⟨bo, bc, rfl, hf2⟩ := h2.form in7
  have H1 := hid' hf1
  have H2 := hid' hf2
  unfold big at hl1 hl2
  clear hf1 hf2 h1 h2 hc ho1 ho2
  by_cases hl : l.length = m.length
  · have HL := hid' hl
    have NO : Hid (∀ k (h1 : k < l.length) (h2 : k < m.length), eqI l[k] m[k] = false → all2 eqI l m = false) := fun k h1 h2 h => all2_no k h1 h2 h
    have YES : Hid ((∀ k (h1 : k < l.length) (h2 : k < m.length), eqI l[k] m[k] = true) → all2 eqI l m = true) := fun h => all2_yes HL.out h
    generalize all2 eqI l m = R at *
    rw [← hl]
    clear hl
    go_enter Try.func53, Try.ntmps53
    go_wp2
    go_loopw [17] (fun i wr => ∃ k : Nat, k ≤ l.length ∧ i = .int .i64 k ∧ (∀ j (h1 : j < l.length) (h2 : j < m.length), j < k → eqI l[j] m[j] = true) ∧ Below w.heap.size w wr) (fun i _ => l.length - (intOf i).toNat)
    case atStart => exact ⟨0, Nat.zero_le _, rfl, fun j _ _ hj => by omega, Below.refl _ _⟩
    case round =>
      obtain ⟨k, hk, rfl, hok, hbw⟩ := hrel
      have HK := hid' hok
      have HB := hid' hbw
      clear hok hbw
      by_cases hlt : k < l.length
      · have hlt2 : k < m.length := by rw [← HL.out]; exact hlt
        obtain ⟨b1, o1, rfl, hb1, hc1, hx1⟩ := H1.out k hlt
        obtain ⟨b2, o2, rfl, hb2, hc2, hx2⟩ := H2.out k hlt2
        rw [← HL.out] at hc2
        obtain ⟨c0, c1, c2, c3, c4, c5, c6⟩ := in_cells (hx1 wr HB.out)
        obtain ⟨d0, d1, d2, d3, d4, d5, d6⟩ := in_cells (hx2 wr HB.out)
        have hk1 := HO1.out _ (List.getElem_mem hlt)
        have hk2 := HO2.out _ (List.getElem_mem hlt2)
        have HX := fun W hW => HC.out W hW _ _ hk1 hk2
        have HNO := hid' (NO.out k hlt hlt2)
        have HN : Hid (eqI l[k] m[k] = true → ∀ j (h1 : j < l.length) (h2 : j < m.length), j < k + 1 → eqI l[j] m[j] = true) := fun he j h1 h2 hj => by
          by_cases e : j = k
          · subst e; exact he
          · exact HK.out j h1 h2 (by omega)
        obtain ⟨ax, axc, ea⟩ := hk1.a.len
        obtain ⟨qx, qxc, eb⟩ := hk1.p.len
        obtain ⟨ay, ayc, ec⟩ := hk2.a.len
        obtain ⟨qy, qyc, ed⟩ := hk2.p.len
        unfold In.val at HX
        rw [ea] at c2
        rw [eb] at c6
        rw [ec] at d2
        rw [ed] at d6
        rw [ea, eb, ec, ed] at HX
        clear ea eb ec ed
        have hn1 : ¬ b1 = wr.heap.size := by have := HB.out.size; omega
        have hn2 : ¬ b2 = wr.heap.size := by have := HB.out.size; omega
        have hl2' : b2 < wr.heap.size := by have := HB.out.size; omega
        clear hx1 hx2 hk1 hk2
        generalize eqI l[k] m[k] = q at *
        generalize l[k] = x at *
        generalize m[k] = y at *
        clear hlt2
        have HBB : Hid (∀ o1 o2, Below w.heap.size w ((wr.alloc o1).alloc o2)) := fun o1 o2 => below_up HB.out (below2 _ _ _)
        cases q
        · have HR0 : Hid (R = false) := HNO.out (by trivial)
          go_wp2_with (go_at_call 54; refine (HX _ (HBB.out _ _)).mono ?_; rintro e1 w1 ⟨rfl, hb1⟩)
          go_ret
          exact ⟨by rw [HR0.out]; rfl, below_up (HBB.out _ _) hb1⟩
        · go_wp2_with (go_at_call 54; refine (HX _ (HBB.out _ _)).mono ?_; rintro e1 w1 ⟨rfl, hb1⟩)
          go_roundw
          case rel => exact ⟨k + 1, by omega, by go_num, HN.out (by trivial), below_up (HBB.out _ _) hb1⟩
          case measure => simp [intOf]; omega
      · have e : k = l.length := by omega
        subst e
        have HR1 : Hid (R = true) := YES.out (fun j h1 h2 => HK.out j h1 h2 h1)
        go_wp2
        go_ret
        exact ⟨by rw [HR1.out]; rfl, HB.out⟩
  · have HR0 : Hid (all2 eqI l m = false) := all2_len hl
    have hl' : ¬ (l.length : Int) = m.length := by omega
    generalize all2 eqI l m = R at *
    go_enter Try.func53, Try.ntmps53
    go_wp2
    go_ret
    exact ⟨by rw [HR0.out]; rfl, Below.refl _ _⟩

set_option maxRecDepth 20000 in
set_option maxHeartbeats 8000000 in
theorem equalFunc39 {w : World} {v1 v2 : Value} {l m : List Bl} (h1 : Src Bl.cells w v1 l) (h2 : Src Bl.cells w v2 m) (hl1 : l.length * 64 ≤ big) (hl2 : m.length * 64 ≤ big) (ho1 : ∀ x ∈ l, Bl.ok w x) (ho2 : ∀ x ∈ m, Bl.ok w x)
    (hc : ∀ W, Below w.heap.size w W → ∀ x y, Bl.ok w x → Bl.ok w y → Calls Try.prog 40 #[x.val, y.val] W fun e w' => e = .returned (.bool (eqB x y)) ∧ Below W.heap.size W w') :
    Calls Try.prog 39 #[v1, v2, .func (.func 40) #[] #[]] w fun e w' => e = .returned (.bool (all2 eqB l m)) ∧ Below w.heap.size w w' := by
  have HC := hid' hc
  have HO1 := hid' ho1
  have HO2 := hid' ho2
  obtain ⟨ao, ac, rfl, hf1⟩ := h1.form bl4
  obtain ⟨bo, bc, rfl, hf2⟩ := h2.form bl4
  have H1 := hid' hf1
  have H2 := hid' hf2
  unfold big at hl1 hl2
  clear hf1 hf2 h1 h2 hc ho1 ho2
  by_cases hl : l.length = m.length
  · have HL := hid' hl
    have NO : Hid (∀ k (h1 : k < l.length) (h2 : k < m.length), eqB l[k] m[k] = false → all2 eqB l m = false) := fun k h1 h2 h => all2_no k h1 h2 h
    have YES : Hid ((∀ k (h1 : k < l.length) (h2 : k < m.length), eqB l[k] m[k] = true) → all2 eqB l m = true) := fun h => all2_yes HL.out h
    generalize all2 eqB l m = R at *
    rw [← hl]
    clear hl
    go_enter Try.func39, Try.ntmps39
    go_wp2
    go_loopw [17] (fun i wr => ∃ k : Nat, k ≤ l.length ∧ i = .int .i64 k ∧ (∀ j (h1 : j < l.length) (h2 : j < m.length), j < k → eqB l[j] m[j] = true) ∧ Below w.heap.size w wr) (fun i _ => l.length - (intOf i).toNat)
    case atStart => exact ⟨0, Nat.zero_le _, rfl, fun j _ _ hj => by omega, Below.refl _ _⟩
    case round =>
      obtain ⟨k, hk, rfl, hok, hbw⟩ := hrel
      have HK := hid' hok
      have HB := hid' hbw
      clear hok hbw
      by_cases hlt : k < l.length
      · have hlt2 : k < m.length := by rw [← HL.out]; exact hlt
        obtain ⟨b1, o1, rfl, hb1, hc1, hx1⟩ := H1.out k hlt
        obtain ⟨b2, o2, rfl, hb2, hc2, hx2⟩ := H2.out k hlt2
        rw [← HL.out] at hc2
        obtain ⟨c0, c1, c2, c3⟩ := bl_cells (hx1 wr HB.out)
        obtain ⟨d0, d1, d2, d3⟩ := bl_cells (hx2 wr HB.out)
        have hk1 := HO1.out _ (List.getElem_mem hlt)
        have hk2 := HO2.out _ (List.getElem_mem hlt2)
        have HX := fun W hW => HC.out W hW _ _ hk1 hk2
        have HNO := hid' (NO.out k hlt hlt2)
        have HN : Hid (eqB l[k] m[k] = true → ∀ j (h1 : j < l.length) (h2 : j < m.length), j < k + 1 → eqB l[j] m[j] = true) := fun he j h1 h2 hj => by
          by_cases e : j = k
          · subst e; exact he
          · exact HK.out j h1 h2 (by omega)
        obtain ⟨ax, axc, ea⟩ := hk1.c.len
        obtain ⟨qx, qxc, eb⟩ := hk1.t.len
        obtain ⟨ay, ayc, ec⟩ := hk2.c.len
        obtain ⟨qy, qyc, ed⟩ := hk2.t.len
        unfold Bl.val at HX
        rw [ea] at c0
        rw [eb] at c3
        rw [ec] at d0
        rw [ed] at d3
        rw [ea, eb, ec, ed] at HX
        clear ea eb ec ed
        have hn1 : ¬ b1 = wr.heap.size := by have := HB.out.size; omega
        have hn2 : ¬ b2 = wr.heap.size := by have := HB.out.size; omega
        have hl2' : b2 < wr.heap.size := by have := HB.out.size; omega
        clear hx1 hx2 hk1 hk2
        generalize eqB l[k] m[k] = q at *
        generalize l[k] = x at *
        generalize m[k] = y at *
        clear hlt2
        have HBB : Hid (∀ o1 o2, Below w.heap.size w ((wr.alloc o1).alloc o2)) := fun o1 o2 => below_up HB.out (below2 _ _ _)
        cases q
        · have HR0 : Hid (R = false) := HNO.out (by trivial)
          go_wp2_with (go_at_call 40; refine (HX _ (HBB.out _ _)).mono ?_; rintro e1 w1 ⟨rfl, hb1⟩)
          go_ret
          exact ⟨by rw [HR0.out]; rfl, below_up (HBB.out _ _) hb1⟩
        · go_wp2_with (go_at_call 40; refine (HX _ (HBB.out _ _)).mono ?_; rintro e1 w1 ⟨rfl, hb1⟩)
          go_roundw
          case rel => exact ⟨k + 1, by omega, by go_num, HN.out (by trivial), below_up (HBB.out _ _) hb1⟩
          case measure => simp [intOf]; omega
      · have e : k = l.length := by omega
        subst e
        have HR1 : Hid (R = true) := YES.out (fun j h1 h2 => HK.out j h1 h2 h1)
        go_wp2
        go_ret
        exact ⟨by rw [HR1.out]; rfl, HB.out⟩
  · have HR0 : Hid (all2 eqB l m = false) := all2_len hl
    have hl' : ¬ (l.length : Int) = m.length := by omega
    generalize all2 eqB l m = R at *
    go_enter Try.func39, Try.ntmps39
    go_wp2
    go_ret
    exact ⟨by rw [HR0.out]; rfl, Below.refl _ _⟩
end Go.Proofs.Ythnbnilammjceaa
