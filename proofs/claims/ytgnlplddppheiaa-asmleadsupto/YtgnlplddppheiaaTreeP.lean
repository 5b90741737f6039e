/- The tree of branches, as numbers: what holds of it, and what a push does to it. Plain mathematics. -/
import Derived.Test.YtgnlplddppheiaaLong
namespace Go.Proofs.Ytgnlplddppheiaa
set_option linter.unusedVariables false

/-- A tree of branches: nobody, one branch, or two halves. -/
abbrev TT := Std.DTreeMap.Internal.Impl Unit (fun _ => Option Br)
def lvs : TT → List Br
  | .leaf => []
  | .inner _ _ (some b) _ _ => [b]
  | .inner _ _ none l r => lvs l ++ lvs r

def roomOf (b : Br) (dn : List Nat) : Int := 32767 - ((b.high : Int) - b.low) - cntL dn b.low b.high

/-- Number i lies in the part of the tree below k. -/
def Anc (i k : Nat) : Prop := ∃ d, i / 2 ^ d = k
theorem Anc.self (k : Nat) : Anc k k := ⟨0, by simp⟩
theorem Anc.left {i k : Nat} (h : Anc i (2 * k)) : Anc i k := by
  obtain ⟨d, hd⟩ := h
  exact ⟨d + 1, by rw [Nat.pow_succ, ← Nat.div_div_eq_div_mul, hd]; omega⟩
theorem Anc.right {i k : Nat} (h : Anc i (2 * k + 1)) : Anc i k := by
  obtain ⟨d, hd⟩ := h
  exact ⟨d + 1, by rw [Nat.pow_succ, ← Nat.div_div_eq_div_mul, hd]; omega⟩
theorem anc_le {i k : Nat} (h : Anc i k) : k ≤ i := by
  obtain ⟨d, hd⟩ := h
  rw [← hd]
  exact Nat.div_le_self _ _
theorem anc_apart {i k : Nat} (hk : 1 ≤ k) (h : Anc i (2 * k)) (h' : Anc i (2 * k + 1)) : False := by
  obtain ⟨d, hd⟩ := h
  obtain ⟨e, he⟩ := h'
  rcases Nat.lt_trichotomy d e with hl | rfl | hl
  · obtain ⟨m, rfl⟩ : ∃ m, e = d + (m + 1) := ⟨e - d - 1, by omega⟩
    rw [Nat.pow_add, ← Nat.div_div_eq_div_mul, hd] at he
    have := Nat.div_le_self (2 * k) (2 ^ (m + 1))
    omega
  · omega
  · obtain ⟨m, rfl⟩ : ∃ m, d = e + (m + 1) := ⟨d - e - 1, by omega⟩
    rw [Nat.pow_add, ← Nat.div_div_eq_div_mul, he, Nat.pow_succ, ← Nat.div_div_eq_div_mul] at hd
    have := Nat.div_le_self (2 * k + 1) (2 ^ m)
    omega

/-- What holds of the part of the tree below k: dn are the instructions that were pushed, L the long ones; A is the room that was taken above and not yet here. -/
def Inv (h : Nat → Int) (dn L : List Nat) : TT → Nat → Int → Prop
  | .leaf, k, A => 0 ≤ h (7 * k + 6) ∧ A + h (7 * k + 6) ≤ dn.length ∧ h (7 * k + 1) = 9223372036854775807 ∧ A ≤ h (7 * k + 5) ∧ h (7 * k + 5) ≤ 9223372036854775807
  | .inner s u (some b) x y, k, A => 0 ≤ h (7 * k + 6) ∧ A + h (7 * k + 6) ≤ dn.length ∧
      ((b.ix ∉ L ∧ h (7 * k) = b.ix ∧ h (7 * k + 1) = b.low ∧ h (7 * k + 2) = b.low ∧ h (7 * k + 3) = b.high ∧ h (7 * k + 4) = b.high ∧ h (7 * k + 5) = roomOf b dn + A ∧ 0 ≤ roomOf b dn) ∨
       (b.ix ∈ L ∧ h (7 * k + 1) = 9223372036854775807 ∧ h (7 * k + 2) = -9223372036854775808 ∧ h (7 * k + 3) = 9223372036854775807 ∧ h (7 * k + 4) = -9223372036854775808 ∧ 9223372036854775807 - dn.length + A ≤ h (7 * k + 5) ∧ h (7 * k + 5) ≤ 9223372036854775807))
  | .inner s u none l r, k, A => 0 ≤ h (7 * k + 6) ∧ A + h (7 * k + 6) ≤ dn.length ∧ h (7 * k) = -1 ∧ A ≤ h (7 * k + 5) ∧
      h (7 * k + 5) + h (7 * k + 6) ≤ h (7 * (2 * k) + 5) ∧ h (7 * k + 5) + h (7 * k + 6) ≤ h (7 * (2 * k + 1) + 5) ∧
      (h (7 * k + 1) ≤ h (7 * (2 * k) + 1) ∧ h (7 * k + 1) ≤ h (7 * (2 * k + 1) + 1)) ∧ (h (7 * (2 * k) + 2) ≤ h (7 * k + 2) ∧ h (7 * (2 * k + 1) + 2) ≤ h (7 * k + 2)) ∧
      (h (7 * k + 3) ≤ h (7 * (2 * k) + 3) ∧ h (7 * k + 3) ≤ h (7 * (2 * k + 1) + 3)) ∧ (h (7 * (2 * k) + 4) ≤ h (7 * k + 4) ∧ h (7 * (2 * k + 1) + 4) ≤ h (7 * k + 4)) ∧
      Inv h dn L l (2 * k) (A + h (7 * k + 6)) ∧ Inv h dn L r (2 * k + 1) (A + h (7 * k + 6))

section
variable {h h' : Nat → Int} {dn L : List Nat}

theorem Inv.congr : ∀ {T : TT} {k : Nat} {A : Int}, Inv h dn L T k A → (∀ i j, Anc i k → j < 7 → h' (7 * i + j) = h (7 * i + j)) → Inv h' dn L T k A
  | .leaf, k, A, hi, hc => by
    have c1 := hc k 1 (Anc.self k) (by omega); have c5 := hc k 5 (Anc.self k) (by omega); have c6 := hc k 6 (Anc.self k) (by omega)
    unfold Inv at *
    omega
  | .inner s u (some b) x y, k, A, hi, hc => by
    have c0 := hc k 0 (Anc.self k) (by omega); have c1 := hc k 1 (Anc.self k) (by omega); have c2 := hc k 2 (Anc.self k) (by omega); have c3 := hc k 3 (Anc.self k) (by omega)
    have c4 := hc k 4 (Anc.self k) (by omega); have c5 := hc k 5 (Anc.self k) (by omega); have c6 := hc k 6 (Anc.self k) (by omega)
    simp only [Nat.add_zero] at c0
    unfold Inv at *
    rw [c0, c1, c2, c3, c4, c5, c6]
    exact hi
  | .inner s u none l r, k, A, hi, hc => by
    have c0 := hc k 0 (Anc.self k) (by omega); have c1 := hc k 1 (Anc.self k) (by omega); have c2 := hc k 2 (Anc.self k) (by omega); have c3 := hc k 3 (Anc.self k) (by omega)
    have c4 := hc k 4 (Anc.self k) (by omega); have c5 := hc k 5 (Anc.self k) (by omega); have c6 := hc k 6 (Anc.self k) (by omega)
    have al := (Anc.self (2 * k)).left
    have ar := (Anc.self (2 * k + 1)).right
    have l1 := hc _ 1 al (by omega); have l2 := hc _ 2 al (by omega); have l3 := hc _ 3 al (by omega); have l4 := hc _ 4 al (by omega); have l5 := hc _ 5 al (by omega)
    have r1 := hc _ 1 ar (by omega); have r2 := hc _ 2 ar (by omega); have r3 := hc _ 3 ar (by omega); have r4 := hc _ 4 ar (by omega); have r5 := hc _ 5 ar (by omega)
    simp only [Nat.add_zero] at c0
    unfold Inv at *
    obtain ⟨a1, a2, a3, a4, a5, a6, a7, a8, a9, a10, a11, a12⟩ := hi
    rw [c0, c1, c2, c3, c4, c5, c6, l1, l2, l3, l4, l5, r1, r2, r3, r4, r5]
    exact ⟨a1, a2, a3, a4, a5, a6, a7, a8, a9, a10, a11.congr (fun i j hij hj => hc i j hij.left hj), a12.congr (fun i j hij hj => hc i j hij.right hj)⟩

theorem Inv.bounds : ∀ {T : TT} {k : Nat} {A : Int}, Inv h dn L T k A → ∀ b ∈ (lvs T), b.ix ∉ L → h (7 * k + 1) ≤ b.low ∧ (b.low : Int) ≤ h (7 * k + 2) ∧ h (7 * k + 3) ≤ b.high ∧ (b.high : Int) ≤ h (7 * k + 4)
  | .leaf, _, _, _, b, hb, _ => by simp [lvs] at hb
  | .inner s u (some _) x y, k, A, hi, b, hb, hn => by
    simp [lvs] at hb
    subst hb
    unfold Inv at hi
    rcases hi.2.2 with ⟨_, e0, e1, e2, e3, e4, _⟩ | ⟨hl, _⟩
    · omega
    · exact absurd hl hn
  | .inner s u none l r, k, A, hi, b, hb, hn => by
    simp [lvs] at hb
    unfold Inv at hi
    obtain ⟨a1, a2, a3, a4, a5, a6, a7, a8, a9, a10, a11, a12⟩ := hi
    rcases hb with hb | hb
    · have := a11.bounds b hb hn
      omega
    · have := a12.bounds b hb hn
      omega

theorem Inv.room_le (hd : dn.length ≤ 1048576) : ∀ {T : TT} {k : Nat} {A : Int}, Inv h dn L T k A → (∀ b ∈ (lvs T), b.low ≤ b.high) → A ≤ h (7 * k + 5) ∧ h (7 * k + 5) ≤ 9223372036854775807 ∧ 0 ≤ h (7 * k + 6) ∧ A + h (7 * k + 6) ≤ dn.length
  | .leaf, _, _, hi, _ => by unfold Inv at hi; omega
  | .inner s u (some b) x y, k, A, hi, hl => by
    have := hl b (by simp [lvs])
    unfold Inv at hi
    rcases hi.2.2 with ⟨_, e0, e1, e2, e3, e4, e5, e6⟩ | ⟨_, _, _, _, _, e5, e6⟩
    · have : roomOf b dn ≤ 32767 := by unfold roomOf; omega
      omega
    · omega
  | .inner s u none l r, k, A, hi, hl => by
    unfold Inv at hi
    obtain ⟨a1, a2, a3, a4, a5, a6, a7, a8, a9, a10, a11, a12⟩ := hi
    have := (a11.room_le hd (fun b hb => hl b (by simp [lvs, hb]))).2.1
    omega

theorem roomOf_snoc (b : Br) (dn : List Nat) (o : Nat) : roomOf b (dn ++ [o]) = roomOf b dn - (if b.low ≤ o ∧ o < b.high then 1 else 0) := by
  unfold roomOf
  rw [cntL_append, cntL_one]
  split <;> omega

/-- Nobody here leads over it. -/
theorem Inv.skip {o : Nat} : ∀ {T : TT} {k : Nat} {A : Int}, Inv h dn L T k A → (∀ b ∈ (lvs T), b.ix ∉ L → ¬ (b.low ≤ o ∧ o < b.high)) → Inv h (dn ++ [o]) L T k A
  | .leaf, _, _, hi, _ => by unfold Inv at *; simp; omega
  | .inner s u (some b) x y, k, A, hi, hn => by
    unfold Inv at *
    obtain ⟨a1, a2, a3⟩ := hi
    refine ⟨a1, by simp; omega, ?_⟩
    rcases a3 with ⟨e, r⟩ | ⟨e, e1, e2, e3, e4, e5, e6⟩
    · refine .inl ⟨e, ?_⟩
      rw [roomOf_snoc, if_neg (hn b (by simp [lvs]) e), Int.sub_zero]
      exact r
    · exact .inr ⟨e, e1, e2, e3, e4, by simp; omega, e6⟩
  | .inner s u none l r, k, A, hi, hn => by
    unfold Inv at *
    obtain ⟨a1, a2, a3, a4, a5, a6, a7, a8, a9, a10, a11, a12⟩ := hi
    exact ⟨a1, by simp; omega, a3, a4, a5, a6, a7, a8, a9, a10, a11.skip (fun b hb => hn b (by simp [lvs, hb])), a12.skip (fun b hb => hn b (by simp [lvs, hb]))⟩

/-- All here lead over it, and have room. -/
theorem Inv.takeAll {o : Nat} : ∀ {T : TT} {k : Nat} {A : Int}, Inv h dn L T k A → (∀ b ∈ (lvs T), b.ix ∉ L → b.low ≤ o ∧ o < b.high) → A + 1 ≤ h (7 * k + 5) → Inv h (dn ++ [o]) L T k (A + 1)
  | .leaf, _, _, hi, _, hr => by unfold Inv at *; simp; omega
  | .inner s u (some b) x y, k, A, hi, hn, hr => by
    unfold Inv at *
    obtain ⟨a1, a2, a3⟩ := hi
    refine ⟨a1, by simp; omega, ?_⟩
    rcases a3 with ⟨e, r0, r1, r2, r3, r4, r5, r6⟩ | ⟨e, e1, e2, e3, e4, e5, e6⟩
    · refine .inl ⟨e, r0, r1, r2, r3, r4, ?_, ?_⟩ <;> rw [roomOf_snoc, if_pos (hn b (by simp [lvs]) e)] <;> omega
    · exact .inr ⟨e, e1, e2, e3, e4, by simp; omega, e6⟩
  | .inner s u none l r, k, A, hi, hn, hr => by
    unfold Inv at *
    obtain ⟨a1, a2, a3, a4, a5, a6, a7, a8, a9, a10, a11, a12⟩ := hi
    have i1 := a11.takeAll (fun b hb => hn b (by simp [lvs, hb])) (by omega)
    have i2 := a12.takeAll (fun b hb => hn b (by simp [lvs, hb])) (by omega)
    rw [show A + h (7 * k + 6) + 1 = A + 1 + h (7 * k + 6) by omega] at i1 i2
    exact ⟨a1, by simp; omega, a3, hr, a5, a6, a7, a8, a9, a10, i1, i2⟩

/-- Others have become long. -/
theorem Inv.more {new : List Nat} : ∀ {T : TT} {k : Nat} {A : Int}, Inv h dn L T k A → (∀ b ∈ (lvs T), b.ix ∉ new) → Inv h dn (L ++ new) T k A
  | .leaf, _, _, hi, _ => by unfold Inv at *; exact hi
  | .inner s u (some b) x y, k, A, hi, hn => by
    have hb := hn b (by simp [lvs])
    unfold Inv at *
    obtain ⟨a1, a2, a3⟩ := hi
    refine ⟨a1, a2, ?_⟩
    rcases a3 with ⟨e, r⟩ | ⟨e, r⟩
    · exact .inl ⟨by simp [e, hb], r⟩
    · exact .inr ⟨by simp [e], r⟩
  | .inner s u none l r, k, A, hi, hn => by
    unfold Inv at *
    obtain ⟨a1, a2, a3, a4, a5, a6, a7, a8, a9, a10, a11, a12⟩ := hi
    exact ⟨a1, a2, a3, a4, a5, a6, a7, a8, a9, a10, a11.more (fun b hb => hn b (by simp [lvs, hb])), a12.more (fun b hb => hn b (by simp [lvs, hb]))⟩

def set1 (h : Nat → Int) (c : Nat) (v : Int) : Nat → Int := fun x => if x = c then v else h x
def takeH (h : Nat → Int) (k : Nat) (n : Int) : Nat → Int := set1 (set1 h (7 * k + 5) (h (7 * k + 5) - n)) (7 * k + 6) (h (7 * k + 6) + n)
theorem takeH_5 (h : Nat → Int) (k : Nat) (n : Int) : takeH h k n (7 * k + 5) = h (7 * k + 5) - n := by simp [takeH, set1]
theorem takeH_6 (h : Nat → Int) (k : Nat) (n : Int) : takeH h k n (7 * k + 6) = h (7 * k + 6) + n := by simp [takeH, set1]
theorem takeH_other (h : Nat → Int) (k : Nat) (n : Int) {c : Nat} (h5 : c ≠ 7 * k + 5) (h6 : c ≠ 7 * k + 6) : takeH h k n c = h c := by simp [takeH, set1, h5, h6]
theorem takeH_low (h : Nat → Int) (k : Nat) (n : Int) {j : Nat} (hj : j < 5) : takeH h k n (7 * k + j) = h (7 * k + j) := takeH_other h k n (by omega) (by omega)
theorem takeH_far (h : Nat → Int) (k : Nat) (n : Int) {i j : Nat} (hi : i ≠ k) (hj : j < 7) : takeH h k n (7 * i + j) = h (7 * i + j) := takeH_other h k n (by omega) (by omega)

theorem anc_child {i k : Nat} (hk : 1 ≤ k) (h : Anc i (2 * k) ∨ Anc i (2 * k + 1)) : i ≠ k := by
  rcases h with h | h <;> have := anc_le h <;> omega

/-- What was taken above is taken here. -/
theorem Inv.shift {n : Int} (hn : 0 ≤ n) : ∀ {T : TT} {k : Nat} {A : Int}, 1 ≤ k → Inv h dn L T k (A + n) → Inv (takeH h k n) dn L T k A
  | .leaf, k, A, _, hi => by
    have c1 := takeH_low h k n (show 1 < 5 by omega)
    unfold Inv at *
    rw [takeH_5, takeH_6, c1]
    omega
  | .inner s u (some b) x y, k, A, _, hi => by
    have c0 := takeH_low h k n (show 0 < 5 by omega); have c1 := takeH_low h k n (show 1 < 5 by omega); have c2 := takeH_low h k n (show 2 < 5 by omega); have c3 := takeH_low h k n (show 3 < 5 by omega); have c4 := takeH_low h k n (show 4 < 5 by omega)
    rw [Nat.add_zero] at c0
    unfold Inv at *
    rw [takeH_5, takeH_6, c0, c1, c2, c3, c4]
    obtain ⟨a1, a2, a3⟩ := hi
    refine ⟨by omega, by omega, ?_⟩
    rcases a3 with ⟨e, r0, r1, r2, r3, r4, r5, r6⟩ | ⟨e, e1, e2, e3, e4, e5, e6⟩
    · exact .inl ⟨e, r0, r1, r2, r3, r4, by omega, r6⟩
    · exact .inr ⟨e, e1, e2, e3, e4, by omega, by omega⟩
  | .inner s u none l r, k, A, hk, hi => by
    have c0 := takeH_low h k n (show 0 < 5 by omega); have c1 := takeH_low h k n (show 1 < 5 by omega); have c2 := takeH_low h k n (show 2 < 5 by omega); have c3 := takeH_low h k n (show 3 < 5 by omega); have c4 := takeH_low h k n (show 4 < 5 by omega)
    rw [Nat.add_zero] at c0
    have l' : ∀ j, j < 7 → takeH h k n (7 * (2 * k) + j) = h (7 * (2 * k) + j) := fun j hj => takeH_far h k n (by omega) hj
    have r' : ∀ j, j < 7 → takeH h k n (7 * (2 * k + 1) + j) = h (7 * (2 * k + 1) + j) := fun j hj => takeH_far h k n (by omega) hj
    unfold Inv at *
    obtain ⟨a1, a2, a3, a4, a5, a6, a7, a8, a9, a10, a11, a12⟩ := hi
    rw [takeH_5, takeH_6, c0, c1, c2, c3, c4, l' 1 (by omega), l' 2 (by omega), l' 3 (by omega), l' 4 (by omega), l' 5 (by omega), r' 1 (by omega), r' 2 (by omega), r' 3 (by omega), r' 4 (by omega), r' 5 (by omega),
      show A + (h (7 * k + 6) + n) = A + n + h (7 * k + 6) by omega]
    exact ⟨by omega, by omega, a3, by omega, by omega, by omega, a7, a8, a9, a10,
      a11.congr (fun i j hij hj => takeH_far h k n (anc_child hk (.inl hij)) hj), a12.congr (fun i j hij hj => takeH_far h k n (anc_child hk (.inr hij)) hj)⟩

/-- The group of two halves, laid at k. -/
def bothH (h : Nat → Int) (k : Nat) : Nat → Int := fun c =>
  if c = 7 * k then -1
  else if c = 7 * k + 1 then min (h (7 * (2 * k) + 1)) (h (7 * (2 * k + 1) + 1))
  else if c = 7 * k + 2 then max (h (7 * (2 * k) + 2)) (h (7 * (2 * k + 1) + 2))
  else if c = 7 * k + 3 then min (h (7 * (2 * k) + 3)) (h (7 * (2 * k + 1) + 3))
  else if c = 7 * k + 4 then max (h (7 * (2 * k) + 4)) (h (7 * (2 * k + 1) + 4))
  else if c = 7 * k + 5 then min (h (7 * (2 * k) + 5)) (h (7 * (2 * k + 1) + 5))
  else if c = 7 * k + 6 then 0
  else h c
theorem bothH_far (h : Nat → Int) (k : Nat) {i j : Nat} (hi : i ≠ k) (hj : j < 7) : bothH h k (7 * i + j) = h (7 * i + j) := by
  unfold bothH
  rw [if_neg (by omega), if_neg (by omega), if_neg (by omega), if_neg (by omega), if_neg (by omega), if_neg (by omega), if_neg (by omega)]
theorem bothH_other (h : Nat → Int) (k : Nat) {c : Nat} (hi : c / 7 ≠ k) : bothH h k c = h c := by
  unfold bothH
  rw [if_neg (by omega), if_neg (by omega), if_neg (by omega), if_neg (by omega), if_neg (by omega), if_neg (by omega), if_neg (by omega)]

theorem Inv.both {s : Nat} {u : Unit} {l r : TT} {k : Nat} (hk : 1 ≤ k) (hl : Inv h dn L l (2 * k) 0) (hr : Inv h dn L r (2 * k + 1) 0) (ll : 0 ≤ h (7 * (2 * k) + 5)) (lr : 0 ≤ h (7 * (2 * k + 1) + 5)) : Inv (bothH h k) dn L (.inner s u none l r) k 0 := by
  have l' : ∀ j, j < 7 → bothH h k (7 * (2 * k) + j) = h (7 * (2 * k) + j) := fun j hj => bothH_far h k (by omega) hj
  have r' : ∀ j, j < 7 → bothH h k (7 * (2 * k + 1) + j) = h (7 * (2 * k + 1) + j) := fun j hj => bothH_far h k (by omega) hj
  have e0 : bothH h k (7 * k) = -1 := by simp [bothH]
  have e1 : bothH h k (7 * k + 1) = min (h (7 * (2 * k) + 1)) (h (7 * (2 * k + 1) + 1)) := by simp [bothH]
  have e2 : bothH h k (7 * k + 2) = max (h (7 * (2 * k) + 2)) (h (7 * (2 * k + 1) + 2)) := by simp [bothH]
  have e3 : bothH h k (7 * k + 3) = min (h (7 * (2 * k) + 3)) (h (7 * (2 * k + 1) + 3)) := by simp [bothH]
  have e4 : bothH h k (7 * k + 4) = max (h (7 * (2 * k) + 4)) (h (7 * (2 * k + 1) + 4)) := by simp [bothH]
  have e5 : bothH h k (7 * k + 5) = min (h (7 * (2 * k) + 5)) (h (7 * (2 * k + 1) + 5)) := by simp [bothH]
  have e6 : bothH h k (7 * k + 6) = 0 := by simp [bothH]
  have hl' := hl.congr (h' := bothH h k) (fun i j hij hj => bothH_far h k (anc_child hk (.inl hij)) hj)
  have hr' := hr.congr (h' := bothH h k) (fun i j hij hj => bothH_far h k (anc_child hk (.inr hij)) hj)
  unfold Inv
  rw [e0, e1, e2, e3, e4, e5, e6, l' 1 (by omega), l' 2 (by omega), l' 3 (by omega), l' 4 (by omega), l' 5 (by omega), r' 1 (by omega), r' 2 (by omega), r' 3 (by omega), r' 4 (by omega), r' 5 (by omega)]
  exact ⟨by omega, by omega, rfl, by omega, by omega, by omega, by omega, by omega, by omega, by omega, by simpa using hl', by simpa using hr'⟩

/-- What a push leaves: some become long, in this part of the tree alone. -/
structure Push (h : Nat → Int) (dn L : List Nat) (T : TT) (k o : Nat) (h' : Nat → Int) (new : List Nat) : Prop where
  inv : Inv h' (dn ++ [o]) (L ++ new) T k 0
  nodup : new.Nodup
  forced : ∀ x ∈ new, ∃ b ∈ (lvs T), b.ix = x ∧ x ∉ L ∧ (b.low ≤ o ∧ o < b.high) ∧ roomOf b dn = 0
  far : ∀ c, ¬ Anc (c / 7) k → h' c = h c
  len : new.length ≤ (lvs T).length

def Apart (T : TT) : Prop := ((lvs T).map Br.ix).Nodup
theorem Apart.left {s : Nat} {u : Unit} {l r : TT} (h : Apart (.inner s u none l r)) : Apart l := by unfold Apart at *; simp only [lvs, List.map_append] at h; exact (List.nodup_append.1 h).1
theorem Apart.right {s : Nat} {u : Unit} {l r : TT} (h : Apart (.inner s u none l r)) : Apart r := by unfold Apart at *; simp only [lvs, List.map_append] at h; exact (List.nodup_append.1 h).2.1
theorem Apart.both {s : Nat} {u : Unit} {l r : TT} (h : Apart (.inner s u none l r)) {b c : Br} (hb : b ∈ (lvs l)) (hc : c ∈ (lvs r)) : b.ix ≠ c.ix := by
  unfold Apart at h
  simp only [lvs, List.map_append] at h
  exact (List.nodup_append.1 h).2.2 _ (List.mem_map.2 ⟨b, hb, rfl⟩) _ (List.mem_map.2 ⟨c, hc, rfl⟩)

theorem Push.skip {T : TT} {k o : Nat} (hi : Inv h dn L T k 0) (hn : ∀ b ∈ (lvs T), b.ix ∉ L → ¬ (b.low ≤ o ∧ o < b.high)) : Push h dn L T k o h [] :=
  ⟨by simpa using hi.skip hn, List.nodup_nil, by simp, fun _ _ => rfl, by simp⟩

theorem Push.take {T : TT} {k o : Nat} (hk : 1 ≤ k) (hi : Inv h dn L T k 0) (hn : ∀ b ∈ (lvs T), b.ix ∉ L → b.low ≤ o ∧ o < b.high) (hr : 0 < h (7 * k + 5)) : Push h dn L T k o (takeH h k 1) [] :=
  ⟨by simpa using (hi.takeAll hn (by omega)).shift (by omega) hk, List.nodup_nil, by simp, fun c hc => takeH_other h k 1 (fun e => hc (by rw [show c / 7 = k by omega]; exact Anc.self k)) (fun e => hc (by rw [show c / 7 = k by omega]; exact Anc.self k)), by simp⟩

def noneH (h : Nat → Int) (k : Nat) : Nat → Int := fun c =>
  if c = 7 * k then -1
  else if c = 7 * k + 1 then 9223372036854775807
  else if c = 7 * k + 2 then -9223372036854775808
  else if c = 7 * k + 3 then 9223372036854775807
  else if c = 7 * k + 4 then -9223372036854775808
  else if c = 7 * k + 5 then 9223372036854775807
  else if c = 7 * k + 6 then 0
  else h c
theorem noneH_other (h : Nat → Int) (k : Nat) {c : Nat} (hi : c / 7 ≠ k) : noneH h k c = h c := by
  unfold noneH
  rw [if_neg (by omega), if_neg (by omega), if_neg (by omega), if_neg (by omega), if_neg (by omega), if_neg (by omega), if_neg (by omega)]

theorem Push.gone {s : Nat} {u : Unit} {x y : TT} {b : Br} {k o : Nat} (hi : Inv h dn L (.inner s u (some b) x y) k 0) (hb : b.ix ∉ L) (ho : b.low ≤ o ∧ o < b.high) (hr : h (7 * k + 5) ≤ 0) : Push h dn L (.inner s u (some b) x y) k o (noneH h k) [b.ix] := by
  unfold Inv at hi
  rcases hi.2.2 with ⟨_, e0, e1, e2, e3, e4, e5, e6⟩ | ⟨hl, _⟩
  · refine ⟨?_, by simp, fun x hx => ?_, fun c hc => noneH_other h k (fun e => hc (by rw [e]; exact Anc.self k)), by simp [lvs]⟩
    · unfold Inv
      have c1 : noneH h k (7 * k + 1) = 9223372036854775807 := by simp [noneH]
      have c2 : noneH h k (7 * k + 2) = -9223372036854775808 := by simp [noneH]
      have c3 : noneH h k (7 * k + 3) = 9223372036854775807 := by simp [noneH]
      have c4 : noneH h k (7 * k + 4) = -9223372036854775808 := by simp [noneH]
      have c5 : noneH h k (7 * k + 5) = 9223372036854775807 := by simp [noneH]
      have c6 : noneH h k (7 * k + 6) = 0 := by simp [noneH]
      rw [c1, c2, c3, c4, c5, c6]
      exact ⟨by omega, by simp; omega, .inr ⟨by simp, rfl, rfl, rfl, rfl, by simp; omega, by omega⟩⟩
    · simp at hx
      subst hx
      exact ⟨b, by simp [lvs], rfl, hb, ho, by omega⟩
  · exact absurd hl hb

theorem Push.node {s : Nat} {u : Unit} {l r : TT} {k o : Nat} {h3 h4 : Nat → Int} {n1 n2 : List Nat} (hd : dn.length ≤ 1048000) (hk : 1 ≤ k) (hT : Apart (.inner s u none l r)) (hl : ∀ b ∈ (lvs (.inner s u none l r)), b.low ≤ b.high) (hi : Inv h dn L (.inner s u none l r) k 0)
    (p1 : Push (takeH (takeH h (2 * k) (h (7 * k + 6))) (2 * k + 1) (h (7 * k + 6))) dn L l (2 * k) o h3 n1)
    (p2 : Push h3 dn (L ++ n1) r (2 * k + 1) o h4 n2) : Push h dn L (.inner s u none l r) k o (bothH h4 k) (n1 ++ n2) := by
  have q1 : Inv h4 (dn ++ [o]) (L ++ (n1 ++ n2)) l (2 * k) 0 := by
    rw [← List.append_assoc]
    refine (p1.inv.congr (h' := h4) (fun i j hij hj => ?_)).more (fun b hb e => ?_)
    · refine p2.far _ (fun e => ?_)
      rw [show (7 * i + j) / 7 = i by omega] at e
      exact anc_apart hk hij e
    · obtain ⟨c, hc, e', _⟩ := p2.forced _ e
      exact hT.both hb hc e'.symm
  have q2 := p2.inv
  rw [List.append_assoc] at q2
  have b1 := q1.room_le (by simp; omega) (fun b hb => hl b (by simp [lvs, hb]))
  have b2 := q2.room_le (by simp; omega) (fun b hb => hl b (by simp [lvs, hb]))
  refine ⟨q1.both hk q2 b1.1 b2.1, ?_, fun x hx => ?_, fun c hc => ?_, by have := p1.len; have := p2.len; simp [lvs]; omega⟩
  · refine List.nodup_append.2 ⟨p1.nodup, p2.nodup, fun a ha b hb e => ?_⟩
    subst e
    obtain ⟨b, hb', e, _⟩ := p1.forced _ ha
    obtain ⟨c, hc', e', _⟩ := p2.forced _ hb
    exact hT.both hb' hc' (e.trans e'.symm)
  · rcases List.mem_append.1 hx with hx | hx
    · obtain ⟨b, hb, e, r⟩ := p1.forced _ hx
      exact ⟨b, by simp [lvs, hb], e, r⟩
    · obtain ⟨b, hb, e, hn, r⟩ := p2.forced _ hx
      exact ⟨b, by simp [lvs, hb], e, fun h => hn (by simp [h]), r⟩
  · have n1' : ¬ Anc (c / 7) (2 * k) := fun e => hc e.left
    have n2' : ¬ Anc (c / 7) (2 * k + 1) := fun e => hc e.right
    have e1 : c / 7 ≠ k := fun e => hc (by rw [e]; exact Anc.self k)
    have e2 : c / 7 ≠ 2 * k := fun e => n1' (by rw [e]; exact Anc.self _)
    have e3 : c / 7 ≠ 2 * k + 1 := fun e => n2' (by rw [e]; exact Anc.self _)
    rw [bothH_other h4 k e1, p2.far c n2', p1.far c n1', takeH_other _ _ _ (by omega) (by omega), takeH_other _ _ _ (by omega) (by omega)]

/-- The halves behind what was taken is handed down. -/
theorem Inv.down {s : Nat} {u : Unit} {l r : TT} {k : Nat} (hk : 1 ≤ k) (hi : Inv h dn L (.inner s u none l r) k 0) :
    Inv (takeH (takeH h (2 * k) (h (7 * k + 6))) (2 * k + 1) (h (7 * k + 6))) dn L l (2 * k) 0 ∧ Inv (takeH (takeH h (2 * k) (h (7 * k + 6))) (2 * k + 1) (h (7 * k + 6))) dn L r (2 * k + 1) 0 := by
  unfold Inv at hi
  obtain ⟨a1, a2, a3, a4, a5, a6, a7, a8, a9, a10, a11, a12⟩ := hi
  refine ⟨(Inv.shift a1 (by omega) a11).congr (fun i j hij hj => takeH_far _ _ _ (fun e => by subst e; exact anc_apart hk hij (Anc.self _)) hj), ?_⟩
  exact Inv.shift a1 (by omega) (a12.congr (fun i j hij hj => takeH_far _ _ _ (fun e => by subst e; exact anc_apart hk (Anc.self _) hij) hj))
end
end Go.Proofs.Ytgnlplddppheiaa
