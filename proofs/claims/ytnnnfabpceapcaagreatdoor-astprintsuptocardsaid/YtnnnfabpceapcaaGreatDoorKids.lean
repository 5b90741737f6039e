/- What kids a node may have. -/
import Derived.Test.YtnnnfabpceapcaaGreatDoorAsk
import Derived.Deep.RegionWith
namespace Go.Proofs.YtnnnfabpceapcaaGreatDoor
open Go.RowKit
set_option linter.unusedVariables false

theorem nums_new (w : World) (k : Int) : Nums (w.alloc (.cells #[.int .i64 k] 3)) (.slice (some ⟨w.heap.size, 0, none⟩) 1 1) [k] :=
  ⟨w.heap.size, by simp, rfl, by simp, fun i hi => by
    have : i = 0 := by simp at hi; omega
    subst this
    simp [go_sem]⟩

theorem belA (w : World) (a b : Obj) : Below w.heap.size w ((w.alloc a).alloc b).drew := ((below1 _ _).alloc (by simp) _).drew

set_option maxHeartbeats 4000000 in
theorem expr47 {w : World} {b o : Nat} {x : NdH} {kv : Value} {n cb : Nat} {ks : List Tr} (h : NdAt w b o x kv) (hb : b < w.heap.size) (hK : Ks cb n w kv ks) (hk : x.kind = 1 ∨ x.kind = 16) :
    Calls Tryz.prog 45 #[.pointer (some ⟨b, o, none⟩)] w fun e w' => e = .returned (.bool (areK [] ks)) ∧ Below w.heap.size w w' := by
  have HC : Hid (∀ W, Below w.heap.size w W → Calls Tryz.prog 69 #[kv, .slice none 0 0] W fun e w' => e = .returned (.bool (areK [] ks)) ∧ Below W.heap.size W w') := fun W hW => are67 (Asks.none_ W) (hK.below hW)
  obtain ⟨c0, _, _, _, c4, _⟩ := h
  obtain ⟨hkl, ao, cap, rfl⟩ := hK.shape
  clear hK
  generalize areK [] ks = q at *
  rcases hk with hk | hk
  all_goals
    rw [hk] at c0
    go_enter Tryz.func45, Tryz.ntmps45
    go_wp2
    go_region_with (go_at_call 68; refine of66.mono ?_; rintro e w1 ⟨rfl, rfl⟩)
    all_goals
      obtain ⟨W, hW⟩ : ∃ W, W = ((w.alloc (.cells #[.int .i64 16] 3)).alloc (.cells #[.slice (some ⟨w.heap.size, 0, none⟩) 1 1] 93)).drew := ⟨_, rfl⟩
      have hB : Below w.heap.size w W := by rw [hW]; exact belA _ _ _
      have d0 := (hB.cell (p := ⟨b, o, none⟩) hb).trans c0
      have hbW := Nat.lt_of_lt_of_le hb hB.size
      have HB := hid' hB
      rw [← hW]
      clear hW hB c0 c4
      go_wp2_with (go_at_call 69; (with_reducible refine (HC.out _ HB.out).mono ?_); rintro e w2 ⟨rfl, hb2⟩; replace hb2 := hid' hb2)
      go_ret
      exact ⟨rfl, below_on HB.out hb2.out⟩

theorem nums3 (w : World) (a b c : Int) : Nums (w.alloc (.cells #[.int .i64 a, .int .i64 b, .int .i64 c] 3)) (.slice (some ⟨w.heap.size, 0, none⟩) 3 3) [a, b, c] :=
  ⟨w.heap.size, by simp, rfl, by simp, fun i hi => by
    have : i = 0 ∨ i = 1 ∨ i = 2 := by simp at hi; omega
    rcases this with rfl | rfl | rfl <;> simp [go_sem]⟩
theorem all_of {w : World} {kv : Value} {n cb : Nat} {ks : List Tr} (hK : Ks cb n w kv ks) (l : List Int) : Hid (∀ (W : World) (v : Value), Below w.heap.size w W → Nums W v l → ∀ p, p = W.heap.size → Calls Tryz.prog 70 #[kv, .func (.func 98) #[] #[.pointer (some ⟨p, 0, none⟩)]] (W.alloc (.cells #[v] 93)) fun e w' => e = .returned (.bool (allK (ofK l) ks)) ∧ Below w.heap.size w w') := by
  intro W v hW hN p hp
  subst hp
  exact (all68 (ask82 hN) (hK.below (below_on hW (below1 _ _)))).mono fun e w' h => ⟨h.1, below_on (below_on hW (below1 _ _)) h.2⟩

set_option maxHeartbeats 4000000 in
theorem prog49 {w : World} {b o : Nat} {x : NdH} {kv : Value} {n cb : Nat} {ks : List Tr} (h : NdAt w b o x kv) (hb : b < w.heap.size) (hK : Ks cb n w kv ks) (hk : x.kind = 40) :
    Calls Tryz.prog 48 #[.pointer (some ⟨b, o, none⟩)] w fun e w' => e = .returned (.bool (allK (ofK [41, 42, 45]) ks)) ∧ Below w.heap.size w w' := by
  have HC := all_of hK [41, 42, 45]
  obtain ⟨c0, _, _, _, c4, _⟩ := h
  obtain ⟨hkl, ao, cap, rfl⟩ := hK.shape
  clear hK
  generalize allK (ofK [41, 42, 45]) ks = q at *
  rw [hk] at c0
  go_enter Tryz.func48, Tryz.ntmps48
  go_wp2
  go_region_with (go_at_call 68; refine of66.mono ?_; rintro e w1 ⟨rfl, rfl⟩)
  all_goals
    obtain ⟨W, hW⟩ : ∃ W, W = ((w.alloc (.cells #[.int .i64 16] 3)).alloc (.cells #[.slice (some ⟨w.heap.size, 0, none⟩) 1 1] 93)).drew := ⟨_, rfl⟩
    have hB : Below w.heap.size w W := by rw [hW]; exact belA _ _ _
    have d0 := (hB.cell (p := ⟨b, o, none⟩) hb).trans c0
    have hbW := Nat.lt_of_lt_of_le hb hB.size
    have HB := hid' hB
    rw [← hW]
    clear hW hB c0 c4
    go_wp2_with (first
      | (go_at_call 68; refine of66.mono ?_; rintro e w1 ⟨rfl, rfl⟩)
      | (go_at_call 70; refine (HC.out _ _ (below_on HB.out (below1 _ _)) (nums3 W 41 42 45) _ (by simp)).mono ?_; rintro e w2 ⟨rfl, hb2⟩; replace hb2 := hid' hb2))
    go_ret
    exact ⟨rfl, hb2.out⟩
end Go.Proofs.YtnnnfabpceapcaaGreatDoor
