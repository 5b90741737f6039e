/- What kids a function has. -/
import Derived.Test.YtnnnfabpceapcaaGreatDoorKidsC
namespace Go.Proofs.YtnnnfabpceapcaaGreatDoor
open Go.RowKit
set_option linter.unusedVariables false
set_option linter.unusedSimpArgs false

/-- The first kids. -/
theorem Ks.take {cb : Nat} {w : World} : ∀ {n : Nat} {ao : Option Addr} {l cap : Nat} {ks : List Tr}, Ks cb n w (.slice ao l cap) ks → ∀ k, k ≤ ks.length → Ks cb n w (.slice ao k cap) (ks.take k)
  | 0, _, _, _, _, h, k, hk => by
    obtain ⟨rfl, ao, cap, e⟩ := h
    have : k = 0 := by simpa using hk
    subst this
    exact ⟨rfl, _, _, rfl⟩
  | n + 1, ao, l, cap, ks, h, k, hk => by
    rw [Ks] at h ⊢
    obtain ⟨hl, ao', cap', e, h⟩ := h
    injection e with e1 e2 e3
    subst e1 e3
    refine ⟨by simp; omega, ao, cap, by simp [Nat.min_eq_left hk], fun i hi => ?_⟩
    have hi' : i < k ∧ i < ks.length := by simp at hi; omega
    obtain ⟨b, off, x, kv, ks', e, hlt, he, hc, hkk⟩ := h i hi'.2
    exact ⟨b, off, x, kv, ks', e, hlt, ⟨by rw [List.getElem_take]; exact he.1, by have := he.2; simp; omega⟩, hc, hkk⟩

set_option maxHeartbeats 8000000 in
theorem decl45_m {w : World} {b o : Nat} {x : NdH} {kv : Value} {n cb : Nat} {t0 t1 : Tr} {r : List Tr} (h : NdAt w b o x kv) (hb : b < w.heap.size) (hK : Ks cb n w kv (t0 :: t1 :: r)) (hk : x.kind = 45) (hq : onT (ofK [16]) t0 = true) (hm : allK (ofK [46]) ((t1 :: r).take r.length) = false) :
    Calls Tryz.prog 48 #[.pointer (some ⟨b, o, none⟩)] w fun e w' => e = .returned (.bool false) ∧ Below w.heap.size w w' := by
  have HK := hid' hK
  obtain ⟨c0, _, _, _, c4, _⟩ := h
  obtain ⟨hkl, ao, cap, rfl⟩ := hK.shape
  have hroom := hK.room (by simp)
  obtain ⟨m0, b0, off, x0, kv0, ks0, _, rfl, ⟨hb0, _⟩, e0, hat0, hK0⟩ := hK.kid 0 (by simp)
  simp at e0 hat0
  subst e0
  have HAT0 := hid' hat0
  have HK0 := hid' hK0
  rw [onT_node] at hq
  have hq0 := hq
  clear hq
  have HC := all_of (hK.tail.take r.length (by simp)) [46]
  rw [hm] at HC
  simp at hkl hroom
  clear hK hat0 hK0
  rw [hk] at c0
  go_enter Tryz.func48, Tryz.ntmps48
  go_wp2
  go_region_with (go_at_call 68; refine of66.mono ?_; rintro e w1 ⟨rfl, rfl⟩)
  all_goals
    obtain ⟨W, hW⟩ : ∃ W, W = ((w.alloc (.cells #[.int .i64 16] 3)).alloc (.cells #[.slice (some ⟨w.heap.size, 0, none⟩) 1 1] 93)).drew := ⟨_, rfl⟩
    have hB : Below w.heap.size w W := by rw [hW]; exact belA _ _ _
    have hA : AskV (.func (.func 98) #[] #[.pointer (some ⟨w.heap.size + 1, 0, none⟩)]) (ofK [16]) W := by
      rw [hW]
      exact (ask_of (l := [16]) (by simp) _ _ _ rfl rfl rfl).below ((Below.refl _ _).drew)
    have d0 := (hB.cell (p := ⟨b, o, none⟩) hb).trans c0
    have hbW := Nat.lt_of_lt_of_le hb hB.size
    have HB := hid' hB
    have HQ : Hid (∀ W', Below W.heap.size W W' → Calls Tryz.prog 98 #[.pointer (some ⟨b0, off, none⟩), .pointer (some ⟨w.heap.size + 1, 0, none⟩)] W' fun e w' => e = .returned (.bool true) ∧ Below W'.heap.size W' w') := fun W' hW' => by
      obtain ⟨g, caps, e, _, hc⟩ := hA
      injection e with e1 e2 e3
      injection e1 with e1
      subst e1 e3
      rw [← hq0]
      exact hc W' b0 off x0 kv0 m0 ks0 cb hW' (HAT0.out.below (below_on hB hW') hb0) (Nat.lt_of_lt_of_le hb0 (below_on hB hW').size) (HK0.out.below (below_on hB hW'))
    rw [← hW]
    clear hW hB c0 c4 hA
    go_wp2
    first
      | go_region_with (first
          | (go_at_call 98; refine (HQ.out _ (by first | exact Below.refl _ _ | exact (Below.refl _ _).drew)).mono ?_; rintro e w2 ⟨rfl, hb2⟩; replace hb2 : Hid (Below W.heap.size W w2) := by { first | exact below_on ((Below.refl _ W).drew) hb2 | exact hb2 })
          | (go_at_call 68; refine of66.mono ?_; rintro e w1 ⟨rfl, rfl⟩)
          | (go_at_call 70; refine (HC.out _ _ (below_on HB.out (below_on hb2.out (below1 _ _))) (nums_new _ 46) _ (by simp)).mono ?_; rintro e w3 ⟨rfl, hb3⟩; replace hb3 := hid' hb3))
      | fail
    all_goals
      go_wp2
      go_ret
      exact ⟨rfl, by first | exact hb3.out | exact hb3.out.drew⟩
end Go.Proofs.YtnnnfabpceapcaaGreatDoor
