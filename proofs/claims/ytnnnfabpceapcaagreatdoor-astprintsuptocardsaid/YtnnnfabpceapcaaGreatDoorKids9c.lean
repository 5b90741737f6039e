/- What kids a declaration may have: functions. -/
import Derived.Test.YtnnnfabpceapcaaGreatDoorKidsC
import Derived.Test.YtnnnfabpceapcaaGreatDoorQuiet
import Derived.Test.YtnnnfabpceapcaaGreatDoorSame2
namespace Go.Proofs.YtnnnfabpceapcaaGreatDoor
open Go.RowKit
set_option linter.unusedVariables false
set_option linter.unusedSimpArgs false

set_option maxHeartbeats 8000000 in
theorem decl45_0 {w : World} {b o : Nat} {x : NdH} {kv : Value} {n cb : Nat}  (h : NdAt w b o x kv) (hb : b < w.heap.size) (hK : Ks cb n w kv ([])) (hk : x.kind = 45) :
    Calls Tryz.prog 48 #[.pointer (some ⟨b, o, none⟩)] w fun e w' => e = .returned (.bool (false)) ∧ Below w.heap.size w w' := by
  have HARE := are_of hK
  have HALL := all_ask hK
  have HK := hid' hK
  obtain ⟨c0, _, _, _, c4, _⟩ := h
  obtain ⟨hkl, ao, cap, rfl⟩ := hK.shape
  clear hK
  rw [hk] at c0
  go_enter Tryz.func48, Tryz.ntmps48
  go_wp2
  go_region_with (go_at_call 68; refine of66.mono ?_; rintro e w1 ⟨rfl, rfl⟩)
  all_goals
    obtain ⟨W, hW⟩ : ∃ W, W = ((w.alloc (.cells #[.int .i64 16] 3)).alloc (.cells #[.slice (some ⟨w.heap.size, 0, none⟩) 1 1] 93)).drew := ⟨_, rfl⟩
    have hB : Below w.heap.size w W := by rw [hW]; exact belA _ _ _
    have HT : Hid (AskV (.func (.func 98) #[] #[.pointer (some ⟨w.heap.size + 1, 0, none⟩)]) (ofK [16]) W) := by
      rw [hW]
      exact (ask_of (l := [16]) (by simp) _ _ _ rfl rfl rfl).below ((Below.refl _ _).drew)
    have d0 := (hB.cell (p := ⟨b, o, none⟩) hb).trans c0
    have hbW := Nat.lt_of_lt_of_le hb hB.size
    have HB := hid' hB
    rw [← hW]
    clear hW hB c0 c4
    go_wp2
    go_quiet (fail)
    go_wp2
    go_ret
    exact ⟨rfl, below_on HB.out (below_dr _ _)⟩

set_option maxHeartbeats 8000000 in
theorem decl45_1 {w : World} {b o : Nat} {x : NdH} {kv : Value} {n cb : Nat} {t : Tr} (h : NdAt w b o x kv) (hb : b < w.heap.size) (hK : Ks cb n w kv ([t])) (hk : x.kind = 45) :
    Calls Tryz.prog 48 #[.pointer (some ⟨b, o, none⟩)] w fun e w' => e = .returned (.bool (false)) ∧ Below w.heap.size w w' := by
  have HARE := are_of hK
  have HALL := all_ask hK
  have HK := hid' hK
  obtain ⟨c0, _, _, _, c4, _⟩ := h
  obtain ⟨hkl, ao, cap, rfl⟩ := hK.shape
  clear hK
  rw [hk] at c0
  go_enter Tryz.func48, Tryz.ntmps48
  go_wp2
  go_region_with (go_at_call 68; refine of66.mono ?_; rintro e w1 ⟨rfl, rfl⟩)
  all_goals
    obtain ⟨W, hW⟩ : ∃ W, W = ((w.alloc (.cells #[.int .i64 16] 3)).alloc (.cells #[.slice (some ⟨w.heap.size, 0, none⟩) 1 1] 93)).drew := ⟨_, rfl⟩
    have hB : Below w.heap.size w W := by rw [hW]; exact belA _ _ _
    have HT : Hid (AskV (.func (.func 98) #[] #[.pointer (some ⟨w.heap.size + 1, 0, none⟩)]) (ofK [16]) W) := by
      rw [hW]
      exact (ask_of (l := [16]) (by simp) _ _ _ rfl rfl rfl).below ((Below.refl _ _).drew)
    have d0 := (hB.cell (p := ⟨b, o, none⟩) hb).trans c0
    have hbW := Nat.lt_of_lt_of_le hb hB.size
    have HB := hid' hB
    rw [← hW]
    clear hW hB c0 c4
    go_wp2
    go_quiet (fail)
    go_wp2
    go_ret
    exact ⟨rfl, below_on HB.out (below_dr _ _)⟩

set_option maxHeartbeats 8000000 in
theorem decl45_n {w : World} {b o : Nat} {x : NdH} {kv : Value} {n cb : Nat} {t0 t1 : Tr} {r : List Tr} (h : NdAt w b o x kv) (hb : b < w.heap.size) (hK : Ks cb n w kv (t0 :: t1 :: r)) (hk : x.kind = 45) (hq : onT (ofK [16]) t0 = false) :
    Calls Tryz.prog 48 #[.pointer (some ⟨b, o, none⟩)] w fun e w' => e = .returned (.bool (false)) ∧ Below w.heap.size w w' := by
  have HARE := are_of hK
  have HALL := all_ask hK
  have HK := hid' hK
  obtain ⟨c0, _, _, _, c4, _⟩ := h
  obtain ⟨hkl, ao, cap, rfl⟩ := hK.shape
  obtain ⟨m0, b0, off, x0, kv0, ks0, _, rfl, ⟨hb0, _⟩, e0, hat0, hK0⟩ := hK.kid 0 (by simp)
  simp at e0 hat0
  subst e0
  have HAT0 := hid' hat0
  have HK0 := hid' hK0
  rw [onT_node] at hq
  have hroom := hK.room (by simp)
  simp at hkl hroom
  clear hat0 hK0
  clear hK
  rw [hk] at c0
  go_enter Tryz.func48, Tryz.ntmps48
  go_wp2
  go_region_with (go_at_call 68; refine of66.mono ?_; rintro e w1 ⟨rfl, rfl⟩)
  all_goals
    obtain ⟨W, hW⟩ : ∃ W, W = ((w.alloc (.cells #[.int .i64 16] 3)).alloc (.cells #[.slice (some ⟨w.heap.size, 0, none⟩) 1 1] 93)).drew := ⟨_, rfl⟩
    have hB : Below w.heap.size w W := by rw [hW]; exact belA _ _ _
    have HT : Hid (AskV (.func (.func 98) #[] #[.pointer (some ⟨w.heap.size + 1, 0, none⟩)]) (ofK [16]) W) := by
      rw [hW]
      exact (ask_of (l := [16]) (by simp) _ _ _ rfl rfl rfl).below ((Below.refl _ _).drew)
    have d0 := (hB.cell (p := ⟨b, o, none⟩) hb).trans c0
    have hbW := Nat.lt_of_lt_of_le hb hB.size
    have HB := hid' hB
    rw [← hW]
    clear hW hB c0 c4
    have HQ : Hid (∀ W', Below W.heap.size W W' → Calls Tryz.prog 98 #[.pointer (some ⟨b0, off, none⟩), .pointer (some ⟨w.heap.size + 1, 0, none⟩)] W' fun e w' => e = .returned (.bool false) ∧ Below W'.heap.size W' w') := fun W' hW' => by
      have hB := HB.out
      obtain ⟨g, caps, e, _, hc⟩ := HT.out
      injection e with e1 e2 e3
      injection e1 with e1
      subst e1 e3
      rw [← hq]
      exact hc W' b0 off x0 kv0 m0 ks0 cb hW' (HAT0.out.below (below_on hB hW') hb0) (Nat.lt_of_lt_of_le hb0 (below_on hB hW').size) (HK0.out.below (below_on hB hW'))
    have hix1 : (0 : Int) < ((r.length + 1 + 1 : Nat) : Int) := by omega
    have hix2 : (0 : Int) < (r.length : Int) + 1 + 1 := by omega
    have H82 := fun t : After W => Calls.after t (HQ.out t.1 t.2)
    go_wp2
    have hne := after_some W
    refine region_after 24 mixedS (by kernel_rfl) ?_
    simp only [List.take_succ_cons, List.take_zero, List.drop_succ_cons, List.drop_zero]
    repeat quiet_step (first | with_reducible exact H82 _)
    refine wpQuiet_nil ?_
    intro w5 hb5
    have HB5 := hid' hb5
    clear hb5
    go_wp2
    go_ret
    exact ⟨rfl, below_on HB.out HB5.out⟩
end Go.Proofs.YtnnnfabpceapcaaGreatDoor
