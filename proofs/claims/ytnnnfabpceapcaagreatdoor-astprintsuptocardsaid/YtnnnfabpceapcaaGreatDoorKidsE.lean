/- What kids an expression may have: two and one. -/
import Derived.Test.YtnnnfabpceapcaaGreatDoorKidsC
namespace Go.Proofs.YtnnnfabpceapcaaGreatDoor
set_option linter.unusedSimpArgs false
open Go.RowKit
set_option linter.unusedVariables false

set_option maxHeartbeats 4000000 in
theorem expr5 {w : World} {b o : Nat} {x : NdH} {kv : Value} {n cb : Nat} {ks : List Tr} (h : NdAt w b o x kv) (hb : b < w.heap.size) (hK : Ks cb n w kv ks) (hk : x.kind = 5) :
    Calls Tryz.prog 45 #[.pointer (some ⟨b, o, none⟩)] w fun e w' => e = .returned (.bool (areK [isExpr, isExpr] ks)) ∧ Below w.heap.size w w' := by
  have HARE := are_of hK
  have HALL := all_ask hK
  obtain ⟨c0, _, _, _, c4, _⟩ := h
  obtain ⟨hkl, ao, cap, rfl⟩ := hK.shape
  clear hK
  rw [hk] at c0
  go_enter Tryz.func45, Tryz.ntmps45
  go_wp2
  go_region_with (go_at_call 68; refine of66.mono ?_; rintro e w1 ⟨rfl, rfl⟩)
  all_goals
    obtain ⟨W, hW⟩ : ∃ W, W = ((w.alloc (.cells #[.int .i64 16] 3)).alloc (.cells #[.slice (some ⟨w.heap.size, 0, none⟩) 1 1] 93)).drew := ⟨_, rfl⟩
    have hB : Below w.heap.size w W := by rw [hW]; exact belA _ _ _
    have HT : Hid (AskV (.func (.func 98) #[] #[.pointer (some ⟨w.heap.size + 1, 0, none⟩)]) (ofK [16]) W) := by
      rw [hW]
      exact (ask_of (l := [16]) (by simp) _ _ _ rfl rfl rfl).below ((Below.refl _ _).drew)
    have d0 := (hB.cell (p := ⟨b, o, none⟩) hb).trans c0
    have hbW := Nat.lt_of_lt_of_le hb hB.size
    have HB := hid' hB
    rw [← hW]
    clear hW hB c0 c4
    go_wp2_with (first
      | (go_at_call 69; refine (HARE.out _ [(.func (.func 44) #[] #[], isExpr), (.func (.func 44) #[] #[], isExpr)] HB.out (ansC (ask35 _) (ansC (ask35 _) (ans0 _))) (by simp) _ _ (by first | rfl | simp) rfl).mono ?_; rintro e w2 ⟨rfl, hb2⟩; replace hb2 := hid' hb2))
    go_ret
    exact ⟨rfl, hb2.out⟩

set_option maxHeartbeats 4000000 in
theorem expr10 {w : World} {b o : Nat} {x : NdH} {kv : Value} {n cb : Nat} {ks : List Tr} (h : NdAt w b o x kv) (hb : b < w.heap.size) (hK : Ks cb n w kv ks) (hk : x.kind = 10) :
    Calls Tryz.prog 45 #[.pointer (some ⟨b, o, none⟩)] w fun e w' => e = .returned (.bool (areK [isExpr, isExpr] ks)) ∧ Below w.heap.size w w' := by
  have HARE := are_of hK
  have HALL := all_ask hK
  obtain ⟨c0, _, _, _, c4, _⟩ := h
  obtain ⟨hkl, ao, cap, rfl⟩ := hK.shape
  clear hK
  rw [hk] at c0
  go_enter Tryz.func45, Tryz.ntmps45
  go_wp2
  go_region_with (go_at_call 68; refine of66.mono ?_; rintro e w1 ⟨rfl, rfl⟩)
  all_goals
    obtain ⟨W, hW⟩ : ∃ W, W = ((w.alloc (.cells #[.int .i64 16] 3)).alloc (.cells #[.slice (some ⟨w.heap.size, 0, none⟩) 1 1] 93)).drew := ⟨_, rfl⟩
    have hB : Below w.heap.size w W := by rw [hW]; exact belA _ _ _
    have HT : Hid (AskV (.func (.func 98) #[] #[.pointer (some ⟨w.heap.size + 1, 0, none⟩)]) (ofK [16]) W) := by
      rw [hW]
      exact (ask_of (l := [16]) (by simp) _ _ _ rfl rfl rfl).below ((Below.refl _ _).drew)
    have d0 := (hB.cell (p := ⟨b, o, none⟩) hb).trans c0
    have hbW := Nat.lt_of_lt_of_le hb hB.size
    have HB := hid' hB
    rw [← hW]
    clear hW hB c0 c4
    go_wp2_with (first
      | (go_at_call 69; refine (HARE.out _ [(.func (.func 44) #[] #[], isExpr), (.func (.func 44) #[] #[], isExpr)] HB.out (ansC (ask35 _) (ansC (ask35 _) (ans0 _))) (by simp) _ _ (by first | rfl | simp) rfl).mono ?_; rintro e w2 ⟨rfl, hb2⟩; replace hb2 := hid' hb2))
    go_ret
    exact ⟨rfl, hb2.out⟩

set_option maxHeartbeats 4000000 in
theorem expr11 {w : World} {b o : Nat} {x : NdH} {kv : Value} {n cb : Nat} {ks : List Tr} (h : NdAt w b o x kv) (hb : b < w.heap.size) (hK : Ks cb n w kv ks) (hk : x.kind = 11) :
    Calls Tryz.prog 45 #[.pointer (some ⟨b, o, none⟩)] w fun e w' => e = .returned (.bool (areK [isExpr, isExpr] ks)) ∧ Below w.heap.size w w' := by
  have HARE := are_of hK
  have HALL := all_ask hK
  obtain ⟨c0, _, _, _, c4, _⟩ := h
  obtain ⟨hkl, ao, cap, rfl⟩ := hK.shape
  clear hK
  rw [hk] at c0
  go_enter Tryz.func45, Tryz.ntmps45
  go_wp2
  go_region_with (go_at_call 68; refine of66.mono ?_; rintro e w1 ⟨rfl, rfl⟩)
  all_goals
    obtain ⟨W, hW⟩ : ∃ W, W = ((w.alloc (.cells #[.int .i64 16] 3)).alloc (.cells #[.slice (some ⟨w.heap.size, 0, none⟩) 1 1] 93)).drew := ⟨_, rfl⟩
    have hB : Below w.heap.size w W := by rw [hW]; exact belA _ _ _
    have HT : Hid (AskV (.func (.func 98) #[] #[.pointer (some ⟨w.heap.size + 1, 0, none⟩)]) (ofK [16]) W) := by
      rw [hW]
      exact (ask_of (l := [16]) (by simp) _ _ _ rfl rfl rfl).below ((Below.refl _ _).drew)
    have d0 := (hB.cell (p := ⟨b, o, none⟩) hb).trans c0
    have hbW := Nat.lt_of_lt_of_le hb hB.size
    have HB := hid' hB
    rw [← hW]
    clear hW hB c0 c4
    go_wp2_with (first
      | (go_at_call 69; refine (HARE.out _ [(.func (.func 44) #[] #[], isExpr), (.func (.func 44) #[] #[], isExpr)] HB.out (ansC (ask35 _) (ansC (ask35 _) (ans0 _))) (by simp) _ _ (by first | rfl | simp) rfl).mono ?_; rintro e w2 ⟨rfl, hb2⟩; replace hb2 := hid' hb2))
    go_ret
    exact ⟨rfl, hb2.out⟩

set_option maxHeartbeats 4000000 in
theorem expr6 {w : World} {b o : Nat} {x : NdH} {kv : Value} {n cb : Nat} {ks : List Tr} (h : NdAt w b o x kv) (hb : b < w.heap.size) (hK : Ks cb n w kv ks) (hk : x.kind = 6) :
    Calls Tryz.prog 45 #[.pointer (some ⟨b, o, none⟩)] w fun e w' => e = .returned (.bool (areK [isExpr] ks)) ∧ Below w.heap.size w w' := by
  have HARE := are_of hK
  have HALL := all_ask hK
  obtain ⟨c0, _, _, _, c4, _⟩ := h
  obtain ⟨hkl, ao, cap, rfl⟩ := hK.shape
  clear hK
  rw [hk] at c0
  go_enter Tryz.func45, Tryz.ntmps45
  go_wp2
  go_region_with (go_at_call 68; refine of66.mono ?_; rintro e w1 ⟨rfl, rfl⟩)
  all_goals
    obtain ⟨W, hW⟩ : ∃ W, W = ((w.alloc (.cells #[.int .i64 16] 3)).alloc (.cells #[.slice (some ⟨w.heap.size, 0, none⟩) 1 1] 93)).drew := ⟨_, rfl⟩
    have hB : Below w.heap.size w W := by rw [hW]; exact belA _ _ _
    have HT : Hid (AskV (.func (.func 98) #[] #[.pointer (some ⟨w.heap.size + 1, 0, none⟩)]) (ofK [16]) W) := by
      rw [hW]
      exact (ask_of (l := [16]) (by simp) _ _ _ rfl rfl rfl).below ((Below.refl _ _).drew)
    have d0 := (hB.cell (p := ⟨b, o, none⟩) hb).trans c0
    have hbW := Nat.lt_of_lt_of_le hb hB.size
    have HB := hid' hB
    rw [← hW]
    clear hW hB c0 c4
    go_wp2_with (first
      | (go_at_call 69; refine (HARE.out _ [(.func (.func 44) #[] #[], isExpr)] HB.out (ansC (ask35 _) (ans0 _)) (by simp) _ _ (by first | rfl | simp) rfl).mono ?_; rintro e w2 ⟨rfl, hb2⟩; replace hb2 := hid' hb2))
    go_ret
    exact ⟨rfl, hb2.out⟩

set_option maxHeartbeats 4000000 in
theorem expr7 {w : World} {b o : Nat} {x : NdH} {kv : Value} {n cb : Nat} {ks : List Tr} (h : NdAt w b o x kv) (hb : b < w.heap.size) (hK : Ks cb n w kv ks) (hk : x.kind = 7) :
    Calls Tryz.prog 45 #[.pointer (some ⟨b, o, none⟩)] w fun e w' => e = .returned (.bool (areK [isExpr] ks)) ∧ Below w.heap.size w w' := by
  have HARE := are_of hK
  have HALL := all_ask hK
  obtain ⟨c0, _, _, _, c4, _⟩ := h
  obtain ⟨hkl, ao, cap, rfl⟩ := hK.shape
  clear hK
  rw [hk] at c0
  go_enter Tryz.func45, Tryz.ntmps45
  go_wp2
  go_region_with (go_at_call 68; refine of66.mono ?_; rintro e w1 ⟨rfl, rfl⟩)
  all_goals
    obtain ⟨W, hW⟩ : ∃ W, W = ((w.alloc (.cells #[.int .i64 16] 3)).alloc (.cells #[.slice (some ⟨w.heap.size, 0, none⟩) 1 1] 93)).drew := ⟨_, rfl⟩
    have hB : Below w.heap.size w W := by rw [hW]; exact belA _ _ _
    have HT : Hid (AskV (.func (.func 98) #[] #[.pointer (some ⟨w.heap.size + 1, 0, none⟩)]) (ofK [16]) W) := by
      rw [hW]
      exact (ask_of (l := [16]) (by simp) _ _ _ rfl rfl rfl).below ((Below.refl _ _).drew)
    have d0 := (hB.cell (p := ⟨b, o, none⟩) hb).trans c0
    have hbW := Nat.lt_of_lt_of_le hb hB.size
    have HB := hid' hB
    rw [← hW]
    clear hW hB c0 c4
    go_wp2_with (first
      | (go_at_call 69; refine (HARE.out _ [(.func (.func 44) #[] #[], isExpr)] HB.out (ansC (ask35 _) (ans0 _)) (by simp) _ _ (by first | rfl | simp) rfl).mono ?_; rintro e w2 ⟨rfl, hb2⟩; replace hb2 := hid' hb2))
    go_ret
    exact ⟨rfl, hb2.out⟩
end Go.Proofs.YtnnnfabpceapcaaGreatDoor

namespace Go.Proofs.YtnnnfabpceapcaaGreatDoor
set_option linter.unusedSimpArgs false
open Go.RowKit
set_option linter.unusedVariables false

set_option maxHeartbeats 4000000 in
theorem expr9 {w : World} {b o : Nat} {x : NdH} {kv : Value} {n cb : Nat} {ks : List Tr} (h : NdAt w b o x kv) (hb : b < w.heap.size) (hK : Ks cb n w kv ks) (hk : x.kind = 9) :
    Calls Tryz.prog 45 #[.pointer (some ⟨b, o, none⟩)] w fun e w' => e = .returned (.bool (areK [isExpr] ks)) ∧ Below w.heap.size w w' := by
  have HARE := are_of hK
  have HALL := all_ask hK
  obtain ⟨c0, _, _, _, c4, _⟩ := h
  obtain ⟨hkl, ao, cap, rfl⟩ := hK.shape
  clear hK
  rw [hk] at c0
  go_enter Tryz.func45, Tryz.ntmps45
  go_wp2
  go_region_with (go_at_call 68; refine of66.mono ?_; rintro e w1 ⟨rfl, rfl⟩)
  all_goals
    obtain ⟨W, hW⟩ : ∃ W, W = ((w.alloc (.cells #[.int .i64 16] 3)).alloc (.cells #[.slice (some ⟨w.heap.size, 0, none⟩) 1 1] 93)).drew := ⟨_, rfl⟩
    have hB : Below w.heap.size w W := by rw [hW]; exact belA _ _ _
    have HT : Hid (AskV (.func (.func 98) #[] #[.pointer (some ⟨w.heap.size + 1, 0, none⟩)]) (ofK [16]) W) := by
      rw [hW]
      exact (ask_of (l := [16]) (by simp) _ _ _ rfl rfl rfl).below ((Below.refl _ _).drew)
    have d0 := (hB.cell (p := ⟨b, o, none⟩) hb).trans c0
    have hbW := Nat.lt_of_lt_of_le hb hB.size
    have HB := hid' hB
    rw [← hW]
    clear hW hB c0 c4
    go_wp2_with (first
      | (go_at_call 69; refine (HARE.out _ [(.func (.func 44) #[] #[], isExpr)] HB.out (ansC (ask35 _) (ans0 _)) (by simp) _ _ (by first | rfl | simp) rfl).mono ?_; rintro e w2 ⟨rfl, hb2⟩; replace hb2 := hid' hb2))
    go_ret
    exact ⟨rfl, hb2.out⟩

set_option maxHeartbeats 4000000 in
theorem expr8 {w : World} {b o : Nat} {x : NdH} {kv : Value} {n cb : Nat} {ks : List Tr} (h : NdAt w b o x kv) (hb : b < w.heap.size) (hK : Ks cb n w kv ks) (hk : x.kind = 8) :
    Calls Tryz.prog 45 #[.pointer (some ⟨b, o, none⟩)] w fun e w' => e = .returned (.bool (allK isExpr ks)) ∧ Below w.heap.size w w' := by
  have HARE := are_of hK
  have HALL := all_ask hK
  obtain ⟨c0, _, _, _, c4, _⟩ := h
  obtain ⟨hkl, ao, cap, rfl⟩ := hK.shape
  clear hK
  rw [hk] at c0
  go_enter Tryz.func45, Tryz.ntmps45
  go_wp2
  go_region_with (go_at_call 68; refine of66.mono ?_; rintro e w1 ⟨rfl, rfl⟩)
  all_goals
    obtain ⟨W, hW⟩ : ∃ W, W = ((w.alloc (.cells #[.int .i64 16] 3)).alloc (.cells #[.slice (some ⟨w.heap.size, 0, none⟩) 1 1] 93)).drew := ⟨_, rfl⟩
    have hB : Below w.heap.size w W := by rw [hW]; exact belA _ _ _
    have HT : Hid (AskV (.func (.func 98) #[] #[.pointer (some ⟨w.heap.size + 1, 0, none⟩)]) (ofK [16]) W) := by
      rw [hW]
      exact (ask_of (l := [16]) (by simp) _ _ _ rfl rfl rfl).below ((Below.refl _ _).drew)
    have d0 := (hB.cell (p := ⟨b, o, none⟩) hb).trans c0
    have hbW := Nat.lt_of_lt_of_le hb hB.size
    have HB := hid' hB
    rw [← hW]
    clear hW hB c0 c4
    go_wp2_with (first
      | (go_at_call 70; refine (HALL.out _ _ isExpr HB.out (ask35 _)).mono ?_; rintro e w2 ⟨rfl, hb2⟩; replace hb2 := hid' hb2))
    go_ret
    exact ⟨rfl, hb2.out⟩

set_option maxHeartbeats 4000000 in
theorem expr12 {w : World} {b o : Nat} {x : NdH} {kv : Value} {n cb : Nat} {ks : List Tr} (h : NdAt w b o x kv) (hb : b < w.heap.size) (hK : Ks cb n w kv ks) (hk : x.kind = 12) :
    Calls Tryz.prog 45 #[.pointer (some ⟨b, o, none⟩)] w fun e w' => e = .returned (.bool (areK [isExpr, isExpr, isExpr] ks)) ∧ Below w.heap.size w w' := by
  have HARE := are_of hK
  have HALL := all_ask hK
  obtain ⟨c0, _, _, _, c4, _⟩ := h
  obtain ⟨hkl, ao, cap, rfl⟩ := hK.shape
  clear hK
  rw [hk] at c0
  go_enter Tryz.func45, Tryz.ntmps45
  go_wp2
  go_region_with (go_at_call 68; refine of66.mono ?_; rintro e w1 ⟨rfl, rfl⟩)
  all_goals
    obtain ⟨W, hW⟩ : ∃ W, W = ((w.alloc (.cells #[.int .i64 16] 3)).alloc (.cells #[.slice (some ⟨w.heap.size, 0, none⟩) 1 1] 93)).drew := ⟨_, rfl⟩
    have hB : Below w.heap.size w W := by rw [hW]; exact belA _ _ _
    have HT : Hid (AskV (.func (.func 98) #[] #[.pointer (some ⟨w.heap.size + 1, 0, none⟩)]) (ofK [16]) W) := by
      rw [hW]
      exact (ask_of (l := [16]) (by simp) _ _ _ rfl rfl rfl).below ((Below.refl _ _).drew)
    have d0 := (hB.cell (p := ⟨b, o, none⟩) hb).trans c0
    have hbW := Nat.lt_of_lt_of_le hb hB.size
    have HB := hid' hB
    rw [← hW]
    clear hW hB c0 c4
    go_wp2_with (first
      | (go_at_call 69; refine (HARE.out _ [(.func (.func 44) #[] #[], isExpr), (.func (.func 44) #[] #[], isExpr), (.func (.func 44) #[] #[], isExpr)] HB.out (ansC (ask35 _) (ansC (ask35 _) (ansC (ask35 _) (ans0 _)))) (by simp) _ _ (by first | rfl | simp) rfl).mono ?_; rintro e w2 ⟨rfl, hb2⟩; replace hb2 := hid' hb2))
    go_ret
    exact ⟨rfl, hb2.out⟩

set_option maxHeartbeats 4000000 in
theorem expr14 {w : World} {b o : Nat} {x : NdH} {kv : Value} {n cb : Nat} {ks : List Tr} (h : NdAt w b o x kv) (hb : b < w.heap.size) (hK : Ks cb n w kv ks) (hk : x.kind = 14) :
    Calls Tryz.prog 45 #[.pointer (some ⟨b, o, none⟩)] w fun e w' => e = .returned (.bool (areK [ofK [16], isExpr] ks)) ∧ Below w.heap.size w w' := by
  have HARE := are_of hK
  have HALL := all_ask hK
  obtain ⟨c0, _, _, _, c4, _⟩ := h
  obtain ⟨hkl, ao, cap, rfl⟩ := hK.shape
  clear hK
  rw [hk] at c0
  go_enter Tryz.func45, Tryz.ntmps45
  go_wp2
  go_region_with (go_at_call 68; refine of66.mono ?_; rintro e w1 ⟨rfl, rfl⟩)
  all_goals
    obtain ⟨W, hW⟩ : ∃ W, W = ((w.alloc (.cells #[.int .i64 16] 3)).alloc (.cells #[.slice (some ⟨w.heap.size, 0, none⟩) 1 1] 93)).drew := ⟨_, rfl⟩
    have hB : Below w.heap.size w W := by rw [hW]; exact belA _ _ _
    have HT : Hid (AskV (.func (.func 98) #[] #[.pointer (some ⟨w.heap.size + 1, 0, none⟩)]) (ofK [16]) W) := by
      rw [hW]
      exact (ask_of (l := [16]) (by simp) _ _ _ rfl rfl rfl).below ((Below.refl _ _).drew)
    have d0 := (hB.cell (p := ⟨b, o, none⟩) hb).trans c0
    have hbW := Nat.lt_of_lt_of_le hb hB.size
    have HB := hid' hB
    rw [← hW]
    clear hW hB c0 c4
    go_wp2_with (first
      | (go_at_call 69; refine (HARE.out _ [(.func (.func 98) #[] #[.pointer (some ⟨w.heap.size + 1, 0, none⟩)], ofK [16]), (.func (.func 44) #[] #[], isExpr)] HB.out (ansC HT.out (ansC (ask35 _) (ans0 _))) (by simp) _ _ (by first | rfl | simp) rfl).mono ?_; rintro e w2 ⟨rfl, hb2⟩; replace hb2 := hid' hb2))
    go_ret
    exact ⟨rfl, hb2.out⟩
end Go.Proofs.YtnnnfabpceapcaaGreatDoor

namespace Go.Proofs.YtnnnfabpceapcaaGreatDoor
set_option linter.unusedSimpArgs false
open Go.RowKit
set_option linter.unusedVariables false

set_option maxHeartbeats 4000000 in
theorem expr2 {w : World} {b o : Nat} {x : NdH} {kv : Value} {n cb : Nat} {ks : List Tr} (h : NdAt w b o x kv) (hb : b < w.heap.size) (hK : Ks cb n w kv ks) (hk : x.kind = 2) :
    Calls Tryz.prog 45 #[.pointer (some ⟨b, o, none⟩)] w fun e w' => e = .returned (.bool (areK [] ks)) ∧ Below w.heap.size w w' := by
  have HARE := are_of hK
  have HALL := all_ask hK
  have HNON : Hid (∀ W, Below w.heap.size w W → Calls Tryz.prog 69 #[kv, .slice none 0 0] W fun e w' => e = .returned (.bool (areK [] ks)) ∧ Below w.heap.size w w') := fun W hW => (are67 (Asks.none_ W) (hK.below hW)).mono fun e w' q => ⟨q.1, below_on hW q.2⟩
  obtain ⟨c0, _, _, _, c4, _⟩ := h
  obtain ⟨hkl, ao, cap, rfl⟩ := hK.shape
  clear hK
  rw [hk] at c0
  go_enter Tryz.func45, Tryz.ntmps45
  go_wp2
  go_region_with (go_at_call 68; refine of66.mono ?_; rintro e w1 ⟨rfl, rfl⟩)
  all_goals
    obtain ⟨W, hW⟩ : ∃ W, W = ((w.alloc (.cells #[.int .i64 16] 3)).alloc (.cells #[.slice (some ⟨w.heap.size, 0, none⟩) 1 1] 93)).drew := ⟨_, rfl⟩
    have hB : Below w.heap.size w W := by rw [hW]; exact belA _ _ _
    have HT : Hid (AskV (.func (.func 98) #[] #[.pointer (some ⟨w.heap.size + 1, 0, none⟩)]) (ofK [16]) W) := by
      rw [hW]
      exact (ask_of (l := [16]) (by simp) _ _ _ rfl rfl rfl).below ((Below.refl _ _).drew)
    have d0 := (hB.cell (p := ⟨b, o, none⟩) hb).trans c0
    have hbW := Nat.lt_of_lt_of_le hb hB.size
    have HB := hid' hB
    rw [← hW]
    clear hW hB c0 c4
    go_wp2_with (first
      | (go_at_call 69; refine (HNON.out _ HB.out).mono ?_; rintro e w2 ⟨rfl, hb2⟩; replace hb2 := hid' hb2))
    go_ret
    exact ⟨rfl, hb2.out⟩

set_option maxHeartbeats 4000000 in
theorem expr3 {w : World} {b o : Nat} {x : NdH} {kv : Value} {n cb : Nat} {ks : List Tr} (h : NdAt w b o x kv) (hb : b < w.heap.size) (hK : Ks cb n w kv ks) (hk : x.kind = 3) :
    Calls Tryz.prog 45 #[.pointer (some ⟨b, o, none⟩)] w fun e w' => e = .returned (.bool (areK [] ks)) ∧ Below w.heap.size w w' := by
  have HARE := are_of hK
  have HALL := all_ask hK
  have HNON : Hid (∀ W, Below w.heap.size w W → Calls Tryz.prog 69 #[kv, .slice none 0 0] W fun e w' => e = .returned (.bool (areK [] ks)) ∧ Below w.heap.size w w') := fun W hW => (are67 (Asks.none_ W) (hK.below hW)).mono fun e w' q => ⟨q.1, below_on hW q.2⟩
  obtain ⟨c0, _, _, _, c4, _⟩ := h
  obtain ⟨hkl, ao, cap, rfl⟩ := hK.shape
  clear hK
  rw [hk] at c0
  go_enter Tryz.func45, Tryz.ntmps45
  go_wp2
  go_region_with (go_at_call 68; refine of66.mono ?_; rintro e w1 ⟨rfl, rfl⟩)
  all_goals
    obtain ⟨W, hW⟩ : ∃ W, W = ((w.alloc (.cells #[.int .i64 16] 3)).alloc (.cells #[.slice (some ⟨w.heap.size, 0, none⟩) 1 1] 93)).drew := ⟨_, rfl⟩
    have hB : Below w.heap.size w W := by rw [hW]; exact belA _ _ _
    have HT : Hid (AskV (.func (.func 98) #[] #[.pointer (some ⟨w.heap.size + 1, 0, none⟩)]) (ofK [16]) W) := by
      rw [hW]
      exact (ask_of (l := [16]) (by simp) _ _ _ rfl rfl rfl).below ((Below.refl _ _).drew)
    have d0 := (hB.cell (p := ⟨b, o, none⟩) hb).trans c0
    have hbW := Nat.lt_of_lt_of_le hb hB.size
    have HB := hid' hB
    rw [← hW]
    clear hW hB c0 c4
    go_wp2_with (first
      | (go_at_call 69; refine (HNON.out _ HB.out).mono ?_; rintro e w2 ⟨rfl, hb2⟩; replace hb2 := hid' hb2))
    go_ret
    exact ⟨rfl, hb2.out⟩

set_option maxHeartbeats 4000000 in
theorem expr4 {w : World} {b o : Nat} {x : NdH} {kv : Value} {n cb : Nat} {ks : List Tr} (h : NdAt w b o x kv) (hb : b < w.heap.size) (hK : Ks cb n w kv ks) (hk : x.kind = 4) :
    Calls Tryz.prog 45 #[.pointer (some ⟨b, o, none⟩)] w fun e w' => e = .returned (.bool (areK [] ks)) ∧ Below w.heap.size w w' := by
  have HARE := are_of hK
  have HALL := all_ask hK
  have HNON : Hid (∀ W, Below w.heap.size w W → Calls Tryz.prog 69 #[kv, .slice none 0 0] W fun e w' => e = .returned (.bool (areK [] ks)) ∧ Below w.heap.size w w') := fun W hW => (are67 (Asks.none_ W) (hK.below hW)).mono fun e w' q => ⟨q.1, below_on hW q.2⟩
  obtain ⟨c0, _, _, _, c4, _⟩ := h
  obtain ⟨hkl, ao, cap, rfl⟩ := hK.shape
  clear hK
  rw [hk] at c0
  go_enter Tryz.func45, Tryz.ntmps45
  go_wp2
  go_region_with (go_at_call 68; refine of66.mono ?_; rintro e w1 ⟨rfl, rfl⟩)
  all_goals
    obtain ⟨W, hW⟩ : ∃ W, W = ((w.alloc (.cells #[.int .i64 16] 3)).alloc (.cells #[.slice (some ⟨w.heap.size, 0, none⟩) 1 1] 93)).drew := ⟨_, rfl⟩
    have hB : Below w.heap.size w W := by rw [hW]; exact belA _ _ _
    have HT : Hid (AskV (.func (.func 98) #[] #[.pointer (some ⟨w.heap.size + 1, 0, none⟩)]) (ofK [16]) W) := by
      rw [hW]
      exact (ask_of (l := [16]) (by simp) _ _ _ rfl rfl rfl).below ((Below.refl _ _).drew)
    have d0 := (hB.cell (p := ⟨b, o, none⟩) hb).trans c0
    have hbW := Nat.lt_of_lt_of_le hb hB.size
    have HB := hid' hB
    rw [← hW]
    clear hW hB c0 c4
    go_wp2_with (first
      | (go_at_call 69; refine (HNON.out _ HB.out).mono ?_; rintro e w2 ⟨rfl, hb2⟩; replace hb2 := hid' hb2))
    go_ret
    exact ⟨rfl, hb2.out⟩

set_option maxHeartbeats 4000000 in
theorem expr13 {w : World} {b o : Nat} {x : NdH} {kv : Value} {n cb : Nat} {ks : List Tr} (h : NdAt w b o x kv) (hb : b < w.heap.size) (hK : Ks cb n w kv ks) (hk : x.kind = 13) :
    Calls Tryz.prog 45 #[.pointer (some ⟨b, o, none⟩)] w fun e w' => e = .returned (.bool (areK [ofK [4, 5, 6, 7], isExpr] ks)) ∧ Below w.heap.size w w' := by
  have HARE := are_of hK
  have HALL := all_ask hK
  obtain ⟨c0, _, _, _, c4, _⟩ := h
  obtain ⟨hkl, ao, cap, rfl⟩ := hK.shape
  clear hK
  rw [hk] at c0
  go_enter Tryz.func45, Tryz.ntmps45
  go_wp2
  go_region_with (go_at_call 68; refine of66.mono ?_; rintro e w1 ⟨rfl, rfl⟩)
  all_goals
    obtain ⟨W, hW⟩ : ∃ W, W = ((w.alloc (.cells #[.int .i64 16] 3)).alloc (.cells #[.slice (some ⟨w.heap.size, 0, none⟩) 1 1] 93)).drew := ⟨_, rfl⟩
    have hB : Below w.heap.size w W := by rw [hW]; exact belA _ _ _
    have HT : Hid (AskV (.func (.func 98) #[] #[.pointer (some ⟨w.heap.size + 1, 0, none⟩)]) (ofK [16]) W) := by
      rw [hW]
      exact (ask_of (l := [16]) (by simp) _ _ _ rfl rfl rfl).below ((Below.refl _ _).drew)
    have d0 := (hB.cell (p := ⟨b, o, none⟩) hb).trans c0
    have hbW := Nat.lt_of_lt_of_le hb hB.size
    have HB := hid' hB
    rw [← hW]
    clear hW hB c0 c4
    go_wp2_with (first
      | (go_at_call 69; refine (HARE.out _ [(_, ofK [4, 5, 6, 7]), (.func (.func 44) #[] #[], isExpr)] (below_on HB.out ((below1 _ _).alloc (by simp) _)) (ansC (ask_of (l := [4, 5, 6, 7]) (by simp) _ _ _ rfl rfl rfl) (ansC (ask35 _) (ans0 _))) (by simp) _ _ (by first | rfl | simp) rfl).mono ?_; rintro e w2 ⟨rfl, hb2⟩; replace hb2 := hid' hb2)
      | (go_at_call 68; refine of66.mono ?_; rintro e w1 ⟨rfl, rfl⟩))
    go_ret
    exact ⟨rfl, hb2.out⟩

set_option maxHeartbeats 4000000 in
theorem expr15 {w : World} {b o : Nat} {x : NdH} {kv : Value} {n cb : Nat} {ks : List Tr} (h : NdAt w b o x kv) (hb : b < w.heap.size) (hK : Ks cb n w kv ks) (hk : x.kind = 15) :
    Calls Tryz.prog 45 #[.pointer (some ⟨b, o, none⟩)] w fun e w' => e = .returned (.bool (areK [orK [ofK [16], isExpr]] ks)) ∧ Below w.heap.size w w' := by
  have HARE := are_of hK
  have HALL := all_ask hK
  obtain ⟨c0, _, _, _, c4, _⟩ := h
  obtain ⟨hkl, ao, cap, rfl⟩ := hK.shape
  clear hK
  rw [hk] at c0
  go_enter Tryz.func45, Tryz.ntmps45
  go_wp2
  go_region_with (go_at_call 68; refine of66.mono ?_; rintro e w1 ⟨rfl, rfl⟩)
  all_goals
    obtain ⟨W, hW⟩ : ∃ W, W = ((w.alloc (.cells #[.int .i64 16] 3)).alloc (.cells #[.slice (some ⟨w.heap.size, 0, none⟩) 1 1] 93)).drew := ⟨_, rfl⟩
    have hB : Below w.heap.size w W := by rw [hW]; exact belA _ _ _
    have HT : Hid (AskV (.func (.func 98) #[] #[.pointer (some ⟨w.heap.size + 1, 0, none⟩)]) (ofK [16]) W) := by
      rw [hW]
      exact (ask_of (l := [16]) (by simp) _ _ _ rfl rfl rfl).below ((Below.refl _ _).drew)
    have d0 := (hB.cell (p := ⟨b, o, none⟩) hb).trans c0
    have hbW := Nat.lt_of_lt_of_le hb hB.size
    have HB := hid' hB
    rw [← hW]
    clear hW hB c0 c4
    go_wp2_with (first
      | (go_at_call 69; refine (HARE.out _ [(_, orK [ofK [16], isExpr])] (below_on HB.out ((below1 _ _).alloc (by simp) _)) (ansC (ask_or (L := [(.func (.func 98) #[] #[.pointer (some ⟨w.heap.size + 1, 0, none⟩)], ofK [16]), (.func (.func 44) #[] #[], isExpr)]) (ansC HT.out (ansC (ask35 _) (ans0 _))) (by simp) _ _ _ rfl rfl rfl) (ans0 _)) (by simp) _ _ (by first | rfl | simp) rfl).mono ?_; rintro e w2 ⟨rfl, hb2⟩; replace hb2 := hid' hb2)
      | (go_at_call 71; refine either69.mono ?_; rintro e w1 ⟨rfl, rfl⟩))
    go_ret
    exact ⟨rfl, hb2.out⟩
end Go.Proofs.YtnnnfabpceapcaaGreatDoor
