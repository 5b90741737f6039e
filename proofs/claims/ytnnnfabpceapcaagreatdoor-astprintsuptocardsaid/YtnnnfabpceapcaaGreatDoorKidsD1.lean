/- What kids a declaration may have: struct, list, parameter. -/
import Derived.Test.YtnnnfabpceapcaaGreatDoorKidsC
import Derived.Test.YtnnnfabpceapcaaGreatDoorQuiet
import Derived.Test.YtnnnfabpceapcaaGreatDoorSame2
import Derived.Test.YtnnnfabpceapcaaGreatDoorTextSt
namespace Go.Proofs.YtnnnfabpceapcaaGreatDoor
set_option linter.unusedSimpArgs false
open Go.RowKit
set_option linter.unusedVariables false

set_option maxHeartbeats 8000000 in
theorem decl41 {w : World} {b o : Nat} {x : NdH} {kv : Value} {n cb : Nat} {ks : List Tr} (h : NdAt w b o x kv) (hb : b < w.heap.size) (hK : Ks cb n w kv (ks)) (hk : x.kind = 41) :
    Calls Tryz.prog 48 #[.pointer (some ⟨b, o, none⟩)] w fun e w' => e = .returned (.bool (allK bareK ks)) ∧ Below w.heap.size w w' := by
  have HARE := are_of hK
  have HALL := all_ask hK
  have HK := hid' hK
  obtain ⟨c0, _, _, _, c4, _⟩ := h
  obtain ⟨hkl, ao, cap, rfl⟩ := hK.shape
  clear hK
  rw [hk] at c0
  go_enter Tryz.func48, Tryz.ntmps48
  go_wp2
  go_region_with (go_at_call 68; refine of66.mono ?_; rintro e w1 ⟨rfl, rfl⟩)
  all_goals
    obtain ⟨W, hW⟩ : ∃ W, W = ((w.alloc (.cells #[.int .i64 16] 3)).alloc (.cells #[.slice (some ⟨w.heap.size, 0, none⟩) 1 1] 93)).drew := ⟨_, rfl⟩
    have hB : Below w.heap.size w W := by rw [hW]; exact belA _ _ _
    have HT : Hid (AskV (.func (.func 98) #[] #[.pointer (some ⟨w.heap.size + 1, 0, none⟩)]) (ofK [16]) W) := by
      rw [hW]
      exact (ask_of (l := [16]) (by simp) _ _ _ rfl rfl rfl).below ((Below.refl _ _).drew)
    have d0 := (hB.cell (p := ⟨b, o, none⟩) hb).trans c0
    have hbW := Nat.lt_of_lt_of_le hb hB.size
    have HB := hid' hB
    rw [← hW]
    clear hW hB c0 c4
    go_wp2_with (first
      | (go_at_call 70; refine (HALL.out _ _ bareK HB.out (ask71 _)).mono ?_; rintro e w2 ⟨rfl, hb2⟩; replace hb2 := hid' hb2))
    go_ret
    exact ⟨rfl, hb2.out⟩

set_option maxHeartbeats 8000000 in
theorem decl46 {w : World} {b o : Nat} {x : NdH} {kv : Value} {n cb : Nat} {ks : List Tr} (h : NdAt w b o x kv) (hb : b < w.heap.size) (hK : Ks cb n w kv (ks)) (hk : x.kind = 46) :
    Calls Tryz.prog 48 #[.pointer (some ⟨b, o, none⟩)] w fun e w' => e = .returned (.bool (areK [ofK [16]] ks)) ∧ Below w.heap.size w w' := by
  have HARE := are_of hK
  have HALL := all_ask hK
  have HK := hid' hK
  obtain ⟨c0, _, _, _, c4, _⟩ := h
  obtain ⟨hkl, ao, cap, rfl⟩ := hK.shape
  clear hK
  rw [hk] at c0
  go_enter Tryz.func48, Tryz.ntmps48
  go_wp2
  go_region_with (go_at_call 68; refine of66.mono ?_; rintro e w1 ⟨rfl, rfl⟩)
  all_goals
    obtain ⟨W, hW⟩ : ∃ W, W = ((w.alloc (.cells #[.int .i64 16] 3)).alloc (.cells #[.slice (some ⟨w.heap.size, 0, none⟩) 1 1] 93)).drew := ⟨_, rfl⟩
    have hB : Below w.heap.size w W := by rw [hW]; exact belA _ _ _
    have HT : Hid (AskV (.func (.func 98) #[] #[.pointer (some ⟨w.heap.size + 1, 0, none⟩)]) (ofK [16]) W) := by
      rw [hW]
      exact (ask_of (l := [16]) (by simp) _ _ _ rfl rfl rfl).below ((Below.refl _ _).drew)
    have d0 := (hB.cell (p := ⟨b, o, none⟩) hb).trans c0
    have hbW := Nat.lt_of_lt_of_le hb hB.size
    have HB := hid' hB
    rw [← hW]
    clear hW hB c0 c4
    go_wp2_with (first
      | (go_at_call 69; refine (HARE.out _ [(.func (.func 98) #[] #[.pointer (some ⟨w.heap.size + 1, 0, none⟩)], ofK [16])] HB.out (ansC HT.out (ans0 _)) (by simp) _ _ (by first | rfl | simp) rfl).mono ?_; rintro e w2 ⟨rfl, hb2⟩; replace hb2 := hid' hb2))
    go_ret
    exact ⟨rfl, hb2.out⟩

set_option maxHeartbeats 8000000 in
theorem decl44_y {w : World} {b o : Nat} {x : NdH} {kv : Value} {n cb : Nat} {ks : List Tr} (h : NdAt w b o x kv) (hb : b < w.heap.size) (hK : Ks cb n w kv (ks)) (hk : x.kind = 44) (hl : 1 ≤ ks.length) :
    Calls Tryz.prog 48 #[.pointer (some ⟨b, o, none⟩)] w fun e w' => e = .returned (.bool (allK isExpr ks)) ∧ Below w.heap.size w w' := by
  have HARE := are_of hK
  have HALL := all_ask hK
  have HK := hid' hK
  obtain ⟨c0, _, _, _, c4, _⟩ := h
  obtain ⟨hkl, ao, cap, rfl⟩ := hK.shape
  clear hK
  rw [hk] at c0
  go_enter Tryz.func48, Tryz.ntmps48
  go_wp2
  go_region_with (go_at_call 68; refine of66.mono ?_; rintro e w1 ⟨rfl, rfl⟩)
  all_goals
    obtain ⟨W, hW⟩ : ∃ W, W = ((w.alloc (.cells #[.int .i64 16] 3)).alloc (.cells #[.slice (some ⟨w.heap.size, 0, none⟩) 1 1] 93)).drew := ⟨_, rfl⟩
    have hB : Below w.heap.size w W := by rw [hW]; exact belA _ _ _
    have HT : Hid (AskV (.func (.func 98) #[] #[.pointer (some ⟨w.heap.size + 1, 0, none⟩)]) (ofK [16]) W) := by
      rw [hW]
      exact (ask_of (l := [16]) (by simp) _ _ _ rfl rfl rfl).below ((Below.refl _ _).drew)
    have d0 := (hB.cell (p := ⟨b, o, none⟩) hb).trans c0
    have hbW := Nat.lt_of_lt_of_le hb hB.size
    have HB := hid' hB
    rw [← hW]
    clear hW hB c0 c4
    go_wp2_with (first
      | (go_at_call 70; refine (HALL.out _ _ isExpr HB.out (ask35 _)).mono ?_; rintro e w2 ⟨rfl, hb2⟩; replace hb2 := hid' hb2))
    go_ret
    exact ⟨rfl, hb2.out⟩

set_option maxHeartbeats 8000000 in
theorem decl44_n {w : World} {b o : Nat} {x : NdH} {kv : Value} {n cb : Nat}  (h : NdAt w b o x kv) (hb : b < w.heap.size) (hK : Ks cb n w kv ([])) (hk : x.kind = 44) :
    Calls Tryz.prog 48 #[.pointer (some ⟨b, o, none⟩)] w fun e w' => e = .returned (.bool (false)) ∧ Below w.heap.size w w' := by
  have HARE := are_of hK
  have HALL := all_ask hK
  have HK := hid' hK
  obtain ⟨c0, _, _, _, c4, _⟩ := h
  obtain ⟨hkl, ao, cap, rfl⟩ := hK.shape
  clear hK
  rw [hk] at c0
  go_enter Tryz.func48, Tryz.ntmps48
  go_wp2
  go_region_with (go_at_call 68; refine of66.mono ?_; rintro e w1 ⟨rfl, rfl⟩)
  all_goals
    obtain ⟨W, hW⟩ : ∃ W, W = ((w.alloc (.cells #[.int .i64 16] 3)).alloc (.cells #[.slice (some ⟨w.heap.size, 0, none⟩) 1 1] 93)).drew := ⟨_, rfl⟩
    have hB : Below w.heap.size w W := by rw [hW]; exact belA _ _ _
    have HT : Hid (AskV (.func (.func 98) #[] #[.pointer (some ⟨w.heap.size + 1, 0, none⟩)]) (ofK [16]) W) := by
      rw [hW]
      exact (ask_of (l := [16]) (by simp) _ _ _ rfl rfl rfl).below ((Below.refl _ _).drew)
    have d0 := (hB.cell (p := ⟨b, o, none⟩) hb).trans c0
    have hbW := Nat.lt_of_lt_of_le hb hB.size
    have HB := hid' hB
    rw [← hW]
    clear hW hB c0 c4
    go_wp2
    go_ret
    exact ⟨rfl, HB.out⟩
end Go.Proofs.YtnnnfabpceapcaaGreatDoor

namespace Go.Proofs.YtnnnfabpceapcaaGreatDoor
set_option linter.unusedSimpArgs false
open Go.RowKit
set_option linter.unusedVariables false

set_option maxHeartbeats 8000000 in
theorem decl42_0 {w : World} {b o : Nat} {x : NdH} {kv : Value} {n cb : Nat}  (h : NdAt w b o x kv) (hb : b < w.heap.size) (hK : Ks cb n w kv ([])) (hk : x.kind = 42) :
    Calls Tryz.prog 48 #[.pointer (some ⟨b, o, none⟩)] w fun e w' => e = .returned (.bool (false)) ∧ Below w.heap.size w w' := by
  have HARE := are_of hK
  have HALL := all_ask hK
  have HK := hid' hK
  obtain ⟨c0, _, _, _, c4, _⟩ := h
  obtain ⟨hkl, ao, cap, rfl⟩ := hK.shape
  clear hK
  rw [hk] at c0
  go_enter Tryz.func48, Tryz.ntmps48
  go_wp2
  go_region_with (go_at_call 68; refine of66.mono ?_; rintro e w1 ⟨rfl, rfl⟩)
  all_goals
    obtain ⟨W, hW⟩ : ∃ W, W = ((w.alloc (.cells #[.int .i64 16] 3)).alloc (.cells #[.slice (some ⟨w.heap.size, 0, none⟩) 1 1] 93)).drew := ⟨_, rfl⟩
    have hB : Below w.heap.size w W := by rw [hW]; exact belA _ _ _
    have HT : Hid (AskV (.func (.func 98) #[] #[.pointer (some ⟨w.heap.size + 1, 0, none⟩)]) (ofK [16]) W) := by
      rw [hW]
      exact (ask_of (l := [16]) (by simp) _ _ _ rfl rfl rfl).below ((Below.refl _ _).drew)
    have d0 := (hB.cell (p := ⟨b, o, none⟩) hb).trans c0
    have hbW := Nat.lt_of_lt_of_le hb hB.size
    have HB := hid' hB
    rw [← hW]
    clear hW hB c0 c4
    go_wp2
    go_quiet (fail)
    go_wp2
    go_ret
    exact ⟨rfl, below_on HB.out (below_dr _ _)⟩

set_option maxHeartbeats 8000000 in
theorem decl42_1 {w : World} {b o : Nat} {x : NdH} {kv : Value} {n cb : Nat} {t : Tr} (h : NdAt w b o x kv) (hb : b < w.heap.size) (hK : Ks cb n w kv ([t])) (hk : x.kind = 42) :
    Calls Tryz.prog 48 #[.pointer (some ⟨b, o, none⟩)] w fun e w' => e = .returned (.bool (false)) ∧ Below w.heap.size w w' := by
  have HARE := are_of hK
  have HALL := all_ask hK
  have HK := hid' hK
  obtain ⟨c0, _, _, _, c4, _⟩ := h
  obtain ⟨hkl, ao, cap, rfl⟩ := hK.shape
  clear hK
  rw [hk] at c0
  go_enter Tryz.func48, Tryz.ntmps48
  go_wp2
  go_region_with (go_at_call 68; refine of66.mono ?_; rintro e w1 ⟨rfl, rfl⟩)
  all_goals
    obtain ⟨W, hW⟩ : ∃ W, W = ((w.alloc (.cells #[.int .i64 16] 3)).alloc (.cells #[.slice (some ⟨w.heap.size, 0, none⟩) 1 1] 93)).drew := ⟨_, rfl⟩
    have hB : Below w.heap.size w W := by rw [hW]; exact belA _ _ _
    have HT : Hid (AskV (.func (.func 98) #[] #[.pointer (some ⟨w.heap.size + 1, 0, none⟩)]) (ofK [16]) W) := by
      rw [hW]
      exact (ask_of (l := [16]) (by simp) _ _ _ rfl rfl rfl).below ((Below.refl _ _).drew)
    have d0 := (hB.cell (p := ⟨b, o, none⟩) hb).trans c0
    have hbW := Nat.lt_of_lt_of_le hb hB.size
    have HB := hid' hB
    rw [← hW]
    clear hW hB c0 c4
    go_wp2
    go_quiet (fail)
    go_wp2
    go_ret
    exact ⟨rfl, below_on HB.out (below_dr _ _)⟩

set_option maxHeartbeats 8000000 in
theorem decl42_n {w : World} {b o : Nat} {x : NdH} {kv : Value} {n cb : Nat} {t0 t1 : Tr} {r : List Tr} (h : NdAt w b o x kv) (hb : b < w.heap.size) (hK : Ks cb n w kv (t0 :: t1 :: r)) (hk : x.kind = 42) (hq : onT (ofK [16]) t0 = false) :
    Calls Tryz.prog 48 #[.pointer (some ⟨b, o, none⟩)] w fun e w' => e = .returned (.bool (false)) ∧ Below w.heap.size w w' := by
  have HARE := are_of hK
  have HALL := all_ask hK
  have HK := hid' hK
  obtain ⟨c0, _, _, _, c4, _⟩ := h
  obtain ⟨hkl, ao, cap, rfl⟩ := hK.shape
  obtain ⟨m0, b0, off, x0, kv0, ks0, _, rfl, ⟨hb0, _⟩, e0, hat0, hK0⟩ := hK.kid 0 (by simp)
  simp at e0 hat0
  subst e0
  have HAT0 := hid' hat0
  have HK0 := hid' hK0
  rw [onT_node] at hq
  have hroom := hK.room (by simp)
  simp at hkl hroom
  clear hat0 hK0
  clear hK
  rw [hk] at c0
  go_enter Tryz.func48, Tryz.ntmps48
  go_wp2
  go_region_with (go_at_call 68; refine of66.mono ?_; rintro e w1 ⟨rfl, rfl⟩)
  all_goals
    obtain ⟨W, hW⟩ : ∃ W, W = ((w.alloc (.cells #[.int .i64 16] 3)).alloc (.cells #[.slice (some ⟨w.heap.size, 0, none⟩) 1 1] 93)).drew := ⟨_, rfl⟩
    have hB : Below w.heap.size w W := by rw [hW]; exact belA _ _ _
    have HT : Hid (AskV (.func (.func 98) #[] #[.pointer (some ⟨w.heap.size + 1, 0, none⟩)]) (ofK [16]) W) := by
      rw [hW]
      exact (ask_of (l := [16]) (by simp) _ _ _ rfl rfl rfl).below ((Below.refl _ _).drew)
    have d0 := (hB.cell (p := ⟨b, o, none⟩) hb).trans c0
    have hbW := Nat.lt_of_lt_of_le hb hB.size
    have HB := hid' hB
    rw [← hW]
    clear hW hB c0 c4
    have HQ : Hid (∀ W', Below W.heap.size W W' → Calls Tryz.prog 98 #[.pointer (some ⟨b0, off, none⟩), .pointer (some ⟨w.heap.size + 1, 0, none⟩)] W' fun e w' => e = .returned (.bool false) ∧ Below W'.heap.size W' w') := fun W' hW' => by
      have hB := HB.out
      obtain ⟨g, caps, e, _, hc⟩ := HT.out
      injection e with e1 e2 e3
      injection e1 with e1
      subst e1 e3
      rw [← hq]
      exact hc W' b0 off x0 kv0 m0 ks0 cb hW' (HAT0.out.below (below_on hB hW') hb0) (Nat.lt_of_lt_of_le hb0 (below_on hB hW').size) (HK0.out.below (below_on hB hW'))
    have hix1 : (0 : Int) < ((r.length + 1 + 1 : Nat) : Int) := by omega
    have hix2 : (0 : Int) < (r.length : Int) + 1 + 1 := by omega
    have H82 := fun t : After W => Calls.after t (HQ.out t.1 t.2)
    go_wp2
    have hne := after_some W
    refine region_after 15 mixedS (by kernel_rfl) ?_
    simp only [List.take_succ_cons, List.take_zero, List.drop_succ_cons, List.drop_zero]
    repeat quiet_step (first | with_reducible exact H82 _)
    refine wpQuiet_nil ?_
    intro w5 hb5
    have HB5 := hid' hb5
    clear hb5
    go_wp2
    go_ret
    exact ⟨rfl, below_on HB.out HB5.out⟩
end Go.Proofs.YtnnnfabpceapcaaGreatDoor

namespace Go.Proofs.YtnnnfabpceapcaaGreatDoor
set_option linter.unusedSimpArgs false
open Go.RowKit
set_option linter.unusedVariables false

/-- either of an expression and one kind, as varKids makes it. -/
def eoW (w : World) (k : Int) : World := (((w.alloc (.cells #[.int .i64 k] 3)).alloc (.cells #[.slice (some ⟨w.heap.size, 0, none⟩) 1 1] 93)).alloc (.cells #[.func (.func 44) #[] #[], .func (.func 98) #[] #[.pointer (some ⟨w.heap.size + 1, 0, none⟩)]] 77)).alloc (.cells #[.slice (some ⟨w.heap.size + 1 + 1, 0, none⟩) 2 2] 95)
theorem eoW_size (w : World) (k : Int) : (eoW w k).heap.size = w.heap.size + 1 + 1 + 1 + 1 := by unfold eoW; simp
theorem eoW_below (w : World) (k : Int) : Below w.heap.size w (eoW w k) := by
  unfold eoW
  exact (((below1 _ _).alloc (by simp) _).alloc (by simp <;> omega) _).alloc (by simp <;> omega) _
theorem eoW_ask (w : World) (k : Int) : AskV (.func (.func 100) #[] #[.pointer (some ⟨w.heap.size + 1 + 1 + 1, 0, none⟩)]) (orK [isExpr, ofK [k]]) (eoW w k) :=
  ask_or (L := [(.func (.func 44) #[] #[], isExpr), (_, ofK [k])]) (ansC (ask35 _) (ansC (ask_of (l := [k]) (by simp) _ _ _ rfl rfl rfl) (ans0 _))) (by simp) _ _ _ (by simp) (by simp) rfl

set_option maxHeartbeats 8000000 in
theorem var72f {w : World} {b o : Nat} {x : NdH} {kv : Value} {n cb : Nat} {ks : List Tr} (h : NdAt w b o x kv) (hb : b < w.heap.size) (hK : Ks cb n w kv ks) (hf : x.flag = true) :
    Calls Tryz.prog 74 #[.pointer (some ⟨b, o, none⟩)] w fun e w' => e = .returned (.bool (areK [orK [isExpr, ofK [56]]] ks || areK [orK [isExpr, ofK [56]], orK [isExpr, ofK [44]]] ks)) ∧ Below w.heap.size w w' := by
  obtain ⟨W2, hW2⟩ : ∃ W2, W2 = eoW (eoW w 56) 44 := ⟨_, rfl⟩
  have hb1 := eoW_below w 56
  have hb2 : Below w.heap.size w W2 := by rw [hW2]; exact below_on hb1 (eoW_below _ 44)
  have hL : AskV (.func (.func 100) #[] #[.pointer (some ⟨w.heap.size + 1 + 1 + 1, 0, none⟩)]) (orK [isExpr, ofK [56]]) W2 := by rw [hW2]; exact (eoW_ask w 56).below (eoW_below _ 44)
  have hV : AskV (.func (.func 100) #[] #[.pointer (some ⟨w.heap.size + 1 + 1 + 1 + 1 + 1 + 1 + 1, 0, none⟩)]) (orK [isExpr, ofK [44]]) W2 := by
    have := eoW_ask (eoW w 56) 44
    rw [eoW_size] at this
    rw [hW2]
    exact this
  obtain ⟨W3, hW3⟩ : ∃ W3, W3 = W2.alloc (.cells #[.func (.func 100) #[] #[.pointer (some ⟨w.heap.size + 1 + 1 + 1, 0, none⟩)]] 77) := ⟨_, rfl⟩
  have hb3 : Below W2.heap.size W2 W3 := by rw [hW3]; exact below1 _ _
  have H1 : Hid (Calls Tryz.prog 69 #[kv, .slice (some ⟨W2.heap.size, 0, none⟩) 1 1] W3 fun e w' => e = .returned (.bool (areK [orK [isExpr, ofK [56]]] ks)) ∧ Below W3.heap.size W3 w') := by
    rw [hW3]
    exact are67 (asks_new (L := [(_, orK [isExpr, ofK [56]])]) (ansC hL (ans0 _)) (by simp)) (hK.below (below_on hb2 (below1 _ _)))
  have H2 : Hid (∀ W, Below W2.heap.size W2 W → ∀ p, p = W.heap.size → Calls Tryz.prog 69 #[kv, .slice (some ⟨p, 0, none⟩) 2 2] (W.alloc (.cells #[.func (.func 100) #[] #[.pointer (some ⟨w.heap.size + 1 + 1 + 1, 0, none⟩)], .func (.func 100) #[] #[.pointer (some ⟨w.heap.size + 1 + 1 + 1 + 1 + 1 + 1 + 1, 0, none⟩)]] 77)) fun e w' => e = .returned (.bool (areK [orK [isExpr, ofK [56]], orK [isExpr, ofK [44]]] ks)) ∧ Below W.heap.size W w') := fun W hW p hp => by
    subst hp
    exact (are67 (asks_new (L := [(_, orK [isExpr, ofK [56]]), (_, orK [isExpr, ofK [44]])]) (ansC (hL.below hW) (ansC (hV.below hW) (ans0 _))) (by simp)) (hK.below (below_on (below_on hb2 hW) (below1 _ _)))).mono fun e w' q => ⟨q.1, below_on (below1 _ _) q.2⟩
  have HD : Hid (∀ W, Below w.heap.size w W → NdAt W b o x kv ∧ b < W.heap.size) := fun W hW => ⟨h.below hW hb, Nat.lt_of_lt_of_le hb hW.size⟩
  have HB2 := hid' hb2
  have HB3 := hid' hb3
  have hat := h
  obtain ⟨c0, _, _, c3, c4, _⟩ := h
  obtain ⟨hkl, ao, cap, rfl⟩ := hK.shape
  have d4 : W2.cell? ⟨b, o + 4, none⟩ = some (.slice ao ks.length cap) := (hat.below hb2 hb).2.2.2.2.1
  have hl2 : b < W2.heap.size := Nat.lt_of_lt_of_le hb hb2.size
  clear hK hL hV hb1 hb2 hb3 hat
  rw [hf] at c3
  unfold eoW at hW2
  simp only [World.size_alloc] at hW2
  go_enter Tryz.func74, Tryz.ntmps74
  go_upto_region 5 with (first
    | (go_at_call 68; refine of66.mono ?_; rintro e w1 ⟨rfl, rfl⟩)
    | (go_at_call 71; refine either69.mono ?_; rintro e w1 ⟨rfl, rfl⟩))
  rw [← hW2]
  clear hW2 c0 c3 c4
  cases hq : areK [orK [isExpr, ofK [56]]] ks with
  | true =>
    rw [hq] at H1
    go_wp2_with (go_at_call 69; rw [← hW3]; refine H1.out.mono ?_; rintro e w4 ⟨rfl, hb4⟩; replace hb4 := hid' hb4)
    go_ret
    exact ⟨by rw [hq]; rfl, below_on HB2.out (below_on HB3.out hb4.out)⟩
  | false =>
    rw [hq] at H1
    go_wp2_with (first
      | (go_at_call 69; refine (H2.out w4 (below_on HB3.out hb4.out) _ rfl).mono ?_; rintro e w5 ⟨rfl, hb5⟩; replace hb5 := hid' hb5)
      | (go_at_call 69; rw [← hW3]; refine H1.out.mono ?_; rintro e w4 ⟨rfl, hb4⟩; obtain ⟨⟨_, _, _, _, g4, _⟩, gl⟩ := HD.out w4 (below_on HB2.out (below_on HB3.out hb4)); replace hb4 := hid' hb4))
    go_ret
    exact ⟨by rw [hq]; rfl, below_on HB2.out (below_on HB3.out (below_on hb4.out hb5.out))⟩
end Go.Proofs.YtnnnfabpceapcaaGreatDoor
