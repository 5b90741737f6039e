/- What kids a statement may have: blocks. -/
import Derived.Test.YtnnnfabpceapcaaGreatDoorKidsC
namespace Go.Proofs.YtnnnfabpceapcaaGreatDoor
set_option linter.unusedSimpArgs false
open Go.RowKit
set_option linter.unusedVariables false

set_option maxHeartbeats 8000000 in
theorem stmt56 {w : World} {b o : Nat} {x : NdH} {kv : Value} {n cb : Nat} {ks : List Tr} (h : NdAt w b o x kv) (hb : b < w.heap.size) (hK : Ks cb n w kv ks) (hk : x.kind = 56) :
    Calls Tryz.prog 47 #[.pointer (some ⟨b, o, none⟩)] w fun e w' => e = .returned (.bool (areK [] ks)) ∧ Below w.heap.size w w' := by
  have HARE := are_of hK
  have HALL := all_ask hK
  have HNON : Hid (∀ W, Below w.heap.size w W → Calls Tryz.prog 69 #[kv, .slice none 0 0] W fun e w' => e = .returned (.bool (areK [] ks)) ∧ Below w.heap.size w w') := fun W hW => (are67 (Asks.none_ W) (hK.below hW)).mono fun e w' q => ⟨q.1, below_on hW q.2⟩
  obtain ⟨c0, _, _, _, c4, _⟩ := h
  obtain ⟨hkl, ao, cap, rfl⟩ := hK.shape
  clear hK
  rw [hk] at c0
  have hn0 : b ≠ w.heap.size := by omega
  have hn1 : b ≠ w.heap.size + 1 := by omega
  have hn2 : b ≠ w.heap.size + 1 + 1 := by omega
  have hn3 : b ≠ w.heap.size + 1 + 1 + 1 := by omega
  have hm0 : b < w.heap.size + 1 := by omega
  have hm1 : b < w.heap.size + 1 + 1 := by omega
  have hm2 : b < w.heap.size + 1 + 1 + 1 := by omega
  have hm3 : b < w.heap.size + 1 + 1 + 1 + 1 := by omega
  go_enter Tryz.func47, Tryz.ntmps47
  go_wp2
  go_region_with (first
    | (go_at_call 68; refine of66.mono ?_; rintro e w1 ⟨rfl, rfl⟩)
    | (go_at_call 71; refine either69.mono ?_; rintro e w1 ⟨rfl, rfl⟩))
  all_goals
    obtain ⟨W, hW⟩ : ∃ W, W = ((((w.alloc (.cells #[.int .i64 56] 3)).alloc (.cells #[.slice (some ⟨w.heap.size, 0, none⟩) 1 1] 93)).alloc (.cells #[.func (.func 44) #[] #[], .func (.func 98) #[] #[.pointer (some ⟨w.heap.size + 1, 0, none⟩)]] 77)).alloc (.cells #[.slice (some ⟨w.heap.size + 1 + 1, 0, none⟩) 2 2] 95)).drew := ⟨_, rfl⟩
    have hB : Below w.heap.size w W := by rw [hW]; exact ((((below1 _ _).alloc (by simp) _).alloc (by simp <;> omega) _).alloc (by simp <;> omega) _).drew
    have HP : Hid (AskV (.func (.func 100) #[] #[.pointer (some ⟨w.heap.size + 1 + 1 + 1, 0, none⟩)]) (orK [isExpr, ofK [56]]) W) := by
      rw [hW]
      exact (ask_or (L := [(.func (.func 44) #[] #[], isExpr), (_, ofK [56])]) (ansC (ask35 _) (ansC (ask_of (l := [56]) (by simp) _ _ _ rfl rfl rfl) (ans0 _))) (by simp) _ _ _ (by simp) (by simp) rfl).below ((Below.refl _ _).drew)
    have d0 := (hB.cell (p := ⟨b, o, none⟩) hb).trans c0
    have hbW := Nat.lt_of_lt_of_le hb hB.size
    have HB := hid' hB
    rw [← hW]
    clear hW hB c0 c4 hn0 hn1 hn2 hn3 hm0 hm1 hm2 hm3
    go_wp2_with (first
      | (go_at_call 69; refine (HNON.out _ HB.out).mono ?_; rintro e w2 ⟨rfl, hb2⟩; replace hb2 := hid' hb2))
    go_ret
    exact ⟨rfl, hb2.out⟩

set_option maxHeartbeats 8000000 in
theorem stmt47 {w : World} {b o : Nat} {x : NdH} {kv : Value} {n cb : Nat} {ks : List Tr} (h : NdAt w b o x kv) (hb : b < w.heap.size) (hK : Ks cb n w kv ks) (hk : x.kind = 47) :
    Calls Tryz.prog 47 #[.pointer (some ⟨b, o, none⟩)] w fun e w' => e = .returned (.bool (allK (orK [isStmt, ofK [42]]) ks)) ∧ Below w.heap.size w w' := by
  have HARE := are_of hK
  have HALL := all_ask hK
  have HNON : Hid (∀ W, Below w.heap.size w W → Calls Tryz.prog 69 #[kv, .slice none 0 0] W fun e w' => e = .returned (.bool (areK [] ks)) ∧ Below w.heap.size w w') := fun W hW => (are67 (Asks.none_ W) (hK.below hW)).mono fun e w' q => ⟨q.1, below_on hW q.2⟩
  obtain ⟨c0, _, _, _, c4, _⟩ := h
  obtain ⟨hkl, ao, cap, rfl⟩ := hK.shape
  clear hK
  rw [hk] at c0
  have hn0 : b ≠ w.heap.size := by omega
  have hn1 : b ≠ w.heap.size + 1 := by omega
  have hn2 : b ≠ w.heap.size + 1 + 1 := by omega
  have hn3 : b ≠ w.heap.size + 1 + 1 + 1 := by omega
  have hm0 : b < w.heap.size + 1 := by omega
  have hm1 : b < w.heap.size + 1 + 1 := by omega
  have hm2 : b < w.heap.size + 1 + 1 + 1 := by omega
  have hm3 : b < w.heap.size + 1 + 1 + 1 + 1 := by omega
  go_enter Tryz.func47, Tryz.ntmps47
  go_wp2
  go_region_with (first
    | (go_at_call 68; refine of66.mono ?_; rintro e w1 ⟨rfl, rfl⟩)
    | (go_at_call 71; refine either69.mono ?_; rintro e w1 ⟨rfl, rfl⟩))
  all_goals
    obtain ⟨W, hW⟩ : ∃ W, W = ((((w.alloc (.cells #[.int .i64 56] 3)).alloc (.cells #[.slice (some ⟨w.heap.size, 0, none⟩) 1 1] 93)).alloc (.cells #[.func (.func 44) #[] #[], .func (.func 98) #[] #[.pointer (some ⟨w.heap.size + 1, 0, none⟩)]] 77)).alloc (.cells #[.slice (some ⟨w.heap.size + 1 + 1, 0, none⟩) 2 2] 95)).drew := ⟨_, rfl⟩
    have hB : Below w.heap.size w W := by rw [hW]; exact ((((below1 _ _).alloc (by simp) _).alloc (by simp <;> omega) _).alloc (by simp <;> omega) _).drew
    have HP : Hid (AskV (.func (.func 100) #[] #[.pointer (some ⟨w.heap.size + 1 + 1 + 1, 0, none⟩)]) (orK [isExpr, ofK [56]]) W) := by
      rw [hW]
      exact (ask_or (L := [(.func (.func 44) #[] #[], isExpr), (_, ofK [56])]) (ansC (ask35 _) (ansC (ask_of (l := [56]) (by simp) _ _ _ rfl rfl rfl) (ans0 _))) (by simp) _ _ _ (by simp) (by simp) rfl).below ((Below.refl _ _).drew)
    have d0 := (hB.cell (p := ⟨b, o, none⟩) hb).trans c0
    have hbW := Nat.lt_of_lt_of_le hb hB.size
    have HB := hid' hB
    rw [← hW]
    clear hW hB c0 c4 hn0 hn1 hn2 hn3 hm0 hm1 hm2 hm3
    go_wp2_with (first
      | (go_at_call 70; refine (HALL.out _ _ (orK [isStmt, ofK [42]]) (below_on HB.out ((((below1 _ _).alloc (by simp) _).alloc (by simp <;> omega) _).alloc (by simp <;> omega) _)) (ask_or (L := [(.func (.func 46) #[] #[], isStmt), (_, ofK [42])]) (ansC (ask37 _) (ansC (ask_of (l := [42]) (by simp) _ _ _ rfl rfl rfl) (ans0 _))) (by simp) _ _ _ (by simp) (by simp) rfl)).mono ?_; rintro e w2 ⟨rfl, hb2⟩; replace hb2 := hid' hb2)
      | (go_at_call 68; refine of66.mono ?_; rintro e w1 ⟨rfl, rfl⟩)
      | (go_at_call 71; refine either69.mono ?_; rintro e w1 ⟨rfl, rfl⟩))
    go_ret
    exact ⟨rfl, hb2.out⟩
end Go.Proofs.YtnnnfabpceapcaaGreatDoor

namespace Go.Proofs.YtnnnfabpceapcaaGreatDoor
set_option linter.unusedSimpArgs false
open Go.RowKit
set_option linter.unusedVariables false

set_option maxHeartbeats 8000000 in
theorem stmt49_y {w : World} {b o : Nat} {x : NdH} {kv : Value} {n cb : Nat} {ks : List Tr} (h : NdAt w b o x kv) (hb : b < w.heap.size) (hK : Ks cb n w kv ks) (hk : x.kind = 49) (hq : areK [isExpr, isStmt] ks = true) :
    Calls Tryz.prog 47 #[.pointer (some ⟨b, o, none⟩)] w fun e w' => e = .returned (.bool (true)) ∧ Below w.heap.size w w' := by
  have HARE := are_of hK
  have HALL := all_ask hK
  have HNON : Hid (∀ W, Below w.heap.size w W → Calls Tryz.prog 69 #[kv, .slice none 0 0] W fun e w' => e = .returned (.bool (areK [] ks)) ∧ Below w.heap.size w w') := fun W hW => (are67 (Asks.none_ W) (hK.below hW)).mono fun e w' q => ⟨q.1, below_on hW q.2⟩
  have HF : Hid (∀ W, Below w.heap.size w W → ∀ p, p = W.heap.size → Calls Tryz.prog 69 #[kv, .slice (some ⟨p, 0, none⟩) 2 2] (W.alloc (.cells #[.func (.func 44) #[] #[], .func (.func 46) #[] #[]] 77)) fun e w' => e = .returned (.bool (areK [isExpr, isStmt] ks)) ∧ Below w.heap.size w w') := fun W hW p hp => HARE.out W [(.func (.func 44) #[] #[], isExpr), (.func (.func 46) #[] #[], isStmt)] hW (ansC (ask35 _) (ansC (ask37 _) (ans0 _))) (by simp) _ _ hp rfl
  rw [hq] at HF
  obtain ⟨c0, _, _, _, c4, _⟩ := h
  obtain ⟨hkl, ao, cap, rfl⟩ := hK.shape
  clear hK
  rw [hk] at c0
  have hn0 : b ≠ w.heap.size := by omega
  have hn1 : b ≠ w.heap.size + 1 := by omega
  have hn2 : b ≠ w.heap.size + 1 + 1 := by omega
  have hn3 : b ≠ w.heap.size + 1 + 1 + 1 := by omega
  have hm0 : b < w.heap.size + 1 := by omega
  have hm1 : b < w.heap.size + 1 + 1 := by omega
  have hm2 : b < w.heap.size + 1 + 1 + 1 := by omega
  have hm3 : b < w.heap.size + 1 + 1 + 1 + 1 := by omega
  go_enter Tryz.func47, Tryz.ntmps47
  go_wp2
  go_region_with (first
    | (go_at_call 68; refine of66.mono ?_; rintro e w1 ⟨rfl, rfl⟩)
    | (go_at_call 71; refine either69.mono ?_; rintro e w1 ⟨rfl, rfl⟩))
  all_goals
    obtain ⟨W, hW⟩ : ∃ W, W = ((((w.alloc (.cells #[.int .i64 56] 3)).alloc (.cells #[.slice (some ⟨w.heap.size, 0, none⟩) 1 1] 93)).alloc (.cells #[.func (.func 44) #[] #[], .func (.func 98) #[] #[.pointer (some ⟨w.heap.size + 1, 0, none⟩)]] 77)).alloc (.cells #[.slice (some ⟨w.heap.size + 1 + 1, 0, none⟩) 2 2] 95)).drew := ⟨_, rfl⟩
    have hB : Below w.heap.size w W := by rw [hW]; exact ((((below1 _ _).alloc (by simp) _).alloc (by simp <;> omega) _).alloc (by simp <;> omega) _).drew
    have HP : Hid (AskV (.func (.func 100) #[] #[.pointer (some ⟨w.heap.size + 1 + 1 + 1, 0, none⟩)]) (orK [isExpr, ofK [56]]) W) := by
      rw [hW]
      exact (ask_or (L := [(.func (.func 44) #[] #[], isExpr), (_, ofK [56])]) (ansC (ask35 _) (ansC (ask_of (l := [56]) (by simp) _ _ _ rfl rfl rfl) (ans0 _))) (by simp) _ _ _ (by simp) (by simp) rfl).below ((Below.refl _ _).drew)
    have d0 := (hB.cell (p := ⟨b, o, none⟩) hb).trans c0
    have hbW := Nat.lt_of_lt_of_le hb hB.size
    have HB := hid' hB
    rw [← hW]
    clear hW hB c0 c4 hn0 hn1 hn2 hn3 hm0 hm1 hm2 hm3
    go_wp2_with (first
      | (go_at_call 69; refine (HF.out _ HB.out _ rfl).mono ?_; rintro e w2 ⟨rfl, hb2⟩; replace hb2 := hid' hb2))
    go_ret
    exact ⟨rfl, hb2.out⟩

set_option maxHeartbeats 8000000 in
theorem stmt49_n {w : World} {b o : Nat} {x : NdH} {kv : Value} {n cb : Nat} {ks : List Tr} (h : NdAt w b o x kv) (hb : b < w.heap.size) (hK : Ks cb n w kv ks) (hk : x.kind = 49) (hq : areK [isExpr, isStmt] ks = false) :
    Calls Tryz.prog 47 #[.pointer (some ⟨b, o, none⟩)] w fun e w' => e = .returned (.bool (areK [isExpr, closedK, isStmt] ks)) ∧ Below w.heap.size w w' := by
  have HARE := are_of hK
  have HALL := all_ask hK
  have HNON : Hid (∀ W, Below w.heap.size w W → Calls Tryz.prog 69 #[kv, .slice none 0 0] W fun e w' => e = .returned (.bool (areK [] ks)) ∧ Below w.heap.size w w') := fun W hW => (are67 (Asks.none_ W) (hK.below hW)).mono fun e w' q => ⟨q.1, below_on hW q.2⟩
  have HF : Hid (∀ W, Below w.heap.size w W → ∀ p, p = W.heap.size → Calls Tryz.prog 69 #[kv, .slice (some ⟨p, 0, none⟩) 2 2] (W.alloc (.cells #[.func (.func 44) #[] #[], .func (.func 46) #[] #[]] 77)) fun e w' => e = .returned (.bool (areK [isExpr, isStmt] ks)) ∧ Below w.heap.size w w') := fun W hW p hp => HARE.out W [(.func (.func 44) #[] #[], isExpr), (.func (.func 46) #[] #[], isStmt)] hW (ansC (ask35 _) (ansC (ask37 _) (ans0 _))) (by simp) _ _ hp rfl
  rw [hq] at HF
  obtain ⟨c0, _, _, _, c4, _⟩ := h
  obtain ⟨hkl, ao, cap, rfl⟩ := hK.shape
  clear hK
  rw [hk] at c0
  have hn0 : b ≠ w.heap.size := by omega
  have hn1 : b ≠ w.heap.size + 1 := by omega
  have hn2 : b ≠ w.heap.size + 1 + 1 := by omega
  have hn3 : b ≠ w.heap.size + 1 + 1 + 1 := by omega
  have hm0 : b < w.heap.size + 1 := by omega
  have hm1 : b < w.heap.size + 1 + 1 := by omega
  have hm2 : b < w.heap.size + 1 + 1 + 1 := by omega
  have hm3 : b < w.heap.size + 1 + 1 + 1 + 1 := by omega
  go_enter Tryz.func47, Tryz.ntmps47
  go_wp2
  go_region_with (first
    | (go_at_call 68; refine of66.mono ?_; rintro e w1 ⟨rfl, rfl⟩)
    | (go_at_call 71; refine either69.mono ?_; rintro e w1 ⟨rfl, rfl⟩))
  all_goals
    obtain ⟨W, hW⟩ : ∃ W, W = ((((w.alloc (.cells #[.int .i64 56] 3)).alloc (.cells #[.slice (some ⟨w.heap.size, 0, none⟩) 1 1] 93)).alloc (.cells #[.func (.func 44) #[] #[], .func (.func 98) #[] #[.pointer (some ⟨w.heap.size + 1, 0, none⟩)]] 77)).alloc (.cells #[.slice (some ⟨w.heap.size + 1 + 1, 0, none⟩) 2 2] 95)).drew := ⟨_, rfl⟩
    have hB : Below w.heap.size w W := by rw [hW]; exact ((((below1 _ _).alloc (by simp) _).alloc (by simp <;> omega) _).alloc (by simp <;> omega) _).drew
    have HP : Hid (AskV (.func (.func 100) #[] #[.pointer (some ⟨w.heap.size + 1 + 1 + 1, 0, none⟩)]) (orK [isExpr, ofK [56]]) W) := by
      rw [hW]
      exact (ask_or (L := [(.func (.func 44) #[] #[], isExpr), (_, ofK [56])]) (ansC (ask35 _) (ansC (ask_of (l := [56]) (by simp) _ _ _ rfl rfl rfl) (ans0 _))) (by simp) _ _ _ (by simp) (by simp) rfl).below ((Below.refl _ _).drew)
    have d0 := (hB.cell (p := ⟨b, o, none⟩) hb).trans c0
    have hbW := Nat.lt_of_lt_of_le hb hB.size
    have HB := hid' hB
    rw [← hW]
    clear hW hB c0 c4 hn0 hn1 hn2 hn3 hm0 hm1 hm2 hm3
    go_wp2_with (first
      | (go_at_call 69; refine (HARE.out w2 [(.func (.func 44) #[] #[], isExpr), (.func (.func 72) #[] #[], closedK), (.func (.func 46) #[] #[], isStmt)] hb2.out (ansC (ask35 _) (ansC (ask70 _) (ansC (ask37 _) (ans0 _)))) (by simp) _ _ (by first | rfl | simp) rfl).mono ?_; rintro e w3 ⟨rfl, hb3⟩; replace hb3 := hid' hb3)
      | (go_at_call 69; refine (HF.out _ HB.out _ rfl).mono ?_; rintro e w2 ⟨rfl, hb2⟩; replace hb2 := hid' hb2))
    go_ret
    exact ⟨rfl, hb3.out⟩
end Go.Proofs.YtnnnfabpceapcaaGreatDoor

namespace Go.Proofs.YtnnnfabpceapcaaGreatDoor
set_option linter.unusedSimpArgs false
open Go.RowKit
set_option linter.unusedVariables false

set_option maxHeartbeats 8000000 in
theorem stmt55_y {w : World} {b o : Nat} {x : NdH} {kv : Value} {n cb : Nat} {ks : List Tr} (h : NdAt w b o x kv) (hb : b < w.heap.size) (hK : Ks cb n w kv ks) (hk : x.kind = 55) (hq : areK [] ks = true) :
    Calls Tryz.prog 47 #[.pointer (some ⟨b, o, none⟩)] w fun e w' => e = .returned (.bool (true)) ∧ Below w.heap.size w w' := by
  have HARE := are_of hK
  have HALL := all_ask hK
  have HNON : Hid (∀ W, Below w.heap.size w W → Calls Tryz.prog 69 #[kv, .slice none 0 0] W fun e w' => e = .returned (.bool (areK [] ks)) ∧ Below w.heap.size w w') := fun W hW => (are67 (Asks.none_ W) (hK.below hW)).mono fun e w' q => ⟨q.1, below_on hW q.2⟩
  have HF := HNON
  rw [hq] at HF
  obtain ⟨c0, _, _, _, c4, _⟩ := h
  obtain ⟨hkl, ao, cap, rfl⟩ := hK.shape
  clear hK
  rw [hk] at c0
  have hn0 : b ≠ w.heap.size := by omega
  have hn1 : b ≠ w.heap.size + 1 := by omega
  have hn2 : b ≠ w.heap.size + 1 + 1 := by omega
  have hn3 : b ≠ w.heap.size + 1 + 1 + 1 := by omega
  have hm0 : b < w.heap.size + 1 := by omega
  have hm1 : b < w.heap.size + 1 + 1 := by omega
  have hm2 : b < w.heap.size + 1 + 1 + 1 := by omega
  have hm3 : b < w.heap.size + 1 + 1 + 1 + 1 := by omega
  go_enter Tryz.func47, Tryz.ntmps47
  go_wp2
  go_region_with (first
    | (go_at_call 68; refine of66.mono ?_; rintro e w1 ⟨rfl, rfl⟩)
    | (go_at_call 71; refine either69.mono ?_; rintro e w1 ⟨rfl, rfl⟩))
  all_goals
    obtain ⟨W, hW⟩ : ∃ W, W = ((((w.alloc (.cells #[.int .i64 56] 3)).alloc (.cells #[.slice (some ⟨w.heap.size, 0, none⟩) 1 1] 93)).alloc (.cells #[.func (.func 44) #[] #[], .func (.func 98) #[] #[.pointer (some ⟨w.heap.size + 1, 0, none⟩)]] 77)).alloc (.cells #[.slice (some ⟨w.heap.size + 1 + 1, 0, none⟩) 2 2] 95)).drew := ⟨_, rfl⟩
    have hB : Below w.heap.size w W := by rw [hW]; exact ((((below1 _ _).alloc (by simp) _).alloc (by simp <;> omega) _).alloc (by simp <;> omega) _).drew
    have HP : Hid (AskV (.func (.func 100) #[] #[.pointer (some ⟨w.heap.size + 1 + 1 + 1, 0, none⟩)]) (orK [isExpr, ofK [56]]) W) := by
      rw [hW]
      exact (ask_or (L := [(.func (.func 44) #[] #[], isExpr), (_, ofK [56])]) (ansC (ask35 _) (ansC (ask_of (l := [56]) (by simp) _ _ _ rfl rfl rfl) (ans0 _))) (by simp) _ _ _ (by simp) (by simp) rfl).below ((Below.refl _ _).drew)
    have d0 := (hB.cell (p := ⟨b, o, none⟩) hb).trans c0
    have hbW := Nat.lt_of_lt_of_le hb hB.size
    have HB := hid' hB
    rw [← hW]
    clear hW hB c0 c4 hn0 hn1 hn2 hn3 hm0 hm1 hm2 hm3
    go_wp2_with (first
      | (go_at_call 69; refine (HF.out _ HB.out).mono ?_; rintro e w2 ⟨rfl, hb2⟩; replace hb2 := hid' hb2))
    go_ret
    exact ⟨rfl, hb2.out⟩

set_option maxHeartbeats 8000000 in
theorem stmt55_n {w : World} {b o : Nat} {x : NdH} {kv : Value} {n cb : Nat} {ks : List Tr} (h : NdAt w b o x kv) (hb : b < w.heap.size) (hK : Ks cb n w kv ks) (hk : x.kind = 55) (hq : areK [] ks = false) :
    Calls Tryz.prog 47 #[.pointer (some ⟨b, o, none⟩)] w fun e w' => e = .returned (.bool (areK [isExpr] ks)) ∧ Below w.heap.size w w' := by
  have HARE := are_of hK
  have HALL := all_ask hK
  have HNON : Hid (∀ W, Below w.heap.size w W → Calls Tryz.prog 69 #[kv, .slice none 0 0] W fun e w' => e = .returned (.bool (areK [] ks)) ∧ Below w.heap.size w w') := fun W hW => (are67 (Asks.none_ W) (hK.below hW)).mono fun e w' q => ⟨q.1, below_on hW q.2⟩
  have HF := HNON
  rw [hq] at HF
  obtain ⟨c0, _, _, _, c4, _⟩ := h
  obtain ⟨hkl, ao, cap, rfl⟩ := hK.shape
  clear hK
  rw [hk] at c0
  have hn0 : b ≠ w.heap.size := by omega
  have hn1 : b ≠ w.heap.size + 1 := by omega
  have hn2 : b ≠ w.heap.size + 1 + 1 := by omega
  have hn3 : b ≠ w.heap.size + 1 + 1 + 1 := by omega
  have hm0 : b < w.heap.size + 1 := by omega
  have hm1 : b < w.heap.size + 1 + 1 := by omega
  have hm2 : b < w.heap.size + 1 + 1 + 1 := by omega
  have hm3 : b < w.heap.size + 1 + 1 + 1 + 1 := by omega
  go_enter Tryz.func47, Tryz.ntmps47
  go_wp2
  go_region_with (first
    | (go_at_call 68; refine of66.mono ?_; rintro e w1 ⟨rfl, rfl⟩)
    | (go_at_call 71; refine either69.mono ?_; rintro e w1 ⟨rfl, rfl⟩))
  all_goals
    obtain ⟨W, hW⟩ : ∃ W, W = ((((w.alloc (.cells #[.int .i64 56] 3)).alloc (.cells #[.slice (some ⟨w.heap.size, 0, none⟩) 1 1] 93)).alloc (.cells #[.func (.func 44) #[] #[], .func (.func 98) #[] #[.pointer (some ⟨w.heap.size + 1, 0, none⟩)]] 77)).alloc (.cells #[.slice (some ⟨w.heap.size + 1 + 1, 0, none⟩) 2 2] 95)).drew := ⟨_, rfl⟩
    have hB : Below w.heap.size w W := by rw [hW]; exact ((((below1 _ _).alloc (by simp) _).alloc (by simp <;> omega) _).alloc (by simp <;> omega) _).drew
    have HP : Hid (AskV (.func (.func 100) #[] #[.pointer (some ⟨w.heap.size + 1 + 1 + 1, 0, none⟩)]) (orK [isExpr, ofK [56]]) W) := by
      rw [hW]
      exact (ask_or (L := [(.func (.func 44) #[] #[], isExpr), (_, ofK [56])]) (ansC (ask35 _) (ansC (ask_of (l := [56]) (by simp) _ _ _ rfl rfl rfl) (ans0 _))) (by simp) _ _ _ (by simp) (by simp) rfl).below ((Below.refl _ _).drew)
    have d0 := (hB.cell (p := ⟨b, o, none⟩) hb).trans c0
    have hbW := Nat.lt_of_lt_of_le hb hB.size
    have HB := hid' hB
    rw [← hW]
    clear hW hB c0 c4 hn0 hn1 hn2 hn3 hm0 hm1 hm2 hm3
    go_wp2_with (first
      | (go_at_call 69; refine (HARE.out w2 [(.func (.func 44) #[] #[], isExpr)] hb2.out (ansC (ask35 _) (ans0 _)) (by simp) _ _ (by first | rfl | simp) rfl).mono ?_; rintro e w3 ⟨rfl, hb3⟩; replace hb3 := hid' hb3)
      | (go_at_call 69; refine (HF.out _ HB.out).mono ?_; rintro e w2 ⟨rfl, hb2⟩; replace hb2 := hid' hb2))
    go_ret
    exact ⟨rfl, hb3.out⟩
end Go.Proofs.YtnnnfabpceapcaaGreatDoor
