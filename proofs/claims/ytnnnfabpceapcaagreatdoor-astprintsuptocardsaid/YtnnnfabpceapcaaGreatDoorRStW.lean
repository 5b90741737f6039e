/- The document's statement: its walks. -/
import Derived.Test.YtnnnfabpceapcaaGreatDoorRVarW
namespace Go.Proofs.YtnnnfabpceapcaaGreatDoor
set_option linter.unusedSimpArgs false
open Go.RowKit
set_option linter.unusedVariables false
set_option linter.unusedSimpArgs false

set_option maxHeartbeats 4000000 in
set_option maxRecDepth 20000 in
theorem st54_parts {w : World} {str : ByteArray} {num pos : Int} {flag : Bool} {kind : Int} {ka : Option Addr} {kn kc : Nat} (hP : ∀ W, Calls Tryz.prog 15 #[.agg #[.int .i64 kind, .string str, .int .u32 num, .bool flag, .slice ka kn kc, .int .i64 pos], .bool false, .bool false, .bool false] W fun e w' => e = .returned (.bool false) ∧ Below W.heap.size W w') :
    Calls Tryz.prog 54 #[.agg #[.int .i64 kind, .string str, .int .u32 num, .bool flag, .slice ka kn kc, .int .i64 pos]] w fun e w' => e = .returned (.bool false) ∧ Below w.heap.size w w' := by
  go_enter Tryz.func54, Tryz.ntmps54
  go_wp2_with (go_at_call 15; (with_reducible refine (hP _).mono ?_); rintro e1 w1 ⟨rfl, hb1⟩; obtain ⟨hc1, hf1⟩ := bcell hb1; have hs1 : w.heap.size < w1.heap.size := (by have := hb1.size; simp at this; omega))
  all_goals (go_ret; exact ⟨rfl, (below_on (below1 _ _) hb1)⟩)

set_option maxHeartbeats 4000000 in
set_option maxRecDepth 20000 in
theorem st54_other {w : World} {str : ByteArray} {num pos : Int} {flag : Bool} {kind : Int} {ka : Option Addr} {kn kc : Nat} (hP : ∀ W, Calls Tryz.prog 15 #[.agg #[.int .i64 kind, .string str, .int .u32 num, .bool flag, .slice ka kn kc, .int .i64 pos], .bool false, .bool false, .bool false] W fun e w' => e = .returned (.bool true) ∧ Below W.heap.size W w') (h47 : (kind == 47) = false) (h48 : (kind == 48) = false) (h49 : (kind == 49) = false) (h50 : (kind == 50) = false) (h51 : (kind == 51) = false) (h52 : (kind == 52) = false) (h53 : (kind == 53) = false) (h54 : (kind == 54) = false) (h55 : (kind == 55) = false) (h56 : (kind == 56) = false) :
    Calls Tryz.prog 54 #[.agg #[.int .i64 kind, .string str, .int .u32 num, .bool flag, .slice ka kn kc, .int .i64 pos]] w fun e w' => e = .returned (.bool false) ∧ Below w.heap.size w w' := by
  have g47 : ¬ kind = 47 := by intro h; rw [h] at h47; exact Bool.noConfusion h47
  have g48 : ¬ kind = 48 := by intro h; rw [h] at h48; exact Bool.noConfusion h48
  have g49 : ¬ kind = 49 := by intro h; rw [h] at h49; exact Bool.noConfusion h49
  have g50 : ¬ kind = 50 := by intro h; rw [h] at h50; exact Bool.noConfusion h50
  have g51 : ¬ kind = 51 := by intro h; rw [h] at h51; exact Bool.noConfusion h51
  have g52 : ¬ kind = 52 := by intro h; rw [h] at h52; exact Bool.noConfusion h52
  have g53 : ¬ kind = 53 := by intro h; rw [h] at h53; exact Bool.noConfusion h53
  have g54 : ¬ kind = 54 := by intro h; rw [h] at h54; exact Bool.noConfusion h54
  have g55 : ¬ kind = 55 := by intro h; rw [h] at h55; exact Bool.noConfusion h55
  have g56 : ¬ kind = 56 := by intro h; rw [h] at h56; exact Bool.noConfusion h56
  go_enter Tryz.func54, Tryz.ntmps54
  go_wp2_with (go_at_call 15; (with_reducible refine (hP _).mono ?_); rintro e1 w1 ⟨rfl, hb1⟩; obtain ⟨hc1, hf1⟩ := bcell hb1; have hs1 : w.heap.size < w1.heap.size := (by have := hb1.size; simp at this; omega))
  all_goals (go_ret; exact ⟨rfl, (below_on (below1 _ _) hb1)⟩)

set_option maxHeartbeats 4000000 in
set_option maxRecDepth 20000 in
theorem st54_47 {w : World} {str : ByteArray} {num pos : Int} {flag : Bool} {B : Bool} {ka : Option Addr} {kn kc : Nat} (hP : ∀ W, Calls Tryz.prog 15 #[.agg #[.int .i64 47, .string str, .int .u32 num, .bool flag, .slice ka kn kc, .int .i64 pos], .bool false, .bool false, .bool false] W fun e w' => e = .returned (.bool true) ∧ Below W.heap.size W w') (hB : ∀ W, Below w.heap.size w W → Calls Tryz.prog 31 #[.agg #[.int .i64 47, .string str, .int .u32 num, .bool flag, .slice ka kn kc, .int .i64 pos]] W fun e w' => e = .returned (.bool B) ∧ Below W.heap.size W w') :
    Calls Tryz.prog 54 #[.agg #[.int .i64 47, .string str, .int .u32 num, .bool flag, .slice ka kn kc, .int .i64 pos]] w fun e w' => e = .returned (.bool B) ∧ Below w.heap.size w w' := by
  go_enter Tryz.func54, Tryz.ntmps54
  go_wp2_with (first
    | (go_at_call 15; (with_reducible refine (hP _).mono ?_); rintro e1 w1 ⟨rfl, hb1⟩; obtain ⟨hc1, hf1⟩ := bcell hb1; have hs1 : w.heap.size < w1.heap.size := (by have := hb1.size; simp at this; omega))
    | (go_at_call 31; (with_reducible refine (hB _ (below_on (below1 _ _) hb1)).mono ?_); rintro e3 w3 ⟨rfl, hb3⟩; obtain ⟨hc3, hf3⟩ := bcell hb3))
  all_goals (go_ret; exact ⟨rfl, (below_on (below_on (below1 _ _) hb1) hb3)⟩)

set_option maxHeartbeats 4000000 in
set_option maxRecDepth 20000 in
theorem st54_48 {w : World} {str : ByteArray} {num pos : Int} {flag : Bool} {B : Bool} {ka : Option Addr} {kn kc : Nat} (hP : ∀ W, Calls Tryz.prog 15 #[.agg #[.int .i64 48, .string str, .int .u32 num, .bool flag, .slice ka kn kc, .int .i64 pos], .bool false, .bool false, .bool false] W fun e w' => e = .returned (.bool true) ∧ Below W.heap.size W w') (hB : ∀ W, Below w.heap.size w W → Calls Tryz.prog 53 #[.agg #[.int .i64 48, .string str, .int .u32 num, .bool flag, .slice ka kn kc, .int .i64 pos], .int .i64 1] W fun e w' => e = .returned (.bool B) ∧ Below W.heap.size W w') :
    Calls Tryz.prog 54 #[.agg #[.int .i64 48, .string str, .int .u32 num, .bool flag, .slice ka kn kc, .int .i64 pos]] w fun e w' => e = .returned (.bool B) ∧ Below w.heap.size w w' := by
  go_enter Tryz.func54, Tryz.ntmps54
  go_wp2_with (first
    | (go_at_call 15; (with_reducible refine (hP _).mono ?_); rintro e1 w1 ⟨rfl, hb1⟩; obtain ⟨hc1, hf1⟩ := bcell hb1; have hs1 : w.heap.size < w1.heap.size := (by have := hb1.size; simp at this; omega))
    | (go_at_call 53; (with_reducible refine (hB _ (below_on (below1 _ _) hb1)).mono ?_); rintro e3 w3 ⟨rfl, hb3⟩; obtain ⟨hc3, hf3⟩ := bcell hb3))
  all_goals (go_ret; exact ⟨rfl, (below_on (below_on (below1 _ _) hb1) hb3)⟩)

set_option maxHeartbeats 4000000 in
set_option maxRecDepth 20000 in
theorem st54_53 {w : World} {str : ByteArray} {num pos : Int} {flag : Bool} {ka : Option Addr} {kn kc : Nat} (hP : ∀ W, Calls Tryz.prog 15 #[.agg #[.int .i64 53, .string str, .int .u32 num, .bool flag, .slice ka kn kc, .int .i64 pos], .bool false, .bool false, .bool false] W fun e w' => e = .returned (.bool true) ∧ Below W.heap.size W w') {B : Bool} (hB : B = decide (kn = 0)) :
    Calls Tryz.prog 54 #[.agg #[.int .i64 53, .string str, .int .u32 num, .bool flag, .slice ka kn kc, .int .i64 pos]] w fun e w' => e = .returned (.bool B) ∧ Below w.heap.size w w' := by
  by_cases hk : kn = 0
  · obtain rfl : B = true := hB.trans (decide_eq_true hk)
    clear hB
    subst hk
    go_enter Tryz.func54, Tryz.ntmps54
    go_wp2_with (go_at_call 15; (with_reducible refine (hP _).mono ?_); rintro e1 w1 ⟨rfl, hb1⟩; obtain ⟨hc1, hf1⟩ := bcell hb1; have hs1 : w.heap.size < w1.heap.size := (by have := hb1.size; simp at this; omega))
    all_goals (go_ret; exact ⟨rfl, (below_on (below1 _ _) hb1)⟩)
  · obtain rfl : B = false := hB.trans (decide_eq_false hk)
    have hk1 : ¬ (kn : Int) = 0 := by omega
    clear hB
    go_enter Tryz.func54, Tryz.ntmps54
    go_wp2_with (go_at_call 15; (with_reducible refine (hP _).mono ?_); rintro e1 w1 ⟨rfl, hb1⟩; obtain ⟨hc1, hf1⟩ := bcell hb1; have hs1 : w.heap.size < w1.heap.size := (by have := hb1.size; simp at this; omega))
    all_goals (go_ret; exact ⟨by simp [hk], (below_on (below1 _ _) hb1)⟩)

set_option maxHeartbeats 4000000 in
set_option maxRecDepth 20000 in
theorem st54_54 {w : World} {str : ByteArray} {num pos : Int} {flag : Bool} {ka : Option Addr} {kn kc : Nat} (hP : ∀ W, Calls Tryz.prog 15 #[.agg #[.int .i64 54, .string str, .int .u32 num, .bool flag, .slice ka kn kc, .int .i64 pos], .bool false, .bool false, .bool false] W fun e w' => e = .returned (.bool true) ∧ Below W.heap.size W w') {B : Bool} (hB : B = decide (kn = 0)) :
    Calls Tryz.prog 54 #[.agg #[.int .i64 54, .string str, .int .u32 num, .bool flag, .slice ka kn kc, .int .i64 pos]] w fun e w' => e = .returned (.bool B) ∧ Below w.heap.size w w' := by
  by_cases hk : kn = 0
  · obtain rfl : B = true := hB.trans (decide_eq_true hk)
    clear hB
    subst hk
    go_enter Tryz.func54, Tryz.ntmps54
    go_wp2_with (go_at_call 15; (with_reducible refine (hP _).mono ?_); rintro e1 w1 ⟨rfl, hb1⟩; obtain ⟨hc1, hf1⟩ := bcell hb1; have hs1 : w.heap.size < w1.heap.size := (by have := hb1.size; simp at this; omega))
    all_goals (go_ret; exact ⟨rfl, (below_on (below1 _ _) hb1)⟩)
  · obtain rfl : B = false := hB.trans (decide_eq_false hk)
    have hk1 : ¬ (kn : Int) = 0 := by omega
    clear hB
    go_enter Tryz.func54, Tryz.ntmps54
    go_wp2_with (go_at_call 15; (with_reducible refine (hP _).mono ?_); rintro e1 w1 ⟨rfl, hb1⟩; obtain ⟨hc1, hf1⟩ := bcell hb1; have hs1 : w.heap.size < w1.heap.size := (by have := hb1.size; simp at this; omega))
    all_goals (go_ret; exact ⟨by simp [hk], (below_on (below1 _ _) hb1)⟩)

set_option maxHeartbeats 4000000 in
set_option maxRecDepth 20000 in
theorem st54_56 {w : World} {str : ByteArray} {num pos : Int} {flag : Bool} {ka : Option Addr} {kn kc : Nat} (hP : ∀ W, Calls Tryz.prog 15 #[.agg #[.int .i64 56, .string str, .int .u32 num, .bool flag, .slice ka kn kc, .int .i64 pos], .bool false, .bool false, .bool false] W fun e w' => e = .returned (.bool true) ∧ Below W.heap.size W w') {B : Bool} (hB : B = decide (kn = 0)) :
    Calls Tryz.prog 54 #[.agg #[.int .i64 56, .string str, .int .u32 num, .bool flag, .slice ka kn kc, .int .i64 pos]] w fun e w' => e = .returned (.bool B) ∧ Below w.heap.size w w' := by
  by_cases hk : kn = 0
  · obtain rfl : B = true := hB.trans (decide_eq_true hk)
    clear hB
    subst hk
    go_enter Tryz.func54, Tryz.ntmps54
    go_wp2_with (go_at_call 15; (with_reducible refine (hP _).mono ?_); rintro e1 w1 ⟨rfl, hb1⟩; obtain ⟨hc1, hf1⟩ := bcell hb1; have hs1 : w.heap.size < w1.heap.size := (by have := hb1.size; simp at this; omega))
    all_goals (go_ret; exact ⟨rfl, (below_on (below1 _ _) hb1)⟩)
  · obtain rfl : B = false := hB.trans (decide_eq_false hk)
    have hk1 : ¬ (kn : Int) = 0 := by omega
    clear hB
    go_enter Tryz.func54, Tryz.ntmps54
    go_wp2_with (go_at_call 15; (with_reducible refine (hP _).mono ?_); rintro e1 w1 ⟨rfl, hb1⟩; obtain ⟨hc1, hf1⟩ := bcell hb1; have hs1 : w.heap.size < w1.heap.size := (by have := hb1.size; simp at this; omega))
    all_goals (go_ret; exact ⟨by simp [hk], (below_on (below1 _ _) hb1)⟩)

set_option maxHeartbeats 4000000 in
set_option maxRecDepth 20000 in
theorem st54_55_0 {w : World} {str : ByteArray} {num pos : Int} {flag : Bool} {ka : Option Addr} {kc : Nat} (hP : ∀ W, Calls Tryz.prog 15 #[.agg #[.int .i64 55, .string str, .int .u32 num, .bool flag, .slice ka 0 kc, .int .i64 pos], .bool false, .bool false, .bool false] W fun e w' => e = .returned (.bool true) ∧ Below W.heap.size W w') :
    Calls Tryz.prog 54 #[.agg #[.int .i64 55, .string str, .int .u32 num, .bool flag, .slice ka 0 kc, .int .i64 pos]] w fun e w' => e = .returned (.bool true) ∧ Below w.heap.size w w' := by
  go_enter Tryz.func54, Tryz.ntmps54
  go_wp2_with (go_at_call 15; (with_reducible refine (hP _).mono ?_); rintro e1 w1 ⟨rfl, hb1⟩; obtain ⟨hc1, hf1⟩ := bcell hb1; have hs1 : w.heap.size < w1.heap.size := (by have := hb1.size; simp at this; omega))
  all_goals (go_ret; exact ⟨rfl, (below_on (below1 _ _) hb1)⟩)

set_option maxHeartbeats 4000000 in
set_option maxRecDepth 20000 in
theorem st54_55 {w : World} {str : ByteArray} {num pos : Int} {flag : Bool} {B : Bool} {ka : Option Addr} {kn kc : Nat} (hk : ¬ (kn : Int) = 0) (hP : ∀ W, Calls Tryz.prog 15 #[.agg #[.int .i64 55, .string str, .int .u32 num, .bool flag, .slice ka kn kc, .int .i64 pos], .bool false, .bool false, .bool false] W fun e w' => e = .returned (.bool true) ∧ Below W.heap.size W w') (hB : ∀ W, Below w.heap.size w W → Calls Tryz.prog 53 #[.agg #[.int .i64 55, .string str, .int .u32 num, .bool flag, .slice ka kn kc, .int .i64 pos], .int .i64 1] W fun e w' => e = .returned (.bool B) ∧ Below W.heap.size W w') :
    Calls Tryz.prog 54 #[.agg #[.int .i64 55, .string str, .int .u32 num, .bool flag, .slice ka kn kc, .int .i64 pos]] w fun e w' => e = .returned (.bool B) ∧ Below w.heap.size w w' := by
  have hk1 : ((kn : Int) == 0) = false := by rw [beq_eq_false_iff_ne]; exact hk
  go_enter Tryz.func54, Tryz.ntmps54
  go_wp2_with (first
    | (go_at_call 15; (with_reducible refine (hP _).mono ?_); rintro e1 w1 ⟨rfl, hb1⟩; obtain ⟨hc1, hf1⟩ := bcell hb1; have hs1 : w.heap.size < w1.heap.size := (by have := hb1.size; simp at this; omega))
    | (go_at_call 53; (with_reducible refine (hB _ (below_on (below1 _ _) hb1)).mono ?_); rintro e3 w3 ⟨rfl, hb3⟩; obtain ⟨hc3, hf3⟩ := bcell hb3))
  all_goals (go_ret; exact ⟨by simp, (below_on (below_on (below1 _ _) hb1) hb3)⟩)

set_option maxHeartbeats 4000000 in
set_option maxRecDepth 20000 in
theorem st54_50_no {w : World} {str : ByteArray} {num pos : Int} {flag : Bool} {ka : Option Addr} {kn kc : Nat} (hkn : ¬ kn = 2) (hP : ∀ W, Calls Tryz.prog 15 #[.agg #[.int .i64 50, .string str, .int .u32 num, .bool flag, .slice ka kn kc, .int .i64 pos], .bool false, .bool false, .bool false] W fun e w' => e = .returned (.bool true) ∧ Below W.heap.size W w') :
    Calls Tryz.prog 54 #[.agg #[.int .i64 50, .string str, .int .u32 num, .bool flag, .slice ka kn kc, .int .i64 pos]] w fun e w' => e = .returned (.bool false) ∧ Below w.heap.size w w' := by
  have hk1 : ¬ (kn : Int) = 2 := by omega
  have hk2 : ((kn : Int) == 2) = false := by rw [beq_eq_false_iff_ne]; exact hk1
  go_enter Tryz.func54, Tryz.ntmps54
  go_wp2_with (go_at_call 15; (with_reducible refine (hP _).mono ?_); rintro e1 w1 ⟨rfl, hb1⟩; obtain ⟨hc1, hf1⟩ := bcell hb1; have hs1 : w.heap.size < w1.heap.size := (by have := hb1.size; simp at this; omega))
  all_goals (go_ret; exact ⟨by simp [hkn], (below_on (below1 _ _) hb1)⟩)

set_option maxHeartbeats 4000000 in
set_option maxRecDepth 20000 in
theorem st54_50 {w : World} {str : ByteArray} {num pos : Int} {flag : Bool} {A B : Bool} {b0 o0 kc : Nat} {k0 n0 p0 : Int} {s0 : ByteArray} {f0 : Bool} {v0 : Value} {k1 n1 p1 : Int} {s1 : ByteArray} {f1 : Bool} {v1 : Value} (hlt : b0 < w.heap.size) (hP : ∀ W, Calls Tryz.prog 15 #[.agg #[.int .i64 50, .string str, .int .u32 num, .bool flag, .slice (some ⟨b0, o0, none⟩) 2 kc, .int .i64 pos], .bool false, .bool false, .bool false] W fun e w' => e = .returned (.bool true) ∧ Below W.heap.size W w') (c00 : w.cell? ⟨b0, o0, none⟩ = some (.int .i64 k0)) (c01 : w.cell? ⟨b0, o0 + 1, none⟩ = some (.string s0)) (c02 : w.cell? ⟨b0, o0 + 2, none⟩ = some (.int .u32 n0)) (c03 : w.cell? ⟨b0, o0 + 3, none⟩ = some (.bool f0)) (c04 : w.cell? ⟨b0, o0 + 4, none⟩ = some v0) (c05 : w.cell? ⟨b0, o0 + 5, none⟩ = some (.int .i64 p0)) (c10 : w.cell? ⟨b0, o0 + 6, none⟩ = some (.int .i64 k1)) (c11 : w.cell? ⟨b0, o0 + 7, none⟩ = some (.string s1)) (c12 : w.cell? ⟨b0, o0 + 8, none⟩ = some (.int .u32 n1)) (c13 : w.cell? ⟨b0, o0 + 9, none⟩ = some (.bool f1)) (c14 : w.cell? ⟨b0, o0 + 10, none⟩ = some v1) (c15 : w.cell? ⟨b0, o0 + 11, none⟩ = some (.int .i64 p1)) (hA : ∀ W, Below w.heap.size w W → Calls Tryz.prog 52 #[.agg #[.int .i64 k0, .string s0, .int .u32 n0, .bool f0, v0, .int .i64 p0]] W fun e w' => e = .returned (.bool A) ∧ Below W.heap.size W w') (hB : ∀ W, Below w.heap.size w W → Calls Tryz.prog 54 #[.agg #[.int .i64 k1, .string s1, .int .u32 n1, .bool f1, v1, .int .i64 p1]] W fun e w' => e = .returned (.bool B) ∧ Below W.heap.size W w') :
    Calls Tryz.prog 54 #[.agg #[.int .i64 50, .string str, .int .u32 num, .bool flag, .slice (some ⟨b0, o0, none⟩) 2 kc, .int .i64 pos]] w fun e w' => e = .returned (.bool (A && B)) ∧ Below w.heap.size w w' := by
  cases A
  · clear hB
    go_enter Tryz.func54, Tryz.ntmps54
    go_wp2_with (first
      | (go_at_call 15; (with_reducible refine (hP _).mono ?_); rintro e1 w1 ⟨rfl, hb1⟩; obtain ⟨hc1, hf1⟩ := bcell hb1; have hs1 : w.heap.size < w1.heap.size := (by have := hb1.size; simp at this; omega); have hx1 : b0 < w1.heap.size := (by omega))
      | (go_at_call 52; (with_reducible refine (hA _ (below_on (below1 _ _) hb1)).mono ?_); rintro e3 w3 ⟨rfl, hb3⟩; obtain ⟨hc3, hf3⟩ := bcell hb3; have hs3 : w.heap.size < w3.heap.size := (by have := hb3.size; omega); have hx3 : b0 < w3.heap.size := (by omega)))
    all_goals (go_ret; exact ⟨rfl, (below_on (below_on (below1 _ _) hb1) hb3)⟩)
  ·
    go_enter Tryz.func54, Tryz.ntmps54
    go_wp2_with (first
      | (go_at_call 15; (with_reducible refine (hP _).mono ?_); rintro e1 w1 ⟨rfl, hb1⟩; obtain ⟨hc1, hf1⟩ := bcell hb1; have hs1 : w.heap.size < w1.heap.size := (by have := hb1.size; simp at this; omega); have hx1 : b0 < w1.heap.size := (by omega))
      | (go_at_call 52; (with_reducible refine (hA _ (below_on (below1 _ _) hb1)).mono ?_); rintro e3 w3 ⟨rfl, hb3⟩; obtain ⟨hc3, hf3⟩ := bcell hb3; have hs3 : w.heap.size < w3.heap.size := (by have := hb3.size; omega); have hx3 : b0 < w3.heap.size := (by omega))
      | (go_at_call 54; (with_reducible refine (hB _ (below_on (below_on (below1 _ _) hb1) hb3)).mono ?_); rintro e4 w4 ⟨rfl, hb4⟩; obtain ⟨hc4, hf4⟩ := bcell hb4))
    all_goals (go_ret; exact ⟨by simp, (below_on (below_on (below_on (below1 _ _) hb1) hb3) hb4)⟩)

set_option maxHeartbeats 4000000 in
set_option maxRecDepth 20000 in
theorem st54_51_no {w : World} {str : ByteArray} {num pos : Int} {flag : Bool} {ka : Option Addr} {kn kc : Nat} (hkn : ¬ kn = 2) (hP : ∀ W, Calls Tryz.prog 15 #[.agg #[.int .i64 51, .string str, .int .u32 num, .bool flag, .slice ka kn kc, .int .i64 pos], .bool false, .bool false, .bool false] W fun e w' => e = .returned (.bool true) ∧ Below W.heap.size W w') :
    Calls Tryz.prog 54 #[.agg #[.int .i64 51, .string str, .int .u32 num, .bool flag, .slice ka kn kc, .int .i64 pos]] w fun e w' => e = .returned (.bool false) ∧ Below w.heap.size w w' := by
  have hk1 : ¬ (kn : Int) = 2 := by omega
  have hk2 : ((kn : Int) == 2) = false := by rw [beq_eq_false_iff_ne]; exact hk1
  go_enter Tryz.func54, Tryz.ntmps54
  go_wp2_with (go_at_call 15; (with_reducible refine (hP _).mono ?_); rintro e1 w1 ⟨rfl, hb1⟩; obtain ⟨hc1, hf1⟩ := bcell hb1; have hs1 : w.heap.size < w1.heap.size := (by have := hb1.size; simp at this; omega))
  all_goals (go_ret; exact ⟨by simp [hkn], (below_on (below1 _ _) hb1)⟩)

set_option maxHeartbeats 4000000 in
set_option maxRecDepth 20000 in
theorem st54_51 {w : World} {str : ByteArray} {num pos : Int} {flag : Bool} {A B : Bool} {b0 o0 kc : Nat} {k0 n0 p0 : Int} {s0 : ByteArray} {f0 : Bool} {v0 : Value} {k1 n1 p1 : Int} {s1 : ByteArray} {f1 : Bool} {v1 : Value} (hlt : b0 < w.heap.size) (hP : ∀ W, Calls Tryz.prog 15 #[.agg #[.int .i64 51, .string str, .int .u32 num, .bool flag, .slice (some ⟨b0, o0, none⟩) 2 kc, .int .i64 pos], .bool false, .bool false, .bool false] W fun e w' => e = .returned (.bool true) ∧ Below W.heap.size W w') (c00 : w.cell? ⟨b0, o0, none⟩ = some (.int .i64 k0)) (c01 : w.cell? ⟨b0, o0 + 1, none⟩ = some (.string s0)) (c02 : w.cell? ⟨b0, o0 + 2, none⟩ = some (.int .u32 n0)) (c03 : w.cell? ⟨b0, o0 + 3, none⟩ = some (.bool f0)) (c04 : w.cell? ⟨b0, o0 + 4, none⟩ = some v0) (c05 : w.cell? ⟨b0, o0 + 5, none⟩ = some (.int .i64 p0)) (c10 : w.cell? ⟨b0, o0 + 6, none⟩ = some (.int .i64 k1)) (c11 : w.cell? ⟨b0, o0 + 7, none⟩ = some (.string s1)) (c12 : w.cell? ⟨b0, o0 + 8, none⟩ = some (.int .u32 n1)) (c13 : w.cell? ⟨b0, o0 + 9, none⟩ = some (.bool f1)) (c14 : w.cell? ⟨b0, o0 + 10, none⟩ = some v1) (c15 : w.cell? ⟨b0, o0 + 11, none⟩ = some (.int .i64 p1)) (hA : ∀ W, Below w.heap.size w W → Calls Tryz.prog 54 #[.agg #[.int .i64 k0, .string s0, .int .u32 n0, .bool f0, v0, .int .i64 p0]] W fun e w' => e = .returned (.bool A) ∧ Below W.heap.size W w') (hB : ∀ W, Below w.heap.size w W → Calls Tryz.prog 52 #[.agg #[.int .i64 k1, .string s1, .int .u32 n1, .bool f1, v1, .int .i64 p1]] W fun e w' => e = .returned (.bool B) ∧ Below W.heap.size W w') :
    Calls Tryz.prog 54 #[.agg #[.int .i64 51, .string str, .int .u32 num, .bool flag, .slice (some ⟨b0, o0, none⟩) 2 kc, .int .i64 pos]] w fun e w' => e = .returned (.bool (A && B)) ∧ Below w.heap.size w w' := by
  cases A
  · clear hB
    go_enter Tryz.func54, Tryz.ntmps54
    go_wp2_with (first
      | (go_at_call 15; (with_reducible refine (hP _).mono ?_); rintro e1 w1 ⟨rfl, hb1⟩; obtain ⟨hc1, hf1⟩ := bcell hb1; have hs1 : w.heap.size < w1.heap.size := (by have := hb1.size; simp at this; omega); have hx1 : b0 < w1.heap.size := (by omega))
      | (go_at_call 54; (with_reducible refine (hA _ (below_on (below1 _ _) hb1)).mono ?_); rintro e3 w3 ⟨rfl, hb3⟩; obtain ⟨hc3, hf3⟩ := bcell hb3; have hs3 : w.heap.size < w3.heap.size := (by have := hb3.size; omega); have hx3 : b0 < w3.heap.size := (by omega)))
    all_goals (go_ret; exact ⟨rfl, (below_on (below_on (below1 _ _) hb1) hb3)⟩)
  ·
    go_enter Tryz.func54, Tryz.ntmps54
    go_wp2_with (first
      | (go_at_call 15; (with_reducible refine (hP _).mono ?_); rintro e1 w1 ⟨rfl, hb1⟩; obtain ⟨hc1, hf1⟩ := bcell hb1; have hs1 : w.heap.size < w1.heap.size := (by have := hb1.size; simp at this; omega); have hx1 : b0 < w1.heap.size := (by omega))
      | (go_at_call 54; (with_reducible refine (hA _ (below_on (below1 _ _) hb1)).mono ?_); rintro e3 w3 ⟨rfl, hb3⟩; obtain ⟨hc3, hf3⟩ := bcell hb3; have hs3 : w.heap.size < w3.heap.size := (by have := hb3.size; omega); have hx3 : b0 < w3.heap.size := (by omega))
      | (go_at_call 52; (with_reducible refine (hB _ (below_on (below_on (below1 _ _) hb1) hb3)).mono ?_); rintro e4 w4 ⟨rfl, hb4⟩; obtain ⟨hc4, hf4⟩ := bcell hb4))
    all_goals (go_ret; exact ⟨by simp, (below_on (below_on (below_on (below1 _ _) hb1) hb3) hb4)⟩)

set_option maxHeartbeats 4000000 in
set_option maxRecDepth 20000 in
theorem st54_49_no {w : World} {str : ByteArray} {num pos : Int} {flag : Bool} {ka : Option Addr} {kn kc : Nat} (hk2 : ¬ kn = 2) (hk3 : ¬ kn = 3) (hP : ∀ W, Calls Tryz.prog 15 #[.agg #[.int .i64 49, .string str, .int .u32 num, .bool flag, .slice ka kn kc, .int .i64 pos], .bool false, .bool false, .bool false] W fun e w' => e = .returned (.bool true) ∧ Below W.heap.size W w') :
    Calls Tryz.prog 54 #[.agg #[.int .i64 49, .string str, .int .u32 num, .bool flag, .slice ka kn kc, .int .i64 pos]] w fun e w' => e = .returned (.bool false) ∧ Below w.heap.size w w' := by
  have g2 : ¬ (kn : Int) = 2 := by omega
  have g3 : ¬ (kn : Int) = 3 := by omega
  have g4 : ((kn : Int) == 2) = false := by rw [beq_eq_false_iff_ne]; exact g2
  have g5 : ((kn : Int) == 3) = false := by rw [beq_eq_false_iff_ne]; exact g3
  go_enter Tryz.func54, Tryz.ntmps54
  go_wp2_with (go_at_call 15; (with_reducible refine (hP _).mono ?_); rintro e1 w1 ⟨rfl, hb1⟩; obtain ⟨hc1, hf1⟩ := bcell hb1; have hs1 : w.heap.size < w1.heap.size := (by have := hb1.size; simp at this; omega))
  all_goals (go_ret; exact ⟨by simp [hk2, hk3], (below_on (below1 _ _) hb1)⟩)

set_option maxHeartbeats 4000000 in
set_option maxRecDepth 20000 in
theorem st54_49_2 {w : World} {str : ByteArray} {num pos : Int} {flag : Bool} {A B : Bool} {b0 o0 kc : Nat} {k0 n0 p0 : Int} {s0 : ByteArray} {f0 : Bool} {v0 : Value} {k1 n1 p1 : Int} {s1 : ByteArray} {f1 : Bool} {v1 : Value} (hlt : b0 < w.heap.size) (hP : ∀ W, Calls Tryz.prog 15 #[.agg #[.int .i64 49, .string str, .int .u32 num, .bool flag, .slice (some ⟨b0, o0, none⟩) 2 kc, .int .i64 pos], .bool false, .bool false, .bool false] W fun e w' => e = .returned (.bool true) ∧ Below W.heap.size W w') (c00 : w.cell? ⟨b0, o0, none⟩ = some (.int .i64 k0)) (c01 : w.cell? ⟨b0, o0 + 1, none⟩ = some (.string s0)) (c02 : w.cell? ⟨b0, o0 + 2, none⟩ = some (.int .u32 n0)) (c03 : w.cell? ⟨b0, o0 + 3, none⟩ = some (.bool f0)) (c04 : w.cell? ⟨b0, o0 + 4, none⟩ = some v0) (c05 : w.cell? ⟨b0, o0 + 5, none⟩ = some (.int .i64 p0)) (c10 : w.cell? ⟨b0, o0 + 6, none⟩ = some (.int .i64 k1)) (c11 : w.cell? ⟨b0, o0 + 7, none⟩ = some (.string s1)) (c12 : w.cell? ⟨b0, o0 + 8, none⟩ = some (.int .u32 n1)) (c13 : w.cell? ⟨b0, o0 + 9, none⟩ = some (.bool f1)) (c14 : w.cell? ⟨b0, o0 + 10, none⟩ = some v1) (c15 : w.cell? ⟨b0, o0 + 11, none⟩ = some (.int .i64 p1)) (hA : ∀ W, Below w.heap.size w W → Calls Tryz.prog 52 #[.agg #[.int .i64 k0, .string s0, .int .u32 n0, .bool f0, v0, .int .i64 p0]] W fun e w' => e = .returned (.bool A) ∧ Below W.heap.size W w') (hB : ∀ W, Below w.heap.size w W → Calls Tryz.prog 54 #[.agg #[.int .i64 k1, .string s1, .int .u32 n1, .bool f1, v1, .int .i64 p1]] W fun e w' => e = .returned (.bool B) ∧ Below W.heap.size W w') :
    Calls Tryz.prog 54 #[.agg #[.int .i64 49, .string str, .int .u32 num, .bool flag, .slice (some ⟨b0, o0, none⟩) 2 kc, .int .i64 pos]] w fun e w' => e = .returned (.bool (A && B)) ∧ Below w.heap.size w w' := by
  cases A
  · clear hB
    go_enter Tryz.func54, Tryz.ntmps54
    go_wp2_with (first
      | (go_at_call 15; (with_reducible refine (hP _).mono ?_); rintro e1 w1 ⟨rfl, hb1⟩; obtain ⟨hc1, hf1⟩ := bcell hb1; have hs1 : w.heap.size < w1.heap.size := (by have := hb1.size; simp at this; omega); have hx1 : b0 < w1.heap.size := (by omega))
      | (go_at_call 52; (with_reducible refine (hA _ (below_on (below1 _ _) hb1)).mono ?_); rintro e3 w3 ⟨rfl, hb3⟩; obtain ⟨hc3, hf3⟩ := bcell hb3; have hs3 : w.heap.size < w3.heap.size := (by have := hb3.size; omega); have hx3 : b0 < w3.heap.size := (by omega)))
    all_goals (go_ret; exact ⟨rfl, (below_on (below_on (below1 _ _) hb1) hb3)⟩)
  ·
    go_enter Tryz.func54, Tryz.ntmps54
    go_wp2_with (first
      | (go_at_call 15; (with_reducible refine (hP _).mono ?_); rintro e1 w1 ⟨rfl, hb1⟩; obtain ⟨hc1, hf1⟩ := bcell hb1; have hs1 : w.heap.size < w1.heap.size := (by have := hb1.size; simp at this; omega); have hx1 : b0 < w1.heap.size := (by omega))
      | (go_at_call 52; (with_reducible refine (hA _ (below_on (below1 _ _) hb1)).mono ?_); rintro e3 w3 ⟨rfl, hb3⟩; obtain ⟨hc3, hf3⟩ := bcell hb3; have hs3 : w.heap.size < w3.heap.size := (by have := hb3.size; omega); have hx3 : b0 < w3.heap.size := (by omega))
      | (go_at_call 54; (with_reducible refine (hB _ (below_on (below_on (below1 _ _) hb1) hb3)).mono ?_); rintro e4 w4 ⟨rfl, hb4⟩; obtain ⟨hc4, hf4⟩ := bcell hb4))
    all_goals (go_ret; exact ⟨by simp, (below_on (below_on (below_on (below1 _ _) hb1) hb3) hb4)⟩)

set_option maxHeartbeats 4000000 in
set_option maxRecDepth 20000 in
theorem st54_49_3 {w : World} {str : ByteArray} {num pos : Int} {flag : Bool} {S O A B : Bool} {b0 o0 kc : Nat} {k0 n0 p0 : Int} {s0 : ByteArray} {f0 : Bool} {v0 : Value} {k1 n1 p1 : Int} {s1 : ByteArray} {f1 : Bool} {v1 : Value} {k2 n2 p2 : Int} {s2 : ByteArray} {f2 : Bool} {v2 : Value} (hlt : b0 < w.heap.size) (hP : ∀ W, Calls Tryz.prog 15 #[.agg #[.int .i64 49, .string str, .int .u32 num, .bool flag, .slice (some ⟨b0, o0, none⟩) 3 kc, .int .i64 pos], .bool false, .bool false, .bool false] W fun e w' => e = .returned (.bool true) ∧ Below W.heap.size W w') (c00 : w.cell? ⟨b0, o0, none⟩ = some (.int .i64 k0)) (c01 : w.cell? ⟨b0, o0 + 1, none⟩ = some (.string s0)) (c02 : w.cell? ⟨b0, o0 + 2, none⟩ = some (.int .u32 n0)) (c03 : w.cell? ⟨b0, o0 + 3, none⟩ = some (.bool f0)) (c04 : w.cell? ⟨b0, o0 + 4, none⟩ = some v0) (c05 : w.cell? ⟨b0, o0 + 5, none⟩ = some (.int .i64 p0)) (c10 : w.cell? ⟨b0, o0 + 6, none⟩ = some (.int .i64 k1)) (c11 : w.cell? ⟨b0, o0 + 7, none⟩ = some (.string s1)) (c12 : w.cell? ⟨b0, o0 + 8, none⟩ = some (.int .u32 n1)) (c13 : w.cell? ⟨b0, o0 + 9, none⟩ = some (.bool f1)) (c14 : w.cell? ⟨b0, o0 + 10, none⟩ = some v1) (c15 : w.cell? ⟨b0, o0 + 11, none⟩ = some (.int .i64 p1)) (c20 : w.cell? ⟨b0, o0 + 12, none⟩ = some (.int .i64 k2)) (c21 : w.cell? ⟨b0, o0 + 13, none⟩ = some (.string s2)) (c22 : w.cell? ⟨b0, o0 + 14, none⟩ = some (.int .u32 n2)) (c23 : w.cell? ⟨b0, o0 + 15, none⟩ = some (.bool f2)) (c24 : w.cell? ⟨b0, o0 + 16, none⟩ = some v2) (c25 : w.cell? ⟨b0, o0 + 17, none⟩ = some (.int .i64 p2)) (hS : ∀ W, Below w.heap.size w W → Calls Tryz.prog 54 #[.agg #[.int .i64 k2, .string s2, .int .u32 n2, .bool f2, v2, .int .i64 p2]] W fun e w' => e = .returned (.bool S) ∧ Below W.heap.size W w') (hO : ∀ W, Below w.heap.size w W → Calls Tryz.prog 78 #[.agg #[.int .i64 k1, .string s1, .int .u32 n1, .bool f1, v1, .int .i64 p1]] W fun e w' => e = .returned (.bool O) ∧ Below W.heap.size W w') (hA : ∀ W, Below w.heap.size w W → Calls Tryz.prog 52 #[.agg #[.int .i64 k0, .string s0, .int .u32 n0, .bool f0, v0, .int .i64 p0]] W fun e w' => e = .returned (.bool A) ∧ Below W.heap.size W w') (hB : ∀ W, Below w.heap.size w W → Calls Tryz.prog 54 #[.agg #[.int .i64 k1, .string s1, .int .u32 n1, .bool f1, v1, .int .i64 p1]] W fun e w' => e = .returned (.bool B) ∧ Below W.heap.size W w') :
    Calls Tryz.prog 54 #[.agg #[.int .i64 49, .string str, .int .u32 num, .bool flag, .slice (some ⟨b0, o0, none⟩) 3 kc, .int .i64 pos]] w fun e w' => e = .returned (.bool (S && (!O && (A && B)))) ∧ Below w.heap.size w w' := by
  cases S
  · clear hB hO hA
    go_enter Tryz.func54, Tryz.ntmps54
    go_wp2_with (first
      | (go_at_call 15; (with_reducible refine (hP _).mono ?_); rintro e1 w1 ⟨rfl, hb1⟩; obtain ⟨hc1, hf1⟩ := bcell hb1; have hs1 : w.heap.size < w1.heap.size := (by have := hb1.size; simp at this; omega); have hx1 : b0 < w1.heap.size := (by omega))
      | (go_at_call 54; (with_reducible refine (hS _ (below_on (below1 _ _) hb1)).mono ?_); rintro e3 w3 ⟨rfl, hb3⟩; obtain ⟨hc3, hf3⟩ := bcell hb3; have hs3 : w.heap.size < w3.heap.size := (by have := hb3.size; omega); have hx3 : b0 < w3.heap.size := (by omega)))
    all_goals (go_ret; exact ⟨rfl, (below_on (below_on (below1 _ _) hb1) hb3)⟩)
  · cases O
    · cases A
      · clear hB
        go_enter Tryz.func54, Tryz.ntmps54
        go_wp2_with (first
          | (go_at_call 15; (with_reducible refine (hP _).mono ?_); rintro e1 w1 ⟨rfl, hb1⟩; obtain ⟨hc1, hf1⟩ := bcell hb1; have hs1 : w.heap.size < w1.heap.size := (by have := hb1.size; simp at this; omega); have hx1 : b0 < w1.heap.size := (by omega))
          | (go_at_call 54; (with_reducible refine (hS _ (below_on (below1 _ _) hb1)).mono ?_); rintro e3 w3 ⟨rfl, hb3⟩; obtain ⟨hc3, hf3⟩ := bcell hb3; have hs3 : w.heap.size < w3.heap.size := (by have := hb3.size; omega); have hx3 : b0 < w3.heap.size := (by omega))
          | (go_at_call 78; (with_reducible refine (hO _ (below_on (below_on (below1 _ _) hb1) hb3)).mono ?_); rintro e4 w4 ⟨rfl, hb4⟩; obtain ⟨hc4, hf4⟩ := bcell hb4; have hs4 : w.heap.size < w4.heap.size := (by have := hb4.size; omega); have hx4 : b0 < w4.heap.size := (by omega))
          | (go_at_call 52; (with_reducible refine (hA _ (below_on (below_on (below_on (below1 _ _) hb1) hb3) hb4)).mono ?_); rintro e5 w5 ⟨rfl, hb5⟩; obtain ⟨hc5, hf5⟩ := bcell hb5; have hs5 : w.heap.size < w5.heap.size := (by have := hb5.size; omega); have hx5 : b0 < w5.heap.size := (by omega)))
        all_goals (go_ret; exact ⟨rfl, (below_on (below_on (below_on (below_on (below1 _ _) hb1) hb3) hb4) hb5)⟩)
      ·
        go_enter Tryz.func54, Tryz.ntmps54
        go_wp2_with (first
          | (go_at_call 15; (with_reducible refine (hP _).mono ?_); rintro e1 w1 ⟨rfl, hb1⟩; obtain ⟨hc1, hf1⟩ := bcell hb1; have hs1 : w.heap.size < w1.heap.size := (by have := hb1.size; simp at this; omega); have hx1 : b0 < w1.heap.size := (by omega))
          | (go_at_call 54; (with_reducible refine (hB _ (below_on (below_on (below_on (below_on (below1 _ _) hb1) hb3) hb4) hb5)).mono ?_); rintro e6 w6 ⟨rfl, hb6⟩; obtain ⟨hc6, hf6⟩ := bcell hb6)
          | (go_at_call 54; (with_reducible refine (hS _ (below_on (below1 _ _) hb1)).mono ?_); rintro e3 w3 ⟨rfl, hb3⟩; obtain ⟨hc3, hf3⟩ := bcell hb3; have hs3 : w.heap.size < w3.heap.size := (by have := hb3.size; omega); have hx3 : b0 < w3.heap.size := (by omega))
          | (go_at_call 78; (with_reducible refine (hO _ (below_on (below_on (below1 _ _) hb1) hb3)).mono ?_); rintro e4 w4 ⟨rfl, hb4⟩; obtain ⟨hc4, hf4⟩ := bcell hb4; have hs4 : w.heap.size < w4.heap.size := (by have := hb4.size; omega); have hx4 : b0 < w4.heap.size := (by omega))
          | (go_at_call 52; (with_reducible refine (hA _ (below_on (below_on (below_on (below1 _ _) hb1) hb3) hb4)).mono ?_); rintro e5 w5 ⟨rfl, hb5⟩; obtain ⟨hc5, hf5⟩ := bcell hb5; have hs5 : w.heap.size < w5.heap.size := (by have := hb5.size; omega); have hx5 : b0 < w5.heap.size := (by omega)))
        all_goals (go_ret; exact ⟨by simp, (below_on (below_on (below_on (below_on (below_on (below1 _ _) hb1) hb3) hb4) hb5) hb6)⟩)
    · clear hA hB
      go_enter Tryz.func54, Tryz.ntmps54
      go_wp2_with (first
        | (go_at_call 15; (with_reducible refine (hP _).mono ?_); rintro e1 w1 ⟨rfl, hb1⟩; obtain ⟨hc1, hf1⟩ := bcell hb1; have hs1 : w.heap.size < w1.heap.size := (by have := hb1.size; simp at this; omega); have hx1 : b0 < w1.heap.size := (by omega))
        | (go_at_call 54; (with_reducible refine (hS _ (below_on (below1 _ _) hb1)).mono ?_); rintro e3 w3 ⟨rfl, hb3⟩; obtain ⟨hc3, hf3⟩ := bcell hb3; have hs3 : w.heap.size < w3.heap.size := (by have := hb3.size; omega); have hx3 : b0 < w3.heap.size := (by omega))
        | (go_at_call 78; (with_reducible refine (hO _ (below_on (below_on (below1 _ _) hb1) hb3)).mono ?_); rintro e4 w4 ⟨rfl, hb4⟩; obtain ⟨hc4, hf4⟩ := bcell hb4; have hs4 : w.heap.size < w4.heap.size := (by have := hb4.size; omega); have hx4 : b0 < w4.heap.size := (by omega)))
      all_goals (go_ret; exact ⟨rfl, (below_on (below_on (below_on (below1 _ _) hb1) hb3) hb4)⟩)

end Go.Proofs.YtnnnfabpceapcaaGreatDoor

namespace Go.Proofs.YtnnnfabpceapcaaGreatDoor
set_option linter.unusedSimpArgs false
open Go.RowKit
set_option linter.unusedVariables false
set_option linter.unusedSimpArgs false

set_option maxHeartbeats 4000000 in
set_option maxRecDepth 20000 in
theorem st54_52_no {w : World} {str : ByteArray} {num pos : Int} {flag : Bool} {ka : Option Addr} {kn kc : Nat} (hkn : ¬ kn = 4) (hP : ∀ W, Calls Tryz.prog 15 #[.agg #[.int .i64 52, .string str, .int .u32 num, .bool flag, .slice ka kn kc, .int .i64 pos], .bool false, .bool false, .bool false] W fun e w' => e = .returned (.bool true) ∧ Below W.heap.size W w') :
    Calls Tryz.prog 54 #[.agg #[.int .i64 52, .string str, .int .u32 num, .bool flag, .slice ka kn kc, .int .i64 pos]] w fun e w' => e = .returned (.bool false) ∧ Below w.heap.size w w' := by
  have hk1 : ¬ (kn : Int) = 4 := by omega
  have hk2 : ((kn : Int) == 4) = false := by rw [beq_eq_false_iff_ne]; exact hk1
  go_enter Tryz.func54, Tryz.ntmps54
  go_wp2_with (go_at_call 15; (with_reducible refine (hP _).mono ?_); rintro e1 w1 ⟨rfl, hb1⟩; obtain ⟨hc1, hf1⟩ := bcell hb1; have hs1 : w.heap.size < w1.heap.size := (by have := hb1.size; simp at this; omega))
  all_goals (go_ret; exact ⟨rfl, (below_on (below1 _ _) hb1)⟩)

set_option maxHeartbeats 4000000 in
set_option maxRecDepth 20000 in
theorem st54_52_s {w : World} {str : ByteArray} {num pos : Int} {flag : Bool} {b0 o0 kc : Nat} {k3 n3 p3 : Int} {s3 : ByteArray} {f3 : Bool} {v3 : Value} (hlt : b0 < w.heap.size) (hP : ∀ W, Calls Tryz.prog 15 #[.agg #[.int .i64 52, .string str, .int .u32 num, .bool flag, .slice (some ⟨b0, o0, none⟩) 4 kc, .int .i64 pos], .bool false, .bool false, .bool false] W fun e w' => e = .returned (.bool true) ∧ Below W.heap.size W w') (c30 : w.cell? ⟨b0, o0 + 18, none⟩ = some (.int .i64 k3)) (c31 : w.cell? ⟨b0, o0 + 19, none⟩ = some (.string s3)) (c32 : w.cell? ⟨b0, o0 + 20, none⟩ = some (.int .u32 n3)) (c33 : w.cell? ⟨b0, o0 + 21, none⟩ = some (.bool f3)) (c34 : w.cell? ⟨b0, o0 + 22, none⟩ = some v3) (c35 : w.cell? ⟨b0, o0 + 23, none⟩ = some (.int .i64 p3)) (hS : ∀ W, Below w.heap.size w W → Calls Tryz.prog 54 #[.agg #[.int .i64 k3, .string s3, .int .u32 n3, .bool f3, v3, .int .i64 p3]] W fun e w' => e = .returned (.bool false) ∧ Below W.heap.size W w') :
    Calls Tryz.prog 54 #[.agg #[.int .i64 52, .string str, .int .u32 num, .bool flag, .slice (some ⟨b0, o0, none⟩) 4 kc, .int .i64 pos]] w fun e w' => e = .returned (.bool false) ∧ Below w.heap.size w w' := by
  go_enter Tryz.func54, Tryz.ntmps54
  go_wp2_with (first
    | (go_at_call 15; (with_reducible refine (hP _).mono ?_); rintro e1 w1 ⟨rfl, hb1⟩; obtain ⟨hc1, hf1⟩ := bcell hb1; have hs1 : w.heap.size < w1.heap.size := (by have := hb1.size; simp at this; omega); have hx1 : b0 < w1.heap.size := (by omega))
    | (go_at_call 54; (with_reducible refine (hS _ (below_on (below1 _ _) hb1)).mono ?_); rintro e3 w3 ⟨rfl, hb3⟩; obtain ⟨hc3, hf3⟩ := bcell hb3; have hs3 : w.heap.size < w3.heap.size := (by have := hb3.size; omega); have hx3 : b0 < w3.heap.size := (by omega)))
  all_goals (go_ret; exact ⟨rfl, (below_on (below_on (below1 _ _) hb1) hb3)⟩)

set_option maxHeartbeats 4000000 in
set_option maxRecDepth 20000 in
theorem st54_52 {w : World} {str : ByteArray} {num pos : Int} {flag : Bool} {b0 o0 kc : Nat} {F G : Nat → Bool} {X : Bool} {k3 n3 p3 : Int} {s3 : ByteArray} {f3 : Bool} {v3 : Value} (hlt : b0 < w.heap.size) (hP : ∀ W, Calls Tryz.prog 15 #[.agg #[.int .i64 52, .string str, .int .u32 num, .bool flag, .slice (some ⟨b0, o0, none⟩) 4 kc, .int .i64 pos], .bool false, .bool false, .bool false] W fun e w' => e = .returned (.bool true) ∧ Below W.heap.size W w') (c30 : w.cell? ⟨b0, o0 + 18, none⟩ = some (.int .i64 k3)) (c31 : w.cell? ⟨b0, o0 + 19, none⟩ = some (.string s3)) (c32 : w.cell? ⟨b0, o0 + 20, none⟩ = some (.int .u32 n3)) (c33 : w.cell? ⟨b0, o0 + 21, none⟩ = some (.bool f3)) (c34 : w.cell? ⟨b0, o0 + 22, none⟩ = some v3) (c35 : w.cell? ⟨b0, o0 + 23, none⟩ = some (.int .i64 p3)) (hS : ∀ W, Below w.heap.size w W → Calls Tryz.prog 54 #[.agg #[.int .i64 k3, .string s3, .int .u32 n3, .bool f3, v3, .int .i64 p3]] W fun e w' => e = .returned (.bool true) ∧ Below W.heap.size W w') (HQ : ∀ W, Below w.heap.size w W → ∀ j, j < 3 → ∃ x kv, b0 < W.heap.size ∧ NdAt W b0 (o0 + j * 6) x kv ∧ (Calls Tryz.prog 51 #[ndV x kv] W fun e w' => e = .returned (.bool (F j)) ∧ Below W.heap.size W w') ∧ ∀ W', Below W.heap.size W W' → Calls Tryz.prog 52 #[ndV x kv] W' fun e w' => e = .returned (.bool (G j)) ∧ Below W'.heap.size W' w') (hXt : (∀ j, j < 3 → (F j || G j) = true) → X = true) (hXf : ∀ j, j < 3 → (F j || G j) = false → X = false) :
    Calls Tryz.prog 54 #[.agg #[.int .i64 52, .string str, .int .u32 num, .bool flag, .slice (some ⟨b0, o0, none⟩) 4 kc, .int .i64 pos]] w fun e w' => e = .returned (.bool X) ∧ Below w.heap.size w w' := by
  have HH := hid' HQ
  have HT := hid' hXt
  have HF := hid' hXf
  clear HQ hXt hXf
  go_enter Tryz.func54, Tryz.ntmps54
  go_wp2_with (first
    | (go_at_call 15; (with_reducible refine (hP _).mono ?_); rintro e1 w1 ⟨rfl, hb1⟩; obtain ⟨hc1, hf1⟩ := bcell hb1; have hs1 : w.heap.size < w1.heap.size := (by have := hb1.size; simp at this; omega); have hx1 : b0 < w1.heap.size := (by omega))
    | (go_at_call 54; (with_reducible refine (hS _ (below_on (below1 _ _) hb1)).mono ?_); rintro e3 w3 ⟨rfl, hb3⟩; obtain ⟨hc3, hf3⟩ := bcell hb3; have hs3 : w.heap.size < w3.heap.size := (by have := hb3.size; omega); have d4 : w3.cell? ⟨w.heap.size, 4, none⟩ = some (.slice (some ⟨b0, o0, none⟩) 4 kc) := (by rw [hc3 _ _ hs1, hc1 _ _ (by simp)]; simp [go_sem]); have HB3 : Hid (Below w.heap.size w w3) := (below_on (below_on (below1 _ _) hb1) hb3); clear hc3 hf3))
  clear hc1 hf1 hb1 hb3 hs1 hx1 hP hS c30 c31 c32 c33 c34 c35
  go_loopw [4] (fun i wr => ∃ j : Nat, j ≤ 3 ∧ i = .int .i64 (j : Nat) ∧ (∀ m, m < j → (F m || G m) = true) ∧ Below w3.heap.size w3 wr) (fun i _ => 3 - (intOf i).toNat)
  case atStart => exact ⟨0, by omega, rfl, fun m hm => by omega, Below.refl _ _⟩
  case round =>
    obtain ⟨j, hj, rfl, hok, hBw⟩ := hrel
    have HOK := hid' hok
    have HBW := hid' hBw
    have e4 := (hBw.cell (p := ⟨w.heap.size, 4, none⟩) hs3).trans d4
    have hl' : w.heap.size < wr.heap.size := Nat.lt_of_lt_of_le hs3 hBw.size
    clear hok hBw
    by_cases hjt : j < 3
    · obtain ⟨x', kv', hlb, ⟨c0, c1, c2, c3, c5, c6⟩, hC, hg⟩ := HH.out wr (below_on HB3.out HBW.out) j hjt
      have hlt' : (j : Int) < 3 := by omega
      have hlt4 : (j : Int) < 4 := by omega
      have hG := hid' hg
      clear hg
      unfold ndV at hC hG
      cases hF : F j with
      | true =>
        rw [hF] at hC
        have HN : Hid (∀ m, m < j + 1 → (F m || G m) = true) := fun m hmj => by
          by_cases e : m = j
          · subst e; rw [hF]; rfl
          · exact HOK.out m (by omega)
        have hc := hid' hC
        clear hC hF hG
        go_wp2_with (go_at_call 51; (with_reducible refine hc.out.mono ?_); rintro e w4 ⟨rfl, hb4⟩; obtain ⟨hc4, hf4⟩ := bcell hb4; have hs4 : w.heap.size < w4.heap.size := (by have := hb4.size; omega); have hx4 : b0 < w4.heap.size := (by have := hb4.size; omega))
        go_roundw
        case rel => exact ⟨j + 1, by omega, by go_num, HN.out, below_on HBW.out hb4⟩
        case measure => simp [intOf]; omega
      | false =>
        rw [hF] at hC
        cases hF2 : G j with
        | true =>
          rw [hF2] at hG
          have HN : Hid (∀ m, m < j + 1 → (F m || G m) = true) := fun m hmj => by
            by_cases e : m = j
            · subst e; rw [hF2]; simp
            · exact HOK.out m (by omega)
          have hc := hid' hC
          clear hC hF hF2
          go_wp2_with (first
            | (go_at_call 51; (with_reducible refine hc.out.mono ?_); rintro e w4 ⟨rfl, hb4⟩; obtain ⟨hc4, hf4⟩ := bcell hb4; have hs4 : w.heap.size < w4.heap.size := (by have := hb4.size; omega); have hx4 : b0 < w4.heap.size := (by have := hb4.size; omega))
            | (go_at_call 52; (with_reducible refine (hG.out _ hb4).mono ?_); rintro e w5 ⟨rfl, hb5⟩; replace hb5 := hid' hb5))
          go_roundw
          case rel => exact ⟨j + 1, by omega, by go_num, HN.out, below_on HBW.out (below_on hb4 hb5.out)⟩
          case measure => simp [intOf]; omega
        | false =>
          rw [hF2] at hG
          have HN : Hid (X = false) := HF.out j hjt (by rw [hF, hF2]; rfl)
          have hc := hid' hC
          clear hC hF hF2
          go_wp2_with (first
            | (go_at_call 51; (with_reducible refine hc.out.mono ?_); rintro e w4 ⟨rfl, hb4⟩; obtain ⟨hc4, hf4⟩ := bcell hb4; have hs4 : w.heap.size < w4.heap.size := (by have := hb4.size; omega); have hx4 : b0 < w4.heap.size := (by have := hb4.size; omega))
            | (go_at_call 52; (with_reducible refine (hG.out _ hb4).mono ?_); rintro e w5 ⟨rfl, hb5⟩; replace hb5 := hid' hb5))
          go_ret
          exact ⟨by rw [HN.out]; rfl, below_on HB3.out (below_on HBW.out (below_on hb4 hb5.out))⟩
    · have e : j = 3 := by omega
      subst e
      have HN : Hid (X = true) := HT.out fun m hm => HOK.out m hm
      go_wp2_with fail
      go_ret
      exact ⟨by rw [HN.out]; rfl, below_on HB3.out HBW.out⟩

end Go.Proofs.YtnnnfabpceapcaaGreatDoor

namespace Go.Proofs.YtnnnfabpceapcaaGreatDoor
set_option linter.unusedSimpArgs false
open Go.RowKit
set_option linter.unusedVariables false
set_option linter.unusedSimpArgs false

set_option maxHeartbeats 4000000 in
set_option maxRecDepth 20000 in
theorem fn18_kind {w : World} {str : ByteArray} {num pos : Int} {flag : Bool} {kind : Int} {ka : Option Addr} {kn kc : Nat} (hl : kn ≤ 9223372036854775807) (hk : (kind == 45) = false) :
    Calls Tryz.prog 18 #[.agg #[.int .i64 kind, .string str, .int .u32 num, .bool flag, .slice ka kn kc, .int .i64 pos]] w fun e w' => e = .returned (.bool false) ∧ Below w.heap.size w w' := by
  have hk1 : ¬ kind = 45 := by intro h; rw [h] at hk; exact Bool.noConfusion hk
  go_enter Tryz.func18, Tryz.ntmps18
  go_wp2_with fail
  all_goals (go_ret; exact ⟨rfl, below1 _ _⟩)

set_option maxHeartbeats 4000000 in
set_option maxRecDepth 20000 in
theorem fn18_parts {w : World} {str : ByteArray} {num pos : Int} {flag : Bool} {ka : Option Addr} {kn kc : Nat} (hl : kn ≤ 9223372036854775807) (hP : ∀ W, Calls Tryz.prog 15 #[.agg #[.int .i64 45, .string str, .int .u32 num, .bool flag, .slice ka kn kc, .int .i64 pos], .bool true, .bool false, .bool false] W fun e w' => e = .returned (.bool false) ∧ Below W.heap.size W w') :
    Calls Tryz.prog 18 #[.agg #[.int .i64 45, .string str, .int .u32 num, .bool flag, .slice ka kn kc, .int .i64 pos]] w fun e w' => e = .returned (.bool false) ∧ Below w.heap.size w w' := by
  go_enter Tryz.func18, Tryz.ntmps18
  go_wp2_with (go_at_call 15; (with_reducible refine (hP _).mono ?_); rintro e1 w1 ⟨rfl, hb1⟩; obtain ⟨hc1, hf1⟩ := bcell hb1; have hs1 : w.heap.size < w1.heap.size := (by have := hb1.size; simp at this; omega))
  all_goals (go_ret; exact ⟨rfl, (below_on (below1 _ _) hb1)⟩)

set_option maxHeartbeats 4000000 in
set_option maxRecDepth 20000 in
theorem fn18_name {w : World} {str : ByteArray} {num pos : Int} {flag : Bool} {ka : Option Addr} {kn kc : Nat} (hl : kn ≤ 9223372036854775807) (hP : ∀ W, Calls Tryz.prog 15 #[.agg #[.int .i64 45, .string str, .int .u32 num, .bool flag, .slice ka kn kc, .int .i64 pos], .bool true, .bool false, .bool false] W fun e w' => e = .returned (.bool true) ∧ Below W.heap.size W w') (hN : ∀ W, Calls Tryz.prog 28 #[.string str] W fun e w' => e = .returned (.bool false) ∧ w' = W) :
    Calls Tryz.prog 18 #[.agg #[.int .i64 45, .string str, .int .u32 num, .bool flag, .slice ka kn kc, .int .i64 pos]] w fun e w' => e = .returned (.bool false) ∧ Below w.heap.size w w' := by
  go_enter Tryz.func18, Tryz.ntmps18
  go_wp2_with (first
    | (go_at_call 15; (with_reducible refine (hP _).mono ?_); rintro e1 w1 ⟨rfl, hb1⟩; obtain ⟨hc1, hf1⟩ := bcell hb1; have hs1 : w.heap.size < w1.heap.size := (by have := hb1.size; simp at this; omega))
    | (go_at_call 28; (with_reducible refine (hN _).mono ?_); rintro e2 w2 ⟨rfl, rfl⟩))
  all_goals (go_ret; exact ⟨rfl, (below_on (below1 _ _) hb1)⟩)

set_option maxHeartbeats 4000000 in
set_option maxRecDepth 20000 in
theorem fn18_few {w : World} {str : ByteArray} {num pos : Int} {flag : Bool} {ka : Option Addr} {kn kc : Nat} (hl : kn ≤ 9223372036854775807) (hkn : kn ≤ 1) (hP : ∀ W, Calls Tryz.prog 15 #[.agg #[.int .i64 45, .string str, .int .u32 num, .bool flag, .slice ka kn kc, .int .i64 pos], .bool true, .bool false, .bool false] W fun e w' => e = .returned (.bool true) ∧ Below W.heap.size W w') (hN : ∀ W, Calls Tryz.prog 28 #[.string str] W fun e w' => e = .returned (.bool true) ∧ w' = W) :
    Calls Tryz.prog 18 #[.agg #[.int .i64 45, .string str, .int .u32 num, .bool flag, .slice ka kn kc, .int .i64 pos]] w fun e w' => e = .returned (.bool false) ∧ Below w.heap.size w w' := by
  have hk1 : (kn : Int) - 1 < 1 := by omega
  go_enter Tryz.func18, Tryz.ntmps18
  go_wp2_with (first
    | (go_at_call 15; (with_reducible refine (hP _).mono ?_); rintro e1 w1 ⟨rfl, hb1⟩; obtain ⟨hc1, hf1⟩ := bcell hb1; have hs1 : w.heap.size < w1.heap.size := (by have := hb1.size; simp at this; omega))
    | (go_at_call 28; (with_reducible refine (hN _).mono ?_); rintro e2 w2 ⟨rfl, rfl⟩))
  all_goals (go_ret; exact ⟨rfl, (below_on (below1 _ _) hb1)⟩)

set_option maxHeartbeats 4000000 in
set_option maxRecDepth 20000 in
theorem fn18_type {w : World} {str : ByteArray} {num pos : Int} {flag : Bool} {b0 o0 k kc : Nat} (hk1 : 1 ≤ k) (hl : k + 1 ≤ 9223372036854775807) {k0 n0 p0 : Int} {s0 : ByteArray} {f0 : Bool} {v0 : Value} (hlt : b0 < w.heap.size) (hP : ∀ W, Calls Tryz.prog 15 #[.agg #[.int .i64 45, .string str, .int .u32 num, .bool flag, .slice (some ⟨b0, o0, none⟩) (k + 1) kc, .int .i64 pos], .bool true, .bool false, .bool false] W fun e w' => e = .returned (.bool true) ∧ Below W.heap.size W w') (hN : ∀ W, Calls Tryz.prog 28 #[.string str] W fun e w' => e = .returned (.bool true) ∧ w' = W) (c00 : w.cell? ⟨b0, o0, none⟩ = some (.int .i64 k0)) (c01 : w.cell? ⟨b0, o0 + 1, none⟩ = some (.string s0)) (c02 : w.cell? ⟨b0, o0 + 2, none⟩ = some (.int .u32 n0)) (c03 : w.cell? ⟨b0, o0 + 3, none⟩ = some (.bool f0)) (c04 : w.cell? ⟨b0, o0 + 4, none⟩ = some v0) (c05 : w.cell? ⟨b0, o0 + 5, none⟩ = some (.int .i64 p0)) (hT : ∀ W, Below w.heap.size w W → Calls Tryz.prog 29 #[.agg #[.int .i64 k0, .string s0, .int .u32 n0, .bool f0, v0, .int .i64 p0]] W fun e w' => e = .returned (.bool false) ∧ Below W.heap.size W w') :
    Calls Tryz.prog 18 #[.agg #[.int .i64 45, .string str, .int .u32 num, .bool flag, .slice (some ⟨b0, o0, none⟩) (k + 1) kc, .int .i64 pos]] w fun e w' => e = .returned (.bool false) ∧ Below w.heap.size w w' := by
  have e1 : ((k + 1 : Nat) : Int) - 1 = k := by omega
  have g1 : ¬ (k : Int) < 1 := by omega
  have g0 : (0 : Int) < ((k + 1 : Nat) : Int) := by omega
  go_enter Tryz.func18, Tryz.ntmps18
  go_wp2_with (first
    | (go_at_call 15; (with_reducible refine (hP _).mono ?_); rintro e1 w1 ⟨rfl, hb1⟩; obtain ⟨hc1, hf1⟩ := bcell hb1; have hs1 : w.heap.size < w1.heap.size := (by have := hb1.size; simp at this; omega); have hx1 : b0 < w1.heap.size := (by omega))
    | (go_at_call 28; (with_reducible refine (hN _).mono ?_); rintro e2 w2 ⟨rfl, rfl⟩)
    | (go_at_call 29; (with_reducible refine (hT _ (below_on (below1 _ _) hb1)).mono ?_); rintro e3 w3 ⟨rfl, hb3⟩; obtain ⟨hc3, hf3⟩ := bcell hb3; have hs3 : w.heap.size < w3.heap.size := (by have := hb3.size; omega); have hx3 : b0 < w3.heap.size := (by omega)))
  all_goals (go_ret; exact ⟨rfl, (below_on (below_on (below1 _ _) hb1) hb3)⟩)

set_option maxHeartbeats 4000000 in
set_option maxRecDepth 20000 in
theorem fn18_block {w : World} {str : ByteArray} {num pos : Int} {flag : Bool} {k1 n1 p1 : Int} {s1 : ByteArray} {f1 : Bool} {v1 : Value} {b0 o0 k kc : Nat} (hk1 : 1 ≤ k) (hl : k + 1 ≤ 9223372036854775807) {k0 n0 p0 : Int} {s0 : ByteArray} {f0 : Bool} {v0 : Value} (hlt : b0 < w.heap.size) (hP : ∀ W, Calls Tryz.prog 15 #[.agg #[.int .i64 45, .string str, .int .u32 num, .bool flag, .slice (some ⟨b0, o0, none⟩) (k + 1) kc, .int .i64 pos], .bool true, .bool false, .bool false] W fun e w' => e = .returned (.bool true) ∧ Below W.heap.size W w') (hN : ∀ W, Calls Tryz.prog 28 #[.string str] W fun e w' => e = .returned (.bool true) ∧ w' = W) (c00 : w.cell? ⟨b0, o0, none⟩ = some (.int .i64 k0)) (c01 : w.cell? ⟨b0, o0 + 1, none⟩ = some (.string s0)) (c02 : w.cell? ⟨b0, o0 + 2, none⟩ = some (.int .u32 n0)) (c03 : w.cell? ⟨b0, o0 + 3, none⟩ = some (.bool f0)) (c04 : w.cell? ⟨b0, o0 + 4, none⟩ = some v0) (c05 : w.cell? ⟨b0, o0 + 5, none⟩ = some (.int .i64 p0)) (c10 : w.cell? ⟨b0, o0 + k * 6, none⟩ = some (.int .i64 k1)) (c11 : w.cell? ⟨b0, o0 + k * 6 + 1, none⟩ = some (.string s1)) (c12 : w.cell? ⟨b0, o0 + k * 6 + 2, none⟩ = some (.int .u32 n1)) (c13 : w.cell? ⟨b0, o0 + k * 6 + 3, none⟩ = some (.bool f1)) (c14 : w.cell? ⟨b0, o0 + k * 6 + 4, none⟩ = some v1) (c15 : w.cell? ⟨b0, o0 + k * 6 + 5, none⟩ = some (.int .i64 p1)) (hT : ∀ W, Below w.heap.size w W → Calls Tryz.prog 29 #[.agg #[.int .i64 k0, .string s0, .int .u32 n0, .bool f0, v0, .int .i64 p0]] W fun e w' => e = .returned (.bool true) ∧ Below W.heap.size W w') (hB : ∀ W, Below w.heap.size w W → Calls Tryz.prog 31 #[.agg #[.int .i64 k1, .string s1, .int .u32 n1, .bool f1, v1, .int .i64 p1]] W fun e w' => e = .returned (.bool false) ∧ Below W.heap.size W w') :
    Calls Tryz.prog 18 #[.agg #[.int .i64 45, .string str, .int .u32 num, .bool flag, .slice (some ⟨b0, o0, none⟩) (k + 1) kc, .int .i64 pos]] w fun e w' => e = .returned (.bool false) ∧ Below w.heap.size w w' := by
  have e1 : ((k + 1 : Nat) : Int) - 1 = k := by omega
  have g1 : ¬ (k : Int) < 1 := by omega
  have g0 : (0 : Int) < ((k + 1 : Nat) : Int) := by omega
  go_enter Tryz.func18, Tryz.ntmps18
  go_wp2_with (first
    | (go_at_call 15; (with_reducible refine (hP _).mono ?_); rintro e1 w1 ⟨rfl, hb1⟩; obtain ⟨hc1, hf1⟩ := bcell hb1; have hs1 : w.heap.size < w1.heap.size := (by have := hb1.size; simp at this; omega); have hx1 : b0 < w1.heap.size := (by omega))
    | (go_at_call 28; (with_reducible refine (hN _).mono ?_); rintro e2 w2 ⟨rfl, rfl⟩)
    | (go_at_call 29; (with_reducible refine (hT _ (below_on (below1 _ _) hb1)).mono ?_); rintro e3 w3 ⟨rfl, hb3⟩; obtain ⟨hc3, hf3⟩ := bcell hb3; have hs3 : w.heap.size < w3.heap.size := (by have := hb3.size; omega); have hx3 : b0 < w3.heap.size := (by omega))
    | (go_at_call 31; (with_reducible refine (hB _ (below_on (below_on (below1 _ _) hb1) hb3)).mono ?_); rintro e4 w4 ⟨rfl, hb4⟩; obtain ⟨hc4, hf4⟩ := bcell hb4; have hs4 : w.heap.size < w4.heap.size := (by have := hb4.size; omega); have hx4 : b0 < w4.heap.size := (by omega)))
  all_goals (go_ret; exact ⟨rfl, (below_on (below_on (below_on (below1 _ _) hb1) hb3) hb4)⟩)

end Go.Proofs.YtnnnfabpceapcaaGreatDoor

namespace Go.Proofs.YtnnnfabpceapcaaGreatDoor
set_option linter.unusedSimpArgs false
open Go.RowKit
set_option linter.unusedVariables false
set_option linter.unusedSimpArgs false

/-- What is told of a parameter in a world. -/
def ParQ (W : World) (b0 o j : Nat) (F : Nat → Bool) : Prop :=
  ∃ (x : NdH) (ao : Option Addr) (m cap : Nat) (N T : Bool), b0 < W.heap.size ∧ NdAt W b0 o x (.slice ao m cap) ∧ 0 ≤ x.num ∧
    (∀ W', Calls Tryz.prog 15 #[ndV x (.slice ao m cap), .bool true, .bool true, .bool true] W' fun e w' => e = .returned (.bool true) ∧ Below W'.heap.size W' w') ∧
    (∀ W', Calls Tryz.prog 28 #[.string x.str] W' fun e w' => e = .returned (.bool N) ∧ w' = W') ∧
    (m = 1 → ∃ b1 o1 x1 kv1, ao = some ⟨b1, o1, none⟩ ∧ b1 < W.heap.size ∧ NdAt W b1 o1 x1 kv1 ∧ ∀ W', Below W.heap.size W W' → Calls Tryz.prog 29 #[ndV x1 kv1] W' fun e w' => e = .returned (.bool T) ∧ Below W'.heap.size W' w') ∧
    F j = (x.kind == 46 && (decide (x.num ≤ 1) && (!(x.flag && x.num == 1) && (N && (decide (m = 1) && T)))))

set_option maxHeartbeats 4000000 in
set_option maxRecDepth 20000 in
theorem fn18_all {w : World} {str : ByteArray} {num pos : Int} {flag : Bool} {k1 n1 p1 : Int} {s1 : ByteArray} {f1 : Bool} {v1 : Value} {b0 o0 k kc : Nat} {F : Nat → Bool} {X : Bool} (hk1 : 1 ≤ k) (hl : k + 1 ≤ 9223372036854775807) {k0 n0 p0 : Int} {s0 : ByteArray} {f0 : Bool} {v0 : Value} (hlt : b0 < w.heap.size) (hP : ∀ W, Calls Tryz.prog 15 #[.agg #[.int .i64 45, .string str, .int .u32 num, .bool flag, .slice (some ⟨b0, o0, none⟩) (k + 1) kc, .int .i64 pos], .bool true, .bool false, .bool false] W fun e w' => e = .returned (.bool true) ∧ Below W.heap.size W w') (hN : ∀ W, Calls Tryz.prog 28 #[.string str] W fun e w' => e = .returned (.bool true) ∧ w' = W) (c00 : w.cell? ⟨b0, o0, none⟩ = some (.int .i64 k0)) (c01 : w.cell? ⟨b0, o0 + 1, none⟩ = some (.string s0)) (c02 : w.cell? ⟨b0, o0 + 2, none⟩ = some (.int .u32 n0)) (c03 : w.cell? ⟨b0, o0 + 3, none⟩ = some (.bool f0)) (c04 : w.cell? ⟨b0, o0 + 4, none⟩ = some v0) (c05 : w.cell? ⟨b0, o0 + 5, none⟩ = some (.int .i64 p0)) (c10 : w.cell? ⟨b0, o0 + k * 6, none⟩ = some (.int .i64 k1)) (c11 : w.cell? ⟨b0, o0 + k * 6 + 1, none⟩ = some (.string s1)) (c12 : w.cell? ⟨b0, o0 + k * 6 + 2, none⟩ = some (.int .u32 n1)) (c13 : w.cell? ⟨b0, o0 + k * 6 + 3, none⟩ = some (.bool f1)) (c14 : w.cell? ⟨b0, o0 + k * 6 + 4, none⟩ = some v1) (c15 : w.cell? ⟨b0, o0 + k * 6 + 5, none⟩ = some (.int .i64 p1)) (hT : ∀ W, Below w.heap.size w W → Calls Tryz.prog 29 #[.agg #[.int .i64 k0, .string s0, .int .u32 n0, .bool f0, v0, .int .i64 p0]] W fun e w' => e = .returned (.bool true) ∧ Below W.heap.size W w') (hB : ∀ W, Below w.heap.size w W → Calls Tryz.prog 31 #[.agg #[.int .i64 k1, .string s1, .int .u32 n1, .bool f1, v1, .int .i64 p1]] W fun e w' => e = .returned (.bool true) ∧ Below W.heap.size W w') (HQ : ∀ W, Below w.heap.size w W → ∀ j, 1 ≤ j → j < k → ParQ W b0 (o0 + j * 6) j F) (hXt : (∀ j, 1 ≤ j → j < k → F j = true) → X = true) (hXf : ∀ j, 1 ≤ j → j < k → F j = false → X = false) :
    Calls Tryz.prog 18 #[.agg #[.int .i64 45, .string str, .int .u32 num, .bool flag, .slice (some ⟨b0, o0, none⟩) (k + 1) kc, .int .i64 pos]] w fun e w' => e = .returned (.bool X) ∧ Below w.heap.size w w' := by
  have HH := hid' HQ
  have HT := hid' hXt
  have HF := hid' hXf
  clear HQ hXt hXf
  have e1 : ((k + 1 : Nat) : Int) - 1 = k := by omega
  have g1 : ¬ (k : Int) < 1 := by omega
  have g0 : (0 : Int) < ((k + 1 : Nat) : Int) := by omega
  go_enter Tryz.func18, Tryz.ntmps18
  go_wp2_with (first
    | (go_at_call 15; (with_reducible refine (hP _).mono ?_); rintro e1 w1 ⟨rfl, hb1⟩; obtain ⟨hc1, hf1⟩ := bcell hb1; have hs1 : w.heap.size < w1.heap.size := (by have := hb1.size; simp at this; omega); have hx1 : b0 < w1.heap.size := (by omega))
    | (go_at_call 28; (with_reducible refine (hN _).mono ?_); rintro e2 w2 ⟨rfl, rfl⟩)
    | (go_at_call 29; (with_reducible refine (hT _ (below_on (below1 _ _) hb1)).mono ?_); rintro e3 w3 ⟨rfl, hb3⟩; obtain ⟨hc3, hf3⟩ := bcell hb3; have hs3 : w.heap.size < w3.heap.size := (by have := hb3.size; omega); have hx3 : b0 < w3.heap.size := (by omega))
    | (go_at_call 31; (with_reducible refine (hB _ (below_on (below_on (below1 _ _) hb1) hb3)).mono ?_); rintro e4 w5 ⟨rfl, hb4⟩; obtain ⟨hc4, hf4⟩ := bcell hb4; have hs5 : w.heap.size < w5.heap.size := (by have := hb4.size; omega); have d4 : w5.cell? ⟨w.heap.size, 4, none⟩ = some (.slice (some ⟨b0, o0, none⟩) (k + 1) kc) := (by rw [hc4 _ _ hs3, hc3 _ _ hs1, hc1 _ _ (by simp)]; simp [go_sem]); have HB5 : Hid (Below w.heap.size w w5) := (below_on (below_on (below_on (below1 _ _) hb1) hb3) hb4)))
  clear hc1 hf1 hb1 hs1 hx1 hc3 hf3 hb3 hs3 hx3 hc4 hf4 hb4 hP hN hT hB c00 c01 c02 c03 c04 c05 c10 c11 c12 c13 c14 c15
  go_loopw [4] (fun i wr => ∃ j : Nat, 1 ≤ j ∧ j ≤ k ∧ i = .int .i64 (j : Nat) ∧ (∀ m, 1 ≤ m → m < j → F m = true) ∧ Below w5.heap.size w5 wr) (fun i _ => k - (intOf i).toNat)
  case atStart => exact ⟨1, by omega, by omega, rfl, fun m h1 hm => by omega, Below.refl _ _⟩
  case round =>
    obtain ⟨j, hj1, hj, rfl, hok, hBw⟩ := hrel
    have HOK := hid' hok
    have HBW := hid' hBw
    have e4 := (hBw.cell (p := ⟨w.heap.size, 4, none⟩) hs5).trans d4
    have hl' : w.heap.size < wr.heap.size := Nat.lt_of_lt_of_le hs5 hBw.size
    clear hok hBw
    by_cases hjt : j < k
    · obtain ⟨x, ao, m, cap, N, T, hlb, ⟨c0, c1, c2, c3, c5, c6⟩, hn0, hp, hn, ht, hFj⟩ := HH.out wr (below_on HB5.out HBW.out) j hj1 hjt
      have hlt' : (j : Int) < k := by omega
      have hlt4 : (j : Int) < ((k + 1 : Nat) : Int) := by omega
      replace hp := hid' hp
      replace hn := hid' hn
      replace ht := hid' ht
      replace hFj := hid' hFj
      obtain ⟨kind, str', num', flag', pos'⟩ := x
      unfold ndV at hp ht
      dsimp only at *
      cases hk46 : kind == 46 with
      | false =>
        have HN : Hid (X = false) := HF.out j hj1 hjt (hFj.out.trans (by rw [hk46]; rfl))
        have g46 : ¬ kind = 46 := by intro h; rw [h] at hk46; exact Bool.noConfusion hk46
        go_wp2_with fail
        all_goals (go_ret; exact ⟨by rw [HN.out]; rfl, below_on HB5.out (below_on HBW.out (below1 _ _))⟩)
      | true =>
      obtain rfl : kind = 46 := eq_of_beq hk46
      clear hk46
      by_cases hn1 : num' ≤ 1
      rotate_left
      · have HN : Hid (X = false) := HF.out j hj1 hjt (hFj.out.trans (by rw [decide_eq_false hn1]; simp))
        have g2 : 1 < num' := by omega
        go_wp2_with (go_at_call 15; (with_reducible refine (hp.out _).mono ?_); rintro e w6 ⟨rfl, hb6⟩; obtain ⟨hc6, hf6⟩ := bcell hb6; have hs6 : wr.heap.size < w6.heap.size := (by have := hb6.size; simp at this; omega))
        all_goals (go_ret; exact ⟨by rw [HN.out]; rfl, below_on HB5.out (below_on HBW.out (below_on (below1 _ _) hb6))⟩)
      have g2 : ¬ 1 < num' := by omega
      cases hfl : (flag' && num' == 1) with
      | true =>
        have HN : Hid (X = false) := HF.out j hj1 hjt (hFj.out.trans (by rw [hfl]; simp))
        obtain ⟨rfl, h1⟩ := Bool.and_eq_true _ _ ▸ hfl
        obtain rfl : num' = 1 := eq_of_beq h1
        clear hfl h1
        go_wp2_with (go_at_call 15; (with_reducible refine (hp.out _).mono ?_); rintro e w6 ⟨rfl, hb6⟩; obtain ⟨hc6, hf6⟩ := bcell hb6; have hs6 : wr.heap.size < w6.heap.size := (by have := hb6.size; simp at this; omega))
        all_goals (go_ret; exact ⟨by rw [HN.out]; rfl, below_on HB5.out (below_on HBW.out (below_on (below1 _ _) hb6))⟩)
      | false =>
      have gf : flag' = false ∨ (flag' = true ∧ ¬ num' = 1) := by
        cases flag' with
        | false => exact Or.inl rfl
        | true => exact Or.inr ⟨rfl, fun h => by rw [h] at hfl; exact Bool.noConfusion hfl⟩
      clear hfl
      rcases gf with rfl | ⟨rfl, gn⟩
      ·
        cases N with
        | false =>
          have HN : Hid (X = false) := HF.out j hj1 hjt (hFj.out.trans (by simp))
          go_wp2_with (first
            | (go_at_call 15; (with_reducible refine (hp.out _).mono ?_); rintro e w6 ⟨rfl, hb6⟩; obtain ⟨hc6, hf6⟩ := bcell hb6; have hs6 : wr.heap.size < w6.heap.size := (by have := hb6.size; simp at this; omega))
            | (go_at_call 28; (with_reducible refine (hn.out _).mono ?_); rintro e w7 ⟨rfl, rfl⟩))
          all_goals (go_ret; exact ⟨by rw [HN.out]; rfl, below_on HB5.out (below_on HBW.out (below_on (below1 _ _) hb6))⟩)
        | true =>
          by_cases hm : m = 1
          rotate_left
          · have HN : Hid (X = false) := HF.out j hj1 hjt (hFj.out.trans (by rw [decide_eq_false hm]; simp))
            have gm : ¬ (m : Int) = 1 := by omega
            go_wp2_with (first
              | (go_at_call 15; (with_reducible refine (hp.out _).mono ?_); rintro e w6 ⟨rfl, hb6⟩; obtain ⟨hc6, hf6⟩ := bcell hb6; have hs6 : wr.heap.size < w6.heap.size := (by have := hb6.size; simp at this; omega))
              | (go_at_call 28; (with_reducible refine (hn.out _).mono ?_); rintro e w7 ⟨rfl, rfl⟩))
            all_goals (go_ret; exact ⟨by rw [HN.out]; rfl, below_on HB5.out (below_on HBW.out (below_on (below1 _ _) hb6))⟩)
          subst hm
          obtain ⟨b1, o1, x1, kv1, rfl, hbl, ⟨a0, a1, a2, a3, a5, a6⟩, ht'⟩ := ht.out rfl
          clear ht
          have ht := hid' ht'
          clear ht'
          unfold ndV at ht
          cases T with
          | false =>
            have HN : Hid (X = false) := HF.out j hj1 hjt (hFj.out.trans (by simp))
            go_wp2_with (first
              | (go_at_call 15; (with_reducible refine (hp.out _).mono ?_); rintro e w6 ⟨rfl, hb6⟩; obtain ⟨hc6, hf6⟩ := bcell hb6; have hs6 : wr.heap.size < w6.heap.size := (by have := hb6.size; simp at this; omega); have hx6 : b1 < w6.heap.size := (by omega))
              | (go_at_call 28; (with_reducible refine (hn.out _).mono ?_); rintro e w7 ⟨rfl, rfl⟩)
              | (go_at_call 29; (with_reducible refine (ht.out _ (below_on (below1 _ _) hb6)).mono ?_); rintro e w8 ⟨rfl, hb8⟩; replace hb8 := hid' hb8))
            all_goals (go_ret; exact ⟨by rw [HN.out]; rfl, below_on HB5.out (below_on HBW.out (below_on (below_on (below1 _ _) hb6) hb8.out))⟩)
          | true =>
            have HN : Hid (∀ m, 1 ≤ m → m < j + 1 → F m = true) := fun m h1 hmj => by
              by_cases e : m = j
              · subst e; exact hFj.out.trans (by simp [hn1])
              · exact HOK.out m h1 (by omega)
            go_wp2_with (first
              | (go_at_call 15; (with_reducible refine (hp.out _).mono ?_); rintro e w6 ⟨rfl, hb6⟩; obtain ⟨hc6, hf6⟩ := bcell hb6; have hs6 : wr.heap.size < w6.heap.size := (by have := hb6.size; simp at this; omega); have hx6 : b1 < w6.heap.size := (by omega))
              | (go_at_call 28; (with_reducible refine (hn.out _).mono ?_); rintro e w7 ⟨rfl, rfl⟩)
              | (go_at_call 29; (with_reducible refine (ht.out _ (below_on (below1 _ _) hb6)).mono ?_); rintro e w8 ⟨rfl, hb8⟩; replace hb8 := hid' hb8))
            go_roundw
            case rel => exact ⟨j + 1, by omega, by omega, by go_num, HN.out, below_on HBW.out (below_on (below_on (below1 _ _) hb6) hb8.out)⟩
            case measure => simp [intOf]; omega
      · have gn2 : (num' == 1) = false := by rw [beq_eq_false_iff_ne]; exact gn
        cases N with
        | false =>
          have HN : Hid (X = false) := HF.out j hj1 hjt (hFj.out.trans (by simp))
          go_wp2_with (first
            | (go_at_call 15; (with_reducible refine (hp.out _).mono ?_); rintro e w6 ⟨rfl, hb6⟩; obtain ⟨hc6, hf6⟩ := bcell hb6; have hs6 : wr.heap.size < w6.heap.size := (by have := hb6.size; simp at this; omega))
            | (go_at_call 28; (with_reducible refine (hn.out _).mono ?_); rintro e w7 ⟨rfl, rfl⟩))
          all_goals (go_ret; exact ⟨by rw [HN.out]; rfl, below_on HB5.out (below_on HBW.out (below_on (below1 _ _) hb6))⟩)
        | true =>
          by_cases hm : m = 1
          rotate_left
          · have HN : Hid (X = false) := HF.out j hj1 hjt (hFj.out.trans (by rw [decide_eq_false hm]; simp))
            have gm : ¬ (m : Int) = 1 := by omega
            go_wp2_with (first
              | (go_at_call 15; (with_reducible refine (hp.out _).mono ?_); rintro e w6 ⟨rfl, hb6⟩; obtain ⟨hc6, hf6⟩ := bcell hb6; have hs6 : wr.heap.size < w6.heap.size := (by have := hb6.size; simp at this; omega))
              | (go_at_call 28; (with_reducible refine (hn.out _).mono ?_); rintro e w7 ⟨rfl, rfl⟩))
            all_goals (go_ret; exact ⟨by rw [HN.out]; rfl, below_on HB5.out (below_on HBW.out (below_on (below1 _ _) hb6))⟩)
          subst hm
          obtain ⟨b1, o1, x1, kv1, rfl, hbl, ⟨a0, a1, a2, a3, a5, a6⟩, ht'⟩ := ht.out rfl
          clear ht
          have ht := hid' ht'
          clear ht'
          unfold ndV at ht
          cases T with
          | false =>
            have HN : Hid (X = false) := HF.out j hj1 hjt (hFj.out.trans (by simp))
            go_wp2_with (first
              | (go_at_call 15; (with_reducible refine (hp.out _).mono ?_); rintro e w6 ⟨rfl, hb6⟩; obtain ⟨hc6, hf6⟩ := bcell hb6; have hs6 : wr.heap.size < w6.heap.size := (by have := hb6.size; simp at this; omega); have hx6 : b1 < w6.heap.size := (by omega))
              | (go_at_call 28; (with_reducible refine (hn.out _).mono ?_); rintro e w7 ⟨rfl, rfl⟩)
              | (go_at_call 29; (with_reducible refine (ht.out _ (below_on (below1 _ _) hb6)).mono ?_); rintro e w8 ⟨rfl, hb8⟩; replace hb8 := hid' hb8))
            all_goals (go_ret; exact ⟨by rw [HN.out]; rfl, below_on HB5.out (below_on HBW.out (below_on (below_on (below1 _ _) hb6) hb8.out))⟩)
          | true =>
            have HN : Hid (∀ m, 1 ≤ m → m < j + 1 → F m = true) := fun m h1 hmj => by
              by_cases e : m = j
              · subst e; exact hFj.out.trans (by simp [hn1, gn])
              · exact HOK.out m h1 (by omega)
            go_wp2_with (first
              | (go_at_call 15; (with_reducible refine (hp.out _).mono ?_); rintro e w6 ⟨rfl, hb6⟩; obtain ⟨hc6, hf6⟩ := bcell hb6; have hs6 : wr.heap.size < w6.heap.size := (by have := hb6.size; simp at this; omega); have hx6 : b1 < w6.heap.size := (by omega))
              | (go_at_call 28; (with_reducible refine (hn.out _).mono ?_); rintro e w7 ⟨rfl, rfl⟩)
              | (go_at_call 29; (with_reducible refine (ht.out _ (below_on (below1 _ _) hb6)).mono ?_); rintro e w8 ⟨rfl, hb8⟩; replace hb8 := hid' hb8))
            go_roundw
            case rel => exact ⟨j + 1, by omega, by omega, by go_num, HN.out, below_on HBW.out (below_on (below_on (below1 _ _) hb6) hb8.out)⟩
            case measure => simp [intOf]; omega
    · have e : j = k := by omega
      subst e
      have HN : Hid (X = true) := HT.out fun m h1 hm => HOK.out m h1 hm
      go_wp2_with fail
      go_ret
      exact ⟨by rw [HN.out]; rfl, below_on HB5.out HBW.out⟩

end Go.Proofs.YtnnnfabpceapcaaGreatDoor

namespace Go.Proofs.YtnnnfabpceapcaaGreatDoor
set_option linter.unusedSimpArgs false
open Go.RowKit
set_option linter.unusedVariables false
set_option linter.unusedSimpArgs false

theorem szT_mem : ∀ {ks : List Tr} {t : Tr}, t ∈ ks → szT t ≤ szL ks
  | u :: r, t, h => by
    rw [szL_cons]
    rcases List.mem_cons.1 h with rfl | h
    · omega
    · have := szT_mem h
      omega
theorem are_len {Fs : List Ask} {ks : List Tr} (h : areK Fs ks = true) : ks.length = Fs.length := Classical.byContradiction fun hn => by
  rw [areK_len Fs ks hn] at h
  exact Bool.noConfusion h
theorem may_stmt {x : NdH} {ks : List Tr} (h : 47 ≤ x.kind ∧ x.kind ≤ 56) : mayN x ks = (partsF x false false false && stmtF x ks) := by
  obtain ⟨kind, str, num, flag, pos⟩ := x
  dsimp only at h
  have hp : partsF ⟨kind, str, num, flag, pos⟩ false false false = (str.toList.isEmpty && (decide (num = 0) && !flag)) := by
    unfold partsF
    dsimp only
    rw [emp_dec, num_dec]
    rfl
  rw [hp]
  have hb : ∀ a b c d : Bool, ((a && (b && c)) && d) = (a && (b && (c && d))) := by decide
  rw [hb]
  have hc : kind = 47 ∨ kind = 48 ∨ kind = 49 ∨ kind = 50 ∨ kind = 51 ∨ kind = 52 ∨ kind = 53 ∨ kind = 54 ∨ kind = 55 ∨ kind = 56 := by omega
  rcases hc with rfl | rfl | rfl | rfl | rfl | rfl | rfl | rfl | rfl | rfl <;> rfl
theorem stR_is (x : NdH) (ks : List Tr) : stR (Tr.node x ks) = (decide (47 ≤ x.kind ∧ x.kind ≤ 56) && (partsF x false false false && (stmtF x ks && allL mayN ks))) := by
  unfold stR
  rw [qR_node]
  by_cases h : 47 ≤ x.kind ∧ x.kind ≤ 56
  · rw [may_stmt h]
    unfold isStmt
    rw [decide_eq_true h]
    cases partsF x false false false <;> cases stmtF x ks <;> cases allL mayN ks <;> rfl
  · unfold isStmt
    rw [decide_eq_false h]
    rfl

theorem open_is : ∀ (n : Nat) (t : Tr), szT t ≤ n → isT t = true → allT mayN t = true → openD t = openT t
  | 0, t, hn, ht, _ => by
    obtain ⟨x, ks, rfl⟩ := isT_form ht
    rw [szT_node] at hn
    omega
  | n + 1, t, hn, ht, hm => by
    obtain ⟨x, ks, rfl⟩ := isT_form ht
    rw [szT_node] at hn
    rw [isT_node] at ht
    rw [allT_node, Bool.and_eq_true] at hm
    have hl : ((ks.map openD).getLast?).getD false = ((ks.map openT).getLast?).getD false := by
      rw [List.getLast?_map, List.getLast?_map]
      cases h : ks.getLast? with
      | none => rfl
      | some t =>
        have hmem := List.mem_of_getLast? h
        have := szT_mem hmem
        have hmt : allT mayN t = true := by
          have h2 := hm.2
          unfold allL at h2
          exact List.all_eq_true.1 h2 _ (List.mem_map.2 ⟨t, hmem, rfl⟩)
        show openD t = openT t
        exact open_is n t (by omega) (isL_mem ht t hmem) hmt
    rw [openD_node, openT_node, hl]
    by_cases h49 : x.kind = 49
    · have hs := hm.1
      rw [may_stmt (by omega), Bool.and_eq_true] at hs
      have e : stmtF x ks = (areK [isExpr, isStmt] ks || areK [isExpr, closedK, isStmt] ks) := by
        unfold stmtF
        rw [if_neg (by omega), if_neg (by omega), if_pos h49]
      have h3 := hs.2
      rw [e, Bool.or_eq_true] at h3
      rw [if_pos h49, if_pos (.inl h49)]
      rcases h3 with h3 | h3
      · have := are_len h3
        rw [if_pos ⟨h49, this⟩, decide_eq_true (by simpa using this)]
        rfl
      · have := are_len h3
        simp at this
        rw [if_neg (by omega), decide_eq_false (by omega), decide_eq_true (by omega)]
        rfl
    · rw [if_neg h49]
      by_cases h5 : x.kind = 50 ∨ x.kind = 52
      · rw [if_pos h5, if_pos (.inr h5), if_neg (fun h => h49 h.1)]
      · rw [if_neg h5, if_neg (by omega)]

theorem kid_addr {a b c d : Nat} (h : (some (⟨a, b, none⟩ : Addr)) = some ⟨c, d, none⟩) : a = c ∧ b = d := by simpa using h

theorem two_kids {ks : List Tr} (h : ks.length = 2) : ∃ t0 t1, ks = [t0, t1] := by
  match ks, h with
  | [t0, t1], _ => exact ⟨t0, t1, rfl⟩
theorem three_kids {ks : List Tr} (h : ks.length = 3) : ∃ t0 t1 t2, ks = [t0, t1, t2] := by
  match ks, h with
  | [t0, t1, t2], _ => exact ⟨t0, t1, t2, rfl⟩
theorem four_kids {ks : List Tr} (h : ks.length = 4) : ∃ t0 t1 t2 t3, ks = [t0, t1, t2, t3] := by
  match ks, h with
  | [t0, t1, t2, t3], _ => exact ⟨t0, t1, t2, t3, rfl⟩
def pick3 (t0 t1 t2 : Tr) : Nat → Tr
  | 0 => t0
  | 1 => t1
  | _ => t2
theorem closed_q (t : Tr) (ht : isT t = true) : qR closedK t = (qR isStmt t && !openT t) := by
  obtain ⟨x, ks, rfl⟩ := isT_form ht
  rw [qR_node, qR_node]
  unfold closedK openK
  cases isStmt x ks <;> cases openT (Tr.node x ks) <;> cases mayN x ks <;> cases allL mayN ks <;> rfl

/-- What is told of a kid. -/
def KidAll (w : World) (ao : Option Addr) (t : Tr) (i : Nat) : Prop :=
  ∃ b off x' kv', ao = some ⟨b, off, none⟩ ∧ b < w.heap.size ∧ NdAt w b (off + i * 6) x' kv' ∧
    (∀ W, Below w.heap.size w W → Calls Tryz.prog 52 #[ndV x' kv'] W fun e w' => e = .returned (.bool (exR t)) ∧ Below W.heap.size W w') ∧
    (∀ W, Below w.heap.size w W → Calls Tryz.prog 54 #[ndV x' kv'] W fun e w' => e = .returned (.bool (stR t)) ∧ Below W.heap.size W w') ∧
    (∀ W, Below w.heap.size w W → Calls Tryz.prog 78 #[ndV x' kv'] W fun e w' => e = .returned (.bool (openD t)) ∧ Below W.heap.size W w') ∧
    (∀ W, Below w.heap.size w W → Calls Tryz.prog 51 #[ndV x' kv'] W fun e w' => e = .returned (.bool (noneT t)) ∧ Below W.heap.size W w')

set_option maxHeartbeats 4000000 in
set_option maxRecDepth 20000 in
theorem statement54 {cb : Nat} : ∀ (n : Nat) {w : World} {x : NdH} {kv : Value} {ks : List Tr}, Ks cb n w kv ks → allT typedN (Tr.node x ks) = true →
    Calls Tryz.prog 54 #[ndV x kv] w fun e w' => e = .returned (.bool (stR (Tr.node x ks))) ∧ Below w.heap.size w w' := fun n => by
  induction n using Nat.strongRecOn with
  | ind n ih =>
  intro w x kv ks hK ht
  rw [allT_node, Bool.and_eq_true] at ht
  obtain ⟨hx, hks⟩ := ht
  obtain ⟨hlen, ao, cap, rfl⟩ := hK.shape
  have hi : isL ks = true := hK.isL
  have hE : KidQ w ao ks 52 exR := kidq_expr hK hks
  have hV := kidq_vars hK hks false
  have hS : KidQ w ao ks 54 stR := fun W hW i hi => by
    obtain ⟨m, b, off, x', kv', ks', hm, e, ⟨hlt, hne⟩, he, hc, hk⟩ := (hK.below hW).kid i hi
    refine ⟨b, off, x', kv', e, hlt, hc, ?_⟩
    have ht := typed_kid hks i hi
    rw [he] at ht ⊢
    exact ih m hm hk ht
  have kid : ∀ i (hi : i < ks.length), KidAll w ao ks[i] i := fun i hi => by
    obtain ⟨m, b, off, x', kv', ks', hm, e, ⟨hlt, hne⟩, he, hc, hk⟩ := hK.kid i hi
    have ht := typed_kid hks i hi
    rw [he] at ht
    obtain ⟨_, ka', kc', rfl⟩ := hk.shape
    refine ⟨b, off, x', _, e, hlt, hc, ?_, ?_, ?_, ?_⟩
    · intro W hW; rw [he]; exact expr52_all (hk.below hW) ht
    · intro W hW; rw [he]; exact ih m hm (hk.below hW) ht
    · intro W hW; rw [he]; exact open78 m (hk.below hW)
    · intro W hW; rw [he, noneT_node]; exact none51 x' ka' _ kc' W
  clear ih hK
  rw [stR_is]
  have hP := fun W => parts15 x ao ks.length cap false false false W
  cases hp : partsF x false false false with
  | false =>
    rw [Bool.false_and, Bool.and_false]
    rw [hp] at hP
    exact st54_parts hP
  | true =>
  rw [hp] at hP
  rw [Bool.true_and]
  obtain ⟨kind, str, num, flag, pos⟩ := x
  dsimp only at hp ⊢
  by_cases hr : 47 ≤ kind ∧ kind ≤ 56
  · rw [decide_eq_true hr, Bool.true_and]
    have hc : kind = 47 ∨ kind = 48 ∨ kind = 49 ∨ kind = 50 ∨ kind = 51 ∨ kind = 52 ∨ kind = 53 ∨ kind = 54 ∨ kind = 55 ∨ kind = 56 := by omega
    clear hr
    rcases hc with rfl | rfl | rfl | rfl | rfl | rfl | rfl | rfl | rfl | rfl
    · have e : (stmtF ⟨47, str, num, flag, pos⟩ ks && allL mayN ks) = blkD stR ⟨47, str, num, flag, pos⟩ ks := by
        rw [blk_q _ _ hi, qR_node, of_one, may_stmt (by dsimp only; omega), hp]
        simp
      rw [e]
      exact st54_47 hP (fun W hW => block31 hlen (fun W' hW' => hV W' (below_on hW hW')) (hS.on hW))
    · have e : (stmtF ⟨48, str, num, flag, pos⟩ ks && allL mayN ks) = exprsF exR ks 1 := are_exprs 1 ks
      rw [e]
      exact st54_48 hP (fun W hW => exprs53 hlen (hE.on hW) ⟨48, str, num, flag, pos⟩ (1))
    · by_cases h2 : ks.length = 2
      · obtain ⟨t0, t1, rfl⟩ := two_kids h2
        have e : (stmtF ⟨49, str, num, flag, pos⟩ [t0, t1] && allL mayN [t0, t1]) = (exR t0 && stR t1) := by
          rw [show stmtF ⟨49, str, num, flag, pos⟩ [t0, t1] = (areK [isExpr, isStmt] [t0, t1] || areK [isExpr, closedK, isStmt] [t0, t1]) from rfl, areK_len [isExpr, closedK, isStmt] [t0, t1] (by simp), Bool.or_false, are_r]
          show (qR isExpr t0 && (qR isStmt t1 && true)) = _
          rw [Bool.and_true]
          rfl
        rw [e]
        obtain ⟨b, off, x0, kv0, rfl, hlt, ⟨c0, c1, c2, c3, c4, c5⟩, k52, k54, k78, k51⟩ := kid 0 (by simp)
        obtain ⟨b1, off1, x1, kv1, e1, _, ⟨d0, d1, d2, d3, d4, d5⟩, l52, l54, l78, l51⟩ := kid 1 (by simp)
        obtain ⟨rfl, rfl⟩ := kid_addr e1
        simp only [Nat.zero_mul, Nat.add_zero] at c0 c1 c2 c3 c4 c5
        exact st54_49_2 hlt hP c0 c1 c2 c3 c4 c5 d0 d1 d2 d3 d4 d5 k52 l54
      · by_cases h3 : ks.length = 3
        · obtain ⟨t0, t1, t2, rfl⟩ := three_kids h3
          have h1 := isL_mem hi t1 (by simp)
          have e : (stmtF ⟨49, str, num, flag, pos⟩ [t0, t1, t2] && allL mayN [t0, t1, t2]) = (stR t2 && (!openD t1 && (exR t0 && stR t1))) := by
            rw [show stmtF ⟨49, str, num, flag, pos⟩ [t0, t1, t2] = (areK [isExpr, isStmt] [t0, t1, t2] || areK [isExpr, closedK, isStmt] [t0, t1, t2]) from rfl, areK_len [isExpr, isStmt] [t0, t1, t2] (by simp), Bool.false_or, are_r]
            show (qR isExpr t0 && (qR closedK t1 && (qR isStmt t2 && true))) = _
            rw [closed_q t1 h1]
            have ho : stR t1 = true → openD t1 = openT t1 := fun h => by
              unfold stR qR at h
              rw [Bool.and_eq_true] at h
              exact open_is _ t1 (Nat.le_refl _) h1 h.2
            unfold stR exR at *
            show (qR isExpr t0 && _) = (_ && (_ && (qR isExpr t0 && _)))
            cases hS1 : qR isStmt t1 with
            | false => cases qR isExpr t0 <;> cases qR isStmt t2 <;> cases openD t1 <;> rfl
            | true =>
              rw [ho hS1]
              cases qR isExpr t0 <;> cases qR isStmt t2 <;> cases openT t1 <;> rfl
          rw [e]
          obtain ⟨b, off, x0, kv0, rfl, hlt, ⟨c0, c1, c2, c3, c4, c5⟩, k52, k54, k78, k51⟩ := kid 0 (by simp)
          obtain ⟨b1, off1, x1, kv1, e1, _, ⟨d0, d1, d2, d3, d4, d5⟩, l52, l54, l78, l51⟩ := kid 1 (by simp)
          obtain ⟨rfl, rfl⟩ := kid_addr e1
          obtain ⟨b2, off2, x2, kv2, e2, _, ⟨f0, f1, f2, f3, f4, f5⟩, m52, m54, m78, m51⟩ := kid 2 (by simp)
          obtain ⟨rfl, rfl⟩ := kid_addr e2
          simp only [Nat.zero_mul, Nat.add_zero] at c0 c1 c2 c3 c4 c5
          exact st54_49_3 hlt hP c0 c1 c2 c3 c4 c5 d0 d1 d2 d3 d4 d5 f0 f1 f2 f3 f4 f5 m54 l78 k52 l54
        · have e : (stmtF ⟨49, str, num, flag, pos⟩ ks && allL mayN ks) = false := by
            rw [show stmtF ⟨49, str, num, flag, pos⟩ ks = (areK [isExpr, isStmt] ks || areK [isExpr, closedK, isStmt] ks) from rfl, areK_len [isExpr, isStmt] ks (by simpa using h2), areK_len [isExpr, closedK, isStmt] ks (by simpa using h3)]
            rfl
          rw [e]
          exact st54_49_no h2 h3 hP
    · by_cases h2 : ks.length = 2
      · obtain ⟨t0, t1, rfl⟩ := two_kids h2
        have e : (stmtF ⟨50, str, num, flag, pos⟩ [t0, t1] && allL mayN [t0, t1]) = (exR t0 && stR t1) := by
          rw [show stmtF ⟨50, str, num, flag, pos⟩ [t0, t1] = areK [isExpr, isStmt] [t0, t1] from rfl, are_r]
          show (qR isExpr t0 && (qR isStmt t1 && true)) = _
          rw [Bool.and_true]
          rfl
        rw [e]
        obtain ⟨b, off, x0, kv0, rfl, hlt, ⟨c0, c1, c2, c3, c4, c5⟩, k52, k54, k78, k51⟩ := kid 0 (by simp)
        obtain ⟨b1, off1, x1, kv1, e1, _, ⟨d0, d1, d2, d3, d4, d5⟩, l52, l54, l78, l51⟩ := kid 1 (by simp)
        obtain ⟨rfl, rfl⟩ := kid_addr e1
        simp only [Nat.zero_mul, Nat.add_zero] at c0 c1 c2 c3 c4 c5
        exact st54_50 hlt hP c0 c1 c2 c3 c4 c5 d0 d1 d2 d3 d4 d5 k52 l54
      · have e : (stmtF ⟨50, str, num, flag, pos⟩ ks && allL mayN ks) = false := by
          rw [show stmtF ⟨50, str, num, flag, pos⟩ ks = areK [isExpr, isStmt] ks from rfl, areK_len _ _ (by simpa using h2)]
          rfl
        rw [e]
        exact st54_50_no h2 hP
    · by_cases h2 : ks.length = 2
      · obtain ⟨t0, t1, rfl⟩ := two_kids h2
        have e : (stmtF ⟨51, str, num, flag, pos⟩ [t0, t1] && allL mayN [t0, t1]) = (stR t0 && exR t1) := by
          rw [show stmtF ⟨51, str, num, flag, pos⟩ [t0, t1] = areK [isStmt, isExpr] [t0, t1] from rfl, are_r]
          show (qR isStmt t0 && (qR isExpr t1 && true)) = _
          rw [Bool.and_true]
          rfl
        rw [e]
        obtain ⟨b, off, x0, kv0, rfl, hlt, ⟨c0, c1, c2, c3, c4, c5⟩, k52, k54, k78, k51⟩ := kid 0 (by simp)
        obtain ⟨b1, off1, x1, kv1, e1, _, ⟨d0, d1, d2, d3, d4, d5⟩, l52, l54, l78, l51⟩ := kid 1 (by simp)
        obtain ⟨rfl, rfl⟩ := kid_addr e1
        simp only [Nat.zero_mul, Nat.add_zero] at c0 c1 c2 c3 c4 c5
        exact st54_51 hlt hP c0 c1 c2 c3 c4 c5 d0 d1 d2 d3 d4 d5 k54 l52
      · have e : (stmtF ⟨51, str, num, flag, pos⟩ ks && allL mayN ks) = false := by
          rw [show stmtF ⟨51, str, num, flag, pos⟩ ks = areK [isStmt, isExpr] ks from rfl, areK_len _ _ (by simpa using h2)]
          rfl
        rw [e]
        exact st54_51_no h2 hP
    · by_cases h4 : ks.length = 4
      · obtain ⟨t0, t1, t2, t3, rfl⟩ := four_kids h4
        have i0 := isL_mem hi t0 (by simp)
        have i1 := isL_mem hi t1 (by simp)
        have i2 := isL_mem hi t2 (by simp)
        have e : (stmtF ⟨52, str, num, flag, pos⟩ [t0, t1, t2, t3] && allL mayN [t0, t1, t2, t3]) = ((noneT t0 || exR t0) && ((noneT t1 || exR t1) && ((noneT t2 || exR t2) && stR t3))) := by
          rw [show stmtF ⟨52, str, num, flag, pos⟩ [t0, t1, t2, t3] = areK [orK [isExpr, ofK [56]], orK [isExpr, ofK [56]], orK [isExpr, ofK [56]], isStmt] [t0, t1, t2, t3] from rfl, are_r]
          show (qR (orK [isExpr, ofK [56]]) t0 && (qR (orK [isExpr, ofK [56]]) t1 && (qR (orK [isExpr, ofK [56]]) t2 && (qR isStmt t3 && true)))) = _
          rw [q_or _ _ _ i0, q_or _ _ _ i1, q_or _ _ _ i2, noneT_q _ i0, noneT_q _ i1, noneT_q _ i2, Bool.and_true, exR_q, Bool.or_comm (qR isExpr t0), Bool.or_comm (qR isExpr t1), Bool.or_comm (qR isExpr t2)]
          rfl
        rw [e]
        obtain ⟨b, off, x3, kv3, rfl, hlt, ⟨c0, c1, c2, c3, c4, c5⟩, k52, k54, k78, k51⟩ := kid 3 (by simp)
        cases hs : stR t3 with
        | false =>
          have k54' : ∀ W, Below w.heap.size w W → Calls Tryz.prog 54 #[ndV x3 kv3] W fun e w' => e = .returned (.bool false) ∧ Below W.heap.size W w' := fun W hW => by have := k54 W hW; rw [show ([t0, t1, t2, t3] : List Tr)[3] = t3 from rfl, hs] at this; exact this
          rw [Bool.and_false, Bool.and_false, Bool.and_false]
          exact st54_52_s hlt hP c0 c1 c2 c3 c4 c5 k54'
        | true =>
          have k54' : ∀ W, Below w.heap.size w W → Calls Tryz.prog 54 #[ndV x3 kv3] W fun e w' => e = .returned (.bool true) ∧ Below W.heap.size W w' := fun W hW => by have := k54 W hW; rw [show ([t0, t1, t2, t3] : List Tr)[3] = t3 from rfl, hs] at this; exact this
          have HQ : ∀ W, Below w.heap.size w W → ∀ j, j < 3 → ∃ x kv, b < W.heap.size ∧ NdAt W b (off + j * 6) x kv ∧ (Calls Tryz.prog 51 #[ndV x kv] W fun e w' => e = .returned (.bool (noneT (pick3 t0 t1 t2 j))) ∧ Below W.heap.size W w') ∧ ∀ W', Below W.heap.size W W' → Calls Tryz.prog 52 #[ndV x kv] W' fun e w' => e = .returned (.bool (exR (pick3 t0 t1 t2 j))) ∧ Below W'.heap.size W' w' := fun W hW j hj => by
            have hj4 : j < [t0, t1, t2, t3].length := by simp; omega
            obtain ⟨b', off', x', kv', e', hlt', hc', q52, q54, q78, q51⟩ := kid j hj4
            obtain ⟨rfl, rfl⟩ := kid_addr e'
            have ep : ([t0, t1, t2, t3] : List Tr)[j] = pick3 t0 t1 t2 j := by
              match j, hj with
              | 0, _ => rfl
              | 1, _ => rfl
              | 2, _ => rfl
            rw [ep] at q51 q52
            exact ⟨x', kv', Nat.lt_of_lt_of_le hlt' hW.size, hc'.below hW hlt', q51 W hW, fun W' hW' => q52 W' (below_on hW hW')⟩
          rw [Bool.and_true]
          refine st54_52 hlt hP c0 c1 c2 c3 c4 c5 k54' HQ (fun h => ?_) (fun j hj h => ?_)
          · have a0 := h 0 (by omega)
            have a1 := h 1 (by omega)
            have a2 := h 2 (by omega)
            unfold pick3 at a0 a1 a2
            simp only at a0 a1 a2
            rw [a0, a1, a2]
            rfl
          · match j, hj, h with
            | 0, _, h => unfold pick3 at h; simp only at h; rw [h]; rfl
            | 1, _, h => unfold pick3 at h; simp only at h; rw [h, Bool.false_and, Bool.and_false]
            | 2, _, h => unfold pick3 at h; simp only at h; rw [h, Bool.and_false, Bool.and_false]
      · have e : (stmtF ⟨52, str, num, flag, pos⟩ ks && allL mayN ks) = false := by
          rw [show stmtF ⟨52, str, num, flag, pos⟩ ks = areK [orK [isExpr, ofK [56]], orK [isExpr, ofK [56]], orK [isExpr, ofK [56]], isStmt] ks from rfl, areK_len _ _ (by simpa using h4)]
          rfl
        rw [e]
        exact st54_52_no h4 hP
    · have e : (stmtF ⟨53, str, num, flag, pos⟩ ks && allL mayN ks) = decide (ks.length = 0) := by
        rw [show stmtF ⟨53, str, num, flag, pos⟩ ks = areK [] ks from rfl, are_r]
        cases ks <;> rfl
      exact st54_53 hP e
    · have e : (stmtF ⟨54, str, num, flag, pos⟩ ks && allL mayN ks) = decide (ks.length = 0) := by
        rw [show stmtF ⟨54, str, num, flag, pos⟩ ks = areK [] ks from rfl, are_r]
        cases ks <;> rfl
      exact st54_54 hP e
    · have e : (stmtF ⟨55, str, num, flag, pos⟩ ks && allL mayN ks) = (decide (ks.length = 0) || exprsF exR ks 1) := by
        rw [show stmtF ⟨55, str, num, flag, pos⟩ ks = (areK [] ks || areK [isExpr] ks) from rfl, Bool.and_or_distrib_right, are_r]
        rw [show (areK [isExpr] ks && allL mayN ks) = exprsF exR ks 1 from are_exprs 1 ks]
        cases ks <;> rfl
      rw [e]
      by_cases h0 : ks.length = 0
      · rw [decide_eq_true h0, Bool.true_or]
        rw [h0] at hP ⊢
        exact st54_55_0 hP
      · rw [decide_eq_false h0, Bool.false_or]
        exact st54_55 (by omega) hP (fun W hW => exprs53 hlen (hE.on hW) ⟨55, str, num, flag, pos⟩ (1))
    · have e : (stmtF ⟨56, str, num, flag, pos⟩ ks && allL mayN ks) = decide (ks.length = 0) := by
        rw [show stmtF ⟨56, str, num, flag, pos⟩ ks = areK [] ks from rfl, are_r]
        cases ks <;> rfl
      exact st54_56 hP e
  · rw [decide_eq_false hr, Bool.false_and]
    have hne : ∀ k : Int, 47 ≤ k → k ≤ 56 → (kind == k) = false := fun k h1 h2 => by
      rw [beq_eq_false_iff_ne]
      omega
    exact st54_other hP (hne 47 (by omega) (by omega)) (hne 48 (by omega) (by omega)) (hne 49 (by omega) (by omega)) (hne 50 (by omega) (by omega)) (hne 51 (by omega) (by omega)) (hne 52 (by omega) (by omega)) (hne 53 (by omega) (by omega)) (hne 54 (by omega) (by omega)) (hne 55 (by omega) (by omega)) (hne 56 (by omega) (by omega))
end Go.Proofs.YtnnnfabpceapcaaGreatDoor

namespace Go.Proofs.YtnnnfabpceapcaaGreatDoor
set_option linter.unusedSimpArgs false
open Go.RowKit
set_option linter.unusedVariables false
set_option linter.unusedSimpArgs false

theorem block_all {cb n : Nat} {w : World} {x : NdH} {kv : Value} {ks : List Tr} (hK : Ks cb n w kv ks) (ht : allT typedN (Tr.node x ks) = true) :
    Calls Tryz.prog 31 #[ndV x kv] w fun e w' => e = .returned (.bool (qR (ofK [47]) (Tr.node x ks))) ∧ Below w.heap.size w w' := by
  rw [allT_node, Bool.and_eq_true] at ht
  obtain ⟨hx, hks⟩ := ht
  obtain ⟨hlen, ao, cap, rfl⟩ := hK.shape
  have hS : KidQ w ao ks 54 stR := fun W hW i hi => by
    obtain ⟨m, b, off, x', kv', ks', hm, e, ⟨hlt, hne⟩, he, hc, hk⟩ := (hK.below hW).kid i hi
    refine ⟨b, off, x', kv', e, hlt, hc, ?_⟩
    have ht := typed_kid hks i hi
    rw [he] at ht ⊢
    exact statement54 m hk ht
  rw [← blk_q _ _ hK.isL]
  exact block31 hlen (kidq_vars hK hks false) hS

/-- A parameter, as the document has it. -/
def parF (x : NdH) (ks : List Tr) : Bool := x.kind == 46 && (decide (x.num ≤ 1) && (!(x.flag && x.num == 1) && (nameB x.str && (decide (ks.length = 1) && ks.all typedT))))
theorem par_q (x : NdH) (ks : List Tr) (hi : isL ks = true) (hn : 0 ≤ x.num) : parF x ks = qR (ofK [46]) (Tr.node x ks) := by
  rw [qR_node, of_one]
  unfold parF
  cases hk : x.kind == 46 with
  | false => rfl
  | true =>
    obtain ⟨kind, str, num, flag, pos⟩ := x
    obtain rfl : kind = 46 := eq_of_beq hk
    dsimp only at *
    have e : mayN ⟨46, str, num, flag, pos⟩ ks = (nameB str && ((decide (num = 0) || (decide (num = 1) && !flag)) && (true && areK [ofK [16]] ks))) := rfl
    have e1 : (areK [ofK [16]] ks && allL mayN ks) = (decide (ks.length = 1) && ks.all typedT) := by
      rw [are_r]
      match ks, hi with
      | [], _ => rfl
      | [t], hi =>
        have := typedT_q t (isL_mem hi t (by simp))
        show (qR (ofK [16]) t && true) = (decide ([t].length = 1) && (typedT t && true))
        rw [this]
        rfl
      | t :: t1 :: r, _ => simp [areR]
    have e2 : (decide (num ≤ 1) && !(flag && num == 1)) = (decide (num = 0) || (decide (num = 1) && !flag)) := by
      by_cases h0 : num = 0
      · subst h0; cases flag <;> rfl
      · by_cases h1 : num = 1
        · subst h1; cases flag <;> rfl
        · rw [decide_eq_false (by omega : ¬ num ≤ 1), decide_eq_false h0, decide_eq_false h1]
          rfl
    have e3 : ∀ a b c d : Bool, (true && (a && (b && (c && d)))) = (a && b && (c && d)) := by decide
    rw [e3, e2, ← e1, e]
    generalize (decide (num = 0) || (decide (num = 1) && !flag)) = A
    cases nameB str <;> cases A <;> cases areK [ofK [16]] ks <;> cases allL mayN ks <;> rfl

theorem func_r (t0 t1 : Tr) (r : List Tr) : (funcF (t0 :: t1 :: r) && allL mayN (t0 :: t1 :: r)) = (qR (ofK [16]) t0 && (((t1 :: r).take r.length).all (qR (ofK [46])) && qR (ofK [47]) ((t1 :: r)[r.length]'(by simp)))) := by
  have e : funcF (t0 :: t1 :: r) = (onT (ofK [16]) t0 && (allK (ofK [46]) ((t1 :: r).take r.length) && onT (ofK [47]) ((t1 :: r)[r.length]'(by simp)))) := rfl
  have h1 := take_next (t1 :: r) r.length (by simp)
  rw [show (t1 :: r).take (r.length + 1) = t1 :: r from List.take_of_length_le (by simp)] at h1
  have e2 : allL mayN (t1 :: r) = (allL mayN ((t1 :: r).take r.length) && allT mayN ((t1 :: r)[r.length]'(by simp))) := by
    have h2 := congrArg (allL mayN) h1
    rw [allL_append] at h2
    rw [h2]
    congr 1
    show (allT mayN _ && true) = _
    rw [Bool.and_true]
  rw [e, allL_cons, e2, ← all_r]
  unfold qR
  cases onT (ofK [16]) t0 <;> cases allT mayN t0 <;> cases allK (ofK [46]) ((t1 :: r).take r.length) <;> cases allL mayN ((t1 :: r).take r.length) <;> cases onT (ofK [47]) ((t1 :: r)[r.length]'(by simp)) <;> cases allT mayN ((t1 :: r)[r.length]'(by simp)) <;> rfl

theorem func_few {ks : List Tr} (h : ks.length ≤ 1) : funcF ks = false := by
  match ks, h with
  | [], _ => rfl
  | [t], _ => rfl
theorem more_kids {ks : List Tr} (h : ¬ ks.length ≤ 1) : ∃ t0 t1 r, ks = t0 :: t1 :: r := by
  match ks, h with
  | [], h => simp at h
  | [t], h => simp at h
  | t0 :: t1 :: r, _ => exact ⟨t0, t1, r, rfl⟩
theorem one_kid {ks : List Tr} (h : ks.length = 1) : ∃ t, ks = [t] := by
  match ks, h with
  | [t], _ => exact ⟨t, rfl⟩
/-- A function, part by part. -/
theorem fn_is {str : ByteArray} {num pos : Int} {flag : Bool} {ks : List Tr} (hp : partsF ⟨45, str, num, flag, pos⟩ true false false = true) (hn : nameB str = true) : qR (ofK [45]) (Tr.node ⟨45, str, num, flag, pos⟩ ks) = (funcF ks && allL mayN ks) := by
  have e : mayN ⟨45, str, num, flag, pos⟩ ks = (nameB str && (decide (num = 0) && (!flag && funcF ks))) := rfl
  have ho : ofK [45] ⟨45, str, num, flag, pos⟩ ks = true := rfl
  rw [qR_node, ho, e, hn]
  unfold partsF at hp
  dsimp only at hp
  rw [num_dec] at hp
  cases h1 : decide (num = 0) with
  | false => rw [h1] at hp; cases emptyB str <;> exact Bool.noConfusion hp
  | true =>
    cases flag with
    | true => rw [h1] at hp; cases emptyB str <;> exact Bool.noConfusion hp
    | false => rfl
theorem fn_no_parts {str : ByteArray} {num pos : Int} {flag : Bool} {ks : List Tr} (hp : partsF ⟨45, str, num, flag, pos⟩ true false false = false) : qR (ofK [45]) (Tr.node ⟨45, str, num, flag, pos⟩ ks) = false := by
  have e : mayN ⟨45, str, num, flag, pos⟩ ks = (nameB str && (decide (num = 0) && (!flag && funcF ks))) := rfl
  rw [qR_node, e]
  unfold partsF at hp
  dsimp only at hp
  rw [num_dec] at hp
  cases h1 : decide (num = 0) with
  | false => cases ofK [45] ⟨45, str, num, flag, pos⟩ ks <;> cases nameB str <;> rfl
  | true =>
    cases flag with
    | true => cases ofK [45] ⟨45, str, num, true, pos⟩ ks <;> cases nameB str <;> rfl
    | false => rw [h1] at hp; cases emptyB str <;> exact Bool.noConfusion hp
theorem fn_no_name {str : ByteArray} {num pos : Int} {flag : Bool} {ks : List Tr} (hn : nameB str = false) : qR (ofK [45]) (Tr.node ⟨45, str, num, flag, pos⟩ ks) = false := by
  have e : mayN ⟨45, str, num, flag, pos⟩ ks = (nameB str && (decide (num = 0) && (!flag && funcF ks))) := rfl
  rw [qR_node, e, hn, Bool.false_and, Bool.false_and, Bool.and_false]

set_option maxHeartbeats 4000000 in
set_option maxRecDepth 20000 in
theorem function18 {cb n : Nat} {w : World} {x : NdH} {kv : Value} {ks : List Tr} (hK : Ks cb n w kv ks) (ht : allT typedN (Tr.node x ks) = true) :
    Calls Tryz.prog 18 #[ndV x kv] w fun e w' => e = .returned (.bool (qR (ofK [45]) (Tr.node x ks))) ∧ Below w.heap.size w w' := by
  obtain ⟨hlen, ao, cap, rfl⟩ := hK.shape
  rw [allT_node, Bool.and_eq_true] at ht
  obtain ⟨hx, hks⟩ := ht
  have hs := str_small hx
  have hi : isL ks = true := hK.isL
  cases hkd : x.kind == 45 with
  | false =>
    have e : qR (ofK [45]) (Tr.node x ks) = false := by rw [qR_node, of_one, hkd]; rfl
    rw [e]
    exact fn18_kind hlen hkd
  | true =>
  obtain ⟨kind, str, num, flag, pos⟩ := x
  obtain rfl : kind = 45 := eq_of_beq hkd
  clear hkd
  have hP := fun W => parts15 ⟨45, str, num, flag, pos⟩ ao ks.length cap true false false W
  have hN := fun W => name28 str hs W
  cases hp : partsF ⟨45, str, num, flag, pos⟩ true false false with
  | false =>
    rw [fn_no_parts hp]
    rw [hp] at hP
    exact fn18_parts hlen hP
  | true =>
  rw [hp] at hP
  cases hn : nameB str with
  | false =>
    rw [fn_no_name hn]
    rw [hn] at hN
    exact fn18_name hlen hP hN
  | true =>
  rw [hn] at hN
  rw [fn_is hp hn]
  by_cases h1 : ks.length ≤ 1
  · rw [func_few h1, Bool.false_and]
    exact fn18_few hlen h1 hP hN
  · obtain ⟨t0, t1, r, rfl⟩ := more_kids h1
    rw [func_r]
    have hl2 : (t0 :: t1 :: r).length = (r.length + 1) + 1 := by simp
    rw [hl2] at hP hlen ⊢
    have h0 := isL_mem hi t0 (by simp)
    obtain ⟨m0, b, off, x0, kv0, l0, hm0, rfl, ⟨hlt, _⟩, he0, ⟨c0, c1, c2, c3, c4, c5⟩, hk0⟩ := hK.kid 0 (by simp)
    obtain ⟨ml, bl, offl, xl, kvl, ll, hml, el, _, hel, ⟨d0, d1, d2, d3, d4, d5⟩, hkl⟩ := hK.kid (r.length + 1) (by simp)
    obtain ⟨rfl, rfl⟩ := kid_addr el
    obtain ⟨_, a0, cp0, rfl⟩ := hk0.shape
    simp only [Nat.zero_mul, Nat.add_zero] at c0 c1 c2 c3 c4 c5
    have he0' : t0 = Tr.node x0 l0 := he0
    have hel' : (t1 :: r)[r.length]'(by simp) = Tr.node xl ll := hel
    have ht0 := typed_kid hks 0 (by simp)
    rw [he0, allT_node, Bool.and_eq_true] at ht0
    have hT := fun (W : World) (hW : Below w.heap.size w W) => typed29 x0 a0 l0.length cp0 (str_small ht0.1) W
    have hTq : typedF x0 l0.length = qR (ofK [16]) t0 := by rw [he0', ← typedT_node]; exact typedT_q _ (by rw [← he0']; exact h0)
    rw [hTq] at hT
    cases hq0 : qR (ofK [16]) t0 with
    | false =>
      rw [Bool.false_and]
      rw [hq0] at hT
      exact fn18_type (by omega) hlen hlt hP hN c0 c1 c2 c3 c4 c5 hT
    | true =>
    rw [hq0] at hT
    rw [Bool.true_and]
    have htl := typed_kid hks (r.length + 1) (by simp)
    rw [hel] at htl
    have hB := fun (W : World) (hW : Below w.heap.size w W) => block_all (hkl.below hW) htl
    rw [← hel'] at hB
    cases hql : qR (ofK [47]) ((t1 :: r)[r.length]'(by simp)) with
    | false =>
      rw [Bool.and_false]
      rw [hql] at hB
      exact fn18_block (by omega) hlen hlt hP hN c0 c1 c2 c3 c4 c5 d0 d1 d2 d3 d4 d5 hT hB
    | true =>
    rw [hql] at hB
    rw [Bool.and_true]
    have HQ : ∀ W, Below w.heap.size w W → ∀ j, 1 ≤ j → j < r.length + 1 → ParQ W b (off + j * 6) j (fun j => qR (ofK [46]) ((t0 :: t1 :: r).getD j t0)) := fun W hW j hj1 hj2 => by
      have hj : j < (t0 :: t1 :: r).length := by simp; omega
      obtain ⟨m, b', off', x', kv', ks', hm, e', ⟨hlt', _⟩, he, hc, hk⟩ := (hK.below hW).kid j hj
      obtain ⟨rfl, rfl⟩ := kid_addr e'
      have htj := typed_kid hks j hj
      have hij := isL_mem hi _ (List.getElem_mem hj)
      rw [he] at htj hij
      rw [isT_node] at hij
      rw [allT_node, Bool.and_eq_true] at htj
      have hnum : 0 ≤ x'.num := by
        have := htj.1
        unfold typedN at this
        rw [Bool.and_eq_true] at this
        exact (of_decide_eq_true this.2).1
      obtain ⟨_, ka', kc', rfl⟩ := hk.shape
      refine ⟨x', ka', ks'.length, kc', nameB x'.str, ks'.all typedT, hlt', hc, hnum, fun W' => ?_, fun W' => name28 x'.str (str_small htj.1) W', fun h1 => ?_, ?_⟩
      · have := parts15 x' ka' ks'.length kc' true true true W'
        exact this
      · obtain ⟨t, rfl⟩ := one_kid h1
        obtain ⟨m2, b2, off2, x2, kv2, l2, hm2, e2, ⟨hlt2, _⟩, he2, hc2, hk2⟩ := hk.kid 0 (by simp)
        obtain ⟨_, ka2, kc2, rfl⟩ := hk2.shape
        have ht2 := typed_kid htj.2 0 (by simp)
        rw [he2, allT_node, Bool.and_eq_true] at ht2
        simp only [Nat.zero_mul, Nat.add_zero] at hc2
        refine ⟨b2, off2, x2, _, e2, hlt2, hc2, fun W' hW' => ?_⟩
        have hty : [t].all typedT = typedF x2 l2.length := by
          have : t = Tr.node x2 l2 := he2
          show (typedT t && true) = _
          rw [Bool.and_true, this, typedT_node]
        rw [hty]
        exact typed29 x2 ka2 l2.length kc2 (str_small ht2.1) W'
      · have : (t0 :: t1 :: r).getD j t0 = Tr.node x' ks' := by rw [List.getD_eq_getElem?_getD, List.getElem?_eq_getElem hj]; exact he
        show qR (ofK [46]) ((t0 :: t1 :: r).getD j t0) = _
        rw [this, ← par_q x' ks' hij hnum]
        rfl
    have hel3 : ∀ j, 1 ≤ j → j < r.length + 1 → ∃ h : j - 1 < (t1 :: r).length, (t0 :: t1 :: r).getD j t0 = (t1 :: r)[j - 1] := fun j h1 h2 => by
      obtain ⟨i, rfl⟩ : ∃ i, j = i + 1 := ⟨j - 1, by omega⟩
      have hi' : i < (t1 :: r).length := by simp; omega
      refine ⟨by simpa using hi', ?_⟩
      simp [List.getD_eq_getElem?_getD, List.getElem?_eq_getElem hi']
    refine fn18_all (by omega) hlen hlt hP hN c0 c1 c2 c3 c4 c5 d0 d1 d2 d3 d4 d5 hT hB HQ (fun h => ?_) (fun j h1 h2 h => ?_)
    · rw [List.all_eq_true]
      intro t ht
      obtain ⟨i, hi', rfl⟩ := List.getElem_of_mem ht
      have hi2 : i < r.length := by simpa using hi'
      obtain ⟨h3, h4⟩ := hel3 (i + 1) (by omega) (by omega)
      have h5 := h (i + 1) (by omega) (by omega)
      rw [h4] at h5
      simpa using h5
    · rw [List.all_eq_false]
      obtain ⟨h3, h4⟩ := hel3 j h1 h2
      refine ⟨(t1 :: r)[j - 1], ?_, ?_⟩
      · have : ((t1 :: r).take r.length)[j - 1]'(by simp; omega) = (t1 :: r)[j - 1] := by simp
        rw [← this]
        exact List.getElem_mem _
      · rw [h4] at h
        rw [h]
        exact Bool.noConfusion
end Go.Proofs.YtnnnfabpceapcaaGreatDoor
