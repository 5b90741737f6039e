/- The document's may: kinds 3 to 7, 12. -/
import Derived.Test.YtnnnfabpceapcaaGreatDoorRExA
namespace Go.Proofs.YtnnnfabpceapcaaGreatDoor
set_option linter.unusedSimpArgs false
open Go.RowKit
set_option linter.unusedVariables false
set_option linter.unusedSimpArgs false

set_option maxHeartbeats 4000000 in
set_option maxRecDepth 20000 in
theorem may77_3 {w : World} {str : ByteArray} {num pos : Int} {flag : Bool} {ka : Option Addr} {kn kc : Nat} {P E : Bool} (hP : ∀ W, Calls Tryz.prog 15 #[.agg #[.int .i64 3, .string str, .int .u32 num, .bool flag, .slice ka kn kc, .int .i64 pos], .bool true, .bool false, .bool false] W fun e w' => e = .returned (.bool P) ∧ Below W.heap.size W w') (hE : ∀ W, Below w.heap.size w W → Calls Tryz.prog 53 #[.agg #[.int .i64 3, .string str, .int .u32 num, .bool flag, .slice ka kn kc, .int .i64 pos], .int .i64 (0)] W fun e w' => e = .returned (.bool E) ∧ Below W.heap.size W w') :
    Calls Tryz.prog 77 #[.agg #[.int .i64 3, .string str, .int .u32 num, .bool flag, .slice ka kn kc, .int .i64 pos]] w fun e w' => e = .returned (.bool (P && E)) ∧ Below w.heap.size w w' := by
  cases P
  · go_enter Tryz.func77, Tryz.ntmps77
    go_wp2_with (go_at_call 15; refine (hP _).mono ?_; rintro e1 w1 ⟨rfl, hb1⟩; obtain ⟨hc1, hf1⟩ := bcell hb1; have hs1 : w.heap.size < w1.heap.size := by (have := hb1.size; simp at this; omega))
    go_ret
    exact ⟨rfl, below_on (below1 _ _) hb1⟩
  · go_enter Tryz.func77, Tryz.ntmps77
    go_wp2_with (first
      | (go_at_call 15; refine (hP _).mono ?_; rintro e1 w1 ⟨rfl, hb1⟩; obtain ⟨hc1, hf1⟩ := bcell hb1; have hs1 : w.heap.size < w1.heap.size := by (have := hb1.size; simp at this; omega))
      | (go_at_call 53; refine (hE _ (below_on (below1 _ _) hb1)).mono ?_; rintro e3 w3 ⟨rfl, hb3⟩; obtain ⟨hc3, hf3⟩ := bcell hb3))
    go_ret
    exact ⟨by simp, below_on (below_on (below1 _ _) hb1) hb3⟩

set_option maxHeartbeats 4000000 in
set_option maxRecDepth 20000 in
theorem may77_5 {w : World} {str : ByteArray} {num pos : Int} {flag : Bool} {ka : Option Addr} {kn kc : Nat} {P E : Bool} (hP : ∀ W, Calls Tryz.prog 15 #[.agg #[.int .i64 5, .string str, .int .u32 num, .bool flag, .slice ka kn kc, .int .i64 pos], .bool false, .bool false, .bool false] W fun e w' => e = .returned (.bool P) ∧ Below W.heap.size W w') (hE : ∀ W, Below w.heap.size w W → Calls Tryz.prog 53 #[.agg #[.int .i64 5, .string str, .int .u32 num, .bool flag, .slice ka kn kc, .int .i64 pos], .int .i64 (2)] W fun e w' => e = .returned (.bool E) ∧ Below W.heap.size W w') :
    Calls Tryz.prog 77 #[.agg #[.int .i64 5, .string str, .int .u32 num, .bool flag, .slice ka kn kc, .int .i64 pos]] w fun e w' => e = .returned (.bool (P && E)) ∧ Below w.heap.size w w' := by
  cases P
  · go_enter Tryz.func77, Tryz.ntmps77
    go_wp2_with (go_at_call 15; refine (hP _).mono ?_; rintro e1 w1 ⟨rfl, hb1⟩; obtain ⟨hc1, hf1⟩ := bcell hb1; have hs1 : w.heap.size < w1.heap.size := by (have := hb1.size; simp at this; omega))
    go_ret
    exact ⟨rfl, below_on (below1 _ _) hb1⟩
  · go_enter Tryz.func77, Tryz.ntmps77
    go_wp2_with (first
      | (go_at_call 15; refine (hP _).mono ?_; rintro e1 w1 ⟨rfl, hb1⟩; obtain ⟨hc1, hf1⟩ := bcell hb1; have hs1 : w.heap.size < w1.heap.size := by (have := hb1.size; simp at this; omega))
      | (go_at_call 53; refine (hE _ (below_on (below1 _ _) hb1)).mono ?_; rintro e3 w3 ⟨rfl, hb3⟩; obtain ⟨hc3, hf3⟩ := bcell hb3))
    go_ret
    exact ⟨by simp, below_on (below_on (below1 _ _) hb1) hb3⟩

set_option maxHeartbeats 4000000 in
set_option maxRecDepth 20000 in
theorem may77_12 {w : World} {str : ByteArray} {num pos : Int} {flag : Bool} {ka : Option Addr} {kn kc : Nat} {P E : Bool} (hP : ∀ W, Calls Tryz.prog 15 #[.agg #[.int .i64 12, .string str, .int .u32 num, .bool flag, .slice ka kn kc, .int .i64 pos], .bool false, .bool false, .bool false] W fun e w' => e = .returned (.bool P) ∧ Below W.heap.size W w') (hE : ∀ W, Below w.heap.size w W → Calls Tryz.prog 53 #[.agg #[.int .i64 12, .string str, .int .u32 num, .bool flag, .slice ka kn kc, .int .i64 pos], .int .i64 (3)] W fun e w' => e = .returned (.bool E) ∧ Below W.heap.size W w') :
    Calls Tryz.prog 77 #[.agg #[.int .i64 12, .string str, .int .u32 num, .bool flag, .slice ka kn kc, .int .i64 pos]] w fun e w' => e = .returned (.bool (P && E)) ∧ Below w.heap.size w w' := by
  cases P
  · go_enter Tryz.func77, Tryz.ntmps77
    go_wp2_with (go_at_call 15; refine (hP _).mono ?_; rintro e1 w1 ⟨rfl, hb1⟩; obtain ⟨hc1, hf1⟩ := bcell hb1; have hs1 : w.heap.size < w1.heap.size := by (have := hb1.size; simp at this; omega))
    go_ret
    exact ⟨rfl, below_on (below1 _ _) hb1⟩
  · go_enter Tryz.func77, Tryz.ntmps77
    go_wp2_with (first
      | (go_at_call 15; refine (hP _).mono ?_; rintro e1 w1 ⟨rfl, hb1⟩; obtain ⟨hc1, hf1⟩ := bcell hb1; have hs1 : w.heap.size < w1.heap.size := by (have := hb1.size; simp at this; omega))
      | (go_at_call 53; refine (hE _ (below_on (below1 _ _) hb1)).mono ?_; rintro e3 w3 ⟨rfl, hb3⟩; obtain ⟨hc3, hf3⟩ := bcell hb3))
    go_ret
    exact ⟨by simp, below_on (below_on (below1 _ _) hb1) hb3⟩

end Go.Proofs.YtnnnfabpceapcaaGreatDoor

namespace Go.Proofs.YtnnnfabpceapcaaGreatDoor
set_option linter.unusedSimpArgs false
open Go.RowKit
set_option linter.unusedVariables false
set_option linter.unusedSimpArgs false

set_option maxHeartbeats 4000000 in
set_option maxRecDepth 20000 in
theorem may77_4 {w : World} {str : ByteArray} {num pos : Int} {flag : Bool} {ka : Option Addr} {kn kc : Nat} {P N E : Bool} (hP : ∀ W, Calls Tryz.prog 15 #[.agg #[.int .i64 4, .string str, .int .u32 num, .bool flag, .slice ka kn kc, .int .i64 pos], .bool true, .bool false, .bool false] W fun e w' => e = .returned (.bool P) ∧ Below W.heap.size W w') (hN : ∀ W, Calls Tryz.prog 28 #[.string str] W fun e w' => e = .returned (.bool N) ∧ w' = W) (hE : ∀ W, Below w.heap.size w W → Calls Tryz.prog 53 #[.agg #[.int .i64 4, .string str, .int .u32 num, .bool flag, .slice ka kn kc, .int .i64 pos], .int .i64 (0)] W fun e w' => e = .returned (.bool E) ∧ Below W.heap.size W w') :
    Calls Tryz.prog 77 #[.agg #[.int .i64 4, .string str, .int .u32 num, .bool flag, .slice ka kn kc, .int .i64 pos]] w fun e w' => e = .returned (.bool (P && (N && E))) ∧ Below w.heap.size w w' := by
  cases P
  · go_enter Tryz.func77, Tryz.ntmps77
    go_wp2_with (go_at_call 15; refine (hP _).mono ?_; rintro e1 w1 ⟨rfl, hb1⟩; obtain ⟨hc1, hf1⟩ := bcell hb1; have hs1 : w.heap.size < w1.heap.size := by (have := hb1.size; simp at this; omega))
    go_ret
    exact ⟨rfl, below_on (below1 _ _) hb1⟩
  · cases N
    · go_enter Tryz.func77, Tryz.ntmps77
      go_wp2_with (first
        | (go_at_call 15; refine (hP _).mono ?_; rintro e1 w1 ⟨rfl, hb1⟩; obtain ⟨hc1, hf1⟩ := bcell hb1; have hs1 : w.heap.size < w1.heap.size := by (have := hb1.size; simp at this; omega))
        | (go_at_call 28; refine (hN _).mono ?_; rintro e2 w2 ⟨rfl, rfl⟩))
      go_ret
      exact ⟨rfl, below_on (below1 _ _) hb1⟩
    · go_enter Tryz.func77, Tryz.ntmps77
      go_wp2_with (first
        | (go_at_call 15; refine (hP _).mono ?_; rintro e1 w1 ⟨rfl, hb1⟩; obtain ⟨hc1, hf1⟩ := bcell hb1; have hs1 : w.heap.size < w1.heap.size := by (have := hb1.size; simp at this; omega))
        | (go_at_call 28; refine (hN _).mono ?_; rintro e2 w2 ⟨rfl, rfl⟩)
        | (go_at_call 53; refine (hE _ (below_on (below1 _ _) hb1)).mono ?_; rintro e3 w3 ⟨rfl, hb3⟩; obtain ⟨hc3, hf3⟩ := bcell hb3))
      go_ret
      exact ⟨by simp, below_on (below_on (below1 _ _) hb1) hb3⟩

set_option maxHeartbeats 4000000 in
set_option maxRecDepth 20000 in
theorem may77_6 {w : World} {str : ByteArray} {num pos : Int} {flag : Bool} {ka : Option Addr} {kn kc : Nat} {P N E : Bool} (hP : ∀ W, Calls Tryz.prog 15 #[.agg #[.int .i64 6, .string str, .int .u32 num, .bool flag, .slice ka kn kc, .int .i64 pos], .bool true, .bool false, .bool false] W fun e w' => e = .returned (.bool P) ∧ Below W.heap.size W w') (hN : ∀ W, Calls Tryz.prog 28 #[.string str] W fun e w' => e = .returned (.bool N) ∧ w' = W) (hE : ∀ W, Below w.heap.size w W → Calls Tryz.prog 53 #[.agg #[.int .i64 6, .string str, .int .u32 num, .bool flag, .slice ka kn kc, .int .i64 pos], .int .i64 (1)] W fun e w' => e = .returned (.bool E) ∧ Below W.heap.size W w') :
    Calls Tryz.prog 77 #[.agg #[.int .i64 6, .string str, .int .u32 num, .bool flag, .slice ka kn kc, .int .i64 pos]] w fun e w' => e = .returned (.bool (P && (N && E))) ∧ Below w.heap.size w w' := by
  cases P
  · go_enter Tryz.func77, Tryz.ntmps77
    go_wp2_with (go_at_call 15; refine (hP _).mono ?_; rintro e1 w1 ⟨rfl, hb1⟩; obtain ⟨hc1, hf1⟩ := bcell hb1; have hs1 : w.heap.size < w1.heap.size := by (have := hb1.size; simp at this; omega))
    go_ret
    exact ⟨rfl, below_on (below1 _ _) hb1⟩
  · cases N
    · go_enter Tryz.func77, Tryz.ntmps77
      go_wp2_with (first
        | (go_at_call 15; refine (hP _).mono ?_; rintro e1 w1 ⟨rfl, hb1⟩; obtain ⟨hc1, hf1⟩ := bcell hb1; have hs1 : w.heap.size < w1.heap.size := by (have := hb1.size; simp at this; omega))
        | (go_at_call 28; refine (hN _).mono ?_; rintro e2 w2 ⟨rfl, rfl⟩))
      go_ret
      exact ⟨rfl, below_on (below1 _ _) hb1⟩
    · go_enter Tryz.func77, Tryz.ntmps77
      go_wp2_with (first
        | (go_at_call 15; refine (hP _).mono ?_; rintro e1 w1 ⟨rfl, hb1⟩; obtain ⟨hc1, hf1⟩ := bcell hb1; have hs1 : w.heap.size < w1.heap.size := by (have := hb1.size; simp at this; omega))
        | (go_at_call 28; refine (hN _).mono ?_; rintro e2 w2 ⟨rfl, rfl⟩)
        | (go_at_call 53; refine (hE _ (below_on (below1 _ _) hb1)).mono ?_; rintro e3 w3 ⟨rfl, hb3⟩; obtain ⟨hc3, hf3⟩ := bcell hb3))
      go_ret
      exact ⟨by simp, below_on (below_on (below1 _ _) hb1) hb3⟩

set_option maxHeartbeats 4000000 in
set_option maxRecDepth 20000 in
theorem may77_7 {w : World} {str : ByteArray} {num pos : Int} {flag : Bool} {ka : Option Addr} {kn kc : Nat} {P N E : Bool} (hP : ∀ W, Calls Tryz.prog 15 #[.agg #[.int .i64 7, .string str, .int .u32 num, .bool flag, .slice ka kn kc, .int .i64 pos], .bool true, .bool false, .bool false] W fun e w' => e = .returned (.bool P) ∧ Below W.heap.size W w') (hN : ∀ W, Calls Tryz.prog 28 #[.string str] W fun e w' => e = .returned (.bool N) ∧ w' = W) (hE : ∀ W, Below w.heap.size w W → Calls Tryz.prog 53 #[.agg #[.int .i64 7, .string str, .int .u32 num, .bool flag, .slice ka kn kc, .int .i64 pos], .int .i64 (1)] W fun e w' => e = .returned (.bool E) ∧ Below W.heap.size W w') :
    Calls Tryz.prog 77 #[.agg #[.int .i64 7, .string str, .int .u32 num, .bool flag, .slice ka kn kc, .int .i64 pos]] w fun e w' => e = .returned (.bool (P && (N && E))) ∧ Below w.heap.size w w' := by
  cases P
  · go_enter Tryz.func77, Tryz.ntmps77
    go_wp2_with (go_at_call 15; refine (hP _).mono ?_; rintro e1 w1 ⟨rfl, hb1⟩; obtain ⟨hc1, hf1⟩ := bcell hb1; have hs1 : w.heap.size < w1.heap.size := by (have := hb1.size; simp at this; omega))
    go_ret
    exact ⟨rfl, below_on (below1 _ _) hb1⟩
  · cases N
    · go_enter Tryz.func77, Tryz.ntmps77
      go_wp2_with (first
        | (go_at_call 15; refine (hP _).mono ?_; rintro e1 w1 ⟨rfl, hb1⟩; obtain ⟨hc1, hf1⟩ := bcell hb1; have hs1 : w.heap.size < w1.heap.size := by (have := hb1.size; simp at this; omega))
        | (go_at_call 28; refine (hN _).mono ?_; rintro e2 w2 ⟨rfl, rfl⟩))
      go_ret
      exact ⟨rfl, below_on (below1 _ _) hb1⟩
    · go_enter Tryz.func77, Tryz.ntmps77
      go_wp2_with (first
        | (go_at_call 15; refine (hP _).mono ?_; rintro e1 w1 ⟨rfl, hb1⟩; obtain ⟨hc1, hf1⟩ := bcell hb1; have hs1 : w.heap.size < w1.heap.size := by (have := hb1.size; simp at this; omega))
        | (go_at_call 28; refine (hN _).mono ?_; rintro e2 w2 ⟨rfl, rfl⟩)
        | (go_at_call 53; refine (hE _ (below_on (below1 _ _) hb1)).mono ?_; rintro e3 w3 ⟨rfl, hb3⟩; obtain ⟨hc3, hf3⟩ := bcell hb3))
      go_ret
      exact ⟨by simp, below_on (below_on (below1 _ _) hb1) hb3⟩

end Go.Proofs.YtnnnfabpceapcaaGreatDoor

namespace Go.Proofs.YtnnnfabpceapcaaGreatDoor
set_option linter.unusedSimpArgs false
open Go.RowKit
set_option linter.unusedVariables false
set_option linter.unusedSimpArgs false

set_option maxHeartbeats 4000000 in
set_option maxRecDepth 20000 in
theorem may77_9 {w : World} {str : ByteArray} {num pos : Int} {flag : Bool} {ka : Option Addr} {kn kc : Nat} {P N E : Bool} (hP : ∀ W, Calls Tryz.prog 15 #[.agg #[.int .i64 9, .string str, .int .u32 num, .bool flag, .slice ka kn kc, .int .i64 pos], .bool true, .bool false, .bool false] W fun e w' => e = .returned (.bool P) ∧ Below W.heap.size W w') (hN : ∀ W, Calls Tryz.prog 103 #[.string ⟨#[32, 45, 32, 126, 32, 33, 32, 38, 32]⟩, .string str] W fun e w' => e = .returned (.bool N) ∧ w' = W) (hE : ∀ W, Below w.heap.size w W → Calls Tryz.prog 53 #[.agg #[.int .i64 9, .string str, .int .u32 num, .bool flag, .slice ka kn kc, .int .i64 pos], .int .i64 (1)] W fun e w' => e = .returned (.bool E) ∧ Below W.heap.size W w') :
    Calls Tryz.prog 77 #[.agg #[.int .i64 9, .string str, .int .u32 num, .bool flag, .slice ka kn kc, .int .i64 pos]] w fun e w' => e = .returned (.bool (P && (N && E))) ∧ Below w.heap.size w w' := by
  cases P
  · go_enter Tryz.func77, Tryz.ntmps77
    go_wp2_with (go_at_call 15; refine (hP _).mono ?_; rintro e1 w1 ⟨rfl, hb1⟩; obtain ⟨hc1, hf1⟩ := bcell hb1; have hs1 : w.heap.size < w1.heap.size := by (have := hb1.size; simp at this; omega))
    go_ret
    exact ⟨rfl, below_on (below1 _ _) hb1⟩
  · cases N
    · go_enter Tryz.func77, Tryz.ntmps77
      go_wp2_with (first
        | (go_at_call 15; refine (hP _).mono ?_; rintro e1 w1 ⟨rfl, hb1⟩; obtain ⟨hc1, hf1⟩ := bcell hb1; have hs1 : w.heap.size < w1.heap.size := by (have := hb1.size; simp at this; omega))
        | (go_at_call 103; refine (hN _).mono ?_; rintro e2 w2 ⟨rfl, rfl⟩))
      go_ret
      exact ⟨rfl, below_on (below1 _ _) hb1⟩
    · go_enter Tryz.func77, Tryz.ntmps77
      go_wp2_with (first
        | (go_at_call 15; refine (hP _).mono ?_; rintro e1 w1 ⟨rfl, hb1⟩; obtain ⟨hc1, hf1⟩ := bcell hb1; have hs1 : w.heap.size < w1.heap.size := by (have := hb1.size; simp at this; omega))
        | (go_at_call 103; refine (hN _).mono ?_; rintro e2 w2 ⟨rfl, rfl⟩)
        | (go_at_call 53; refine (hE _ (below_on (below1 _ _) hb1)).mono ?_; rintro e3 w3 ⟨rfl, hb3⟩; obtain ⟨hc3, hf3⟩ := bcell hb3))
      go_ret
      exact ⟨by simp, below_on (below_on (below1 _ _) hb1) hb3⟩

set_option maxHeartbeats 4000000 in
set_option maxRecDepth 20000 in
theorem may77_10 {w : World} {str : ByteArray} {num pos : Int} {flag : Bool} {ka : Option Addr} {kn kc : Nat} {P N E : Bool} (hP : ∀ W, Calls Tryz.prog 15 #[.agg #[.int .i64 10, .string str, .int .u32 num, .bool flag, .slice ka kn kc, .int .i64 pos], .bool true, .bool false, .bool false] W fun e w' => e = .returned (.bool P) ∧ Below W.heap.size W w') (hN : ∀ W, Calls Tryz.prog 103 #[.string ⟨#[32, 42, 32, 47, 32, 37, 32, 43, 32, 45, 32, 60, 60, 32, 62, 62, 32, 60, 32, 62, 32, 60, 61, 32, 62, 61, 32, 61, 61, 32, 33, 61, 32, 38, 32, 94, 32, 124, 32]⟩, .string str] W fun e w' => e = .returned (.bool N) ∧ w' = W) (hE : ∀ W, Below w.heap.size w W → Calls Tryz.prog 53 #[.agg #[.int .i64 10, .string str, .int .u32 num, .bool flag, .slice ka kn kc, .int .i64 pos], .int .i64 (2)] W fun e w' => e = .returned (.bool E) ∧ Below W.heap.size W w') :
    Calls Tryz.prog 77 #[.agg #[.int .i64 10, .string str, .int .u32 num, .bool flag, .slice ka kn kc, .int .i64 pos]] w fun e w' => e = .returned (.bool (P && (N && E))) ∧ Below w.heap.size w w' := by
  cases P
  · go_enter Tryz.func77, Tryz.ntmps77
    go_wp2_with (go_at_call 15; refine (hP _).mono ?_; rintro e1 w1 ⟨rfl, hb1⟩; obtain ⟨hc1, hf1⟩ := bcell hb1; have hs1 : w.heap.size < w1.heap.size := by (have := hb1.size; simp at this; omega))
    go_ret
    exact ⟨rfl, below_on (below1 _ _) hb1⟩
  · cases N
    · go_enter Tryz.func77, Tryz.ntmps77
      go_wp2_with (first
        | (go_at_call 15; refine (hP _).mono ?_; rintro e1 w1 ⟨rfl, hb1⟩; obtain ⟨hc1, hf1⟩ := bcell hb1; have hs1 : w.heap.size < w1.heap.size := by (have := hb1.size; simp at this; omega))
        | (go_at_call 103; refine (hN _).mono ?_; rintro e2 w2 ⟨rfl, rfl⟩))
      go_ret
      exact ⟨rfl, below_on (below1 _ _) hb1⟩
    · go_enter Tryz.func77, Tryz.ntmps77
      go_wp2_with (first
        | (go_at_call 15; refine (hP _).mono ?_; rintro e1 w1 ⟨rfl, hb1⟩; obtain ⟨hc1, hf1⟩ := bcell hb1; have hs1 : w.heap.size < w1.heap.size := by (have := hb1.size; simp at this; omega))
        | (go_at_call 103; refine (hN _).mono ?_; rintro e2 w2 ⟨rfl, rfl⟩)
        | (go_at_call 53; refine (hE _ (below_on (below1 _ _) hb1)).mono ?_; rintro e3 w3 ⟨rfl, hb3⟩; obtain ⟨hc3, hf3⟩ := bcell hb3))
      go_ret
      exact ⟨by simp, below_on (below_on (below1 _ _) hb1) hb3⟩

set_option maxHeartbeats 4000000 in
set_option maxRecDepth 20000 in
theorem may77_11 {w : World} {str : ByteArray} {num pos : Int} {flag : Bool} {ka : Option Addr} {kn kc : Nat} {P N E : Bool} (hP : ∀ W, Calls Tryz.prog 15 #[.agg #[.int .i64 11, .string str, .int .u32 num, .bool flag, .slice ka kn kc, .int .i64 pos], .bool true, .bool false, .bool false] W fun e w' => e = .returned (.bool P) ∧ Below W.heap.size W w') (hN : ∀ W, Calls Tryz.prog 103 #[.string ⟨#[32, 38, 38, 32, 124, 124, 32]⟩, .string str] W fun e w' => e = .returned (.bool N) ∧ w' = W) (hE : ∀ W, Below w.heap.size w W → Calls Tryz.prog 53 #[.agg #[.int .i64 11, .string str, .int .u32 num, .bool flag, .slice ka kn kc, .int .i64 pos], .int .i64 (2)] W fun e w' => e = .returned (.bool E) ∧ Below W.heap.size W w') :
    Calls Tryz.prog 77 #[.agg #[.int .i64 11, .string str, .int .u32 num, .bool flag, .slice ka kn kc, .int .i64 pos]] w fun e w' => e = .returned (.bool (P && (N && E))) ∧ Below w.heap.size w w' := by
  cases P
  · go_enter Tryz.func77, Tryz.ntmps77
    go_wp2_with (go_at_call 15; refine (hP _).mono ?_; rintro e1 w1 ⟨rfl, hb1⟩; obtain ⟨hc1, hf1⟩ := bcell hb1; have hs1 : w.heap.size < w1.heap.size := by (have := hb1.size; simp at this; omega))
    go_ret
    exact ⟨rfl, below_on (below1 _ _) hb1⟩
  · cases N
    · go_enter Tryz.func77, Tryz.ntmps77
      go_wp2_with (first
        | (go_at_call 15; refine (hP _).mono ?_; rintro e1 w1 ⟨rfl, hb1⟩; obtain ⟨hc1, hf1⟩ := bcell hb1; have hs1 : w.heap.size < w1.heap.size := by (have := hb1.size; simp at this; omega))
        | (go_at_call 103; refine (hN _).mono ?_; rintro e2 w2 ⟨rfl, rfl⟩))
      go_ret
      exact ⟨rfl, below_on (below1 _ _) hb1⟩
    · go_enter Tryz.func77, Tryz.ntmps77
      go_wp2_with (first
        | (go_at_call 15; refine (hP _).mono ?_; rintro e1 w1 ⟨rfl, hb1⟩; obtain ⟨hc1, hf1⟩ := bcell hb1; have hs1 : w.heap.size < w1.heap.size := by (have := hb1.size; simp at this; omega))
        | (go_at_call 103; refine (hN _).mono ?_; rintro e2 w2 ⟨rfl, rfl⟩)
        | (go_at_call 53; refine (hE _ (below_on (below1 _ _) hb1)).mono ?_; rintro e3 w3 ⟨rfl, hb3⟩; obtain ⟨hc3, hf3⟩ := bcell hb3))
      go_ret
      exact ⟨by simp, below_on (below_on (below1 _ _) hb1) hb3⟩

end Go.Proofs.YtnnnfabpceapcaaGreatDoor

namespace Go.Proofs.YtnnnfabpceapcaaGreatDoor
set_option linter.unusedSimpArgs false
open Go.RowKit
set_option linter.unusedVariables false
set_option linter.unusedSimpArgs false

set_option maxHeartbeats 4000000 in
set_option maxRecDepth 20000 in
theorem may77_1 {w : World} {str : ByteArray} {num pos : Int} {flag : Bool} {ka : Option Addr} {kn kc : Nat} {P E : Bool} (hP : ∀ W, Calls Tryz.prog 15 #[.agg #[.int .i64 1, .string str, .int .u32 num, .bool flag, .slice ka kn kc, .int .i64 pos], .bool false, .bool true, .bool true] W fun e w' => e = .returned (.bool P) ∧ Below W.heap.size W w') (hE : ∀ W, Below w.heap.size w W → Calls Tryz.prog 53 #[.agg #[.int .i64 1, .string str, .int .u32 num, .bool flag, .slice ka kn kc, .int .i64 pos], .int .i64 (0)] W fun e w' => e = .returned (.bool E) ∧ Below W.heap.size W w') (hn0 : 0 ≤ num) :
    Calls Tryz.prog 77 #[.agg #[.int .i64 1, .string str, .int .u32 num, .bool flag, .slice ka kn kc, .int .i64 pos]] w fun e w' => e = .returned (.bool (P && ((flag || decide (num < 2147483648)) && E))) ∧ Below w.heap.size w w' := by
  cases P
  · go_enter Tryz.func77, Tryz.ntmps77
    go_wp2_with (go_at_call 15; refine (hP _).mono ?_; rintro e1 w1 ⟨rfl, hb1⟩; obtain ⟨hc1, hf1⟩ := bcell hb1; have hs1 : w.heap.size < w1.heap.size := by (have := hb1.size; simp at this; omega))
    go_ret
    exact ⟨rfl, below_on (below1 _ _) hb1⟩
  · cases flag
    · by_cases h : num < 2147483648
      · have HD : Hid (decide (num < 2147483648) = true) := decide_eq_true h
        go_enter Tryz.func77, Tryz.ntmps77
        go_wp2_with (first
          | (go_at_call 15; refine (hP _).mono ?_; rintro e1 w1 ⟨rfl, hb1⟩; obtain ⟨hc1, hf1⟩ := bcell hb1; have hs1 : w.heap.size < w1.heap.size := by (have := hb1.size; simp at this; omega))
          | (go_at_call 53; refine (hE _ (below_on (below1 _ _) hb1)).mono ?_; rintro e3 w3 ⟨rfl, hb3⟩; obtain ⟨hc3, hf3⟩ := bcell hb3))
        go_ret
        exact ⟨by rw [HD.out]; simp, below_on (below_on (below1 _ _) hb1) hb3⟩
      · have HD : Hid (decide (num < 2147483648) = false) := decide_eq_false h
        go_enter Tryz.func77, Tryz.ntmps77
        go_wp2_with (go_at_call 15; refine (hP _).mono ?_; rintro e1 w1 ⟨rfl, hb1⟩; obtain ⟨hc1, hf1⟩ := bcell hb1; have hs1 : w.heap.size < w1.heap.size := by (have := hb1.size; simp at this; omega))
        go_ret
        exact ⟨by rw [HD.out]; simp, below_on (below1 _ _) hb1⟩
    · go_enter Tryz.func77, Tryz.ntmps77
      go_wp2_with (first
        | (go_at_call 15; refine (hP _).mono ?_; rintro e1 w1 ⟨rfl, hb1⟩; obtain ⟨hc1, hf1⟩ := bcell hb1; have hs1 : w.heap.size < w1.heap.size := by (have := hb1.size; simp at this; omega))
        | (go_at_call 53; refine (hE _ (below_on (below1 _ _) hb1)).mono ?_; rintro e3 w3 ⟨rfl, hb3⟩; obtain ⟨hc3, hf3⟩ := bcell hb3))
      go_ret
      exact ⟨by simp, below_on (below_on (below1 _ _) hb1) hb3⟩

set_option maxHeartbeats 4000000 in
set_option maxRecDepth 20000 in
theorem may77_2 {w : World} {str : ByteArray} {num pos : Int} {flag : Bool} {ka : Option Addr} {kn kc : Nat} {P E : Bool} (hP : ∀ W, Calls Tryz.prog 15 #[.agg #[.int .i64 2, .string str, .int .u32 num, .bool flag, .slice ka kn kc, .int .i64 pos], .bool false, .bool true, .bool false] W fun e w' => e = .returned (.bool P) ∧ Below W.heap.size W w') (hE : ∀ W, Below w.heap.size w W → Calls Tryz.prog 53 #[.agg #[.int .i64 2, .string str, .int .u32 num, .bool flag, .slice ka kn kc, .int .i64 pos], .int .i64 (0)] W fun e w' => e = .returned (.bool E) ∧ Below W.heap.size W w') (hn0 : 0 ≤ num) :
    Calls Tryz.prog 77 #[.agg #[.int .i64 2, .string str, .int .u32 num, .bool flag, .slice ka kn kc, .int .i64 pos]] w fun e w' => e = .returned (.bool (P && (decide (num < 256) && E))) ∧ Below w.heap.size w w' := by
  cases P
  · go_enter Tryz.func77, Tryz.ntmps77
    go_wp2_with (go_at_call 15; refine (hP _).mono ?_; rintro e1 w1 ⟨rfl, hb1⟩; obtain ⟨hc1, hf1⟩ := bcell hb1; have hs1 : w.heap.size < w1.heap.size := by (have := hb1.size; simp at this; omega))
    go_ret
    exact ⟨rfl, below_on (below1 _ _) hb1⟩
  · by_cases h : num < 256
    · have HD : Hid (decide (num < 256) = true) := decide_eq_true h
      go_enter Tryz.func77, Tryz.ntmps77
      go_wp2_with (first
        | (go_at_call 15; refine (hP _).mono ?_; rintro e1 w1 ⟨rfl, hb1⟩; obtain ⟨hc1, hf1⟩ := bcell hb1; have hs1 : w.heap.size < w1.heap.size := by (have := hb1.size; simp at this; omega))
        | (go_at_call 53; refine (hE _ (below_on (below1 _ _) hb1)).mono ?_; rintro e3 w3 ⟨rfl, hb3⟩; obtain ⟨hc3, hf3⟩ := bcell hb3))
      go_ret
      exact ⟨by rw [HD.out]; simp, below_on (below_on (below1 _ _) hb1) hb3⟩
    · have HD : Hid (decide (num < 256) = false) := decide_eq_false h
      go_enter Tryz.func77, Tryz.ntmps77
      go_wp2_with (go_at_call 15; refine (hP _).mono ?_; rintro e1 w1 ⟨rfl, hb1⟩; obtain ⟨hc1, hf1⟩ := bcell hb1; have hs1 : w.heap.size < w1.heap.size := by (have := hb1.size; simp at this; omega))
      go_ret
      exact ⟨by rw [HD.out]; simp, below_on (below1 _ _) hb1⟩

set_option maxHeartbeats 4000000 in
set_option maxRecDepth 20000 in
theorem may77_8 {w : World} {str : ByteArray} {num pos : Int} {flag : Bool} {ka : Option Addr} {kn kc : Nat} {P N E : Bool} (hP : ∀ W, Calls Tryz.prog 15 #[.agg #[.int .i64 8, .string str, .int .u32 num, .bool flag, .slice ka kn kc, .int .i64 pos], .bool true, .bool false, .bool false] W fun e w' => e = .returned (.bool P) ∧ Below W.heap.size W w') (hN : ∀ W, Calls Tryz.prog 28 #[.string str] W fun e w' => e = .returned (.bool N) ∧ w' = W) (hE : ∀ W, Below w.heap.size w W → Calls Tryz.prog 53 #[.agg #[.int .i64 8, .string str, .int .u32 num, .bool flag, .slice ka kn kc, .int .i64 pos], .int .i64 (-1)] W fun e w' => e = .returned (.bool E) ∧ Below W.heap.size W w') :
    Calls Tryz.prog 77 #[.agg #[.int .i64 8, .string str, .int .u32 num, .bool flag, .slice ka kn kc, .int .i64 pos]] w fun e w' => e = .returned (.bool (P && ((N || (str.toList == [103, 101, 116, 98, 121, 116, 101] || str.toList == [112, 117, 116, 98, 121, 116, 101])) && E))) ∧ Below w.heap.size w w' := by
  cases P
  · go_enter Tryz.func77, Tryz.ntmps77
    go_wp2_with (go_at_call 15; refine (hP _).mono ?_; rintro e1 w1 ⟨rfl, hb1⟩; obtain ⟨hc1, hf1⟩ := bcell hb1; have hs1 : w.heap.size < w1.heap.size := by (have := hb1.size; simp at this; omega))
    go_ret
    exact ⟨rfl, below_on (below1 _ _) hb1⟩
  · cases N
    · cases hg : str.toList == [103, 101, 116, 98, 121, 116, 101]
      · cases hp : str.toList == [112, 117, 116, 98, 121, 116, 101]
        · go_enter Tryz.func77, Tryz.ntmps77
          go_wp2_with (first
            | (go_at_call 15; refine (hP _).mono ?_; rintro e1 w1 ⟨rfl, hb1⟩; obtain ⟨hc1, hf1⟩ := bcell hb1; have hs1 : w.heap.size < w1.heap.size := by (have := hb1.size; simp at this; omega))
            | (go_at_call 28; refine (hN _).mono ?_; rintro e2 w2 ⟨rfl, rfl⟩))
          go_ret
          exact ⟨by simp, below_on (below1 _ _) hb1⟩
        · go_enter Tryz.func77, Tryz.ntmps77
          go_wp2_with (first
            | (go_at_call 15; refine (hP _).mono ?_; rintro e1 w1 ⟨rfl, hb1⟩; obtain ⟨hc1, hf1⟩ := bcell hb1; have hs1 : w.heap.size < w1.heap.size := by (have := hb1.size; simp at this; omega))
            | (go_at_call 28; refine (hN _).mono ?_; rintro e2 w2 ⟨rfl, rfl⟩)
            | (go_at_call 53; refine (hE _ (below_on (below1 _ _) hb1)).mono ?_; rintro e3 w3 ⟨rfl, hb3⟩; obtain ⟨hc3, hf3⟩ := bcell hb3))
          go_ret
          exact ⟨by simp, below_on (below_on (below1 _ _) hb1) hb3⟩
      · go_enter Tryz.func77, Tryz.ntmps77
        go_wp2_with (first
          | (go_at_call 15; refine (hP _).mono ?_; rintro e1 w1 ⟨rfl, hb1⟩; obtain ⟨hc1, hf1⟩ := bcell hb1; have hs1 : w.heap.size < w1.heap.size := by (have := hb1.size; simp at this; omega))
          | (go_at_call 28; refine (hN _).mono ?_; rintro e2 w2 ⟨rfl, rfl⟩)
          | (go_at_call 53; refine (hE _ (below_on (below1 _ _) hb1)).mono ?_; rintro e3 w3 ⟨rfl, hb3⟩; obtain ⟨hc3, hf3⟩ := bcell hb3))
        go_ret
        exact ⟨by simp, below_on (below_on (below1 _ _) hb1) hb3⟩
    · go_enter Tryz.func77, Tryz.ntmps77
      go_wp2_with (first
        | (go_at_call 15; refine (hP _).mono ?_; rintro e1 w1 ⟨rfl, hb1⟩; obtain ⟨hc1, hf1⟩ := bcell hb1; have hs1 : w.heap.size < w1.heap.size := by (have := hb1.size; simp at this; omega))
        | (go_at_call 28; refine (hN _).mono ?_; rintro e2 w2 ⟨rfl, rfl⟩)
        | (go_at_call 53; refine (hE _ (below_on (below1 _ _) hb1)).mono ?_; rintro e3 w3 ⟨rfl, hb3⟩; obtain ⟨hc3, hf3⟩ := bcell hb3))
      go_ret
      exact ⟨by simp, below_on (below_on (below1 _ _) hb1) hb3⟩

end Go.Proofs.YtnnnfabpceapcaaGreatDoor

namespace Go.Proofs.YtnnnfabpceapcaaGreatDoor
set_option linter.unusedSimpArgs false
open Go.RowKit
set_option linter.unusedVariables false
set_option linter.unusedSimpArgs false

set_option maxHeartbeats 4000000 in
set_option maxRecDepth 20000 in
theorem may77_13_no {w : World} {str : ByteArray} {num pos : Int} {flag : Bool} {ka : Option Addr} {kn kc : Nat} {P N : Bool} (hP : ∀ W, Calls Tryz.prog 15 #[.agg #[.int .i64 13, .string str, .int .u32 num, .bool flag, .slice ka kn kc, .int .i64 pos], .bool true, .bool false, .bool false] W fun e w' => e = .returned (.bool P) ∧ Below W.heap.size W w') (hN : ∀ W, Calls Tryz.prog 103 #[.string ⟨#[32, 61, 32, 43, 61, 32, 45, 61, 32, 42, 61, 32, 47, 61, 32, 37, 61, 32, 38, 61, 32, 124, 61, 32, 94, 61, 32, 60, 60, 61, 32, 62, 62, 61, 32]⟩, .string str] W fun e w' => e = .returned (.bool N) ∧ w' = W) (hE : ∀ W, Below w.heap.size w W → Calls Tryz.prog 53 #[.agg #[.int .i64 13, .string str, .int .u32 num, .bool flag, .slice ka kn kc, .int .i64 pos], .int .i64 (2)] W fun e w' => e = .returned (.bool false) ∧ Below W.heap.size W w') :
    Calls Tryz.prog 77 #[.agg #[.int .i64 13, .string str, .int .u32 num, .bool flag, .slice ka kn kc, .int .i64 pos]] w fun e w' => e = .returned (.bool false) ∧ Below w.heap.size w w' := by
  cases P
  · go_enter Tryz.func77, Tryz.ntmps77
    go_wp2_with (go_at_call 15; refine (hP _).mono ?_; rintro e1 w1 ⟨rfl, hb1⟩; obtain ⟨hc1, hf1⟩ := bcell hb1; have hs1 : w.heap.size < w1.heap.size := by (have := hb1.size; simp at this; omega))
    go_ret
    exact ⟨rfl, below_on (below1 _ _) hb1⟩
  · cases N
    · go_enter Tryz.func77, Tryz.ntmps77
      go_wp2_with (first
        | (go_at_call 15; refine (hP _).mono ?_; rintro e1 w1 ⟨rfl, hb1⟩; obtain ⟨hc1, hf1⟩ := bcell hb1; have hs1 : w.heap.size < w1.heap.size := by (have := hb1.size; simp at this; omega))
        | (go_at_call 103; refine (hN _).mono ?_; rintro e2 w2 ⟨rfl, rfl⟩))
      go_ret
      exact ⟨rfl, below_on (below1 _ _) hb1⟩
    · go_enter Tryz.func77, Tryz.ntmps77
      go_wp2_with (first
        | (go_at_call 15; refine (hP _).mono ?_; rintro e1 w1 ⟨rfl, hb1⟩; obtain ⟨hc1, hf1⟩ := bcell hb1; have hs1 : w.heap.size < w1.heap.size := by (have := hb1.size; simp at this; omega))
        | (go_at_call 103; refine (hN _).mono ?_; rintro e2 w2 ⟨rfl, rfl⟩)
        | (go_at_call 53; refine (hE _ (below_on (below1 _ _) hb1)).mono ?_; rintro e3 w3 ⟨rfl, hb3⟩; obtain ⟨hc3, hf3⟩ := bcell hb3))
      go_ret
      exact ⟨rfl, below_on (below_on (below1 _ _) hb1) hb3⟩

set_option maxHeartbeats 4000000 in
set_option maxRecDepth 20000 in
theorem may77_13 {w : World} {str : ByteArray} {num pos : Int} {flag : Bool} {b0 o0 : Nat} {kc : Nat} {P N PL : Bool} {k0 n0 p0 : Int} {s0 : ByteArray} {f0 : Bool} {v0 : Value} (hlt : b0 < w.heap.size) (hP : ∀ W, Calls Tryz.prog 15 #[.agg #[.int .i64 13, .string str, .int .u32 num, .bool flag, .slice (some ⟨b0, o0, none⟩) 2 kc, .int .i64 pos], .bool true, .bool false, .bool false] W fun e w' => e = .returned (.bool P) ∧ Below W.heap.size W w') (hN : ∀ W, Calls Tryz.prog 103 #[.string ⟨#[32, 61, 32, 43, 61, 32, 45, 61, 32, 42, 61, 32, 47, 61, 32, 37, 61, 32, 38, 61, 32, 124, 61, 32, 94, 61, 32, 60, 60, 61, 32, 62, 62, 61, 32]⟩, .string str] W fun e w' => e = .returned (.bool N) ∧ w' = W) (hE : ∀ W, Below w.heap.size w W → Calls Tryz.prog 53 #[.agg #[.int .i64 13, .string str, .int .u32 num, .bool flag, .slice (some ⟨b0, o0, none⟩) 2 kc, .int .i64 pos], .int .i64 (2)] W fun e w' => e = .returned (.bool true) ∧ Below W.heap.size W w') (c00 : w.cell? ⟨b0, o0, none⟩ = some (.int .i64 k0)) (c01 : w.cell? ⟨b0, o0 + 1, none⟩ = some (.string s0)) (c02 : w.cell? ⟨b0, o0 + 2, none⟩ = some (.int .u32 n0)) (c03 : w.cell? ⟨b0, o0 + 3, none⟩ = some (.bool f0)) (c04 : w.cell? ⟨b0, o0 + 4, none⟩ = some v0) (c05 : w.cell? ⟨b0, o0 + 5, none⟩ = some (.int .i64 p0)) (hL : ∀ W, Below w.heap.size w W → Calls Tryz.prog 104 #[.agg #[.int .i64 k0, .string s0, .int .u32 n0, .bool f0, v0, .int .i64 p0]] W fun e w' => e = .returned (.bool PL) ∧ Below W.heap.size W w') :
    Calls Tryz.prog 77 #[.agg #[.int .i64 13, .string str, .int .u32 num, .bool flag, .slice (some ⟨b0, o0, none⟩) 2 kc, .int .i64 pos]] w fun e w' => e = .returned (.bool (P && (N && PL))) ∧ Below w.heap.size w w' := by
  cases P
  · go_enter Tryz.func77, Tryz.ntmps77
    go_wp2_with (go_at_call 15; refine (hP _).mono ?_; rintro e1 w1 ⟨rfl, hb1⟩; obtain ⟨hc1, hf1⟩ := bcell hb1; have hs1 : w.heap.size < w1.heap.size := (by have := hb1.size; simp at this; omega); have hx1 : b0 < w1.heap.size := (by omega))
    go_ret
    exact ⟨rfl, below_on (below1 _ _) hb1⟩
  · cases N
    · go_enter Tryz.func77, Tryz.ntmps77
      go_wp2_with (first
        | (go_at_call 15; refine (hP _).mono ?_; rintro e1 w1 ⟨rfl, hb1⟩; obtain ⟨hc1, hf1⟩ := bcell hb1; have hs1 : w.heap.size < w1.heap.size := (by have := hb1.size; simp at this; omega); have hx1 : b0 < w1.heap.size := (by omega))
        | (go_at_call 103; refine (hN _).mono ?_; rintro e2 w2 ⟨rfl, rfl⟩))
      go_ret
      exact ⟨rfl, below_on (below1 _ _) hb1⟩
    · go_enter Tryz.func77, Tryz.ntmps77
      go_wp2_with (first
        | (go_at_call 15; refine (hP _).mono ?_; rintro e1 w1 ⟨rfl, hb1⟩; obtain ⟨hc1, hf1⟩ := bcell hb1; have hs1 : w.heap.size < w1.heap.size := (by have := hb1.size; simp at this; omega); have hx1 : b0 < w1.heap.size := (by omega))
        | (go_at_call 103; refine (hN _).mono ?_; rintro e2 w2 ⟨rfl, rfl⟩)
        | (go_at_call 53; refine (hE _ (below_on (below1 _ _) hb1)).mono ?_; rintro e3 w3 ⟨rfl, hb3⟩; obtain ⟨hc3, hf3⟩ := bcell hb3; have hs3 : w.heap.size < w3.heap.size := (by have := hb3.size; omega); have hx3 : b0 < w3.heap.size := (by omega))
        | (go_at_call 104; refine (hL _ (below_on (below_on (below1 _ _) hb1) hb3)).mono ?_; rintro e4 w4 ⟨rfl, hb4⟩))
      go_ret
      exact ⟨by simp, below_on (below_on (below_on (below1 _ _) hb1) hb3) hb4⟩

set_option maxHeartbeats 4000000 in
set_option maxRecDepth 20000 in
theorem may77_14_no {w : World} {str : ByteArray} {num pos : Int} {flag : Bool} {ka : Option Addr} {kn kc : Nat} {P : Bool} (hP : ∀ W, Calls Tryz.prog 15 #[.agg #[.int .i64 14, .string str, .int .u32 num, .bool flag, .slice ka kn kc, .int .i64 pos], .bool false, .bool false, .bool false] W fun e w' => e = .returned (.bool P) ∧ Below W.heap.size W w') (hkn : ¬ kn = 2) :
    Calls Tryz.prog 77 #[.agg #[.int .i64 14, .string str, .int .u32 num, .bool flag, .slice ka kn kc, .int .i64 pos]] w fun e w' => e = .returned (.bool false) ∧ Below w.heap.size w w' := by
  have hk1 : ¬ (kn : Int) = 2 := by omega
  have hk2 : ((kn : Int) == 2) = false := by rw [beq_eq_false_iff_ne]; exact hk1
  cases P
  · go_enter Tryz.func77, Tryz.ntmps77
    go_wp2_with (go_at_call 15; refine (hP _).mono ?_; rintro e1 w1 ⟨rfl, hb1⟩; obtain ⟨hc1, hf1⟩ := bcell hb1; have hs1 : w.heap.size < w1.heap.size := by (have := hb1.size; simp at this; omega))
    go_ret
    exact ⟨rfl, below_on (below1 _ _) hb1⟩
  · go_enter Tryz.func77, Tryz.ntmps77
    go_wp2_with (go_at_call 15; refine (hP _).mono ?_; rintro e1 w1 ⟨rfl, hb1⟩; obtain ⟨hc1, hf1⟩ := bcell hb1; have hs1 : w.heap.size < w1.heap.size := by (have := hb1.size; simp at this; omega))
    go_ret
    exact ⟨by simp [hkn], below_on (below1 _ _) hb1⟩

set_option maxHeartbeats 4000000 in
set_option maxRecDepth 20000 in
theorem may77_15_no {w : World} {str : ByteArray} {num pos : Int} {flag : Bool} {ka : Option Addr} {kn kc : Nat} {P : Bool} (hP : ∀ W, Calls Tryz.prog 15 #[.agg #[.int .i64 15, .string str, .int .u32 num, .bool flag, .slice ka kn kc, .int .i64 pos], .bool false, .bool false, .bool false] W fun e w' => e = .returned (.bool P) ∧ Below W.heap.size W w') (hkn : ¬ kn = 1) :
    Calls Tryz.prog 77 #[.agg #[.int .i64 15, .string str, .int .u32 num, .bool flag, .slice ka kn kc, .int .i64 pos]] w fun e w' => e = .returned (.bool false) ∧ Below w.heap.size w w' := by
  have hk1 : ¬ (kn : Int) = 1 := by omega
  have hk2 : ((kn : Int) == 1) = false := by rw [beq_eq_false_iff_ne]; exact hk1
  cases P
  · go_enter Tryz.func77, Tryz.ntmps77
    go_wp2_with (go_at_call 15; refine (hP _).mono ?_; rintro e1 w1 ⟨rfl, hb1⟩; obtain ⟨hc1, hf1⟩ := bcell hb1; have hs1 : w.heap.size < w1.heap.size := by (have := hb1.size; simp at this; omega))
    go_ret
    exact ⟨rfl, below_on (below1 _ _) hb1⟩
  · go_enter Tryz.func77, Tryz.ntmps77
    go_wp2_with (go_at_call 15; refine (hP _).mono ?_; rintro e1 w1 ⟨rfl, hb1⟩; obtain ⟨hc1, hf1⟩ := bcell hb1; have hs1 : w.heap.size < w1.heap.size := by (have := hb1.size; simp at this; omega))
    go_ret
    exact ⟨by simp [hkn], below_on (below1 _ _) hb1⟩

set_option maxHeartbeats 4000000 in
set_option maxRecDepth 20000 in
theorem may77_14 {w : World} {str : ByteArray} {num pos : Int} {flag : Bool} {b0 o0 : Nat} {kc : Nat} {P T X : Bool} {k0 n0 p0 : Int} {s0 : ByteArray} {f0 : Bool} {v0 : Value} {k1 n1 p1 : Int} {s1 : ByteArray} {f1 : Bool} {v1 : Value} (hlt : b0 < w.heap.size) (hP : ∀ W, Calls Tryz.prog 15 #[.agg #[.int .i64 14, .string str, .int .u32 num, .bool flag, .slice (some ⟨b0, o0, none⟩) 2 kc, .int .i64 pos], .bool false, .bool false, .bool false] W fun e w' => e = .returned (.bool P) ∧ Below W.heap.size W w') (c00 : w.cell? ⟨b0, o0, none⟩ = some (.int .i64 k0)) (c01 : w.cell? ⟨b0, o0 + 1, none⟩ = some (.string s0)) (c02 : w.cell? ⟨b0, o0 + 2, none⟩ = some (.int .u32 n0)) (c03 : w.cell? ⟨b0, o0 + 3, none⟩ = some (.bool f0)) (c04 : w.cell? ⟨b0, o0 + 4, none⟩ = some v0) (c05 : w.cell? ⟨b0, o0 + 5, none⟩ = some (.int .i64 p0)) (c10 : w.cell? ⟨b0, o0 + 6, none⟩ = some (.int .i64 k1)) (c11 : w.cell? ⟨b0, o0 + 7, none⟩ = some (.string s1)) (c12 : w.cell? ⟨b0, o0 + 8, none⟩ = some (.int .u32 n1)) (c13 : w.cell? ⟨b0, o0 + 9, none⟩ = some (.bool f1)) (c14 : w.cell? ⟨b0, o0 + 10, none⟩ = some v1) (c15 : w.cell? ⟨b0, o0 + 11, none⟩ = some (.int .i64 p1)) (hT : ∀ W, Below w.heap.size w W → Calls Tryz.prog 29 #[.agg #[.int .i64 k0, .string s0, .int .u32 n0, .bool f0, v0, .int .i64 p0]] W fun e w' => e = .returned (.bool T) ∧ Below W.heap.size W w') (hX : ∀ W, Below w.heap.size w W → Calls Tryz.prog 52 #[.agg #[.int .i64 k1, .string s1, .int .u32 n1, .bool f1, v1, .int .i64 p1]] W fun e w' => e = .returned (.bool X) ∧ Below W.heap.size W w') :
    Calls Tryz.prog 77 #[.agg #[.int .i64 14, .string str, .int .u32 num, .bool flag, .slice (some ⟨b0, o0, none⟩) 2 kc, .int .i64 pos]] w fun e w' => e = .returned (.bool (P && (T && X))) ∧ Below w.heap.size w w' := by
  cases P
  · go_enter Tryz.func77, Tryz.ntmps77
    go_wp2_with (go_at_call 15; refine (hP _).mono ?_; rintro e1 w1 ⟨rfl, hb1⟩; obtain ⟨hc1, hf1⟩ := bcell hb1; have hs1 : w.heap.size < w1.heap.size := (by have := hb1.size; simp at this; omega); have hx1 : b0 < w1.heap.size := (by omega))
    go_ret
    exact ⟨rfl, below_on (below1 _ _) hb1⟩
  · cases T
    · go_enter Tryz.func77, Tryz.ntmps77
      go_wp2_with (first
        | (go_at_call 15; refine (hP _).mono ?_; rintro e1 w1 ⟨rfl, hb1⟩; obtain ⟨hc1, hf1⟩ := bcell hb1; have hs1 : w.heap.size < w1.heap.size := (by have := hb1.size; simp at this; omega); have hx1 : b0 < w1.heap.size := (by omega))
        | (go_at_call 29; refine (hT _ (below_on (below1 _ _) hb1)).mono ?_; rintro e3 w3 ⟨rfl, hb3⟩; obtain ⟨hc3, hf3⟩ := bcell hb3; have hs3 : w.heap.size < w3.heap.size := (by have := hb3.size; omega); have hx3 : b0 < w3.heap.size := (by omega)))
      go_ret
      exact ⟨rfl, below_on (below_on (below1 _ _) hb1) hb3⟩
    · go_enter Tryz.func77, Tryz.ntmps77
      go_wp2_with (first
        | (go_at_call 15; refine (hP _).mono ?_; rintro e1 w1 ⟨rfl, hb1⟩; obtain ⟨hc1, hf1⟩ := bcell hb1; have hs1 : w.heap.size < w1.heap.size := (by have := hb1.size; simp at this; omega); have hx1 : b0 < w1.heap.size := (by omega))
        | (go_at_call 29; refine (hT _ (below_on (below1 _ _) hb1)).mono ?_; rintro e3 w3 ⟨rfl, hb3⟩; obtain ⟨hc3, hf3⟩ := bcell hb3; have hs3 : w.heap.size < w3.heap.size := (by have := hb3.size; omega); have hx3 : b0 < w3.heap.size := (by omega))
        | (go_at_call 52; refine (hX _ (below_on (below_on (below1 _ _) hb1) hb3)).mono ?_; rintro e4 w4 ⟨rfl, hb4⟩))
      go_ret
      exact ⟨by simp, below_on (below_on (below_on (below1 _ _) hb1) hb3) hb4⟩

set_option maxHeartbeats 4000000 in
set_option maxRecDepth 20000 in
theorem may77_15 {w : World} {str : ByteArray} {num pos : Int} {flag : Bool} {b0 o0 : Nat} {kc : Nat} {P T X : Bool} {k0 n0 p0 : Int} {s0 : ByteArray} {f0 : Bool} {v0 : Value} (hlt : b0 < w.heap.size) (hP : ∀ W, Calls Tryz.prog 15 #[.agg #[.int .i64 15, .string str, .int .u32 num, .bool flag, .slice (some ⟨b0, o0, none⟩) 1 kc, .int .i64 pos], .bool false, .bool false, .bool false] W fun e w' => e = .returned (.bool P) ∧ Below W.heap.size W w') (c00 : w.cell? ⟨b0, o0, none⟩ = some (.int .i64 k0)) (c01 : w.cell? ⟨b0, o0 + 1, none⟩ = some (.string s0)) (c02 : w.cell? ⟨b0, o0 + 2, none⟩ = some (.int .u32 n0)) (c03 : w.cell? ⟨b0, o0 + 3, none⟩ = some (.bool f0)) (c04 : w.cell? ⟨b0, o0 + 4, none⟩ = some v0) (c05 : w.cell? ⟨b0, o0 + 5, none⟩ = some (.int .i64 p0)) (hT : ∀ W, Below w.heap.size w W → Calls Tryz.prog 29 #[.agg #[.int .i64 k0, .string s0, .int .u32 n0, .bool f0, v0, .int .i64 p0]] W fun e w' => e = .returned (.bool T) ∧ Below W.heap.size W w') (hX : ∀ W, Below w.heap.size w W → Calls Tryz.prog 52 #[.agg #[.int .i64 k0, .string s0, .int .u32 n0, .bool f0, v0, .int .i64 p0]] W fun e w' => e = .returned (.bool X) ∧ Below W.heap.size W w') :
    Calls Tryz.prog 77 #[.agg #[.int .i64 15, .string str, .int .u32 num, .bool flag, .slice (some ⟨b0, o0, none⟩) 1 kc, .int .i64 pos]] w fun e w' => e = .returned (.bool (P && (T || X))) ∧ Below w.heap.size w w' := by
  cases P
  · go_enter Tryz.func77, Tryz.ntmps77
    go_wp2_with (go_at_call 15; refine (hP _).mono ?_; rintro e1 w1 ⟨rfl, hb1⟩; obtain ⟨hc1, hf1⟩ := bcell hb1; have hs1 : w.heap.size < w1.heap.size := (by have := hb1.size; simp at this; omega); have hx1 : b0 < w1.heap.size := (by omega))
    go_ret
    exact ⟨rfl, below_on (below1 _ _) hb1⟩
  · cases T
    · go_enter Tryz.func77, Tryz.ntmps77
      go_wp2_with (first
        | (go_at_call 15; refine (hP _).mono ?_; rintro e1 w1 ⟨rfl, hb1⟩; obtain ⟨hc1, hf1⟩ := bcell hb1; have hs1 : w.heap.size < w1.heap.size := (by have := hb1.size; simp at this; omega); have hx1 : b0 < w1.heap.size := (by omega))
        | (go_at_call 29; refine (hT _ (below_on (below1 _ _) hb1)).mono ?_; rintro e3 w3 ⟨rfl, hb3⟩; obtain ⟨hc3, hf3⟩ := bcell hb3; have hs3 : w.heap.size < w3.heap.size := (by have := hb3.size; omega); have hx3 : b0 < w3.heap.size := (by omega))
        | (go_at_call 52; refine (hX _ (below_on (below_on (below1 _ _) hb1) hb3)).mono ?_; rintro e4 w4 ⟨rfl, hb4⟩))
      go_ret
      exact ⟨by simp, below_on (below_on (below_on (below1 _ _) hb1) hb3) hb4⟩
    · go_enter Tryz.func77, Tryz.ntmps77
      go_wp2_with (first
        | (go_at_call 15; refine (hP _).mono ?_; rintro e1 w1 ⟨rfl, hb1⟩; obtain ⟨hc1, hf1⟩ := bcell hb1; have hs1 : w.heap.size < w1.heap.size := (by have := hb1.size; simp at this; omega); have hx1 : b0 < w1.heap.size := (by omega))
        | (go_at_call 29; refine (hT _ (below_on (below1 _ _) hb1)).mono ?_; rintro e3 w3 ⟨rfl, hb3⟩; obtain ⟨hc3, hf3⟩ := bcell hb3; have hs3 : w.heap.size < w3.heap.size := (by have := hb3.size; omega); have hx3 : b0 < w3.heap.size := (by omega)))
      go_ret
      exact ⟨by simp, below_on (below_on (below1 _ _) hb1) hb3⟩

end Go.Proofs.YtnnnfabpceapcaaGreatDoor

namespace Go.Proofs.YtnnnfabpceapcaaGreatDoor
set_option linter.unusedSimpArgs false
open Go.RowKit
set_option linter.unusedVariables false
set_option linter.unusedSimpArgs false

theorem exprsF_nat (F : Tr → Bool) (ks : List Tr) (m : Nat) : exprsF F ks (m : Int) = (decide (ks.length = m) && ks.all F) := by
  unfold exprsF
  have h1 : decide ((m : Int) < 0) = false := decide_eq_false (by omega)
  rw [h1, Bool.false_or]
  congr 1
  exact decide_eq_decide.2 (by omega)
theorem exprsF_any (F : Tr → Bool) (ks : List Tr) : exprsF F ks (-1) = ks.all F := rfl
theorem are_exprs : ∀ (m : Nat) (ks : List Tr), (areK (List.replicate m isExpr) ks && allL mayN ks) = exprsF exR ks (m : Int)
  | 0, [] => rfl
  | 0, t :: r => by rw [exprsF_nat]; rfl
  | m + 1, [] => by rw [exprsF_nat]; rfl
  | m + 1, t :: r => by
    have ih := are_exprs m r
    rw [exprsF_nat] at ih ⊢
    rw [List.replicate_succ, allL_cons]
    have e1 : areK (isExpr :: List.replicate m isExpr) (t :: r) = (onT isExpr t && areK (List.replicate m isExpr) r) := rfl
    have e2 : (t :: r).all exR = (exR t && r.all exR) := rfl
    have e3 : decide ((t :: r).length = m + 1) = decide (r.length = m) := decide_eq_decide.2 (by simp)
    rw [e1, e2, e3]
    unfold exR at *
    generalize areK (List.replicate m isExpr) r = a at *
    generalize allL mayN r = b at *
    generalize decide (r.length = m) = c at *
    generalize (r.all fun t => onT isExpr t && allT mayN t) = d at *
    cases onT isExpr t <;> cases allT mayN t <;> cases a <;> cases b <;> cases c <;> cases d <;> simp_all
theorem all_exprs : ∀ (ks : List Tr), (allK isExpr ks && allL mayN ks) = exprsF exR ks (-1)
  | [] => rfl
  | t :: r => by
    have ih := all_exprs r
    rw [exprsF_any] at ih ⊢
    have e1 : allK isExpr (t :: r) = (onT isExpr t && allK isExpr r) := rfl
    have e2 : (t :: r).all exR = (exR t && r.all exR) := rfl
    rw [allL_cons, e1, e2, ← ih]
    unfold exR
    cases onT isExpr t <;> cases allT mayN t <;> cases allK isExpr r <;> cases allL mayN r <;> rfl

theorem num_dec (n : Int) : (n == 0) = decide (n = 0) := by by_cases h : n = 0 <;> simp [h]
theorem emp_dec (s : ByteArray) : emptyB s = s.toList.isEmpty := by unfold emptyB; cases s.toList <;> rfl
/-- The parts of a node that counts but for its kids. -/
theorem mayN_eq (x : NdH) (ks : List Tr) : mayN x ks = (strF nameB typeB signF asgF binF logF x && (numF x && (flagF x && kidsF x ks))) := rfl

section
variable {str : ByteArray} {num pos : Int} {flag : Bool} {ks : List Tr}
theorem pm1 : (partsF ⟨1, str, num, flag, pos⟩ false true true && ((flag || decide (num < 2147483648)) && exprsF exR ks (0))) = (mayN ⟨1, str, num, flag, pos⟩ ks && allL mayN ks) := by
  have h : (areK [] ks && allL mayN ks) = exprsF exR ks (0) := are_exprs 0 ks
  have e : mayN ⟨1, str, num, flag, pos⟩ ks = (str.toList.isEmpty && ((decide (num < 2147483648) || flag) && (true && areK [] ks))) := rfl
  rw [e, ← h]
  unfold partsF
  dsimp only
  rw [emp_dec, num_dec]
  generalize areK [] ks = A
  generalize allL mayN ks = B
  generalize str.toList.isEmpty = D
  generalize decide (num = 0) = F
  generalize decide (num < 2147483648) = M0
  cases A <;> cases B <;> cases D <;> cases F <;> cases flag <;> cases M0 <;> rfl
theorem pm2 : (partsF ⟨2, str, num, flag, pos⟩ false true false && (decide (num < 256) && exprsF exR ks (0))) = (mayN ⟨2, str, num, flag, pos⟩ ks && allL mayN ks) := by
  have h : (areK [] ks && allL mayN ks) = exprsF exR ks (0) := are_exprs 0 ks
  have e : mayN ⟨2, str, num, flag, pos⟩ ks = (str.toList.isEmpty && (decide (num ≤ 255) && (!flag && areK [] ks))) := rfl
  rw [show decide (num ≤ 255) = decide (num < 256) from decide_eq_decide.2 (by omega)] at e
  rw [e, ← h]
  unfold partsF
  dsimp only
  rw [emp_dec, num_dec]
  generalize areK [] ks = A
  generalize allL mayN ks = B
  generalize str.toList.isEmpty = D
  generalize decide (num = 0) = F
  generalize decide (num < 256) = M0
  cases A <;> cases B <;> cases D <;> cases F <;> cases flag <;> cases M0 <;> rfl
theorem pm3 : (partsF ⟨3, str, num, flag, pos⟩ true false false && exprsF exR ks (0)) = (mayN ⟨3, str, num, flag, pos⟩ ks && allL mayN ks) := by
  have h : (areK [] ks && allL mayN ks) = exprsF exR ks (0) := are_exprs 0 ks
  have e : mayN ⟨3, str, num, flag, pos⟩ ks = (true && (decide (num = 0) && (!flag && areK [] ks))) := rfl
  rw [e, ← h]
  unfold partsF
  dsimp only
  rw [emp_dec, num_dec]
  generalize areK [] ks = A
  generalize allL mayN ks = B
  generalize str.toList.isEmpty = D
  generalize decide (num = 0) = F
  cases A <;> cases B <;> cases D <;> cases F <;> cases flag <;> rfl
theorem pm4 : (partsF ⟨4, str, num, flag, pos⟩ true false false && (nameB str && exprsF exR ks (0))) = (mayN ⟨4, str, num, flag, pos⟩ ks && allL mayN ks) := by
  have h : (areK [] ks && allL mayN ks) = exprsF exR ks (0) := are_exprs 0 ks
  have e : mayN ⟨4, str, num, flag, pos⟩ ks = (nameB str && (decide (num = 0) && (!flag && areK [] ks))) := rfl
  rw [e, ← h]
  unfold partsF
  dsimp only
  rw [emp_dec, num_dec]
  generalize areK [] ks = A
  generalize allL mayN ks = B
  generalize str.toList.isEmpty = D
  generalize decide (num = 0) = F
  generalize nameB str = M0
  cases A <;> cases B <;> cases D <;> cases F <;> cases flag <;> cases M0 <;> rfl
theorem pm5 : (partsF ⟨5, str, num, flag, pos⟩ false false false && exprsF exR ks (2)) = (mayN ⟨5, str, num, flag, pos⟩ ks && allL mayN ks) := by
  have h : (areK [isExpr, isExpr] ks && allL mayN ks) = exprsF exR ks (2) := are_exprs 2 ks
  have e : mayN ⟨5, str, num, flag, pos⟩ ks = (str.toList.isEmpty && (decide (num = 0) && (!flag && areK [isExpr, isExpr] ks))) := rfl
  rw [e, ← h]
  unfold partsF
  dsimp only
  rw [emp_dec, num_dec]
  generalize areK [isExpr, isExpr] ks = A
  generalize allL mayN ks = B
  generalize str.toList.isEmpty = D
  generalize decide (num = 0) = F
  cases A <;> cases B <;> cases D <;> cases F <;> cases flag <;> rfl
theorem pm6 : (partsF ⟨6, str, num, flag, pos⟩ true false false && (nameB str && exprsF exR ks (1))) = (mayN ⟨6, str, num, flag, pos⟩ ks && allL mayN ks) := by
  have h : (areK [isExpr] ks && allL mayN ks) = exprsF exR ks (1) := are_exprs 1 ks
  have e : mayN ⟨6, str, num, flag, pos⟩ ks = (nameB str && (decide (num = 0) && (!flag && areK [isExpr] ks))) := rfl
  rw [e, ← h]
  unfold partsF
  dsimp only
  rw [emp_dec, num_dec]
  generalize areK [isExpr] ks = A
  generalize allL mayN ks = B
  generalize str.toList.isEmpty = D
  generalize decide (num = 0) = F
  generalize nameB str = M0
  cases A <;> cases B <;> cases D <;> cases F <;> cases flag <;> cases M0 <;> rfl
theorem pm7 : (partsF ⟨7, str, num, flag, pos⟩ true false false && (nameB str && exprsF exR ks (1))) = (mayN ⟨7, str, num, flag, pos⟩ ks && allL mayN ks) := by
  have h : (areK [isExpr] ks && allL mayN ks) = exprsF exR ks (1) := are_exprs 1 ks
  have e : mayN ⟨7, str, num, flag, pos⟩ ks = (nameB str && (decide (num = 0) && (!flag && areK [isExpr] ks))) := rfl
  rw [e, ← h]
  unfold partsF
  dsimp only
  rw [emp_dec, num_dec]
  generalize areK [isExpr] ks = A
  generalize allL mayN ks = B
  generalize str.toList.isEmpty = D
  generalize decide (num = 0) = F
  generalize nameB str = M0
  cases A <;> cases B <;> cases D <;> cases F <;> cases flag <;> cases M0 <;> rfl
theorem pm8 : (partsF ⟨8, str, num, flag, pos⟩ true false false && ((nameB str || (str.toList == [103, 101, 116, 98, 121, 116, 101] || str.toList == [112, 117, 116, 98, 121, 116, 101])) && exprsF exR ks (-1))) = (mayN ⟨8, str, num, flag, pos⟩ ks && allL mayN ks) := by
  have h : (allK isExpr ks && allL mayN ks) = exprsF exR ks (-1) := all_exprs ks
  have e : mayN ⟨8, str, num, flag, pos⟩ ks = ((nameB str || (str.toList == [103, 101, 116, 98, 121, 116, 101] || str.toList == [112, 117, 116, 98, 121, 116, 101])) && (decide (num = 0) && (!flag && allK isExpr ks))) := rfl
  rw [e, ← h]
  unfold partsF
  dsimp only
  rw [emp_dec, num_dec]
  generalize allK isExpr ks = A
  generalize allL mayN ks = B
  generalize str.toList.isEmpty = D
  generalize decide (num = 0) = F
  generalize nameB str = M0
  generalize (str.toList == [103, 101, 116, 98, 121, 116, 101]) = M1
  generalize (str.toList == [112, 117, 116, 98, 121, 116, 101]) = M2
  cases A <;> cases B <;> cases D <;> cases F <;> cases flag <;> cases M0 <;> cases M1 <;> cases M2 <;> rfl
theorem pm9 : (partsF ⟨9, str, num, flag, pos⟩ true false false && (signF str && exprsF exR ks (1))) = (mayN ⟨9, str, num, flag, pos⟩ ks && allL mayN ks) := by
  have h : (areK [isExpr] ks && allL mayN ks) = exprsF exR ks (1) := are_exprs 1 ks
  have e : mayN ⟨9, str, num, flag, pos⟩ ks = (signF str && (decide (num = 0) && (!flag && areK [isExpr] ks))) := rfl
  rw [e, ← h]
  unfold partsF
  dsimp only
  rw [emp_dec, num_dec]
  generalize areK [isExpr] ks = A
  generalize allL mayN ks = B
  generalize str.toList.isEmpty = D
  generalize decide (num = 0) = F
  generalize signF str = M0
  cases A <;> cases B <;> cases D <;> cases F <;> cases flag <;> cases M0 <;> rfl
theorem pm10 : (partsF ⟨10, str, num, flag, pos⟩ true false false && ((binF str != 0) && exprsF exR ks (2))) = (mayN ⟨10, str, num, flag, pos⟩ ks && allL mayN ks) := by
  have h : (areK [isExpr, isExpr] ks && allL mayN ks) = exprsF exR ks (2) := are_exprs 2 ks
  have e : mayN ⟨10, str, num, flag, pos⟩ ks = ((binF str != 0) && (decide (num = 0) && (!flag && areK [isExpr, isExpr] ks))) := rfl
  rw [e, ← h]
  unfold partsF
  dsimp only
  rw [emp_dec, num_dec]
  generalize areK [isExpr, isExpr] ks = A
  generalize allL mayN ks = B
  generalize str.toList.isEmpty = D
  generalize decide (num = 0) = F
  generalize (binF str != 0) = M0
  cases A <;> cases B <;> cases D <;> cases F <;> cases flag <;> cases M0 <;> rfl
theorem pm11 : (partsF ⟨11, str, num, flag, pos⟩ true false false && ((logF str != 0) && exprsF exR ks (2))) = (mayN ⟨11, str, num, flag, pos⟩ ks && allL mayN ks) := by
  have h : (areK [isExpr, isExpr] ks && allL mayN ks) = exprsF exR ks (2) := are_exprs 2 ks
  have e : mayN ⟨11, str, num, flag, pos⟩ ks = ((logF str != 0) && (decide (num = 0) && (!flag && areK [isExpr, isExpr] ks))) := rfl
  rw [e, ← h]
  unfold partsF
  dsimp only
  rw [emp_dec, num_dec]
  generalize areK [isExpr, isExpr] ks = A
  generalize allL mayN ks = B
  generalize str.toList.isEmpty = D
  generalize decide (num = 0) = F
  generalize (logF str != 0) = M0
  cases A <;> cases B <;> cases D <;> cases F <;> cases flag <;> cases M0 <;> rfl
theorem pm12 : (partsF ⟨12, str, num, flag, pos⟩ false false false && exprsF exR ks (3)) = (mayN ⟨12, str, num, flag, pos⟩ ks && allL mayN ks) := by
  have h : (areK [isExpr, isExpr, isExpr] ks && allL mayN ks) = exprsF exR ks (3) := are_exprs 3 ks
  have e : mayN ⟨12, str, num, flag, pos⟩ ks = (str.toList.isEmpty && (decide (num = 0) && (!flag && areK [isExpr, isExpr, isExpr] ks))) := rfl
  rw [e, ← h]
  unfold partsF
  dsimp only
  rw [emp_dec, num_dec]
  generalize areK [isExpr, isExpr, isExpr] ks = A
  generalize allL mayN ks = B
  generalize str.toList.isEmpty = D
  generalize decide (num = 0) = F
  cases A <;> cases B <;> cases D <;> cases F <;> cases flag <;> rfl
/-- A type's node, as the document has it. -/
theorem typed_is (x : NdH) (ls : List Tr) : typedF x ls.length = (onT (ofK [16]) (Tr.node x ls) && allT mayN (Tr.node x ls)) := by
  obtain ⟨kind, str, num, flag, pos⟩ := x
  rw [onT_node, allT_node]
  by_cases h : kind = 16
  · subst h
    have e : mayN ⟨16, str, num, flag, pos⟩ ls = (typeB str && (decide (num = 0) && (!flag && areK [] ls))) := rfl
    have h0 : ofK [16] ⟨16, str, num, flag, pos⟩ ls = true := rfl
    rw [e, h0]
    unfold typedF partsF
    dsimp only
    rw [num_dec]
    cases ls with
    | nil =>
      rw [allL_nil]
      have ha : areK [] ([] : List Tr) = true := rfl
      rw [ha]
      generalize emptyB str = a
      generalize typeB str = b
      generalize decide (num = 0) = c
      cases a <;> cases b <;> cases c <;> cases flag <;> rfl
    | cons t r =>
      have ha : areK [] (t :: r) = false := rfl
      rw [ha]
      have hn : ((t :: r).length == 0) = false := rfl
      rw [hn]
      simp
  · have h0 : ofK [16] ⟨kind, str, num, flag, pos⟩ ls = false := by
      unfold ofK hasI
      simp [h]
    rw [h0]
    unfold typedF
    have hd : (kind == 16) = false := by simp [h]
    dsimp only
    rw [hd]
    rfl
theorem pm13 {x0 : NdH} {l0 : List Tr} {t1 : Tr} : (partsF ⟨13, str, num, flag, pos⟩ true false false && (asgF str && (exprsF exR [Tr.node x0 l0, t1] 2 && placeF x0))) = (mayN ⟨13, str, num, flag, pos⟩ [Tr.node x0 l0, t1] && allL mayN [Tr.node x0 l0, t1]) := by
  have e : mayN ⟨13, str, num, flag, pos⟩ [Tr.node x0 l0, t1] = (asgF str && (decide (num = 0) && (!flag && (onT (ofK [4, 5, 6, 7]) (Tr.node x0 l0) && (onT isExpr t1 && true))))) := rfl
  have hE : exprsF exR [Tr.node x0 l0, t1] 2 = (exR (Tr.node x0 l0) && (exR t1 && true)) := rfl
  have hp : onT (ofK [4, 5, 6, 7]) (Tr.node x0 l0) = (onT isExpr (Tr.node x0 l0) && placeF x0) := by
    rw [onT_node, onT_node]
    obtain ⟨kind, s, n, f, p⟩ := x0
    unfold ofK hasI isExpr placeF
    dsimp only
    by_cases h4 : kind = 4
    · subst h4; rfl
    by_cases h5 : kind = 5
    · subst h5; rfl
    by_cases h6 : kind = 6
    · subst h6; rfl
    by_cases h7 : kind = 7
    · subst h7; rfl
    have d4 : (kind == 4) = false := by simp [h4]
    have d5 : (kind == 5) = false := by simp [h5]
    have d6 : (kind == 6) = false := by simp [h6]
    have d7 : (kind == 7) = false := by simp [h7]
    rw [d4, d5, d6, d7]
    simp [h4, h5, h6, h7]
  rw [e, hE, hp, allL_cons, allL_cons, allL_nil]
  unfold partsF exR
  dsimp only
  rw [num_dec]
  generalize emptyB str = a
  generalize asgF str = b
  generalize decide (num = 0) = c
  generalize placeF x0 = d
  generalize onT isExpr (Tr.node x0 l0) = g
  generalize allT mayN (Tr.node x0 l0) = h
  generalize onT isExpr t1 = k
  generalize allT mayN t1 = m
  cases a <;> cases b <;> cases c <;> cases d <;> cases g <;> cases h <;> cases k <;> cases m <;> cases flag <;> rfl
theorem pm14 {x0 : NdH} {l0 : List Tr} {t1 : Tr} : (partsF ⟨14, str, num, flag, pos⟩ false false false && (typedF x0 l0.length && exR t1)) = (mayN ⟨14, str, num, flag, pos⟩ [Tr.node x0 l0, t1] && allL mayN [Tr.node x0 l0, t1]) := by
  have e : mayN ⟨14, str, num, flag, pos⟩ [Tr.node x0 l0, t1] = (str.toList.isEmpty && (decide (num = 0) && (!flag && (onT (ofK [16]) (Tr.node x0 l0) && (onT isExpr t1 && true))))) := rfl
  rw [e, typed_is, allL_cons, allL_cons, allL_nil]
  unfold partsF exR
  dsimp only
  rw [num_dec, emp_dec]
  generalize str.toList.isEmpty = a
  generalize decide (num = 0) = c
  generalize onT (ofK [16]) (Tr.node x0 l0) = g
  generalize allT mayN (Tr.node x0 l0) = h
  generalize onT isExpr t1 = k
  generalize allT mayN t1 = m
  cases a <;> cases c <;> cases g <;> cases h <;> cases k <;> cases m <;> cases flag <;> rfl
theorem pm15 {x0 : NdH} {l0 : List Tr} : (partsF ⟨15, str, num, flag, pos⟩ false false false && (typedF x0 l0.length || exR (Tr.node x0 l0))) = (mayN ⟨15, str, num, flag, pos⟩ [Tr.node x0 l0] && allL mayN [Tr.node x0 l0]) := by
  have e : mayN ⟨15, str, num, flag, pos⟩ [Tr.node x0 l0] = (str.toList.isEmpty && (decide (num = 0) && (!flag && (onT (orK [ofK [16], isExpr]) (Tr.node x0 l0) && true)))) := rfl
  have ho : onT (orK [ofK [16], isExpr]) (Tr.node x0 l0) = (onT (ofK [16]) (Tr.node x0 l0) || (onT isExpr (Tr.node x0 l0) || false)) := rfl
  rw [e, ho, typed_is, allL_cons, allL_nil]
  unfold partsF exR
  dsimp only
  rw [num_dec, emp_dec]
  generalize str.toList.isEmpty = a
  generalize decide (num = 0) = c
  generalize onT (ofK [16]) (Tr.node x0 l0) = g
  generalize allT mayN (Tr.node x0 l0) = h
  generalize onT isExpr (Tr.node x0 l0) = k
  cases a <;> cases c <;> cases g <;> cases h <;> cases k <;> cases flag <;> rfl
theorem pm13_no (hi : isL ks = true) (h2 : exprsF exR ks 2 = false) : (mayN ⟨13, str, num, flag, pos⟩ ks && allL mayN ks) = false := by
  match ks, hi, h2 with
  | [], _, _ => simp [mayN_eq, kidsF, exprF, areK]
  | [t], _, _ => simp [mayN_eq, kidsF, exprF, areK]
  | t0 :: t1 :: t2 :: r, _, _ => simp [mayN_eq, kidsF, exprF, areK]
  | [t0, t1], hi, h =>
    obtain ⟨x0, l0, rfl⟩ := isT_form (isL_mem hi t0 (by simp))
    rw [← pm13, h]
    simp
theorem pm14_no (h : ¬ ks.length = 2) : (mayN ⟨14, str, num, flag, pos⟩ ks && allL mayN ks) = false := by
  match ks, h with
  | [], _ => simp [mayN_eq, kidsF, exprF, areK]
  | [t], _ => simp [mayN_eq, kidsF, exprF, areK]
  | t0 :: t1 :: t2 :: r, _ => simp [mayN_eq, kidsF, exprF, areK]
  | [t0, t1], h => exact absurd rfl h
theorem pm15_no (h : ¬ ks.length = 1) : (mayN ⟨15, str, num, flag, pos⟩ ks && allL mayN ks) = false := by
  match ks, h with
  | [], _ => simp [mayN_eq, kidsF, exprF, areK]
  | t0 :: t1 :: r, _ => simp [mayN_eq, kidsF, exprF, areK]
  | [t0], h => exact absurd rfl h
end
end Go.Proofs.YtnnnfabpceapcaaGreatDoor

namespace Go.Proofs.YtnnnfabpceapcaaGreatDoor
set_option linter.unusedSimpArgs false
open Go.RowKit
set_option linter.unusedVariables false
set_option linter.unusedSimpArgs false

theorem typed_kid {ks : List Tr} (h : allL typedN ks = true) (i : Nat) (hi : i < ks.length) : allT typedN ks[i] = true := by
  unfold allL at h
  exact List.all_eq_true.1 h _ (List.mem_map.2 ⟨ks[i], List.getElem_mem hi, rfl⟩)

theorem expr52_no {w : World} {x : NdH} {ka : Option Addr} {kn kc : Nat} (h : ¬ (1 ≤ x.kind ∧ x.kind ≤ 15)) :
    Calls Tryz.prog 52 #[ndV x (.slice ka kn kc)] w fun e w' => e = .returned (.bool false) ∧ Below w.heap.size w w' := by
  obtain ⟨kind, str, num, flag, pos⟩ := x
  unfold ndV
  dsimp only at *
  by_cases h1 : 1 ≤ kind
  · have h2 : ¬ kind ≤ 15 := fun h2 => h ⟨h1, h2⟩
    go_enter Tryz.func52, Tryz.ntmps52
    go_wp2_with fail
    go_ret
    exact ⟨by simp [h2] <;> omega, below1 _ _⟩
  · go_enter Tryz.func52, Tryz.ntmps52
    go_wp2_with fail
    go_ret
    exact ⟨rfl, below1 _ _⟩
theorem KidQ.on {w W : World} {ao : Option Addr} {ks : List Tr} {g : FuncId} {F : Tr → Bool} (h : KidQ w ao ks g F) (hb : Below w.heap.size w W) : KidQ W ao ks g F := fun W' hW' => h W' (below_on hb hW')
theorem cells_kid {w : World} {b off i : Nat} {x : NdH} {kv : Value} (h : NdAt w b (off + i * 6) x kv) (j : Nat) (hj : j = i * 6) : NdAt w b (off + j) x kv := by rw [hj]; exact h

set_option maxHeartbeats 4000000 in
theorem may77 {cb : Nat} : ∀ (n : Nat) {w : World} {x : NdH} {kv : Value} {ks : List Tr}, Ks cb n w kv ks → typedN x ks = true → allL typedN ks = true → 1 ≤ x.kind → x.kind ≤ 15 →
    Calls Tryz.prog 77 #[ndV x kv] w fun e w' => e = .returned (.bool (mayN x ks && allL mayN ks)) ∧ Below w.heap.size w w' := fun n => by
  induction n using Nat.strongRecOn with
  | ind n ih =>
  intro w x kv ks hK hx hks h1 h15
  obtain ⟨hlen, ao, cap, rfl⟩ := hK.shape
  have hx52 : ∀ (m : Nat), m < n → ∀ (W : World) (x' : NdH) (kv' : Value) (ks' : List Tr), Ks cb m W kv' ks' → allT typedN (Tr.node x' ks') = true → Calls Tryz.prog 52 #[ndV x' kv'] W fun e w' => e = .returned (.bool (exR (Tr.node x' ks'))) ∧ Below W.heap.size W w' := fun m hm W x' kv' ks' hk ht => by
    rw [allT_node, Bool.and_eq_true] at ht
    obtain ⟨hl', ao', cap', rfl⟩ := hk.shape
    have hex : exR (Tr.node x' ks') = (decide (1 ≤ x'.kind ∧ x'.kind ≤ 15) && (mayN x' ks' && allL mayN ks')) := by
      unfold exR
      rw [onT_node, allT_node]
      rfl
    rw [hex]
    by_cases hkd : 1 ≤ x'.kind ∧ x'.kind ≤ 15
    · exact expr52 (fun W' hW' => ih m hm (hk.below hW') ht.1 ht.2 hkd.1 hkd.2)
    · rw [decide_eq_false hkd, Bool.false_and]
      exact expr52_no hkd
  have hq : KidQ w ao ks 52 exR := fun W hW i hi => by
    obtain ⟨m, b, off, x', kv', ks', hm, e, ⟨hlt, hne⟩, he, hc, hk⟩ := (hK.below hW).kid i hi
    refine ⟨b, off, x', kv', e, hlt, hc, ?_⟩
    have ht := typed_kid hks i hi
    rw [he] at ht ⊢
    exact hx52 m hm W x' kv' ks' hk ht
  have hi : isL ks = true := hK.isL
  obtain ⟨kind, str, num, flag, pos⟩ := x
  have hs : str.size < 4611686018427387904 := by
    unfold typedN smallN at hx
    rw [Bool.and_eq_true] at hx
    exact of_decide_eq_true hx.1
  have hn0 : 0 ≤ num := by
    unfold typedN at hx
    rw [Bool.and_eq_true] at hx
    exact (of_decide_eq_true hx.2).1
  dsimp only at h1 h15
  have hcase : kind = 1 ∨ kind = 2 ∨ kind = 3 ∨ kind = 4 ∨ kind = 5 ∨ kind = 6 ∨ kind = 7 ∨ kind = 8 ∨ kind = 9 ∨ kind = 10 ∨ kind = 11 ∨ kind = 12 ∨ kind = 13 ∨ kind = 14 ∨ kind = 15 := by omega
  rcases hcase with rfl | rfl | rfl | rfl | rfl | rfl | rfl | rfl | rfl | rfl | rfl | rfl | rfl | rfl | rfl
  · rw [← pm1]
    exact may77_1 (fun W => parts15 ⟨1, str, num, flag, pos⟩ ao _ cap false true true W) (fun W hW => exprs53 hlen (hq.on hW) ⟨1, str, num, flag, pos⟩ (0)) hn0
  · rw [← pm2]
    exact may77_2 (fun W => parts15 ⟨2, str, num, flag, pos⟩ ao _ cap false true false W) (fun W hW => exprs53 hlen (hq.on hW) ⟨2, str, num, flag, pos⟩ (0)) hn0
  · rw [← pm3]
    exact may77_3 (fun W => parts15 ⟨3, str, num, flag, pos⟩ ao _ cap true false false W) (fun W hW => exprs53 hlen (hq.on hW) ⟨3, str, num, flag, pos⟩ (0))
  · rw [← pm4]
    exact may77_4 (fun W => parts15 ⟨4, str, num, flag, pos⟩ ao _ cap true false false W) (fun W => name28 str hs W) (fun W hW => exprs53 hlen (hq.on hW) ⟨4, str, num, flag, pos⟩ (0))
  · rw [← pm5]
    exact may77_5 (fun W => parts15 ⟨5, str, num, flag, pos⟩ ao _ cap false false false W) (fun W hW => exprs53 hlen (hq.on hW) ⟨5, str, num, flag, pos⟩ (2))
  · rw [← pm6]
    exact may77_6 (fun W => parts15 ⟨6, str, num, flag, pos⟩ ao _ cap true false false W) (fun W => name28 str hs W) (fun W hW => exprs53 hlen (hq.on hW) ⟨6, str, num, flag, pos⟩ (1))
  · rw [← pm7]
    exact may77_7 (fun W => parts15 ⟨7, str, num, flag, pos⟩ ao _ cap true false false W) (fun W => name28 str hs W) (fun W hW => exprs53 hlen (hq.on hW) ⟨7, str, num, flag, pos⟩ (1))
  · rw [← pm8]
    exact may77_8 (fun W => parts15 ⟨8, str, num, flag, pos⟩ ao _ cap true false false W) (fun W => name28 str hs W) (fun W hW => exprs53 hlen (hq.on hW) ⟨8, str, num, flag, pos⟩ (-1))
  · rw [← pm9]
    exact may77_9 (fun W => parts15 ⟨9, str, num, flag, pos⟩ ao _ cap true false false W) (fun W => by have h := sign103 L9 str (by decide) hs W; rw [sign9] at h; exact h) (fun W hW => exprs53 hlen (hq.on hW) ⟨9, str, num, flag, pos⟩ (1))
  · rw [← pm10]
    exact may77_10 (fun W => parts15 ⟨10, str, num, flag, pos⟩ ao _ cap true false false W) (fun W => by have h := sign103 L10 str (by decide) hs W; rw [sign10] at h; exact h) (fun W hW => exprs53 hlen (hq.on hW) ⟨10, str, num, flag, pos⟩ (2))
  · rw [← pm11]
    exact may77_11 (fun W => parts15 ⟨11, str, num, flag, pos⟩ ao _ cap true false false W) (fun W => by have h := sign103 L11 str (by decide) hs W; rw [sign11] at h; exact h) (fun W hW => exprs53 hlen (hq.on hW) ⟨11, str, num, flag, pos⟩ (2))
  · rw [← pm12]
    exact may77_12 (fun W => parts15 ⟨12, str, num, flag, pos⟩ ao _ cap false false false W) (fun W hW => exprs53 hlen (hq.on hW) ⟨12, str, num, flag, pos⟩ (3))
  · cases hE : exprsF exR ks 2 with
    | false =>
      rw [pm13_no hi hE]
      exact may77_13_no (fun W => parts15 ⟨13, str, num, flag, pos⟩ ao _ cap true false false W) (fun W => by have h := sign103 L13 str (by decide) hs W; rw [sign13] at h; exact h) (fun W hW => by have h := exprs53 (cap := cap) hlen (hq.on hW) ⟨13, str, num, flag, pos⟩ 2; rw [hE] at h; exact h)
    | true =>
      have h2 : ks.length = 2 := by
        have := exprsF_nat exR ks 2
        rw [show ((2 : Nat) : Int) = 2 from rfl, hE] at this
        have h3 := (Bool.and_eq_true _ _ ▸ this.symm : _ ∧ _).1
        exact of_decide_eq_true h3
      obtain ⟨t0, t1, rfl⟩ : ∃ t0 t1, ks = [t0, t1] := by
        match ks, h2 with
        | [t0, t1], _ => exact ⟨t0, t1, rfl⟩
      obtain ⟨m, b, off, x0, kv0, l0, hm, rfl, ⟨hlt, hne⟩, he, hc, hk⟩ := hK.kid 0 (by simp)
      have he' : t0 = Tr.node x0 l0 := he
      subst he'
      obtain ⟨hl0, ao0, cap0, rfl⟩ := hk.shape
      rw [← pm13, hE, Bool.true_and]
      simp only [Nat.zero_mul, Nat.add_zero] at hc
      obtain ⟨c0, c1, c2, c3, c4, c5⟩ := hc
      exact may77_13 hlt (fun W => parts15 ⟨13, str, num, flag, pos⟩ _ _ cap true false false W) (fun W => by have h := sign103 L13 str (by decide) hs W; rw [sign13] at h; exact h) (fun W hW => by have h := exprs53 (cap := cap) hlen (hq.on hW) ⟨13, str, num, flag, pos⟩ 2; rw [hE] at h; exact h) c0 c1 c2 c3 c4 c5 (fun W hW => place104 x0 ao0 _ cap0 W)
  · by_cases h2 : ks.length = 2
    · obtain ⟨t0, t1, rfl⟩ : ∃ t0 t1, ks = [t0, t1] := by
        match ks, h2 with
        | [t0, t1], _ => exact ⟨t0, t1, rfl⟩
      obtain ⟨m, b, off, x0, kv0, l0, hm, rfl, ⟨hlt, hne⟩, he, hc, hk⟩ := hK.kid 0 (by simp)
      have he' : t0 = Tr.node x0 l0 := he
      subst he'
      obtain ⟨hl0, ao0, cap0, rfl⟩ := hk.shape
      have ht0 := typed_kid hks 0 (by simp)
      rw [he, allT_node, Bool.and_eq_true] at ht0
      have hs0 : x0.str.size < 4611686018427387904 := by
        have := ht0.1
        unfold typedN smallN at this
        rw [Bool.and_eq_true] at this
        exact of_decide_eq_true this.1
      rw [← pm14]
      simp only [Nat.zero_mul, Nat.add_zero] at hc
      obtain ⟨c0, c1, c2, c3, c4, c5⟩ := hc
      obtain ⟨m1, b1, off1, x1, kv1, l1, hm1, e1, _, he1, hc1, hk1⟩ := hK.kid 1 (by simp)
      obtain ⟨rfl, rfl⟩ : b = b1 ∧ off = off1 := by simpa using e1
      have he1' : t1 = Tr.node x1 l1 := he1
      subst he1'
      have ht1 := typed_kid hks 1 (by simp)
      obtain ⟨d0, d1, d2, d3, d4, d5⟩ := hc1
      exact may77_14 hlt (fun W => parts15 ⟨14, str, num, flag, pos⟩ _ _ cap false false false W) c0 c1 c2 c3 c4 c5 d0 d1 d2 d3 d4 d5 (fun W hW => typed29 x0 ao0 _ cap0 hs0 W) (fun W hW => hx52 m1 hm1 W x1 kv1 l1 (hk1.below hW) ht1)
    · rw [pm14_no h2]
      exact may77_14_no (fun W => parts15 ⟨14, str, num, flag, pos⟩ ao _ cap false false false W) h2
  · by_cases h2 : ks.length = 1
    · obtain ⟨t0, rfl⟩ : ∃ t0, ks = [t0] := by
        match ks, h2 with
        | [t0], _ => exact ⟨t0, rfl⟩
      obtain ⟨m, b, off, x0, kv0, l0, hm, rfl, ⟨hlt, hne⟩, he, hc, hk⟩ := hK.kid 0 (by simp)
      have he' : t0 = Tr.node x0 l0 := he
      subst he'
      obtain ⟨hl0, ao0, cap0, rfl⟩ := hk.shape
      have ht0 := typed_kid hks 0 (by simp)
      have ht1 := ht0
      rw [he] at ht1
      rw [he, allT_node, Bool.and_eq_true] at ht0
      have hs0 : x0.str.size < 4611686018427387904 := by
        have := ht0.1
        unfold typedN smallN at this
        rw [Bool.and_eq_true] at this
        exact of_decide_eq_true this.1
      rw [← pm15]
      simp only [Nat.zero_mul, Nat.add_zero] at hc
      obtain ⟨c0, c1, c2, c3, c4, c5⟩ := hc
      refine may77_15 hlt (fun W => parts15 ⟨15, str, num, flag, pos⟩ _ _ cap false false false W) c0 c1 c2 c3 c4 c5 (fun W hW => typed29 x0 ao0 _ cap0 hs0 W) (fun W hW => hx52 m hm W x0 _ l0 (hk.below hW) ht1)
    · rw [pm15_no h2]
      exact may77_15_no (fun W => parts15 ⟨15, str, num, flag, pos⟩ ao _ cap false false false W) h2
end Go.Proofs.YtnnnfabpceapcaaGreatDoor

namespace Go.Proofs.YtnnnfabpceapcaaGreatDoor
set_option linter.unusedSimpArgs false
open Go.RowKit
set_option linter.unusedVariables false
set_option linter.unusedSimpArgs false

/-- The document's expr, of any tree. -/
theorem expr52_all {cb n : Nat} {w : World} {x : NdH} {kv : Value} {ks : List Tr} (hk : Ks cb n w kv ks) (ht : allT typedN (Tr.node x ks) = true) :
    Calls Tryz.prog 52 #[ndV x kv] w fun e w' => e = .returned (.bool (exR (Tr.node x ks))) ∧ Below w.heap.size w w' := by
  rw [allT_node, Bool.and_eq_true] at ht
  obtain ⟨hl', ao', cap', rfl⟩ := hk.shape
  have hex : exR (Tr.node x ks) = (decide (1 ≤ x.kind ∧ x.kind ≤ 15) && (mayN x ks && allL mayN ks)) := by
    unfold exR
    rw [onT_node, allT_node]
    rfl
  rw [hex]
  by_cases hkd : 1 ≤ x.kind ∧ x.kind ≤ 15
  · exact expr52 (fun W' hW' => may77 n (hk.below hW') ht.1 ht.2 hkd.1 hkd.2)
  · rw [decide_eq_false hkd, Bool.false_and]
    exact expr52_no hkd
/-- The kids of any tree, asked by the document's expr. -/
theorem kidq_expr {cb n : Nat} {w : World} {ao : Option Addr} {cap : Nat} {ks : List Tr} (hK : Ks cb n w (.slice ao ks.length cap) ks) (hks : allL typedN ks = true) : KidQ w ao ks 52 exR := fun W hW i hi => by
  obtain ⟨m, b, off, x', kv', ks', hm, e, ⟨hlt, hne⟩, he, hc, hk⟩ := (hK.below hW).kid i hi
  refine ⟨b, off, x', kv', e, hlt, hc, ?_⟩
  have ht := typed_kid hks i hi
  rw [he] at ht ⊢
  exact expr52_all hk ht

/-- The document's open end. -/
def openD : Tr → Bool
  | .slice ks [.held x] => if x.kind = 49 then (decide (ks.length = 2) || (decide (ks.length = 3) && ((ks.map openD).getLast?).getD false)) else (if x.kind = 50 ∨ x.kind = 52 then ((ks.map openD).getLast?).getD false else false)
  | _ => false
theorem openD_node (x : NdH) (ks : List Tr) : openD (Tr.node x ks) = (if x.kind = 49 then (decide (ks.length = 2) || (decide (ks.length = 3) && ((ks.map openD).getLast?).getD false)) else (if x.kind = 50 ∨ x.kind = 52 then ((ks.map openD).getLast?).getD false else false)) := by unfold Tr.node; rw [openD]
theorem openD_get (ks : List Tr) (i : Nat) (hi : i < ks.length) (hl : i + 1 = ks.length) : ((ks.map openD).getLast?).getD false = openD ks[i] := by
  rw [List.getLast?_eq_getElem?]
  simp [← hl, hi]

set_option maxHeartbeats 4000000 in
theorem open78 {cb : Nat} : ∀ (n : Nat) {w : World} {x : NdH} {kv : Value} {ks : List Tr}, Ks cb n w kv ks →
    Calls Tryz.prog 78 #[ndV x kv] w fun e w' => e = .returned (.bool (openD (Tr.node x ks))) ∧ Below w.heap.size w w' := fun n => by
  induction n using Nat.strongRecOn with
  | ind n ih =>
  intro w x kv ks hK
  obtain ⟨hlen, ao, cap, rfl⟩ := hK.shape
  have hI : ∀ i (hi : i < ks.length), Hid (∃ b off x' kv', ao = some ⟨b, off, none⟩ ∧ b < w.heap.size ∧ NdAt w b (off + i * 6) x' kv' ∧ ∀ W, Below w.heap.size w W → Calls Tryz.prog 78 #[ndV x' kv'] W fun e w' => e = .returned (.bool (openD ks[i])) ∧ Below W.heap.size W w') := fun i hi => by
    obtain ⟨m, b, off, x', kv', ks', hm, e, ⟨hlt, hne⟩, he, hc, hk⟩ := hK.kid i hi
    refine ⟨b, off, x', kv', e, hlt, hc, fun W hW => ?_⟩
    rw [he]
    exact ih m hm (hk.below hW)
  clear ih hK
  obtain ⟨X, hX⟩ : ∃ X, X = openD (Tr.node x ks) := ⟨_, rfl⟩
  rw [← hX]
  rw [openD_node] at hX
  have HX := hid' hX
  clear hX
  obtain ⟨kind, str, num, flag, pos⟩ := x
  unfold ndV at *
  dsimp only at *
  by_cases h49 : kind = 49
  · subst h49
    by_cases h2 : ks.length = 2
    · have HE : Hid (X = true) := HX.out.trans (by simp [h2])
      rw [h2]
      go_enter Tryz.func78, Tryz.ntmps78
      go_wp2_with fail
      go_ret
      exact ⟨by rw [HE.out]; rfl, below1 _ _⟩
    by_cases h3 : ks.length = 3
    · obtain ⟨b, off, x', kv', rfl, hlt, ⟨c0, c1, c2, c3, c4, c5⟩, hC⟩ := (hI 2 (by omega)).out
      have HE : Hid (X = openD ks[2]) := HX.out.trans (by rw [← openD_get ks 2 (by omega) (by omega)]; simp [h3])
      have HC := hid' hC
      clear hC hI HX h2
      rw [h3]
      go_enter Tryz.func78, Tryz.ntmps78
      go_wp2_with (go_at_call 78; (with_reducible refine (HC.out _ (below1 _ _)).mono ?_); rintro e w3 ⟨rfl, hb3⟩; replace hb3 := hid' hb3)
      go_ret
      exact ⟨by rw [HE.out]; rfl, below_on (below1 _ _) hb3.out⟩
    · have HE : Hid (X = false) := HX.out.trans (by simp [h2, h3])
      have g2 : ¬ (ks.length : Int) = 2 := by omega
      have g3 : ¬ (ks.length : Int) = 3 := by omega
      clear hI HX
      go_enter Tryz.func78, Tryz.ntmps78
      go_wp2_with fail
      go_ret
      exact ⟨by rw [HE.out]; simp [g2, g3], below1 _ _⟩
  by_cases hk : kind = 50 ∨ kind = 52
  · by_cases hl : ks.length = 0
    · have HE : Hid (X = false) := HX.out.trans (by rw [List.eq_nil_of_length_eq_zero hl]; simp [h49])
      rw [hl]
      clear hI HX
      rcases hk with rfl | rfl
      all_goals
        go_enter Tryz.func78, Tryz.ntmps78
        go_wp2_with fail
        go_ret
        exact ⟨by rw [HE.out]; rfl, below1 _ _⟩
    obtain ⟨i, hi⟩ : ∃ i, i + 1 = ks.length := ⟨ks.length - 1, by omega⟩
    have hil : i < ks.length := by omega
    obtain ⟨b, off, x', kv', rfl, hlt, ⟨c0, c1, c2, c3, c4, c5⟩, hC⟩ := (hI i hil).out
    have HE : Hid (X = openD ks[i]) := HX.out.trans (by rw [← openD_get ks i hil hi, if_neg h49, if_pos hk])
    generalize openD ks[i] = Y at *
    have HC := hid' hC
    clear hC hI HX hl hil h49
    rw [← hi]
    rw [← hi] at hlen
    have e1 : ((i + 1 : Nat) : Int) - 1 = i := by omega
    have hp : (0 : Int) < ((i + 1 : Nat) : Int) := by omega
    clear hi
    rcases hk with rfl | rfl
    all_goals
      go_enter Tryz.func78, Tryz.ntmps78
      go_wp2_with (go_at_call 78; (with_reducible refine (HC.out _ (below1 _ _)).mono ?_); rintro e w3 ⟨rfl, hb3⟩; replace hb3 := hid' hb3)
      go_ret
      exact ⟨by rw [HE.out]; rfl, below_on (below1 _ _) hb3.out⟩
  · have HE : Hid (X = false) := HX.out.trans (by rw [if_neg h49, if_neg hk])
    have k1 : (kind == 49) = false := by simp; omega
    have k2 : (kind == 50) = false := by simp; omega
    have k3 : (kind == 52) = false := by simp; omega
    clear hI HX
    go_enter Tryz.func78, Tryz.ntmps78
    go_wp2_with fail
    all_goals go_ret
    all_goals exact ⟨by rw [HE.out]; rfl, below1 _ _⟩
end Go.Proofs.YtnnnfabpceapcaaGreatDoor
