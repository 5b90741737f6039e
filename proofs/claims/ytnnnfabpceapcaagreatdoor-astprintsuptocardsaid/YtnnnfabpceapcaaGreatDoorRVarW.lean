/- The document's variable, of any tree. -/
import Derived.Test.YtnnnfabpceapcaaGreatDoorRMayQ
namespace Go.Proofs.YtnnnfabpceapcaaGreatDoor
set_option linter.unusedSimpArgs false
open Go.RowKit
set_option linter.unusedVariables false
set_option linter.unusedSimpArgs false

set_option maxHeartbeats 4000000 in
set_option maxRecDepth 20000 in
theorem var30_kind {w : World} {str : ByteArray} {num pos : Int} {kind : Int} {flag bare : Bool} {ka : Option Addr} {kn kc : Nat} (hk : (kind == 43) = false) :
    Calls Tryz.prog 30 #[.agg #[.int .i64 kind, .string str, .int .u32 num, .bool flag, .slice ka kn kc, .int .i64 pos], .bool bare] w fun e w' => e = .returned (.bool false) ∧ Below w.heap.size w w' := by
  have hk1 : ¬ kind = 43 := by intro h; rw [h] at hk; exact Bool.noConfusion hk
  go_enter Tryz.func30, Tryz.ntmps30
  go_wp2_with fail
  all_goals (go_ret; exact ⟨rfl, below1 _ _⟩)

set_option maxHeartbeats 4000000 in
set_option maxRecDepth 20000 in
theorem var30_parts {w : World} {str : ByteArray} {num pos : Int} {flag bare : Bool} {ka : Option Addr} {kn kc : Nat} (hP : ∀ W, Calls Tryz.prog 15 #[.agg #[.int .i64 43, .string str, .int .u32 num, .bool flag, .slice ka kn kc, .int .i64 pos], .bool true, .bool false, .bool true] W fun e w' => e = .returned (.bool false) ∧ Below W.heap.size W w') :
    Calls Tryz.prog 30 #[.agg #[.int .i64 43, .string str, .int .u32 num, .bool flag, .slice ka kn kc, .int .i64 pos], .bool bare] w fun e w' => e = .returned (.bool false) ∧ Below w.heap.size w w' := by
  go_enter Tryz.func30, Tryz.ntmps30
  go_wp2_with (go_at_call 15; (with_reducible refine (hP _).mono ?_); rintro e1 w1 ⟨rfl, hb1⟩; obtain ⟨hc1, hf1⟩ := bcell hb1; have hs1 : w.heap.size < w1.heap.size := (by have := hb1.size; simp at this; omega))
  all_goals (go_ret; exact ⟨rfl, (below_on (below1 _ _) hb1)⟩)

set_option maxHeartbeats 4000000 in
set_option maxRecDepth 20000 in
theorem var30_name {w : World} {str : ByteArray} {num pos : Int} {flag bare : Bool} {ka : Option Addr} {kn kc : Nat} (hP : ∀ W, Calls Tryz.prog 15 #[.agg #[.int .i64 43, .string str, .int .u32 num, .bool flag, .slice ka kn kc, .int .i64 pos], .bool true, .bool false, .bool true] W fun e w' => e = .returned (.bool true) ∧ Below W.heap.size W w') (hN : ∀ W, Calls Tryz.prog 28 #[.string str] W fun e w' => e = .returned (.bool false) ∧ w' = W) :
    Calls Tryz.prog 30 #[.agg #[.int .i64 43, .string str, .int .u32 num, .bool flag, .slice ka kn kc, .int .i64 pos], .bool bare] w fun e w' => e = .returned (.bool false) ∧ Below w.heap.size w w' := by
  go_enter Tryz.func30, Tryz.ntmps30
  go_wp2_with (first
    | (go_at_call 15; (with_reducible refine (hP _).mono ?_); rintro e1 w1 ⟨rfl, hb1⟩; obtain ⟨hc1, hf1⟩ := bcell hb1; have hs1 : w.heap.size < w1.heap.size := (by have := hb1.size; simp at this; omega))
    | (go_at_call 28; (with_reducible refine (hN _).mono ?_); rintro e2 w2 ⟨rfl, rfl⟩))
  all_goals (go_ret; exact ⟨rfl, (below_on (below1 _ _) hb1)⟩)

set_option maxHeartbeats 4000000 in
set_option maxRecDepth 20000 in
theorem var30_n0 {w : World} {str : ByteArray} {num pos : Int} {bare : Bool} {ka : Option Addr} {kc : Nat} (hP : ∀ W, Calls Tryz.prog 15 #[.agg #[.int .i64 43, .string str, .int .u32 num, .bool false, .slice ka 0 kc, .int .i64 pos], .bool true, .bool false, .bool true] W fun e w' => e = .returned (.bool true) ∧ Below W.heap.size W w') (hN : ∀ W, Calls Tryz.prog 28 #[.string str] W fun e w' => e = .returned (.bool true) ∧ w' = W) :
    Calls Tryz.prog 30 #[.agg #[.int .i64 43, .string str, .int .u32 num, .bool false, .slice ka 0 kc, .int .i64 pos], .bool bare] w fun e w' => e = .returned (.bool true) ∧ Below w.heap.size w w' := by
  go_enter Tryz.func30, Tryz.ntmps30
  go_wp2_with (first
    | (go_at_call 15; (with_reducible refine (hP _).mono ?_); rintro e1 w1 ⟨rfl, hb1⟩; obtain ⟨hc1, hf1⟩ := bcell hb1; have hs1 : w.heap.size < w1.heap.size := (by have := hb1.size; simp at this; omega))
    | (go_at_call 28; (with_reducible refine (hN _).mono ?_); rintro e2 w2 ⟨rfl, rfl⟩))
  all_goals (go_ret; exact ⟨rfl, (below_on (below1 _ _) hb1)⟩)

set_option maxHeartbeats 4000000 in
set_option maxRecDepth 20000 in
theorem var30_nb {w : World} {str : ByteArray} {num pos : Int} {ka : Option Addr} {kn kc : Nat} (hP : ∀ W, Calls Tryz.prog 15 #[.agg #[.int .i64 43, .string str, .int .u32 num, .bool false, .slice ka kn kc, .int .i64 pos], .bool true, .bool false, .bool true] W fun e w' => e = .returned (.bool true) ∧ Below W.heap.size W w') (hN : ∀ W, Calls Tryz.prog 28 #[.string str] W fun e w' => e = .returned (.bool true) ∧ w' = W) (hkn : ¬ (kn : Int) = 0) :
    Calls Tryz.prog 30 #[.agg #[.int .i64 43, .string str, .int .u32 num, .bool false, .slice ka kn kc, .int .i64 pos], .bool true] w fun e w' => e = .returned (.bool false) ∧ Below w.heap.size w w' := by
  go_enter Tryz.func30, Tryz.ntmps30
  go_wp2_with (first
    | (go_at_call 15; (with_reducible refine (hP _).mono ?_); rintro e1 w1 ⟨rfl, hb1⟩; obtain ⟨hc1, hf1⟩ := bcell hb1; have hs1 : w.heap.size < w1.heap.size := (by have := hb1.size; simp at this; omega))
    | (go_at_call 28; (with_reducible refine (hN _).mono ?_); rintro e2 w2 ⟨rfl, rfl⟩))
  all_goals (go_ret; exact ⟨rfl, (below_on (below1 _ _) hb1)⟩)

set_option maxHeartbeats 4000000 in
set_option maxRecDepth 20000 in
theorem var30_n2 {w : World} {str : ByteArray} {num pos : Int} {ka : Option Addr} {kn kc : Nat} (hP : ∀ W, Calls Tryz.prog 15 #[.agg #[.int .i64 43, .string str, .int .u32 num, .bool false, .slice ka kn kc, .int .i64 pos], .bool true, .bool false, .bool true] W fun e w' => e = .returned (.bool true) ∧ Below W.heap.size W w') (hN : ∀ W, Calls Tryz.prog 28 #[.string str] W fun e w' => e = .returned (.bool true) ∧ w' = W) (hkn : (1 : Int) < kn) :
    Calls Tryz.prog 30 #[.agg #[.int .i64 43, .string str, .int .u32 num, .bool false, .slice ka kn kc, .int .i64 pos], .bool false] w fun e w' => e = .returned (.bool false) ∧ Below w.heap.size w w' := by
  have hk0 : ¬ (kn : Int) = 0 := by omega
  go_enter Tryz.func30, Tryz.ntmps30
  go_wp2_with (first
    | (go_at_call 15; (with_reducible refine (hP _).mono ?_); rintro e1 w1 ⟨rfl, hb1⟩; obtain ⟨hc1, hf1⟩ := bcell hb1; have hs1 : w.heap.size < w1.heap.size := (by have := hb1.size; simp at this; omega))
    | (go_at_call 28; (with_reducible refine (hN _).mono ?_); rintro e2 w2 ⟨rfl, rfl⟩))
  all_goals (go_ret; exact ⟨rfl, (below_on (below1 _ _) hb1)⟩)

set_option maxHeartbeats 4000000 in
set_option maxRecDepth 20000 in
theorem var30_n1 {w : World} {str : ByteArray} {num pos : Int} {b0 o0 kc : Nat} {X0 : Bool} {k0 n0 p0 : Int} {s0 : ByteArray} {f0 : Bool} {v0 : Value} (hlt : b0 < w.heap.size) (hP : ∀ W, Calls Tryz.prog 15 #[.agg #[.int .i64 43, .string str, .int .u32 num, .bool false, .slice (some ⟨b0, o0, none⟩) 1 kc, .int .i64 pos], .bool true, .bool false, .bool true] W fun e w' => e = .returned (.bool true) ∧ Below W.heap.size W w') (hN : ∀ W, Calls Tryz.prog 28 #[.string str] W fun e w' => e = .returned (.bool true) ∧ w' = W) (c00 : w.cell? ⟨b0, o0, none⟩ = some (.int .i64 k0)) (c01 : w.cell? ⟨b0, o0 + 1, none⟩ = some (.string s0)) (c02 : w.cell? ⟨b0, o0 + 2, none⟩ = some (.int .u32 n0)) (c03 : w.cell? ⟨b0, o0 + 3, none⟩ = some (.bool f0)) (c04 : w.cell? ⟨b0, o0 + 4, none⟩ = some v0) (c05 : w.cell? ⟨b0, o0 + 5, none⟩ = some (.int .i64 p0)) (hX : ∀ W, Below w.heap.size w W → Calls Tryz.prog 52 #[.agg #[.int .i64 k0, .string s0, .int .u32 n0, .bool f0, v0, .int .i64 p0]] W fun e w' => e = .returned (.bool X0) ∧ Below W.heap.size W w') :
    Calls Tryz.prog 30 #[.agg #[.int .i64 43, .string str, .int .u32 num, .bool false, .slice (some ⟨b0, o0, none⟩) 1 kc, .int .i64 pos], .bool false] w fun e w' => e = .returned (.bool X0) ∧ Below w.heap.size w w' := by
  go_enter Tryz.func30, Tryz.ntmps30
  go_wp2_with (first
    | (go_at_call 15; (with_reducible refine (hP _).mono ?_); rintro e1 w1 ⟨rfl, hb1⟩; obtain ⟨hc1, hf1⟩ := bcell hb1; have hs1 : w.heap.size < w1.heap.size := (by have := hb1.size; simp at this; omega); have hx1 : b0 < w1.heap.size := (by omega))
    | (go_at_call 28; (with_reducible refine (hN _).mono ?_); rintro e2 w2 ⟨rfl, rfl⟩)
    | (go_at_call 52; (with_reducible refine (hX _ (below_on (below1 _ _) hb1)).mono ?_); rintro e3 w3 ⟨rfl, hb3⟩; obtain ⟨hc3, hf3⟩ := bcell hb3; have hs3 : w.heap.size < w3.heap.size := (by have := hb3.size; omega); have hx3 : b0 < w3.heap.size := (by omega)))
  all_goals (go_ret; exact ⟨by simp, (below_on (below_on (below1 _ _) hb1) hb3)⟩)

set_option maxHeartbeats 4000000 in
set_option maxRecDepth 20000 in
theorem var30_f0 {w : World} {str : ByteArray} {num pos : Int} {bare : Bool} {ka : Option Addr} {kc : Nat} (hP : ∀ W, Calls Tryz.prog 15 #[.agg #[.int .i64 43, .string str, .int .u32 num, .bool true, .slice ka 0 kc, .int .i64 pos], .bool true, .bool false, .bool true] W fun e w' => e = .returned (.bool true) ∧ Below W.heap.size W w') (hN : ∀ W, Calls Tryz.prog 28 #[.string str] W fun e w' => e = .returned (.bool true) ∧ w' = W) :
    Calls Tryz.prog 30 #[.agg #[.int .i64 43, .string str, .int .u32 num, .bool true, .slice ka 0 kc, .int .i64 pos], .bool bare] w fun e w' => e = .returned (.bool false) ∧ Below w.heap.size w w' := by
  go_enter Tryz.func30, Tryz.ntmps30
  go_wp2_with (first
    | (go_at_call 15; (with_reducible refine (hP _).mono ?_); rintro e1 w1 ⟨rfl, hb1⟩; obtain ⟨hc1, hf1⟩ := bcell hb1; have hs1 : w.heap.size < w1.heap.size := (by have := hb1.size; simp at this; omega))
    | (go_at_call 28; (with_reducible refine (hN _).mono ?_); rintro e2 w2 ⟨rfl, rfl⟩))
  all_goals (go_ret; exact ⟨rfl, (below_on (below1 _ _) hb1)⟩)

set_option maxHeartbeats 4000000 in
set_option maxRecDepth 20000 in
theorem var30_fno {w : World} {str : ByteArray} {num pos : Int} {bare : Bool} {b0 o0 kn kc : Nat} {k0 n0 p0 : Int} {s0 : ByteArray} {f0 : Bool} {v0 : Value} (hlt : b0 < w.heap.size) (hkn : ¬ (kn : Int) = 0) (h0 : (0 : Int) < kn) (hP : ∀ W, Calls Tryz.prog 15 #[.agg #[.int .i64 43, .string str, .int .u32 num, .bool true, .slice (some ⟨b0, o0, none⟩) kn kc, .int .i64 pos], .bool true, .bool false, .bool true] W fun e w' => e = .returned (.bool true) ∧ Below W.heap.size W w') (hN : ∀ W, Calls Tryz.prog 28 #[.string str] W fun e w' => e = .returned (.bool true) ∧ w' = W) (c00 : w.cell? ⟨b0, o0, none⟩ = some (.int .i64 k0)) (c01 : w.cell? ⟨b0, o0 + 1, none⟩ = some (.string s0)) (c02 : w.cell? ⟨b0, o0 + 2, none⟩ = some (.int .u32 n0)) (c03 : w.cell? ⟨b0, o0 + 3, none⟩ = some (.bool f0)) (c04 : w.cell? ⟨b0, o0 + 4, none⟩ = some v0) (c05 : w.cell? ⟨b0, o0 + 5, none⟩ = some (.int .i64 p0)) (hO : ∀ W, Below w.heap.size w W → Calls Tryz.prog 51 #[.agg #[.int .i64 k0, .string s0, .int .u32 n0, .bool f0, v0, .int .i64 p0]] W fun e w' => e = .returned (.bool false) ∧ Below W.heap.size W w') (hX : ∀ W, Below w.heap.size w W → Calls Tryz.prog 52 #[.agg #[.int .i64 k0, .string s0, .int .u32 n0, .bool f0, v0, .int .i64 p0]] W fun e w' => e = .returned (.bool false) ∧ Below W.heap.size W w') :
    Calls Tryz.prog 30 #[.agg #[.int .i64 43, .string str, .int .u32 num, .bool true, .slice (some ⟨b0, o0, none⟩) kn kc, .int .i64 pos], .bool bare] w fun e w' => e = .returned (.bool false) ∧ Below w.heap.size w w' := by
  go_enter Tryz.func30, Tryz.ntmps30
  go_wp2_with (first
    | (go_at_call 15; (with_reducible refine (hP _).mono ?_); rintro e1 w1 ⟨rfl, hb1⟩; obtain ⟨hc1, hf1⟩ := bcell hb1; have hs1 : w.heap.size < w1.heap.size := (by have := hb1.size; simp at this; omega); have hx1 : b0 < w1.heap.size := (by omega))
    | (go_at_call 28; (with_reducible refine (hN _).mono ?_); rintro e2 w2 ⟨rfl, rfl⟩)
    | (go_at_call 51; (with_reducible refine (hO _ (below_on (below1 _ _) hb1)).mono ?_); rintro e3 w3 ⟨rfl, hb3⟩; obtain ⟨hc3, hf3⟩ := bcell hb3; have hs3 : w.heap.size < w3.heap.size := (by have := hb3.size; omega); have hx3 : b0 < w3.heap.size := (by omega))
    | (go_at_call 52; (with_reducible refine (hX _ (below_on (below_on (below1 _ _) hb1) hb3)).mono ?_); rintro e4 w4 ⟨rfl, hb4⟩; obtain ⟨hc4, hf4⟩ := bcell hb4; have hs4 : w.heap.size < w4.heap.size := (by have := hb4.size; omega); have hx4 : b0 < w4.heap.size := (by omega)))
  all_goals (go_ret; exact ⟨rfl, (below_on (below_on (below_on (below1 _ _) hb1) hb3) hb4)⟩)

set_option maxHeartbeats 4000000 in
set_option maxRecDepth 20000 in
theorem var30_f1 {w : World} {str : ByteArray} {num pos : Int} {bare : Bool} {O X0 : Bool} {b0 o0 kc : Nat} {k0 n0 p0 : Int} {s0 : ByteArray} {f0 : Bool} {v0 : Value} (hlt : b0 < w.heap.size) (hP : ∀ W, Calls Tryz.prog 15 #[.agg #[.int .i64 43, .string str, .int .u32 num, .bool true, .slice (some ⟨b0, o0, none⟩) 1 kc, .int .i64 pos], .bool true, .bool false, .bool true] W fun e w' => e = .returned (.bool true) ∧ Below W.heap.size W w') (hN : ∀ W, Calls Tryz.prog 28 #[.string str] W fun e w' => e = .returned (.bool true) ∧ w' = W) (c00 : w.cell? ⟨b0, o0, none⟩ = some (.int .i64 k0)) (c01 : w.cell? ⟨b0, o0 + 1, none⟩ = some (.string s0)) (c02 : w.cell? ⟨b0, o0 + 2, none⟩ = some (.int .u32 n0)) (c03 : w.cell? ⟨b0, o0 + 3, none⟩ = some (.bool f0)) (c04 : w.cell? ⟨b0, o0 + 4, none⟩ = some v0) (c05 : w.cell? ⟨b0, o0 + 5, none⟩ = some (.int .i64 p0)) (hcap : 1 ≤ kc) (hF : O = true ∨ X0 = true) (hO : ∀ W, Below w.heap.size w W → Calls Tryz.prog 51 #[.agg #[.int .i64 k0, .string s0, .int .u32 n0, .bool f0, v0, .int .i64 p0]] W fun e w' => e = .returned (.bool O) ∧ Below W.heap.size W w') (hX : ∀ W, Below w.heap.size w W → Calls Tryz.prog 52 #[.agg #[.int .i64 k0, .string s0, .int .u32 n0, .bool f0, v0, .int .i64 p0]] W fun e w' => e = .returned (.bool X0) ∧ Below W.heap.size W w') :
    Calls Tryz.prog 30 #[.agg #[.int .i64 43, .string str, .int .u32 num, .bool true, .slice (some ⟨b0, o0, none⟩) 1 kc, .int .i64 pos], .bool bare] w fun e w' => e = .returned (.bool true) ∧ Below w.heap.size w w' := by
  cases O
  · obtain rfl : X0 = true := by simpa using hF
    go_enter Tryz.func30, Tryz.ntmps30
    go_wp2_with (first
      | (go_at_call 15; (with_reducible refine (hP _).mono ?_); rintro e1 w1 ⟨rfl, hb1⟩; obtain ⟨hc1, hf1⟩ := bcell hb1; have hs1 : w.heap.size < w1.heap.size := (by have := hb1.size; simp at this; omega); have hx1 : b0 < w1.heap.size := (by omega))
      | (go_at_call 28; (with_reducible refine (hN _).mono ?_); rintro e2 w2 ⟨rfl, rfl⟩)
      | (go_at_call 51; (with_reducible refine (hO _ (below_on (below1 _ _) hb1)).mono ?_); rintro e3 w3 ⟨rfl, hb3⟩; obtain ⟨hc3, hf3⟩ := bcell hb3; have hs3 : w.heap.size < w3.heap.size := (by have := hb3.size; omega); have hx3 : b0 < w3.heap.size := (by omega))
      | (go_at_call 52; (with_reducible refine (hX _ (below_on (below_on (below1 _ _) hb1) hb3)).mono ?_); rintro e4 w4 ⟨rfl, hb4⟩; obtain ⟨hc4, hf4⟩ := bcell hb4; have hs4 : w.heap.size < w4.heap.size := (by have := hb4.size; omega); have hx4 : b0 < w4.heap.size := (by omega)))
    all_goals (go_ret; exact ⟨rfl, (below_on (below_on (below_on (below1 _ _) hb1) hb3) hb4)⟩)
  · clear hX
    go_enter Tryz.func30, Tryz.ntmps30
    go_wp2_with (first
      | (go_at_call 15; (with_reducible refine (hP _).mono ?_); rintro e1 w1 ⟨rfl, hb1⟩; obtain ⟨hc1, hf1⟩ := bcell hb1; have hs1 : w.heap.size < w1.heap.size := (by have := hb1.size; simp at this; omega); have hx1 : b0 < w1.heap.size := (by omega))
      | (go_at_call 28; (with_reducible refine (hN _).mono ?_); rintro e2 w2 ⟨rfl, rfl⟩)
      | (go_at_call 51; (with_reducible refine (hO _ (below_on (below1 _ _) hb1)).mono ?_); rintro e3 w3 ⟨rfl, hb3⟩; obtain ⟨hc3, hf3⟩ := bcell hb3; have hs3 : w.heap.size < w3.heap.size := (by have := hb3.size; omega); have hx3 : b0 < w3.heap.size := (by omega)))
    all_goals (go_ret; exact ⟨rfl, (below_on (below_on (below1 _ _) hb1) hb3)⟩)

set_option maxHeartbeats 4000000 in
set_option maxRecDepth 20000 in
theorem var30_fb {w : World} {str : ByteArray} {num pos : Int} {O X0 : Bool} {b0 o0 kn kc : Nat} {k0 n0 p0 : Int} {s0 : ByteArray} {f0 : Bool} {v0 : Value} (hlt : b0 < w.heap.size) (hP : ∀ W, Calls Tryz.prog 15 #[.agg #[.int .i64 43, .string str, .int .u32 num, .bool true, .slice (some ⟨b0, o0, none⟩) kn kc, .int .i64 pos], .bool true, .bool false, .bool true] W fun e w' => e = .returned (.bool true) ∧ Below W.heap.size W w') (hN : ∀ W, Calls Tryz.prog 28 #[.string str] W fun e w' => e = .returned (.bool true) ∧ w' = W) (c00 : w.cell? ⟨b0, o0, none⟩ = some (.int .i64 k0)) (c01 : w.cell? ⟨b0, o0 + 1, none⟩ = some (.string s0)) (c02 : w.cell? ⟨b0, o0 + 2, none⟩ = some (.int .u32 n0)) (c03 : w.cell? ⟨b0, o0 + 3, none⟩ = some (.bool f0)) (c04 : w.cell? ⟨b0, o0 + 4, none⟩ = some v0) (c05 : w.cell? ⟨b0, o0 + 5, none⟩ = some (.int .i64 p0)) (hkn : (1 : Int) < kn) (hcap : kn ≤ kc) (hl : kn ≤ 9223372036854775807) (hF : O = true ∨ X0 = true) (hO : ∀ W, Below w.heap.size w W → Calls Tryz.prog 51 #[.agg #[.int .i64 k0, .string s0, .int .u32 n0, .bool f0, v0, .int .i64 p0]] W fun e w' => e = .returned (.bool O) ∧ Below W.heap.size W w') (hX : ∀ W, Below w.heap.size w W → Calls Tryz.prog 52 #[.agg #[.int .i64 k0, .string s0, .int .u32 n0, .bool f0, v0, .int .i64 p0]] W fun e w' => e = .returned (.bool X0) ∧ Below W.heap.size W w') :
    Calls Tryz.prog 30 #[.agg #[.int .i64 43, .string str, .int .u32 num, .bool true, .slice (some ⟨b0, o0, none⟩) kn kc, .int .i64 pos], .bool true] w fun e w' => e = .returned (.bool false) ∧ Below w.heap.size w w' := by
  have hk0 : ¬ (kn : Int) = 0 := by omega
  have hk1 : (0 : Int) < kn := by omega
  have hk2 : ¬ (kn : Int) = 1 := by omega
  cases O
  · obtain rfl : X0 = true := by simpa using hF
    go_enter Tryz.func30, Tryz.ntmps30
    go_wp2_with (first
      | (go_at_call 15; (with_reducible refine (hP _).mono ?_); rintro e1 w1 ⟨rfl, hb1⟩; obtain ⟨hc1, hf1⟩ := bcell hb1; have hs1 : w.heap.size < w1.heap.size := (by have := hb1.size; simp at this; omega); have hx1 : b0 < w1.heap.size := (by omega))
      | (go_at_call 28; (with_reducible refine (hN _).mono ?_); rintro e2 w2 ⟨rfl, rfl⟩)
      | (go_at_call 51; (with_reducible refine (hO _ (below_on (below1 _ _) hb1)).mono ?_); rintro e3 w3 ⟨rfl, hb3⟩; obtain ⟨hc3, hf3⟩ := bcell hb3; have hs3 : w.heap.size < w3.heap.size := (by have := hb3.size; omega); have hx3 : b0 < w3.heap.size := (by omega))
      | (go_at_call 52; (with_reducible refine (hX _ (below_on (below_on (below1 _ _) hb1) hb3)).mono ?_); rintro e4 w4 ⟨rfl, hb4⟩; obtain ⟨hc4, hf4⟩ := bcell hb4; have hs4 : w.heap.size < w4.heap.size := (by have := hb4.size; omega); have hx4 : b0 < w4.heap.size := (by omega)))
    all_goals (go_ret; exact ⟨rfl, (below_on (below_on (below_on (below1 _ _) hb1) hb3) hb4)⟩)
  · clear hX
    go_enter Tryz.func30, Tryz.ntmps30
    go_wp2_with (first
      | (go_at_call 15; (with_reducible refine (hP _).mono ?_); rintro e1 w1 ⟨rfl, hb1⟩; obtain ⟨hc1, hf1⟩ := bcell hb1; have hs1 : w.heap.size < w1.heap.size := (by have := hb1.size; simp at this; omega); have hx1 : b0 < w1.heap.size := (by omega))
      | (go_at_call 28; (with_reducible refine (hN _).mono ?_); rintro e2 w2 ⟨rfl, rfl⟩)
      | (go_at_call 51; (with_reducible refine (hO _ (below_on (below1 _ _) hb1)).mono ?_); rintro e3 w3 ⟨rfl, hb3⟩; obtain ⟨hc3, hf3⟩ := bcell hb3; have hs3 : w.heap.size < w3.heap.size := (by have := hb3.size; omega); have hx3 : b0 < w3.heap.size := (by omega)))
    all_goals (go_ret; exact ⟨rfl, (below_on (below_on (below1 _ _) hb1) hb3)⟩)

set_option maxHeartbeats 4000000 in
set_option maxRecDepth 20000 in
theorem var30_f3 {w : World} {str : ByteArray} {num pos : Int} {O X0 : Bool} {b0 o0 kn kc : Nat} {k0 n0 p0 : Int} {s0 : ByteArray} {f0 : Bool} {v0 : Value} (hlt : b0 < w.heap.size) (hP : ∀ W, Calls Tryz.prog 15 #[.agg #[.int .i64 43, .string str, .int .u32 num, .bool true, .slice (some ⟨b0, o0, none⟩) kn kc, .int .i64 pos], .bool true, .bool false, .bool true] W fun e w' => e = .returned (.bool true) ∧ Below W.heap.size W w') (hN : ∀ W, Calls Tryz.prog 28 #[.string str] W fun e w' => e = .returned (.bool true) ∧ w' = W) (c00 : w.cell? ⟨b0, o0, none⟩ = some (.int .i64 k0)) (c01 : w.cell? ⟨b0, o0 + 1, none⟩ = some (.string s0)) (c02 : w.cell? ⟨b0, o0 + 2, none⟩ = some (.int .u32 n0)) (c03 : w.cell? ⟨b0, o0 + 3, none⟩ = some (.bool f0)) (c04 : w.cell? ⟨b0, o0 + 4, none⟩ = some v0) (c05 : w.cell? ⟨b0, o0 + 5, none⟩ = some (.int .i64 p0)) (hkn : (2 : Int) < kn) (hcap : kn ≤ kc) (hl : kn ≤ 9223372036854775807) (hF : O = true ∨ X0 = true) (hO : ∀ W, Below w.heap.size w W → Calls Tryz.prog 51 #[.agg #[.int .i64 k0, .string s0, .int .u32 n0, .bool f0, v0, .int .i64 p0]] W fun e w' => e = .returned (.bool O) ∧ Below W.heap.size W w') (hX : ∀ W, Below w.heap.size w W → Calls Tryz.prog 52 #[.agg #[.int .i64 k0, .string s0, .int .u32 n0, .bool f0, v0, .int .i64 p0]] W fun e w' => e = .returned (.bool X0) ∧ Below W.heap.size W w') :
    Calls Tryz.prog 30 #[.agg #[.int .i64 43, .string str, .int .u32 num, .bool true, .slice (some ⟨b0, o0, none⟩) kn kc, .int .i64 pos], .bool false] w fun e w' => e = .returned (.bool false) ∧ Below w.heap.size w w' := by
  have hk0 : ¬ (kn : Int) = 0 := by omega
  have hk1 : (0 : Int) < kn := by omega
  have hk2 : ¬ (kn : Int) = 1 := by omega
  cases O
  · obtain rfl : X0 = true := by simpa using hF
    go_enter Tryz.func30, Tryz.ntmps30
    go_wp2_with (first
      | (go_at_call 15; (with_reducible refine (hP _).mono ?_); rintro e1 w1 ⟨rfl, hb1⟩; obtain ⟨hc1, hf1⟩ := bcell hb1; have hs1 : w.heap.size < w1.heap.size := (by have := hb1.size; simp at this; omega); have hx1 : b0 < w1.heap.size := (by omega))
      | (go_at_call 28; (with_reducible refine (hN _).mono ?_); rintro e2 w2 ⟨rfl, rfl⟩)
      | (go_at_call 51; (with_reducible refine (hO _ (below_on (below1 _ _) hb1)).mono ?_); rintro e3 w3 ⟨rfl, hb3⟩; obtain ⟨hc3, hf3⟩ := bcell hb3; have hs3 : w.heap.size < w3.heap.size := (by have := hb3.size; omega); have hx3 : b0 < w3.heap.size := (by omega))
      | (go_at_call 52; (with_reducible refine (hX _ (below_on (below_on (below1 _ _) hb1) hb3)).mono ?_); rintro e4 w4 ⟨rfl, hb4⟩; obtain ⟨hc4, hf4⟩ := bcell hb4; have hs4 : w.heap.size < w4.heap.size := (by have := hb4.size; omega); have hx4 : b0 < w4.heap.size := (by omega)))
    all_goals (go_ret; exact ⟨rfl, (below_on (below_on (below_on (below1 _ _) hb1) hb3) hb4)⟩)
  · clear hX
    go_enter Tryz.func30, Tryz.ntmps30
    go_wp2_with (first
      | (go_at_call 15; (with_reducible refine (hP _).mono ?_); rintro e1 w1 ⟨rfl, hb1⟩; obtain ⟨hc1, hf1⟩ := bcell hb1; have hs1 : w.heap.size < w1.heap.size := (by have := hb1.size; simp at this; omega); have hx1 : b0 < w1.heap.size := (by omega))
      | (go_at_call 28; (with_reducible refine (hN _).mono ?_); rintro e2 w2 ⟨rfl, rfl⟩)
      | (go_at_call 51; (with_reducible refine (hO _ (below_on (below1 _ _) hb1)).mono ?_); rintro e3 w3 ⟨rfl, hb3⟩; obtain ⟨hc3, hf3⟩ := bcell hb3; have hs3 : w.heap.size < w3.heap.size := (by have := hb3.size; omega); have hx3 : b0 < w3.heap.size := (by omega)))
    all_goals (go_ret; exact ⟨rfl, (below_on (below_on (below1 _ _) hb1) hb3)⟩)

end Go.Proofs.YtnnnfabpceapcaaGreatDoor

namespace Go.Proofs.YtnnnfabpceapcaaGreatDoor
set_option linter.unusedSimpArgs false
open Go.RowKit
set_option linter.unusedVariables false
set_option linter.unusedSimpArgs false

set_option maxHeartbeats 4000000 in
set_option maxRecDepth 20000 in
theorem var30_l0 {w : World} {str : ByteArray} {num pos : Int} {O X0 X1 : Bool} {b0 o0 kc : Nat} {k0 n0 p0 : Int} {s0 : ByteArray} {f0 : Bool} {v0 : Value} {k1 n1 p1 : Int} {s1 : ByteArray} {f1 : Bool} {a1 : Option Addr} {m1 c1 : Nat} (hlt : b0 < w.heap.size) (hcap : 2 ≤ kc) (hP : ∀ W, Calls Tryz.prog 15 #[.agg #[.int .i64 43, .string str, .int .u32 num, .bool true, .slice (some ⟨b0, o0, none⟩) 2 kc, .int .i64 pos], .bool true, .bool false, .bool true] W fun e w' => e = .returned (.bool true) ∧ Below W.heap.size W w') (hN : ∀ W, Calls Tryz.prog 28 #[.string str] W fun e w' => e = .returned (.bool true) ∧ w' = W) (c00 : w.cell? ⟨b0, o0, none⟩ = some (.int .i64 k0)) (c01 : w.cell? ⟨b0, o0 + 1, none⟩ = some (.string s0)) (c02 : w.cell? ⟨b0, o0 + 2, none⟩ = some (.int .u32 n0)) (c03 : w.cell? ⟨b0, o0 + 3, none⟩ = some (.bool f0)) (c04 : w.cell? ⟨b0, o0 + 4, none⟩ = some v0) (c05 : w.cell? ⟨b0, o0 + 5, none⟩ = some (.int .i64 p0)) (c10 : w.cell? ⟨b0, o0 + 6, none⟩ = some (.int .i64 k1)) (c11 : w.cell? ⟨b0, o0 + 7, none⟩ = some (.string s1)) (c12 : w.cell? ⟨b0, o0 + 8, none⟩ = some (.int .u32 n1)) (c13 : w.cell? ⟨b0, o0 + 9, none⟩ = some (.bool f1)) (c14 : w.cell? ⟨b0, o0 + 10, none⟩ = some (.slice a1 m1 c1)) (c15 : w.cell? ⟨b0, o0 + 11, none⟩ = some (.int .i64 p1)) (hk : (k1 == 44) = false) (hF : O = true ∨ X0 = true) (hO : ∀ W, Below w.heap.size w W → Calls Tryz.prog 51 #[.agg #[.int .i64 k0, .string s0, .int .u32 n0, .bool f0, v0, .int .i64 p0]] W fun e w' => e = .returned (.bool O) ∧ Below W.heap.size W w') (hX : ∀ W, Below w.heap.size w W → Calls Tryz.prog 52 #[.agg #[.int .i64 k0, .string s0, .int .u32 n0, .bool f0, v0, .int .i64 p0]] W fun e w' => e = .returned (.bool X0) ∧ Below W.heap.size W w') (hX1 : ∀ W, Below w.heap.size w W → Calls Tryz.prog 52 #[.agg #[.int .i64 k1, .string s1, .int .u32 n1, .bool f1, .slice a1 m1 c1, .int .i64 p1]] W fun e w' => e = .returned (.bool X1) ∧ Below W.heap.size W w') :
    Calls Tryz.prog 30 #[.agg #[.int .i64 43, .string str, .int .u32 num, .bool true, .slice (some ⟨b0, o0, none⟩) 2 kc, .int .i64 pos], .bool false] w fun e w' => e = .returned (.bool X1) ∧ Below w.heap.size w w' := by
  have hk1 : ¬ k1 = 44 := by intro h; rw [h] at hk; exact Bool.noConfusion hk
  cases O
  · obtain rfl : X0 = true := by simpa using hF
    go_enter Tryz.func30, Tryz.ntmps30
    go_wp2_with (first
      | (go_at_call 15; (with_reducible refine (hP _).mono ?_); rintro e1 w1 ⟨rfl, hb1⟩; obtain ⟨hc1, hf1⟩ := bcell hb1; have hs1 : w.heap.size < w1.heap.size := (by have := hb1.size; simp at this; omega); have hx1 : b0 < w1.heap.size := (by omega))
      | (go_at_call 28; (with_reducible refine (hN _).mono ?_); rintro e2 w2 ⟨rfl, rfl⟩)
      | (go_at_call 51; (with_reducible refine (hO _ (below_on (below1 _ _) hb1)).mono ?_); rintro e3 w3 ⟨rfl, hb3⟩; obtain ⟨hc3, hf3⟩ := bcell hb3; have hs3 : w.heap.size < w3.heap.size := (by have := hb3.size; omega); have hx3 : b0 < w3.heap.size := (by omega))
      | (go_at_call 52; (with_reducible refine (hX1 _ (below_on (below_on (below_on (below1 _ _) hb1) hb3) hb4)).mono ?_); rintro e5 w5 ⟨rfl, hb5⟩; obtain ⟨hc5, hf5⟩ := bcell hb5; have hs5 : w.heap.size < w5.heap.size := (by have := hb5.size; omega); have hx5 : b0 < w5.heap.size := (by omega))
      | (go_at_call 52; (with_reducible refine (hX _ (below_on (below_on (below1 _ _) hb1) hb3)).mono ?_); rintro e4 w4 ⟨rfl, hb4⟩; obtain ⟨hc4, hf4⟩ := bcell hb4; have hs4 : w.heap.size < w4.heap.size := (by have := hb4.size; omega); have hx4 : b0 < w4.heap.size := (by omega)))
    all_goals (go_ret; exact ⟨by simp, (below_on (below_on (below_on (below_on (below1 _ _) hb1) hb3) hb4) hb5)⟩)
  · clear hX
    go_enter Tryz.func30, Tryz.ntmps30
    go_wp2_with (first
      | (go_at_call 15; (with_reducible refine (hP _).mono ?_); rintro e1 w1 ⟨rfl, hb1⟩; obtain ⟨hc1, hf1⟩ := bcell hb1; have hs1 : w.heap.size < w1.heap.size := (by have := hb1.size; simp at this; omega); have hx1 : b0 < w1.heap.size := (by omega))
      | (go_at_call 28; (with_reducible refine (hN _).mono ?_); rintro e2 w2 ⟨rfl, rfl⟩)
      | (go_at_call 51; (with_reducible refine (hO _ (below_on (below1 _ _) hb1)).mono ?_); rintro e3 w3 ⟨rfl, hb3⟩; obtain ⟨hc3, hf3⟩ := bcell hb3; have hs3 : w.heap.size < w3.heap.size := (by have := hb3.size; omega); have hx3 : b0 < w3.heap.size := (by omega))
      | (go_at_call 52; (with_reducible refine (hX1 _ (below_on (below_on (below1 _ _) hb1) hb3)).mono ?_); rintro e4 w4 ⟨rfl, hb4⟩; obtain ⟨hc4, hf4⟩ := bcell hb4; have hs4 : w.heap.size < w4.heap.size := (by have := hb4.size; omega); have hx4 : b0 < w4.heap.size := (by omega)))
    all_goals (go_ret; exact ⟨by simp, (below_on (below_on (below_on (below1 _ _) hb1) hb3) hb4)⟩)

set_option maxHeartbeats 4000000 in
set_option maxRecDepth 20000 in
theorem var30_l1 {w : World} {str : ByteArray} {num pos : Int} {O X0 X1 : Bool} {b0 o0 kc : Nat} {k0 n0 p0 : Int} {s0 : ByteArray} {f0 : Bool} {v0 : Value} {k1 n1 p1 : Int} {s1 : ByteArray} {f1 : Bool} {a1 : Option Addr} {m1 c1 : Nat} (hlt : b0 < w.heap.size) (hcap : 2 ≤ kc) (hP : ∀ W, Calls Tryz.prog 15 #[.agg #[.int .i64 43, .string str, .int .u32 num, .bool true, .slice (some ⟨b0, o0, none⟩) 2 kc, .int .i64 pos], .bool true, .bool false, .bool true] W fun e w' => e = .returned (.bool true) ∧ Below W.heap.size W w') (hN : ∀ W, Calls Tryz.prog 28 #[.string str] W fun e w' => e = .returned (.bool true) ∧ w' = W) (c00 : w.cell? ⟨b0, o0, none⟩ = some (.int .i64 k0)) (c01 : w.cell? ⟨b0, o0 + 1, none⟩ = some (.string s0)) (c02 : w.cell? ⟨b0, o0 + 2, none⟩ = some (.int .u32 n0)) (c03 : w.cell? ⟨b0, o0 + 3, none⟩ = some (.bool f0)) (c04 : w.cell? ⟨b0, o0 + 4, none⟩ = some v0) (c05 : w.cell? ⟨b0, o0 + 5, none⟩ = some (.int .i64 p0)) (c10 : w.cell? ⟨b0, o0 + 6, none⟩ = some (.int .i64 44)) (c11 : w.cell? ⟨b0, o0 + 7, none⟩ = some (.string s1)) (c12 : w.cell? ⟨b0, o0 + 8, none⟩ = some (.int .u32 n1)) (c13 : w.cell? ⟨b0, o0 + 9, none⟩ = some (.bool f1)) (c14 : w.cell? ⟨b0, o0 + 10, none⟩ = some (.slice a1 m1 c1)) (c15 : w.cell? ⟨b0, o0 + 11, none⟩ = some (.int .i64 p1)) (hP1 : ∀ W, Below w.heap.size w W → Calls Tryz.prog 15 #[.agg #[.int .i64 44, .string s1, .int .u32 n1, .bool f1, .slice a1 m1 c1, .int .i64 p1], .bool false, .bool false, .bool false] W fun e w' => e = .returned (.bool false) ∧ Below W.heap.size W w') (hF : O = true ∨ X0 = true) (hO : ∀ W, Below w.heap.size w W → Calls Tryz.prog 51 #[.agg #[.int .i64 k0, .string s0, .int .u32 n0, .bool f0, v0, .int .i64 p0]] W fun e w' => e = .returned (.bool O) ∧ Below W.heap.size W w') (hX : ∀ W, Below w.heap.size w W → Calls Tryz.prog 52 #[.agg #[.int .i64 k0, .string s0, .int .u32 n0, .bool f0, v0, .int .i64 p0]] W fun e w' => e = .returned (.bool X0) ∧ Below W.heap.size W w') (hX1 : ∀ W, Below w.heap.size w W → Calls Tryz.prog 52 #[.agg #[.int .i64 44, .string s1, .int .u32 n1, .bool f1, .slice a1 m1 c1, .int .i64 p1]] W fun e w' => e = .returned (.bool X1) ∧ Below W.heap.size W w') :
    Calls Tryz.prog 30 #[.agg #[.int .i64 43, .string str, .int .u32 num, .bool true, .slice (some ⟨b0, o0, none⟩) 2 kc, .int .i64 pos], .bool false] w fun e w' => e = .returned (.bool X1) ∧ Below w.heap.size w w' := by
  cases O
  · obtain rfl : X0 = true := by simpa using hF
    go_enter Tryz.func30, Tryz.ntmps30
    go_wp2_with (first
      | (go_at_call 15; (with_reducible refine (hP _).mono ?_); rintro e1 w1 ⟨rfl, hb1⟩; obtain ⟨hc1, hf1⟩ := bcell hb1; have hs1 : w.heap.size < w1.heap.size := (by have := hb1.size; simp at this; omega); have hx1 : b0 < w1.heap.size := (by omega))
      | (go_at_call 28; (with_reducible refine (hN _).mono ?_); rintro e2 w2 ⟨rfl, rfl⟩)
      | (go_at_call 51; (with_reducible refine (hO _ (below_on (below1 _ _) hb1)).mono ?_); rintro e3 w3 ⟨rfl, hb3⟩; obtain ⟨hc3, hf3⟩ := bcell hb3; have hs3 : w.heap.size < w3.heap.size := (by have := hb3.size; omega); have hx3 : b0 < w3.heap.size := (by omega))
      | (go_at_call 52; (with_reducible refine (hX1 _ (below_on (below_on (below_on (below_on (below1 _ _) hb1) hb3) hb4) hb5)).mono ?_); rintro e6 w6 ⟨rfl, hb6⟩; obtain ⟨hc6, hf6⟩ := bcell hb6; have hs6 : w.heap.size < w6.heap.size := (by have := hb6.size; omega); have hx6 : b0 < w6.heap.size := (by omega))
      | (go_at_call 15; (with_reducible refine (hP1 _ (below_on (below_on (below_on (below1 _ _) hb1) hb3) hb4)).mono ?_); rintro e5 w5 ⟨rfl, hb5⟩; obtain ⟨hc5, hf5⟩ := bcell hb5; have hs5 : w.heap.size < w5.heap.size := (by have := hb5.size; omega); have hx5 : b0 < w5.heap.size := (by omega))
      | (go_at_call 52; (with_reducible refine (hX _ (below_on (below_on (below1 _ _) hb1) hb3)).mono ?_); rintro e4 w4 ⟨rfl, hb4⟩; obtain ⟨hc4, hf4⟩ := bcell hb4; have hs4 : w.heap.size < w4.heap.size := (by have := hb4.size; omega); have hx4 : b0 < w4.heap.size := (by omega)))
    all_goals (go_ret; exact ⟨by simp, (below_on (below_on (below_on (below_on (below_on (below1 _ _) hb1) hb3) hb4) hb5) hb6)⟩)
  · clear hX
    go_enter Tryz.func30, Tryz.ntmps30
    go_wp2_with (first
      | (go_at_call 15; (with_reducible refine (hP _).mono ?_); rintro e1 w1 ⟨rfl, hb1⟩; obtain ⟨hc1, hf1⟩ := bcell hb1; have hs1 : w.heap.size < w1.heap.size := (by have := hb1.size; simp at this; omega); have hx1 : b0 < w1.heap.size := (by omega))
      | (go_at_call 28; (with_reducible refine (hN _).mono ?_); rintro e2 w2 ⟨rfl, rfl⟩)
      | (go_at_call 51; (with_reducible refine (hO _ (below_on (below1 _ _) hb1)).mono ?_); rintro e3 w3 ⟨rfl, hb3⟩; obtain ⟨hc3, hf3⟩ := bcell hb3; have hs3 : w.heap.size < w3.heap.size := (by have := hb3.size; omega); have hx3 : b0 < w3.heap.size := (by omega))
      | (go_at_call 52; (with_reducible refine (hX1 _ (below_on (below_on (below_on (below1 _ _) hb1) hb3) hb4)).mono ?_); rintro e5 w5 ⟨rfl, hb5⟩; obtain ⟨hc5, hf5⟩ := bcell hb5; have hs5 : w.heap.size < w5.heap.size := (by have := hb5.size; omega); have hx5 : b0 < w5.heap.size := (by omega))
      | (go_at_call 15; (with_reducible refine (hP1 _ (below_on (below_on (below1 _ _) hb1) hb3)).mono ?_); rintro e4 w4 ⟨rfl, hb4⟩; obtain ⟨hc4, hf4⟩ := bcell hb4; have hs4 : w.heap.size < w4.heap.size := (by have := hb4.size; omega); have hx4 : b0 < w4.heap.size := (by omega)))
    all_goals (go_ret; exact ⟨by simp, (below_on (below_on (below_on (below_on (below1 _ _) hb1) hb3) hb4) hb5)⟩)

set_option maxHeartbeats 4000000 in
set_option maxRecDepth 20000 in
theorem var30_l2 {w : World} {str : ByteArray} {num pos : Int} {O X0 X1 : Bool} {b0 o0 kc : Nat} {k0 n0 p0 : Int} {s0 : ByteArray} {f0 : Bool} {v0 : Value} {k1 n1 p1 : Int} {s1 : ByteArray} {f1 : Bool} {a1 : Option Addr} {m1 c1 : Nat} (hlt : b0 < w.heap.size) (hcap : 2 ≤ kc) (hP : ∀ W, Calls Tryz.prog 15 #[.agg #[.int .i64 43, .string str, .int .u32 num, .bool true, .slice (some ⟨b0, o0, none⟩) 2 kc, .int .i64 pos], .bool true, .bool false, .bool true] W fun e w' => e = .returned (.bool true) ∧ Below W.heap.size W w') (hN : ∀ W, Calls Tryz.prog 28 #[.string str] W fun e w' => e = .returned (.bool true) ∧ w' = W) (c00 : w.cell? ⟨b0, o0, none⟩ = some (.int .i64 k0)) (c01 : w.cell? ⟨b0, o0 + 1, none⟩ = some (.string s0)) (c02 : w.cell? ⟨b0, o0 + 2, none⟩ = some (.int .u32 n0)) (c03 : w.cell? ⟨b0, o0 + 3, none⟩ = some (.bool f0)) (c04 : w.cell? ⟨b0, o0 + 4, none⟩ = some v0) (c05 : w.cell? ⟨b0, o0 + 5, none⟩ = some (.int .i64 p0)) (c10 : w.cell? ⟨b0, o0 + 6, none⟩ = some (.int .i64 44)) (c11 : w.cell? ⟨b0, o0 + 7, none⟩ = some (.string s1)) (c12 : w.cell? ⟨b0, o0 + 8, none⟩ = some (.int .u32 n1)) (c13 : w.cell? ⟨b0, o0 + 9, none⟩ = some (.bool f1)) (c14 : w.cell? ⟨b0, o0 + 10, none⟩ = some (.slice a1 m1 c1)) (c15 : w.cell? ⟨b0, o0 + 11, none⟩ = some (.int .i64 p1)) (hm : m1 = 0) (hP1 : ∀ W, Below w.heap.size w W → Calls Tryz.prog 15 #[.agg #[.int .i64 44, .string s1, .int .u32 n1, .bool f1, .slice a1 m1 c1, .int .i64 p1], .bool false, .bool false, .bool false] W fun e w' => e = .returned (.bool true) ∧ Below W.heap.size W w') (hF : O = true ∨ X0 = true) (hO : ∀ W, Below w.heap.size w W → Calls Tryz.prog 51 #[.agg #[.int .i64 k0, .string s0, .int .u32 n0, .bool f0, v0, .int .i64 p0]] W fun e w' => e = .returned (.bool O) ∧ Below W.heap.size W w') (hX : ∀ W, Below w.heap.size w W → Calls Tryz.prog 52 #[.agg #[.int .i64 k0, .string s0, .int .u32 n0, .bool f0, v0, .int .i64 p0]] W fun e w' => e = .returned (.bool X0) ∧ Below W.heap.size W w') (hX1 : ∀ W, Below w.heap.size w W → Calls Tryz.prog 52 #[.agg #[.int .i64 44, .string s1, .int .u32 n1, .bool f1, .slice a1 m1 c1, .int .i64 p1]] W fun e w' => e = .returned (.bool X1) ∧ Below W.heap.size W w') :
    Calls Tryz.prog 30 #[.agg #[.int .i64 43, .string str, .int .u32 num, .bool true, .slice (some ⟨b0, o0, none⟩) 2 kc, .int .i64 pos], .bool false] w fun e w' => e = .returned (.bool X1) ∧ Below w.heap.size w w' := by
  subst hm
  cases O
  · obtain rfl : X0 = true := by simpa using hF
    go_enter Tryz.func30, Tryz.ntmps30
    go_wp2_with (first
      | (go_at_call 15; (with_reducible refine (hP _).mono ?_); rintro e1 w1 ⟨rfl, hb1⟩; obtain ⟨hc1, hf1⟩ := bcell hb1; have hs1 : w.heap.size < w1.heap.size := (by have := hb1.size; simp at this; omega); have hx1 : b0 < w1.heap.size := (by omega))
      | (go_at_call 28; (with_reducible refine (hN _).mono ?_); rintro e2 w2 ⟨rfl, rfl⟩)
      | (go_at_call 51; (with_reducible refine (hO _ (below_on (below1 _ _) hb1)).mono ?_); rintro e3 w3 ⟨rfl, hb3⟩; obtain ⟨hc3, hf3⟩ := bcell hb3; have hs3 : w.heap.size < w3.heap.size := (by have := hb3.size; omega); have hx3 : b0 < w3.heap.size := (by omega))
      | (go_at_call 52; (with_reducible refine (hX1 _ (below_on (below_on (below_on (below_on (below1 _ _) hb1) hb3) hb4) hb5)).mono ?_); rintro e6 w6 ⟨rfl, hb6⟩; obtain ⟨hc6, hf6⟩ := bcell hb6; have hs6 : w.heap.size < w6.heap.size := (by have := hb6.size; omega); have hx6 : b0 < w6.heap.size := (by omega))
      | (go_at_call 15; (with_reducible refine (hP1 _ (below_on (below_on (below_on (below1 _ _) hb1) hb3) hb4)).mono ?_); rintro e5 w5 ⟨rfl, hb5⟩; obtain ⟨hc5, hf5⟩ := bcell hb5; have hs5 : w.heap.size < w5.heap.size := (by have := hb5.size; omega); have hx5 : b0 < w5.heap.size := (by omega))
      | (go_at_call 52; (with_reducible refine (hX _ (below_on (below_on (below1 _ _) hb1) hb3)).mono ?_); rintro e4 w4 ⟨rfl, hb4⟩; obtain ⟨hc4, hf4⟩ := bcell hb4; have hs4 : w.heap.size < w4.heap.size := (by have := hb4.size; omega); have hx4 : b0 < w4.heap.size := (by omega)))
    all_goals (go_ret; exact ⟨by simp, (below_on (below_on (below_on (below_on (below_on (below1 _ _) hb1) hb3) hb4) hb5) hb6)⟩)
  · clear hX
    go_enter Tryz.func30, Tryz.ntmps30
    go_wp2_with (first
      | (go_at_call 15; (with_reducible refine (hP _).mono ?_); rintro e1 w1 ⟨rfl, hb1⟩; obtain ⟨hc1, hf1⟩ := bcell hb1; have hs1 : w.heap.size < w1.heap.size := (by have := hb1.size; simp at this; omega); have hx1 : b0 < w1.heap.size := (by omega))
      | (go_at_call 28; (with_reducible refine (hN _).mono ?_); rintro e2 w2 ⟨rfl, rfl⟩)
      | (go_at_call 51; (with_reducible refine (hO _ (below_on (below1 _ _) hb1)).mono ?_); rintro e3 w3 ⟨rfl, hb3⟩; obtain ⟨hc3, hf3⟩ := bcell hb3; have hs3 : w.heap.size < w3.heap.size := (by have := hb3.size; omega); have hx3 : b0 < w3.heap.size := (by omega))
      | (go_at_call 52; (with_reducible refine (hX1 _ (below_on (below_on (below_on (below1 _ _) hb1) hb3) hb4)).mono ?_); rintro e5 w5 ⟨rfl, hb5⟩; obtain ⟨hc5, hf5⟩ := bcell hb5; have hs5 : w.heap.size < w5.heap.size := (by have := hb5.size; omega); have hx5 : b0 < w5.heap.size := (by omega))
      | (go_at_call 15; (with_reducible refine (hP1 _ (below_on (below_on (below1 _ _) hb1) hb3)).mono ?_); rintro e4 w4 ⟨rfl, hb4⟩; obtain ⟨hc4, hf4⟩ := bcell hb4; have hs4 : w.heap.size < w4.heap.size := (by have := hb4.size; omega); have hx4 : b0 < w4.heap.size := (by omega)))
    all_goals (go_ret; exact ⟨by simp, (below_on (below_on (below_on (below_on (below1 _ _) hb1) hb3) hb4) hb5)⟩)

set_option maxHeartbeats 4000000 in
set_option maxRecDepth 20000 in
theorem var30_l3 {w : World} {str : ByteArray} {num pos : Int} {O X0 X1 : Bool} {b0 o0 kc : Nat} {k0 n0 p0 : Int} {s0 : ByteArray} {f0 : Bool} {v0 : Value} {k1 n1 p1 : Int} {s1 : ByteArray} {f1 : Bool} {a1 : Option Addr} {m1 c1 : Nat} (hlt : b0 < w.heap.size) (hcap : 2 ≤ kc) (hP : ∀ W, Calls Tryz.prog 15 #[.agg #[.int .i64 43, .string str, .int .u32 num, .bool true, .slice (some ⟨b0, o0, none⟩) 2 kc, .int .i64 pos], .bool true, .bool false, .bool true] W fun e w' => e = .returned (.bool true) ∧ Below W.heap.size W w') (hN : ∀ W, Calls Tryz.prog 28 #[.string str] W fun e w' => e = .returned (.bool true) ∧ w' = W) (c00 : w.cell? ⟨b0, o0, none⟩ = some (.int .i64 k0)) (c01 : w.cell? ⟨b0, o0 + 1, none⟩ = some (.string s0)) (c02 : w.cell? ⟨b0, o0 + 2, none⟩ = some (.int .u32 n0)) (c03 : w.cell? ⟨b0, o0 + 3, none⟩ = some (.bool f0)) (c04 : w.cell? ⟨b0, o0 + 4, none⟩ = some v0) (c05 : w.cell? ⟨b0, o0 + 5, none⟩ = some (.int .i64 p0)) (c10 : w.cell? ⟨b0, o0 + 6, none⟩ = some (.int .i64 44)) (c11 : w.cell? ⟨b0, o0 + 7, none⟩ = some (.string s1)) (c12 : w.cell? ⟨b0, o0 + 8, none⟩ = some (.int .u32 n1)) (c13 : w.cell? ⟨b0, o0 + 9, none⟩ = some (.bool f1)) (c14 : w.cell? ⟨b0, o0 + 10, none⟩ = some (.slice a1 m1 c1)) (c15 : w.cell? ⟨b0, o0 + 11, none⟩ = some (.int .i64 p1)) (hm : (0 : Int) < m1) (hP1 : ∀ W, Below w.heap.size w W → Calls Tryz.prog 15 #[.agg #[.int .i64 44, .string s1, .int .u32 n1, .bool f1, .slice a1 m1 c1, .int .i64 p1], .bool false, .bool false, .bool false] W fun e w' => e = .returned (.bool true) ∧ Below W.heap.size W w') (hE1 : ∀ W, Below w.heap.size w W → Calls Tryz.prog 53 #[.agg #[.int .i64 44, .string s1, .int .u32 n1, .bool f1, .slice a1 m1 c1, .int .i64 p1], .int .i64 (-1)] W fun e w' => e = .returned (.bool false) ∧ Below W.heap.size W w') (hF : O = true ∨ X0 = true) (hO : ∀ W, Below w.heap.size w W → Calls Tryz.prog 51 #[.agg #[.int .i64 k0, .string s0, .int .u32 n0, .bool f0, v0, .int .i64 p0]] W fun e w' => e = .returned (.bool O) ∧ Below W.heap.size W w') (hX : ∀ W, Below w.heap.size w W → Calls Tryz.prog 52 #[.agg #[.int .i64 k0, .string s0, .int .u32 n0, .bool f0, v0, .int .i64 p0]] W fun e w' => e = .returned (.bool X0) ∧ Below W.heap.size W w') (hX1 : ∀ W, Below w.heap.size w W → Calls Tryz.prog 52 #[.agg #[.int .i64 44, .string s1, .int .u32 n1, .bool f1, .slice a1 m1 c1, .int .i64 p1]] W fun e w' => e = .returned (.bool X1) ∧ Below W.heap.size W w') :
    Calls Tryz.prog 30 #[.agg #[.int .i64 43, .string str, .int .u32 num, .bool true, .slice (some ⟨b0, o0, none⟩) 2 kc, .int .i64 pos], .bool false] w fun e w' => e = .returned (.bool X1) ∧ Below w.heap.size w w' := by
  cases O
  · obtain rfl : X0 = true := by simpa using hF
    go_enter Tryz.func30, Tryz.ntmps30
    go_wp2_with (first
      | (go_at_call 15; (with_reducible refine (hP _).mono ?_); rintro e1 w1 ⟨rfl, hb1⟩; obtain ⟨hc1, hf1⟩ := bcell hb1; have hs1 : w.heap.size < w1.heap.size := (by have := hb1.size; simp at this; omega); have hx1 : b0 < w1.heap.size := (by omega))
      | (go_at_call 28; (with_reducible refine (hN _).mono ?_); rintro e2 w2 ⟨rfl, rfl⟩)
      | (go_at_call 51; (with_reducible refine (hO _ (below_on (below1 _ _) hb1)).mono ?_); rintro e3 w3 ⟨rfl, hb3⟩; obtain ⟨hc3, hf3⟩ := bcell hb3; have hs3 : w.heap.size < w3.heap.size := (by have := hb3.size; omega); have hx3 : b0 < w3.heap.size := (by omega))
      | (go_at_call 52; (with_reducible refine (hX1 _ (below_on (below_on (below_on (below_on (below_on (below1 _ _) hb1) hb3) hb4) hb5) hb6)).mono ?_); rintro e7 w7 ⟨rfl, hb7⟩; obtain ⟨hc7, hf7⟩ := bcell hb7; have hs7 : w.heap.size < w7.heap.size := (by have := hb7.size; omega); have hx7 : b0 < w7.heap.size := (by omega))
      | (go_at_call 53; (with_reducible refine (hE1 _ (below_on (below_on (below_on (below_on (below1 _ _) hb1) hb3) hb4) hb5)).mono ?_); rintro e6 w6 ⟨rfl, hb6⟩; obtain ⟨hc6, hf6⟩ := bcell hb6; have hs6 : w.heap.size < w6.heap.size := (by have := hb6.size; omega); have hx6 : b0 < w6.heap.size := (by omega))
      | (go_at_call 15; (with_reducible refine (hP1 _ (below_on (below_on (below_on (below1 _ _) hb1) hb3) hb4)).mono ?_); rintro e5 w5 ⟨rfl, hb5⟩; obtain ⟨hc5, hf5⟩ := bcell hb5; have hs5 : w.heap.size < w5.heap.size := (by have := hb5.size; omega); have hx5 : b0 < w5.heap.size := (by omega))
      | (go_at_call 52; (with_reducible refine (hX _ (below_on (below_on (below1 _ _) hb1) hb3)).mono ?_); rintro e4 w4 ⟨rfl, hb4⟩; obtain ⟨hc4, hf4⟩ := bcell hb4; have hs4 : w.heap.size < w4.heap.size := (by have := hb4.size; omega); have hx4 : b0 < w4.heap.size := (by omega)))
    all_goals (go_ret; exact ⟨by simp, (below_on (below_on (below_on (below_on (below_on (below_on (below1 _ _) hb1) hb3) hb4) hb5) hb6) hb7)⟩)
  · clear hX
    go_enter Tryz.func30, Tryz.ntmps30
    go_wp2_with (first
      | (go_at_call 15; (with_reducible refine (hP _).mono ?_); rintro e1 w1 ⟨rfl, hb1⟩; obtain ⟨hc1, hf1⟩ := bcell hb1; have hs1 : w.heap.size < w1.heap.size := (by have := hb1.size; simp at this; omega); have hx1 : b0 < w1.heap.size := (by omega))
      | (go_at_call 28; (with_reducible refine (hN _).mono ?_); rintro e2 w2 ⟨rfl, rfl⟩)
      | (go_at_call 51; (with_reducible refine (hO _ (below_on (below1 _ _) hb1)).mono ?_); rintro e3 w3 ⟨rfl, hb3⟩; obtain ⟨hc3, hf3⟩ := bcell hb3; have hs3 : w.heap.size < w3.heap.size := (by have := hb3.size; omega); have hx3 : b0 < w3.heap.size := (by omega))
      | (go_at_call 52; (with_reducible refine (hX1 _ (below_on (below_on (below_on (below_on (below1 _ _) hb1) hb3) hb4) hb5)).mono ?_); rintro e6 w6 ⟨rfl, hb6⟩; obtain ⟨hc6, hf6⟩ := bcell hb6; have hs6 : w.heap.size < w6.heap.size := (by have := hb6.size; omega); have hx6 : b0 < w6.heap.size := (by omega))
      | (go_at_call 53; (with_reducible refine (hE1 _ (below_on (below_on (below_on (below1 _ _) hb1) hb3) hb4)).mono ?_); rintro e5 w5 ⟨rfl, hb5⟩; obtain ⟨hc5, hf5⟩ := bcell hb5; have hs5 : w.heap.size < w5.heap.size := (by have := hb5.size; omega); have hx5 : b0 < w5.heap.size := (by omega))
      | (go_at_call 15; (with_reducible refine (hP1 _ (below_on (below_on (below1 _ _) hb1) hb3)).mono ?_); rintro e4 w4 ⟨rfl, hb4⟩; obtain ⟨hc4, hf4⟩ := bcell hb4; have hs4 : w.heap.size < w4.heap.size := (by have := hb4.size; omega); have hx4 : b0 < w4.heap.size := (by omega)))
    all_goals (go_ret; exact ⟨by simp, (below_on (below_on (below_on (below_on (below_on (below1 _ _) hb1) hb3) hb4) hb5) hb6)⟩)

set_option maxHeartbeats 4000000 in
set_option maxRecDepth 20000 in
theorem var30_l4 {w : World} {str : ByteArray} {num pos : Int} {O X0 X1 : Bool} {b0 o0 kc : Nat} {k0 n0 p0 : Int} {s0 : ByteArray} {f0 : Bool} {v0 : Value} {k1 n1 p1 : Int} {s1 : ByteArray} {f1 : Bool} {a1 : Option Addr} {m1 c1 : Nat} (hlt : b0 < w.heap.size) (hcap : 2 ≤ kc) (hP : ∀ W, Calls Tryz.prog 15 #[.agg #[.int .i64 43, .string str, .int .u32 num, .bool true, .slice (some ⟨b0, o0, none⟩) 2 kc, .int .i64 pos], .bool true, .bool false, .bool true] W fun e w' => e = .returned (.bool true) ∧ Below W.heap.size W w') (hN : ∀ W, Calls Tryz.prog 28 #[.string str] W fun e w' => e = .returned (.bool true) ∧ w' = W) (c00 : w.cell? ⟨b0, o0, none⟩ = some (.int .i64 k0)) (c01 : w.cell? ⟨b0, o0 + 1, none⟩ = some (.string s0)) (c02 : w.cell? ⟨b0, o0 + 2, none⟩ = some (.int .u32 n0)) (c03 : w.cell? ⟨b0, o0 + 3, none⟩ = some (.bool f0)) (c04 : w.cell? ⟨b0, o0 + 4, none⟩ = some v0) (c05 : w.cell? ⟨b0, o0 + 5, none⟩ = some (.int .i64 p0)) (c10 : w.cell? ⟨b0, o0 + 6, none⟩ = some (.int .i64 44)) (c11 : w.cell? ⟨b0, o0 + 7, none⟩ = some (.string s1)) (c12 : w.cell? ⟨b0, o0 + 8, none⟩ = some (.int .u32 n1)) (c13 : w.cell? ⟨b0, o0 + 9, none⟩ = some (.bool f1)) (c14 : w.cell? ⟨b0, o0 + 10, none⟩ = some (.slice a1 m1 c1)) (c15 : w.cell? ⟨b0, o0 + 11, none⟩ = some (.int .i64 p1)) (hm : (0 : Int) < m1) (hP1 : ∀ W, Below w.heap.size w W → Calls Tryz.prog 15 #[.agg #[.int .i64 44, .string s1, .int .u32 n1, .bool f1, .slice a1 m1 c1, .int .i64 p1], .bool false, .bool false, .bool false] W fun e w' => e = .returned (.bool true) ∧ Below W.heap.size W w') (hE1 : ∀ W, Below w.heap.size w W → Calls Tryz.prog 53 #[.agg #[.int .i64 44, .string s1, .int .u32 n1, .bool f1, .slice a1 m1 c1, .int .i64 p1], .int .i64 (-1)] W fun e w' => e = .returned (.bool true) ∧ Below W.heap.size W w') (hF : O = true ∨ X0 = true) (hO : ∀ W, Below w.heap.size w W → Calls Tryz.prog 51 #[.agg #[.int .i64 k0, .string s0, .int .u32 n0, .bool f0, v0, .int .i64 p0]] W fun e w' => e = .returned (.bool O) ∧ Below W.heap.size W w') (hX : ∀ W, Below w.heap.size w W → Calls Tryz.prog 52 #[.agg #[.int .i64 k0, .string s0, .int .u32 n0, .bool f0, v0, .int .i64 p0]] W fun e w' => e = .returned (.bool X0) ∧ Below W.heap.size W w') (hX1 : ∀ W, Below w.heap.size w W → Calls Tryz.prog 52 #[.agg #[.int .i64 44, .string s1, .int .u32 n1, .bool f1, .slice a1 m1 c1, .int .i64 p1]] W fun e w' => e = .returned (.bool X1) ∧ Below W.heap.size W w') :
    Calls Tryz.prog 30 #[.agg #[.int .i64 43, .string str, .int .u32 num, .bool true, .slice (some ⟨b0, o0, none⟩) 2 kc, .int .i64 pos], .bool false] w fun e w' => e = .returned (.bool true) ∧ Below w.heap.size w w' := by
  cases O
  · obtain rfl : X0 = true := by simpa using hF
    go_enter Tryz.func30, Tryz.ntmps30
    go_wp2_with (first
      | (go_at_call 15; (with_reducible refine (hP _).mono ?_); rintro e1 w1 ⟨rfl, hb1⟩; obtain ⟨hc1, hf1⟩ := bcell hb1; have hs1 : w.heap.size < w1.heap.size := (by have := hb1.size; simp at this; omega); have hx1 : b0 < w1.heap.size := (by omega))
      | (go_at_call 28; (with_reducible refine (hN _).mono ?_); rintro e2 w2 ⟨rfl, rfl⟩)
      | (go_at_call 51; (with_reducible refine (hO _ (below_on (below1 _ _) hb1)).mono ?_); rintro e3 w3 ⟨rfl, hb3⟩; obtain ⟨hc3, hf3⟩ := bcell hb3; have hs3 : w.heap.size < w3.heap.size := (by have := hb3.size; omega); have hx3 : b0 < w3.heap.size := (by omega))
      | (go_at_call 53; (with_reducible refine (hE1 _ (below_on (below_on (below_on (below_on (below1 _ _) hb1) hb3) hb4) hb5)).mono ?_); rintro e6 w6 ⟨rfl, hb6⟩; obtain ⟨hc6, hf6⟩ := bcell hb6; have hs6 : w.heap.size < w6.heap.size := (by have := hb6.size; omega); have hx6 : b0 < w6.heap.size := (by omega))
      | (go_at_call 15; (with_reducible refine (hP1 _ (below_on (below_on (below_on (below1 _ _) hb1) hb3) hb4)).mono ?_); rintro e5 w5 ⟨rfl, hb5⟩; obtain ⟨hc5, hf5⟩ := bcell hb5; have hs5 : w.heap.size < w5.heap.size := (by have := hb5.size; omega); have hx5 : b0 < w5.heap.size := (by omega))
      | (go_at_call 52; (with_reducible refine (hX _ (below_on (below_on (below1 _ _) hb1) hb3)).mono ?_); rintro e4 w4 ⟨rfl, hb4⟩; obtain ⟨hc4, hf4⟩ := bcell hb4; have hs4 : w.heap.size < w4.heap.size := (by have := hb4.size; omega); have hx4 : b0 < w4.heap.size := (by omega)))
    all_goals (go_ret; exact ⟨rfl, (below_on (below_on (below_on (below_on (below_on (below1 _ _) hb1) hb3) hb4) hb5) hb6)⟩)
  · clear hX
    go_enter Tryz.func30, Tryz.ntmps30
    go_wp2_with (first
      | (go_at_call 15; (with_reducible refine (hP _).mono ?_); rintro e1 w1 ⟨rfl, hb1⟩; obtain ⟨hc1, hf1⟩ := bcell hb1; have hs1 : w.heap.size < w1.heap.size := (by have := hb1.size; simp at this; omega); have hx1 : b0 < w1.heap.size := (by omega))
      | (go_at_call 28; (with_reducible refine (hN _).mono ?_); rintro e2 w2 ⟨rfl, rfl⟩)
      | (go_at_call 51; (with_reducible refine (hO _ (below_on (below1 _ _) hb1)).mono ?_); rintro e3 w3 ⟨rfl, hb3⟩; obtain ⟨hc3, hf3⟩ := bcell hb3; have hs3 : w.heap.size < w3.heap.size := (by have := hb3.size; omega); have hx3 : b0 < w3.heap.size := (by omega))
      | (go_at_call 53; (with_reducible refine (hE1 _ (below_on (below_on (below_on (below1 _ _) hb1) hb3) hb4)).mono ?_); rintro e5 w5 ⟨rfl, hb5⟩; obtain ⟨hc5, hf5⟩ := bcell hb5; have hs5 : w.heap.size < w5.heap.size := (by have := hb5.size; omega); have hx5 : b0 < w5.heap.size := (by omega))
      | (go_at_call 15; (with_reducible refine (hP1 _ (below_on (below_on (below1 _ _) hb1) hb3)).mono ?_); rintro e4 w4 ⟨rfl, hb4⟩; obtain ⟨hc4, hf4⟩ := bcell hb4; have hs4 : w.heap.size < w4.heap.size := (by have := hb4.size; omega); have hx4 : b0 < w4.heap.size := (by omega)))
    all_goals (go_ret; exact ⟨rfl, (below_on (below_on (below_on (below_on (below1 _ _) hb1) hb3) hb4) hb5)⟩)

end Go.Proofs.YtnnnfabpceapcaaGreatDoor

namespace Go.Proofs.YtnnnfabpceapcaaGreatDoor
set_option linter.unusedSimpArgs false
open Go.RowKit
set_option linter.unusedVariables false
set_option linter.unusedSimpArgs false

def noneT (t : Tr) : Bool := onT (fun x ks => noneF x ks.length) t
def listR (t : Tr) : Bool := onT (fun x ks => x.kind == 44 && (partsF x false false false && (decide (0 < ks.length) && ks.all exR))) t
def varRest (flag : Bool) (l : List Tr) (bare : Bool) : Bool := match l with
  | [] => true
  | [t] => !bare && ((flag && listR t) || exR t)
  | _ => false
def varFlag (ks : List Tr) (bare : Bool) : Bool := match ks with
  | [] => false
  | t :: l => (noneT t || exR t) && varRest true l bare
def varF (x : NdH) (ks : List Tr) (bare : Bool) : Bool := x.kind == 43 && (partsF x true false true && (nameB x.str && (if x.flag then varFlag ks bare else varRest false ks bare)))
theorem noneT_node (x : NdH) (ks : List Tr) : noneT (Tr.node x ks) = noneF x ks.length := by unfold noneT; rw [onT_node]
theorem listR_node (x : NdH) (ks : List Tr) : listR (Tr.node x ks) = (x.kind == 44 && (partsF x false false false && (decide (0 < ks.length) && ks.all exR))) := by unfold listR; rw [onT_node]
theorem str_small {x : NdH} {ks : List Tr} (h : typedN x ks = true) : x.str.size < 4611686018427387904 := by
  unfold typedN smallN at h
  rw [Bool.and_eq_true] at h
  exact of_decide_eq_true h.1

set_option maxRecDepth 20000 in
set_option maxHeartbeats 4000000 in
theorem variable30 {cb n : Nat} {w : World} {x : NdH} {kv : Value} {ks : List Tr} (hK : Ks cb n w kv ks) (ht : allT typedN (Tr.node x ks) = true) (bare : Bool) :
    Calls Tryz.prog 30 #[ndV x kv, .bool bare] w fun e w' => e = .returned (.bool (varF x ks bare)) ∧ Below w.heap.size w w' := by
  obtain ⟨hlen, ao, cap, rfl⟩ := hK.shape
  rw [allT_node, Bool.and_eq_true] at ht
  obtain ⟨hx, hks⟩ := ht
  have hs := str_small hx
  cases hkd : x.kind == 43 with
  | false =>
    have e : varF x ks bare = false := by unfold varF; rw [hkd]; rfl
    rw [e]
    exact var30_kind hkd
  | true =>
  obtain ⟨kind, str, num, flag, pos⟩ := x
  obtain rfl : kind = 43 := eq_of_beq hkd
  clear hkd
  have hP := fun W => parts15 ⟨43, str, num, flag, pos⟩ ao ks.length cap true false true W
  have hN := fun W => name28 str hs W
  cases hp : partsF ⟨43, str, num, flag, pos⟩ true false true with
  | false =>
    have e : varF ⟨43, str, num, flag, pos⟩ ks bare = false := by unfold varF; rw [hp]; rfl
    rw [e]
    rw [hp] at hP
    exact var30_parts hP
  | true =>
  rw [hp] at hP
  cases hn : nameB str with
  | false =>
    have e : varF ⟨43, str, num, flag, pos⟩ ks bare = false := by unfold varF; rw [hp, hn]; rfl
    rw [e]
    rw [hn] at hN
    exact var30_name hP hN
  | true =>
  rw [hn] at hN
  cases flag with
  | false =>
    have e : varF ⟨43, str, num, false, pos⟩ ks bare = varRest false ks bare := by unfold varF; rw [hp, hn]; rfl
    rw [e]
    rcases ks with _ | ⟨t, _ | ⟨t', l⟩⟩
    · exact var30_n0 hP hN
    · cases bare with
      | true => exact var30_nb hP hN (by simp)
      | false =>
        obtain ⟨m, b, off, x0, kv0, l0, hm, rfl, ⟨hlt, hne⟩, he, hc, hk⟩ := hK.kid 0 (by simp)
        have he' : t = Tr.node x0 l0 := he
        subst he'
        have ht0 := typed_kid hks 0 (by simp)
        simp only [Nat.zero_mul, Nat.add_zero] at hc
        obtain ⟨c0, c1, c2, c3, c4, c5⟩ := hc
        exact var30_n1 hlt hP hN c0 c1 c2 c3 c4 c5 (fun W hW => expr52_all (hk.below hW) ht0)
    · cases bare with
      | true => exact var30_nb hP hN (by simp; omega)
      | false => exact var30_n2 hP hN (by simp; omega)
  | true =>
    have e : varF ⟨43, str, num, true, pos⟩ ks bare = varFlag ks bare := by unfold varF; rw [hp, hn]; rfl
    rw [e]
    rcases ks with _ | ⟨t, l⟩
    · exact var30_f0 hP hN
    · show Calls _ _ _ _ fun e w' => e = .returned (.bool ((noneT t || exR t) && varRest true l bare)) ∧ _
      have hroom := hK.room (by simp)
      obtain ⟨m, b, off, x0, kv0, l0, hm, rfl, ⟨hlt, hne⟩, he, hc, hk⟩ := hK.kid 0 (by simp)
      have he' : t = Tr.node x0 l0 := he
      subst he'
      have ht0 := typed_kid hks 0 (by simp)
      simp only [Nat.zero_mul, Nat.add_zero] at hc
      obtain ⟨c0, c1, c2, c3, c4, c5⟩ := hc
      obtain ⟨hl0, ao0, cap0, rfl⟩ := hk.shape
      have hX := fun W (hW : Below w.heap.size w W) => expr52_all (x := x0) (hk.below hW) ht0
      have hO := fun W (hW : Below w.heap.size w W) => none51 x0 ao0 l0.length cap0 W
      rw [noneT_node]
      cases hF : (noneF x0 l0.length || exR (Tr.node x0 l0)) with
      | false =>
        rw [Bool.or_eq_false_iff] at hF
        rw [hF.1] at hO
        rw [hF.2] at hX
        rw [Bool.false_and]
        exact var30_fno hlt (by simp <;> omega) (by simp <;> omega) hP hN c0 c1 c2 c3 c4 c5 hO hX
      | true =>
        rw [Bool.true_and]
        have hF' : noneF x0 l0.length = true ∨ exR (Tr.node x0 l0) = true := by rw [Bool.or_eq_true] at hF; exact hF
        rcases l with _ | ⟨t1, _ | ⟨t2, l⟩⟩
        · exact var30_f1 hlt hP hN c0 c1 c2 c3 c4 c5 hroom hF' hO hX
        · cases bare with
          | true => exact var30_fb hlt hP hN c0 c1 c2 c3 c4 c5 (by simp) hroom hlen hF' hO hX
          | false =>
            obtain ⟨m1, b1, off1, x1, kv1, l1, hm1, e1, _, he1, hc1, hk1⟩ := hK.kid 1 (by simp)
            obtain ⟨rfl, rfl⟩ : b = b1 ∧ off = off1 := by simpa using e1
            have he1' : t1 = Tr.node x1 l1 := he1
            subst he1'
            have ht1 := typed_kid hks 1 (by simp)
            obtain ⟨hl1, ao1, cap1, rfl⟩ := hk1.shape
            have hX1 := fun W (hW : Below w.heap.size w W) => expr52_all (x := x1) (hk1.below hW) ht1
            have hks1 : allL typedN l1 = true := by
              have := ht1
              rw [he1, allT_node, Bool.and_eq_true] at this
              exact this.2
            obtain ⟨d0, d1, d2, d3, d4, d5⟩ := hc1
            show Calls _ _ _ _ fun e w' => e = .returned (.bool (!false && ((true && listR (Tr.node x1 l1)) || exR (Tr.node x1 l1)))) ∧ _
            rw [Bool.not_false, Bool.true_and, Bool.true_and, listR_node]
            cases hk44 : x1.kind == 44 with
            | false =>
              rw [Bool.false_and, Bool.false_or]
              exact var30_l0 hlt hroom hP hN c0 c1 c2 c3 c4 c5 d0 d1 d2 d3 d4 d5 hk44 hF' hO hX hX1
            | true =>
            obtain ⟨kind1, str1, num1, flag1, pos1⟩ := x1
            obtain rfl : kind1 = 44 := eq_of_beq hk44
            have hP1 := fun W (hW : Below w.heap.size w W) => parts15 ⟨44, str1, num1, flag1, pos1⟩ ao1 l1.length cap1 false false false W
            rw [Bool.true_and]
            cases hp1 : partsF ⟨44, str1, num1, flag1, pos1⟩ false false false with
            | false =>
              rw [hp1] at hP1
              rw [Bool.false_and, Bool.false_or]
              exact var30_l1 (k1 := 44) hlt hroom hP hN c0 c1 c2 c3 c4 c5 d0 d1 d2 d3 d4 d5 hP1 hF' hO hX hX1
            | true =>
            rw [hp1] at hP1
            rw [Bool.true_and]
            by_cases hm0 : l1.length = 0
            · rw [decide_eq_false (by omega), Bool.false_and, Bool.false_or]
              exact var30_l2 (k1 := 44) hlt hroom hP hN c0 c1 c2 c3 c4 c5 d0 d1 d2 d3 d4 d5 hm0 hP1 hF' hO hX hX1
            · rw [decide_eq_true (by omega), Bool.true_and]
              have hE1 := fun W (hW : Below w.heap.size w W) => exprs53 (cap := cap1) hl1 ((kidq_expr hk1 hks1).on hW) ⟨44, str1, num1, flag1, pos1⟩ (-1)
              rw [exprsF_any] at hE1
              cases hall : l1.all exR with
              | false =>
                rw [hall] at hE1
                rw [Bool.false_or]
                exact var30_l3 (k1 := 44) hlt hroom hP hN c0 c1 c2 c3 c4 c5 d0 d1 d2 d3 d4 d5 (by omega) hP1 hE1 hF' hO hX hX1
              | true =>
                rw [hall] at hE1
                rw [Bool.true_or]
                exact var30_l4 (k1 := 44) hlt hroom hP hN c0 c1 c2 c3 c4 c5 d0 d1 d2 d3 d4 d5 (by omega) hP1 hE1 hF' hO hX hX1
        · cases bare with
          | true => exact var30_fb hlt hP hN c0 c1 c2 c3 c4 c5 (by simp; omega) hroom hlen hF' hO hX
          | false => exact var30_f3 hlt hP hN c0 c1 c2 c3 c4 c5 (by simp; omega) hroom hlen hF' hO hX
end Go.Proofs.YtnnnfabpceapcaaGreatDoor

namespace Go.Proofs.YtnnnfabpceapcaaGreatDoor
set_option linter.unusedSimpArgs false
open Go.RowKit
set_option linter.unusedVariables false
set_option linter.unusedSimpArgs false

def typedT (t : Tr) : Bool := onT (fun x ks => typedF x ks.length) t
def varT (bare : Bool) (t : Tr) : Bool := onT (fun x ks => varF x ks bare) t
theorem typedT_node (x : NdH) (ks : List Tr) : typedT (Tr.node x ks) = typedF x ks.length := by unfold typedT; rw [onT_node]
theorem varT_node (bare : Bool) (x : NdH) (ks : List Tr) : varT bare (Tr.node x ks) = varF x ks bare := by unfold varT; rw [onT_node]
def varsD (x : NdH) (ks : List Tr) (bare : Bool) : Bool := x.kind == 42 && (partsF x false false false && (decide (2 ≤ ks.length) && ((ks.take 1).all typedT && (ks.drop 1).all (varT bare))))
def varsT (bare : Bool) (t : Tr) : Bool := onT (fun x ks => varsD x ks bare) t
theorem varsT_node (bare : Bool) (x : NdH) (ks : List Tr) : varsT bare (Tr.node x ks) = varsD x ks bare := by unfold varsT; rw [onT_node]

set_option maxHeartbeats 4000000 in
set_option maxRecDepth 20000 in
theorem vars17_kind {w : World} {str : ByteArray} {num pos kind : Int} {flag bare : Bool} {ka : Option Addr} {kn kc : Nat} (hk : (kind == 42) = false) :
    Calls Tryz.prog 17 #[.agg #[.int .i64 kind, .string str, .int .u32 num, .bool flag, .slice ka kn kc, .int .i64 pos], .bool bare] w fun e w' => e = .returned (.bool false) ∧ Below w.heap.size w w' := by
  have hk1 : ¬ kind = 42 := by intro h; rw [h] at hk; exact Bool.noConfusion hk
  go_enter Tryz.func17, Tryz.ntmps17
  go_wp2_with fail
  all_goals (go_ret; exact ⟨rfl, below1 _ _⟩)
set_option maxHeartbeats 4000000 in
set_option maxRecDepth 20000 in
theorem vars17_parts {w : World} {str : ByteArray} {num pos : Int} {flag bare : Bool} {ka : Option Addr} {kn kc : Nat} (hP : ∀ W, Calls Tryz.prog 15 #[.agg #[.int .i64 42, .string str, .int .u32 num, .bool flag, .slice ka kn kc, .int .i64 pos], .bool false, .bool false, .bool false] W fun e w' => e = .returned (.bool false) ∧ Below W.heap.size W w') :
    Calls Tryz.prog 17 #[.agg #[.int .i64 42, .string str, .int .u32 num, .bool flag, .slice ka kn kc, .int .i64 pos], .bool bare] w fun e w' => e = .returned (.bool false) ∧ Below w.heap.size w w' := by
  go_enter Tryz.func17, Tryz.ntmps17
  go_wp2_with (go_at_call 15; (with_reducible refine (hP _).mono ?_); rintro e1 w1 ⟨rfl, hb1⟩; obtain ⟨hc1, hf1⟩ := bcell hb1; have hs1 : w.heap.size < w1.heap.size := (by have := hb1.size; simp at this; omega))
  all_goals (go_ret; exact ⟨rfl, (below_on (below1 _ _) hb1)⟩)
set_option maxHeartbeats 4000000 in
set_option maxRecDepth 20000 in
theorem vars17_few {w : World} {str : ByteArray} {num pos : Int} {flag bare : Bool} {ka : Option Addr} {kn kc : Nat} (hkn : (kn : Int) < 2) (hP : ∀ W, Calls Tryz.prog 15 #[.agg #[.int .i64 42, .string str, .int .u32 num, .bool flag, .slice ka kn kc, .int .i64 pos], .bool false, .bool false, .bool false] W fun e w' => e = .returned (.bool true) ∧ Below W.heap.size W w') :
    Calls Tryz.prog 17 #[.agg #[.int .i64 42, .string str, .int .u32 num, .bool flag, .slice ka kn kc, .int .i64 pos], .bool bare] w fun e w' => e = .returned (.bool false) ∧ Below w.heap.size w w' := by
  go_enter Tryz.func17, Tryz.ntmps17
  go_wp2_with (go_at_call 15; (with_reducible refine (hP _).mono ?_); rintro e1 w1 ⟨rfl, hb1⟩; obtain ⟨hc1, hf1⟩ := bcell hb1; have hs1 : w.heap.size < w1.heap.size := (by have := hb1.size; simp at this; omega))
  all_goals (go_ret; exact ⟨rfl, (below_on (below1 _ _) hb1)⟩)
set_option maxHeartbeats 4000000 in
set_option maxRecDepth 20000 in
theorem vars17_type {w : World} {str : ByteArray} {num pos : Int} {flag bare : Bool} {b0 o0 kn kc : Nat} {k0 n0 p0 : Int} {s0 : ByteArray} {f0 : Bool} {v0 : Value} (hlt : b0 < w.heap.size) (hkn : ¬ (kn : Int) < 2) (h0 : (0 : Int) < kn) (hP : ∀ W, Calls Tryz.prog 15 #[.agg #[.int .i64 42, .string str, .int .u32 num, .bool flag, .slice (some ⟨b0, o0, none⟩) kn kc, .int .i64 pos], .bool false, .bool false, .bool false] W fun e w' => e = .returned (.bool true) ∧ Below W.heap.size W w') (c00 : w.cell? ⟨b0, o0, none⟩ = some (.int .i64 k0)) (c01 : w.cell? ⟨b0, o0 + 1, none⟩ = some (.string s0)) (c02 : w.cell? ⟨b0, o0 + 2, none⟩ = some (.int .u32 n0)) (c03 : w.cell? ⟨b0, o0 + 3, none⟩ = some (.bool f0)) (c04 : w.cell? ⟨b0, o0 + 4, none⟩ = some v0) (c05 : w.cell? ⟨b0, o0 + 5, none⟩ = some (.int .i64 p0)) (hT : ∀ W, Below w.heap.size w W → Calls Tryz.prog 29 #[.agg #[.int .i64 k0, .string s0, .int .u32 n0, .bool f0, v0, .int .i64 p0]] W fun e w' => e = .returned (.bool false) ∧ Below W.heap.size W w') :
    Calls Tryz.prog 17 #[.agg #[.int .i64 42, .string str, .int .u32 num, .bool flag, .slice (some ⟨b0, o0, none⟩) kn kc, .int .i64 pos], .bool bare] w fun e w' => e = .returned (.bool false) ∧ Below w.heap.size w w' := by
  go_enter Tryz.func17, Tryz.ntmps17
  go_wp2_with (first
    | (go_at_call 15; (with_reducible refine (hP _).mono ?_); rintro e1 w1 ⟨rfl, hb1⟩; obtain ⟨hc1, hf1⟩ := bcell hb1; have hs1 : w.heap.size < w1.heap.size := (by have := hb1.size; simp at this; omega); have hx1 : b0 < w1.heap.size := (by omega))
    | (go_at_call 29; (with_reducible refine (hT _ (below_on (below1 _ _) hb1)).mono ?_); rintro e3 w3 ⟨rfl, hb3⟩; obtain ⟨hc3, hf3⟩ := bcell hb3))
  all_goals (go_ret; exact ⟨rfl, (below_on (below_on (below1 _ _) hb1) hb3)⟩)

/-- A kid's question with a flag, met in every later world. -/
def KidQB (w : World) (ao : Option Addr) (ks : List Tr) (g : FuncId) (bare : Bool) (F : Tr → Bool) : Prop :=
  ∀ (W : World), Below w.heap.size w W → ∀ i (h : i < ks.length), ∃ b off x kv, ao = some ⟨b, off, none⟩ ∧ b < W.heap.size ∧ NdAt W b (off + i * 6) x kv ∧ Calls Tryz.prog g #[ndV x kv, .bool bare] W fun e w' => e = .returned (.bool (F ks[i])) ∧ Below W.heap.size W w'

set_option maxHeartbeats 4000000 in
set_option maxRecDepth 20000 in
theorem vars17_all {w : World} {str : ByteArray} {num pos : Int} {flag bare : Bool} {b0 o0 kc : Nat} {ks : List Tr} {F : Tr → Bool} {X : Bool} {k0 n0 p0 : Int} {s0 : ByteArray} {f0 : Bool} {v0 : Value} (hlt : b0 < w.heap.size) (hl : ks.length ≤ 9223372036854775807) (hkn : ¬ (ks.length : Int) < 2) (h0 : (0 : Int) < ks.length) (hP : ∀ W, Calls Tryz.prog 15 #[.agg #[.int .i64 42, .string str, .int .u32 num, .bool flag, .slice (some ⟨b0, o0, none⟩) ks.length kc, .int .i64 pos], .bool false, .bool false, .bool false] W fun e w' => e = .returned (.bool true) ∧ Below W.heap.size W w') (c00 : w.cell? ⟨b0, o0, none⟩ = some (.int .i64 k0)) (c01 : w.cell? ⟨b0, o0 + 1, none⟩ = some (.string s0)) (c02 : w.cell? ⟨b0, o0 + 2, none⟩ = some (.int .u32 n0)) (c03 : w.cell? ⟨b0, o0 + 3, none⟩ = some (.bool f0)) (c04 : w.cell? ⟨b0, o0 + 4, none⟩ = some v0) (c05 : w.cell? ⟨b0, o0 + 5, none⟩ = some (.int .i64 p0)) (hT : ∀ W, Below w.heap.size w W → Calls Tryz.prog 29 #[.agg #[.int .i64 k0, .string s0, .int .u32 n0, .bool f0, v0, .int .i64 p0]] W fun e w' => e = .returned (.bool true) ∧ Below W.heap.size W w')
    (H : KidQB w (some ⟨b0, o0, none⟩) ks 30 bare F) (hX : X = (ks.drop 1).all F) :
    Calls Tryz.prog 17 #[.agg #[.int .i64 42, .string str, .int .u32 num, .bool flag, .slice (some ⟨b0, o0, none⟩) ks.length kc, .int .i64 pos], .bool bare] w fun e w' => e = .returned (.bool X) ∧ Below w.heap.size w w' := by
  have HH := hid' H
  have HX := hid' hX
  clear H hX
  go_enter Tryz.func17, Tryz.ntmps17
  go_wp2_with (first
    | (go_at_call 15; (with_reducible refine (hP _).mono ?_); rintro e1 w1 ⟨rfl, hb1⟩; obtain ⟨hc1, hf1⟩ := bcell hb1; have hs1 : w.heap.size < w1.heap.size := (by have := hb1.size; simp at this; omega); have hx1 : b0 < w1.heap.size := (by omega))
    | (go_at_call 29; (with_reducible refine (hT _ (below_on (below1 _ _) hb1)).mono ?_); rintro e3 w3 ⟨rfl, hb3⟩; obtain ⟨hc3, hf3⟩ := bcell hb3; have hs3 : w.heap.size < w3.heap.size := (by have := hb3.size; omega); have d4 : w3.cell? ⟨w.heap.size, 4, none⟩ = some (.slice (some ⟨b0, o0, none⟩) ks.length kc) := (by rw [hc3 _ _ hs1, hc1 _ _ (by simp)]; simp [go_sem]); have HB3 : Hid (Below w.heap.size w w3) := (below_on (below_on (below1 _ _) hb1) hb3); clear hc3 hf3))
  clear hc1 hf1 hb1 hb3 hs1 hx1 hP hT c00 c01 c02 c03 c04 c05
  go_loopw [5] (fun i wr => ∃ j : Nat, 1 ≤ j ∧ j ≤ ks.length ∧ i = .int .i64 (j : Nat) ∧ (∀ m (hm : m < ks.length), 1 ≤ m → m < j → F ks[m] = true) ∧ Below w3.heap.size w3 wr) (fun i _ => ks.length - (intOf i).toNat)
  case atStart => exact ⟨1, Nat.le_refl _, by omega, rfl, fun m _ h1 hm => by omega, Below.refl _ _⟩
  case round =>
    obtain ⟨j, hj1, hj, rfl, hok, hBw⟩ := hrel
    have HOK := hid' hok
    have HBW := hid' hBw
    have e4 := (hBw.cell (p := ⟨w.heap.size, 4, none⟩) hs3).trans d4
    have hl' : w.heap.size < wr.heap.size := Nat.lt_of_lt_of_le hs3 hBw.size
    clear hok hBw
    by_cases hjt : j < ks.length
    · obtain ⟨b, off, x', kv', e, hlb, ⟨c0, c1, c2, c3, c5, c6⟩, hC⟩ := HH.out wr (below_on HB3.out HBW.out) j hjt
      obtain ⟨rfl, rfl⟩ : b0 = b ∧ o0 = off := by simpa using e
      clear e
      have hlt' : (j : Int) < ks.length := by omega
      cases hF : F ks[j] with
      | true =>
        rw [hF] at hC
        have HN : Hid (∀ m (hm : m < ks.length), 1 ≤ m → m < j + 1 → F ks[m] = true) := fun m hm h1 hmj => by
          by_cases e : m = j
          · subst e; exact hF
          · exact HOK.out m hm h1 (by omega)
        have hc := hid' hC
        clear hC hF
        unfold ndV at hc
        go_wp2_with (go_at_call 30; (with_reducible refine hc.out.mono ?_); rintro e w4 ⟨rfl, hb4⟩; replace hb4 := hid' hb4)
        go_roundw
        case rel => exact ⟨j + 1, by omega, by omega, by go_num, HN.out, below_on HBW.out hb4.out⟩
        case measure => simp [intOf]; omega
      | false =>
        rw [hF] at hC
        have HN : Hid (X = false) := HX.out.trans (by
          rw [List.all_eq_false]
          exact ⟨ks[j], List.mem_drop_iff_getElem.2 ⟨j - 1, by omega, by congr 1; omega⟩, by rw [hF]; exact Bool.noConfusion⟩)
        have hc := hid' hC
        clear hC hF
        unfold ndV at hc
        go_wp2_with (go_at_call 30; (with_reducible refine hc.out.mono ?_); rintro e w4 ⟨rfl, hb4⟩; replace hb4 := hid' hb4)
        go_ret
        exact ⟨by rw [HN.out]; rfl, below_on HB3.out (below_on HBW.out hb4.out)⟩
    · have e : j = ks.length := by omega
      subst e
      have HN : Hid (X = true) := HX.out.trans (List.all_eq_true.2 fun t ht => by
        obtain ⟨m, hm, rfl⟩ := List.mem_drop_iff_getElem.1 ht
        exact HOK.out _ _ (by omega) (by omega))
      go_wp2_with fail
      go_ret
      exact ⟨by rw [HN.out]; rfl, below_on HB3.out HBW.out⟩

theorem take_one : ∀ {ks : List Tr} (h : 0 < ks.length), ks.take 1 = [ks[0]]
  | t :: l, _ => rfl
theorem varsD_few {x : NdH} {ks : List Tr} {bare : Bool} (h : ks.length < 2) : varsD x ks bare = false := by
  have h2 : decide (2 ≤ ks.length) = false := decide_eq_false (by omega)
  unfold varsD
  rw [h2, Bool.false_and, Bool.and_false, Bool.and_false]
theorem varsD_is {x : NdH} {ks : List Tr} {bare A : Bool} (hk : (x.kind == 42) = true) (hp : partsF x false false false = true) (h : ¬ ks.length < 2) (ha : (ks.take 1).all typedT = A) : varsD x ks bare = (A && (ks.drop 1).all (varT bare)) := by
  have h2 : decide (2 ≤ ks.length) = true := decide_eq_true (by omega)
  unfold varsD
  rw [hk, hp, h2, ha, Bool.true_and, Bool.true_and, Bool.true_and]
theorem kidq_var {cb n : Nat} {w : World} {ao : Option Addr} {cap : Nat} {ks : List Tr} (hK : Ks cb n w (.slice ao ks.length cap) ks) (hks : allL typedN ks = true) (bare : Bool) : KidQB w ao ks 30 bare (varT bare) := fun W hW i hi => by
  obtain ⟨m, b, off, x', kv', ks', hm, e, ⟨hlt, hne⟩, he, hc, hk⟩ := (hK.below hW).kid i hi
  refine ⟨b, off, x', kv', e, hlt, hc, ?_⟩
  have ht := typed_kid hks i hi
  rw [he] at ht ⊢
  rw [varT_node]
  exact variable30 hk ht bare

set_option maxHeartbeats 4000000 in
set_option maxRecDepth 20000 in
theorem vars17 {cb n : Nat} {w : World} {x : NdH} {kv : Value} {ks : List Tr} (hK : Ks cb n w kv ks) (ht : allT typedN (Tr.node x ks) = true) (bare : Bool) :
    Calls Tryz.prog 17 #[ndV x kv, .bool bare] w fun e w' => e = .returned (.bool (varsD x ks bare)) ∧ Below w.heap.size w w' := by
  obtain ⟨hlen, ao, cap, rfl⟩ := hK.shape
  rw [allT_node, Bool.and_eq_true] at ht
  obtain ⟨hx, hks⟩ := ht
  cases hkd : x.kind == 42 with
  | false =>
    have e : varsD x ks bare = false := by unfold varsD; rw [hkd]; rfl
    rw [e]
    exact vars17_kind hkd
  | true =>
  obtain ⟨kind, str, num, flag, pos⟩ := x
  obtain rfl : kind = 42 := eq_of_beq hkd
  clear hkd
  have hP := fun W => parts15 ⟨42, str, num, flag, pos⟩ ao ks.length cap false false false W
  cases hp : partsF ⟨42, str, num, flag, pos⟩ false false false with
  | false =>
    have e : varsD ⟨42, str, num, flag, pos⟩ ks bare = false := by unfold varsD; rw [hp]; rfl
    rw [e]
    rw [hp] at hP
    exact vars17_parts hP
  | true =>
  rw [hp] at hP
  by_cases h2 : ks.length < 2
  · rw [varsD_few h2]
    exact vars17_few (by omega) hP
  have h0 : 0 < ks.length := by omega
  obtain ⟨m, b, off, x0, kv0, l0, hm, rfl, ⟨hlt, hne⟩, he, hc, hk⟩ := hK.kid 0 h0
  have ht0 := typed_kid hks 0 h0
  rw [he, allT_node, Bool.and_eq_true] at ht0
  simp only [Nat.zero_mul, Nat.add_zero] at hc
  obtain ⟨c0, c1, c2, c3, c4, c5⟩ := hc
  obtain ⟨hl0, ao0, cap0, rfl⟩ := hk.shape
  have hT := fun W (hW : Below w.heap.size w W) => typed29 x0 ao0 l0.length cap0 (str_small ht0.1) W
  have htk : (ks.take 1).all typedT = typedF x0 l0.length := by
    rw [take_one h0, he, List.all_cons, List.all_nil, Bool.and_true, typedT_node]
  rw [varsD_is rfl hp h2 htk]
  cases hty : typedF x0 l0.length with
  | false =>
    rw [hty] at hT
    rw [Bool.false_and]
    exact vars17_type hlt (by omega) (by omega) hP c0 c1 c2 c3 c4 c5 hT
  | true =>
    rw [hty] at hT
    rw [Bool.true_and]
    exact vars17_all hlt hlen (by omega) (by omega) hP c0 c1 c2 c3 c4 c5 hT (kidq_var hK hks bare) rfl
theorem kidq_vars {cb n : Nat} {w : World} {ao : Option Addr} {cap : Nat} {ks : List Tr} (hK : Ks cb n w (.slice ao ks.length cap) ks) (hks : allL typedN ks = true) (bare : Bool) : KidQB w ao ks 17 bare (varsT bare) := fun W hW i hi => by
  obtain ⟨m, b, off, x', kv', ks', hm, e, ⟨hlt, hne⟩, he, hc, hk⟩ := (hK.below hW).kid i hi
  refine ⟨b, off, x', kv', e, hlt, hc, ?_⟩
  have ht := typed_kid hks i hi
  rw [he] at ht ⊢
  rw [varsT_node]
  exact vars17 hk ht bare
end Go.Proofs.YtnnnfabpceapcaaGreatDoor

namespace Go.Proofs.YtnnnfabpceapcaaGreatDoor
set_option linter.unusedSimpArgs false
open Go.RowKit
set_option linter.unusedVariables false
set_option linter.unusedSimpArgs false

def recD (x : NdH) (ks : List Tr) : Bool := x.kind == 41 && (partsF x true false false && (nameB x.str && ks.all (varsT true)))

set_option maxHeartbeats 4000000 in
set_option maxRecDepth 20000 in
theorem rec16_kind {w : World} {str : ByteArray} {num pos kind : Int} {flag : Bool} {ka : Option Addr} {kn kc : Nat} (hk : (kind == 41) = false) :
    Calls Tryz.prog 16 #[.agg #[.int .i64 kind, .string str, .int .u32 num, .bool flag, .slice ka kn kc, .int .i64 pos]] w fun e w' => e = .returned (.bool false) ∧ Below w.heap.size w w' := by
  have hk1 : ¬ kind = 41 := by intro h; rw [h] at hk; exact Bool.noConfusion hk
  go_enter Tryz.func16, Tryz.ntmps16
  go_wp2_with fail
  all_goals (go_ret; exact ⟨rfl, below1 _ _⟩)
set_option maxHeartbeats 4000000 in
set_option maxRecDepth 20000 in
theorem rec16_parts {w : World} {str : ByteArray} {num pos : Int} {flag : Bool} {ka : Option Addr} {kn kc : Nat} (hP : ∀ W, Calls Tryz.prog 15 #[.agg #[.int .i64 41, .string str, .int .u32 num, .bool flag, .slice ka kn kc, .int .i64 pos], .bool true, .bool false, .bool false] W fun e w' => e = .returned (.bool false) ∧ Below W.heap.size W w') :
    Calls Tryz.prog 16 #[.agg #[.int .i64 41, .string str, .int .u32 num, .bool flag, .slice ka kn kc, .int .i64 pos]] w fun e w' => e = .returned (.bool false) ∧ Below w.heap.size w w' := by
  go_enter Tryz.func16, Tryz.ntmps16
  go_wp2_with (go_at_call 15; (with_reducible refine (hP _).mono ?_); rintro e1 w1 ⟨rfl, hb1⟩; obtain ⟨hc1, hf1⟩ := bcell hb1; have hs1 : w.heap.size < w1.heap.size := (by have := hb1.size; simp at this; omega))
  all_goals (go_ret; exact ⟨rfl, (below_on (below1 _ _) hb1)⟩)
set_option maxHeartbeats 4000000 in
set_option maxRecDepth 20000 in
theorem rec16_name {w : World} {str : ByteArray} {num pos : Int} {flag : Bool} {ka : Option Addr} {kn kc : Nat} (hP : ∀ W, Calls Tryz.prog 15 #[.agg #[.int .i64 41, .string str, .int .u32 num, .bool flag, .slice ka kn kc, .int .i64 pos], .bool true, .bool false, .bool false] W fun e w' => e = .returned (.bool true) ∧ Below W.heap.size W w') (hN : ∀ W, Calls Tryz.prog 28 #[.string str] W fun e w' => e = .returned (.bool false) ∧ w' = W) :
    Calls Tryz.prog 16 #[.agg #[.int .i64 41, .string str, .int .u32 num, .bool flag, .slice ka kn kc, .int .i64 pos]] w fun e w' => e = .returned (.bool false) ∧ Below w.heap.size w w' := by
  go_enter Tryz.func16, Tryz.ntmps16
  go_wp2_with (first
    | (go_at_call 15; (with_reducible refine (hP _).mono ?_); rintro e1 w1 ⟨rfl, hb1⟩; obtain ⟨hc1, hf1⟩ := bcell hb1; have hs1 : w.heap.size < w1.heap.size := (by have := hb1.size; simp at this; omega))
    | (go_at_call 28; (with_reducible refine (hN _).mono ?_); rintro e2 w2 ⟨rfl, rfl⟩))
  all_goals (go_ret; exact ⟨rfl, (below_on (below1 _ _) hb1)⟩)

set_option maxHeartbeats 4000000 in
set_option maxRecDepth 20000 in
theorem rec16_all {w : World} {str : ByteArray} {num pos : Int} {flag : Bool} {ao : Option Addr} {kc : Nat} {ks : List Tr} {F : Tr → Bool} {X : Bool} (hl : ks.length ≤ 9223372036854775807) (hP : ∀ W, Calls Tryz.prog 15 #[.agg #[.int .i64 41, .string str, .int .u32 num, .bool flag, .slice ao ks.length kc, .int .i64 pos], .bool true, .bool false, .bool false] W fun e w' => e = .returned (.bool true) ∧ Below W.heap.size W w') (hN : ∀ W, Calls Tryz.prog 28 #[.string str] W fun e w' => e = .returned (.bool true) ∧ w' = W)
    (H : KidQB w ao ks 17 true F) (hX : X = ks.all F) :
    Calls Tryz.prog 16 #[.agg #[.int .i64 41, .string str, .int .u32 num, .bool flag, .slice ao ks.length kc, .int .i64 pos]] w fun e w' => e = .returned (.bool X) ∧ Below w.heap.size w w' := by
  have HH := hid' H
  have HX := hid' hX
  clear H hX
  go_enter Tryz.func16, Tryz.ntmps16
  go_wp2_with (first
    | (go_at_call 15; (with_reducible refine (hP _).mono ?_); rintro e1 w1 ⟨rfl, hb1⟩; obtain ⟨hc1, hf1⟩ := bcell hb1; have hs1 : w.heap.size < w1.heap.size := (by have := hb1.size; simp at this; omega))
    | (go_at_call 28; (with_reducible refine (hN _).mono ?_); rintro e2 w3 ⟨rfl, rfl⟩; have d4 : w3.cell? ⟨w.heap.size, 4, none⟩ = some (.slice ao ks.length kc) := (by rw [hc1 _ _ (by simp)]; simp [go_sem]); have HB3 : Hid (Below w.heap.size w w3) := (below_on (below1 _ _) hb1)))
  clear hc1 hf1 hb1 hP hN
  go_loopw [3] (fun i wr => ∃ j : Nat, j ≤ ks.length ∧ i = .int .i64 (j : Nat) ∧ (∀ m (hm : m < ks.length), m < j → F ks[m] = true) ∧ Below w3.heap.size w3 wr) (fun i _ => ks.length - (intOf i).toNat)
  case atStart => exact ⟨0, by omega, rfl, fun m _ hm => by omega, Below.refl _ _⟩
  case round =>
    obtain ⟨j, hj, rfl, hok, hBw⟩ := hrel
    have HOK := hid' hok
    have HBW := hid' hBw
    have e4 := (hBw.cell (p := ⟨w.heap.size, 4, none⟩) hs1).trans d4
    have hl' : w.heap.size < wr.heap.size := Nat.lt_of_lt_of_le hs1 hBw.size
    clear hok hBw
    by_cases hjt : j < ks.length
    · obtain ⟨b, off, x', kv', rfl, hlb, ⟨c0, c1, c2, c3, c5, c6⟩, hC⟩ := HH.out wr (below_on HB3.out HBW.out) j hjt
      have hlt' : (j : Int) < ks.length := by omega
      cases hF : F ks[j] with
      | true =>
        rw [hF] at hC
        have HN : Hid (∀ m (hm : m < ks.length), m < j + 1 → F ks[m] = true) := fun m hm hmj => by
          by_cases e : m = j
          · subst e; exact hF
          · exact HOK.out m hm (by omega)
        have hc := hid' hC
        clear hC hF
        unfold ndV at hc
        go_wp2_with (go_at_call 17; (with_reducible refine hc.out.mono ?_); rintro e w4 ⟨rfl, hb4⟩; replace hb4 := hid' hb4)
        go_roundw
        case rel => exact ⟨j + 1, by omega, by go_num, HN.out, below_on HBW.out hb4.out⟩
        case measure => simp [intOf]; omega
      | false =>
        rw [hF] at hC
        have HN : Hid (X = false) := HX.out.trans (by
          rw [List.all_eq_false]
          exact ⟨ks[j], List.getElem_mem hjt, by rw [hF]; exact Bool.noConfusion⟩)
        have hc := hid' hC
        clear hC hF
        unfold ndV at hc
        go_wp2_with (go_at_call 17; (with_reducible refine hc.out.mono ?_); rintro e w4 ⟨rfl, hb4⟩; replace hb4 := hid' hb4)
        go_ret
        exact ⟨by rw [HN.out]; rfl, below_on HB3.out (below_on HBW.out hb4.out)⟩
    · have e : j = ks.length := by omega
      subst e
      have HN : Hid (X = true) := HX.out.trans (List.all_eq_true.2 fun t ht => by
        obtain ⟨m, hm, rfl⟩ := List.getElem_of_mem ht
        exact HOK.out m hm hm)
      go_wp2_with fail
      go_ret
      exact ⟨by rw [HN.out]; rfl, below_on HB3.out HBW.out⟩

theorem recD_is {x : NdH} {ks : List Tr} (hk : (x.kind == 41) = true) (hp : partsF x true false false = true) (hn : nameB x.str = true) : recD x ks = ks.all (varsT true) := by
  unfold recD
  rw [hk, hp, hn, Bool.true_and, Bool.true_and, Bool.true_and]
set_option maxHeartbeats 4000000 in
set_option maxRecDepth 20000 in
theorem record16 {cb n : Nat} {w : World} {x : NdH} {kv : Value} {ks : List Tr} (hK : Ks cb n w kv ks) (ht : allT typedN (Tr.node x ks) = true) :
    Calls Tryz.prog 16 #[ndV x kv] w fun e w' => e = .returned (.bool (recD x ks)) ∧ Below w.heap.size w w' := by
  obtain ⟨hlen, ao, cap, rfl⟩ := hK.shape
  rw [allT_node, Bool.and_eq_true] at ht
  obtain ⟨hx, hks⟩ := ht
  have hs := str_small hx
  cases hkd : x.kind == 41 with
  | false =>
    have e : recD x ks = false := by unfold recD; rw [hkd]; rfl
    rw [e]
    exact rec16_kind hkd
  | true =>
  obtain ⟨kind, str, num, flag, pos⟩ := x
  obtain rfl : kind = 41 := eq_of_beq hkd
  clear hkd
  have hP := fun W => parts15 ⟨41, str, num, flag, pos⟩ ao ks.length cap true false false W
  have hN := fun W => name28 str hs W
  cases hp : partsF ⟨41, str, num, flag, pos⟩ true false false with
  | false =>
    have e : recD ⟨41, str, num, flag, pos⟩ ks = false := by unfold recD; rw [hp]; rfl
    rw [e]
    rw [hp] at hP
    exact rec16_parts hP
  | true =>
  rw [hp] at hP
  cases hn : nameB str with
  | false =>
    have e : recD ⟨41, str, num, flag, pos⟩ ks = false := by unfold recD; rw [hp, hn]; rfl
    rw [e]
    rw [hn] at hN
    exact rec16_name hP hN
  | true =>
  rw [hn] at hN
  rw [recD_is rfl hp hn]
  exact rec16_all hlen hP hN (kidq_vars hK hks true) rfl
end Go.Proofs.YtnnnfabpceapcaaGreatDoor

namespace Go.Proofs.YtnnnfabpceapcaaGreatDoor
set_option linter.unusedSimpArgs false
open Go.RowKit
set_option linter.unusedVariables false
set_option linter.unusedSimpArgs false

def blkD (F : Tr → Bool) (x : NdH) (ks : List Tr) : Bool := x.kind == 47 && (partsF x false false false && ks.all (fun t => varsT false t || F t))

set_option maxHeartbeats 4000000 in
set_option maxRecDepth 20000 in
theorem blk31_kind {w : World} {str : ByteArray} {num pos kind : Int} {flag : Bool} {ka : Option Addr} {kn kc : Nat} (hk : (kind == 47) = false) :
    Calls Tryz.prog 31 #[.agg #[.int .i64 kind, .string str, .int .u32 num, .bool flag, .slice ka kn kc, .int .i64 pos]] w fun e w' => e = .returned (.bool false) ∧ Below w.heap.size w w' := by
  have hk1 : ¬ kind = 47 := by intro h; rw [h] at hk; exact Bool.noConfusion hk
  go_enter Tryz.func31, Tryz.ntmps31
  go_wp2_with fail
  all_goals (go_ret; exact ⟨rfl, below1 _ _⟩)
set_option maxHeartbeats 4000000 in
set_option maxRecDepth 20000 in
theorem blk31_parts {w : World} {str : ByteArray} {num pos : Int} {flag : Bool} {ka : Option Addr} {kn kc : Nat} (hP : ∀ W, Calls Tryz.prog 15 #[.agg #[.int .i64 47, .string str, .int .u32 num, .bool flag, .slice ka kn kc, .int .i64 pos], .bool false, .bool false, .bool false] W fun e w' => e = .returned (.bool false) ∧ Below W.heap.size W w') :
    Calls Tryz.prog 31 #[.agg #[.int .i64 47, .string str, .int .u32 num, .bool flag, .slice ka kn kc, .int .i64 pos]] w fun e w' => e = .returned (.bool false) ∧ Below w.heap.size w w' := by
  go_enter Tryz.func31, Tryz.ntmps31
  go_wp2_with (go_at_call 15; (with_reducible refine (hP _).mono ?_); rintro e1 w1 ⟨rfl, hb1⟩; obtain ⟨hc1, hf1⟩ := bcell hb1; have hs1 : w.heap.size < w1.heap.size := (by have := hb1.size; simp at this; omega))
  all_goals (go_ret; exact ⟨rfl, (below_on (below1 _ _) hb1)⟩)

set_option maxHeartbeats 4000000 in
set_option maxRecDepth 20000 in
theorem blk31_all {w : World} {str : ByteArray} {num pos : Int} {flag : Bool} {ao : Option Addr} {kc : Nat} {ks : List Tr} {F G : Tr → Bool} {X : Bool} (hl : ks.length ≤ 9223372036854775807) (hP : ∀ W, Calls Tryz.prog 15 #[.agg #[.int .i64 47, .string str, .int .u32 num, .bool flag, .slice ao ks.length kc, .int .i64 pos], .bool false, .bool false, .bool false] W fun e w' => e = .returned (.bool true) ∧ Below W.heap.size W w')
    (H : KidQB w ao ks 17 false F) (H2 : KidQ w ao ks 54 G) (hX : X = ks.all (fun t => F t || G t)) :
    Calls Tryz.prog 31 #[.agg #[.int .i64 47, .string str, .int .u32 num, .bool flag, .slice ao ks.length kc, .int .i64 pos]] w fun e w' => e = .returned (.bool X) ∧ Below w.heap.size w w' := by
  have HH := hid' H
  have HH2 := hid' H2
  have HX := hid' hX
  clear H hX H2
  go_enter Tryz.func31, Tryz.ntmps31
  go_wp2_with (go_at_call 15; (with_reducible refine (hP _).mono ?_); rintro e1 w3 ⟨rfl, hb1⟩; obtain ⟨hc1, hf1⟩ := bcell hb1; have hs1 : w.heap.size < w3.heap.size := (by have := hb1.size; simp at this; omega); have d4 : w3.cell? ⟨w.heap.size, 4, none⟩ = some (.slice ao ks.length kc) := (by rw [hc1 _ _ (by simp)]; simp [go_sem]); have HB3 : Hid (Below w.heap.size w w3) := (below_on (below1 _ _) hb1))
  clear hc1 hf1 hb1 hP
  go_loopw [3] (fun i wr => ∃ j : Nat, j ≤ ks.length ∧ i = .int .i64 (j : Nat) ∧ (∀ m (hm : m < ks.length), m < j → (F ks[m] || G ks[m]) = true) ∧ Below w3.heap.size w3 wr) (fun i _ => ks.length - (intOf i).toNat)
  case atStart => exact ⟨0, by omega, rfl, fun m _ hm => by omega, Below.refl _ _⟩
  case round =>
    obtain ⟨j, hj, rfl, hok, hBw⟩ := hrel
    have HOK := hid' hok
    have HBW := hid' hBw
    have e4 := (hBw.cell (p := ⟨w.heap.size, 4, none⟩) hs1).trans d4
    have hl' : w.heap.size < wr.heap.size := Nat.lt_of_lt_of_le hs1 hBw.size
    clear hok hBw
    by_cases hjt : j < ks.length
    · obtain ⟨b, off, x', kv', rfl, hlb, ⟨c0, c1, c2, c3, c5, c6⟩, hC⟩ := HH.out wr (below_on HB3.out HBW.out) j hjt
      have hlt' : (j : Int) < ks.length := by omega
      have hG : Hid (∀ W, Below wr.heap.size wr W → Calls Tryz.prog 54 #[ndV x' kv'] W fun e w' => e = .returned (.bool (G ks[j])) ∧ Below W.heap.size W w') := fun W hW => by
        obtain ⟨b2, off2, x2, kv2, e2, hlb2, hc2, hC2⟩ := HH2.out W (below_on (below_on HB3.out HBW.out) hW) j hjt
        obtain ⟨rfl, rfl⟩ : b = b2 ∧ off = off2 := by simpa using e2
        obtain ⟨a0, a1, a2, a3, a5, a6⟩ := hc2
        have k0 := (hW.cell (p := ⟨b, off + j * 6, none⟩) hlb).trans c0
        have k1 := (hW.cell (p := ⟨b, off + j * 6 + 1, none⟩) hlb).trans c1
        have k2 := (hW.cell (p := ⟨b, off + j * 6 + 2, none⟩) hlb).trans c2
        have k3 := (hW.cell (p := ⟨b, off + j * 6 + 3, none⟩) hlb).trans c3
        have k5 := (hW.cell (p := ⟨b, off + j * 6 + 4, none⟩) hlb).trans c5
        have k6 := (hW.cell (p := ⟨b, off + j * 6 + 5, none⟩) hlb).trans c6
        have e : ndV x' kv' = ndV x2 kv2 := by
          unfold ndV
          have i0 := Option.some.inj (k0.symm.trans a0)
          have i1 := Option.some.inj (k1.symm.trans a1)
          have i2 := Option.some.inj (k2.symm.trans a2)
          have i3 := Option.some.inj (k3.symm.trans a3)
          have i5 := Option.some.inj (k5.symm.trans a5)
          have i6 := Option.some.inj (k6.symm.trans a6)
          rw [i0, i1, i2, i3, i5, i6]
        rw [e]
        exact hC2
      unfold ndV at hC hG
      cases hF : F ks[j] with
      | true =>
        rw [hF] at hC
        have HN : Hid (∀ m (hm : m < ks.length), m < j + 1 → (F ks[m] || G ks[m]) = true) := fun m hm hmj => by
          by_cases e : m = j
          · subst e; rw [hF]; rfl
          · exact HOK.out m hm (by omega)
        have hc := hid' hC
        clear hC hF hG
        go_wp2_with (go_at_call 17; (with_reducible refine hc.out.mono ?_); rintro e w4 ⟨rfl, hb4⟩; replace hb4 := hid' hb4)
        go_roundw
        case rel => exact ⟨j + 1, by omega, by go_num, HN.out, below_on HBW.out hb4.out⟩
        case measure => simp [intOf]; omega
      | false =>
        rw [hF] at hC
        cases hF2 : G ks[j] with
        | true =>
          rw [hF2] at hG
          have HN : Hid (∀ m (hm : m < ks.length), m < j + 1 → (F ks[m] || G ks[m]) = true) := fun m hm hmj => by
            by_cases e : m = j
            · subst e; rw [hF2]; simp
            · exact HOK.out m hm (by omega)
          have hc := hid' hC
          clear hC hF hF2
          go_wp2_with (first
            | (go_at_call 17; (with_reducible refine hc.out.mono ?_); rintro e w4 ⟨rfl, hb4⟩; obtain ⟨hc4, hf4⟩ := bcell hb4; have hs4 : w.heap.size < w4.heap.size := (by have := hb4.size; omega); have hx4 : b < w4.heap.size := (by have := hb4.size; omega))
            | (go_at_call 54; (with_reducible refine (hG.out _ hb4).mono ?_); rintro e w5 ⟨rfl, hb5⟩; replace hb5 := hid' hb5))
          go_roundw
          case rel => exact ⟨j + 1, by omega, by go_num, HN.out, below_on HBW.out (below_on hb4 hb5.out)⟩
          case measure => simp [intOf]; omega
        | false =>
          rw [hF2] at hG
          have HN : Hid (X = false) := HX.out.trans (by
            rw [List.all_eq_false]
            exact ⟨ks[j], List.getElem_mem hjt, by rw [hF, hF2]; exact Bool.noConfusion⟩)
          have hc := hid' hC
          clear hC hF hF2
          go_wp2_with (first
            | (go_at_call 17; (with_reducible refine hc.out.mono ?_); rintro e w4 ⟨rfl, hb4⟩; obtain ⟨hc4, hf4⟩ := bcell hb4; have hs4 : w.heap.size < w4.heap.size := (by have := hb4.size; omega); have hx4 : b < w4.heap.size := (by have := hb4.size; omega))
            | (go_at_call 54; (with_reducible refine (hG.out _ hb4).mono ?_); rintro e w5 ⟨rfl, hb5⟩; replace hb5 := hid' hb5))
          go_ret
          exact ⟨by rw [HN.out]; rfl, below_on HB3.out (below_on HBW.out (below_on hb4 hb5.out))⟩
    · have e : j = ks.length := by omega
      subst e
      have HN : Hid (X = true) := HX.out.trans (List.all_eq_true.2 fun t ht => by
        obtain ⟨m, hm, rfl⟩ := List.getElem_of_mem ht
        exact HOK.out m hm hm)
      go_wp2_with fail
      go_ret
      exact ⟨by rw [HN.out]; rfl, below_on HB3.out HBW.out⟩

theorem blkD_is {F : Tr → Bool} {x : NdH} {ks : List Tr} (hk : (x.kind == 47) = true) (hp : partsF x false false false = true) : blkD F x ks = ks.all (fun t => varsT false t || F t) := by
  unfold blkD
  rw [hk, hp, Bool.true_and, Bool.true_and]
set_option maxHeartbeats 4000000 in
set_option maxRecDepth 20000 in
theorem block31 {w : World} {x : NdH} {ao : Option Addr} {cap : Nat} {ks : List Tr} {F : Tr → Bool} (hlen : ks.length ≤ 9223372036854775807) (hV : KidQB w ao ks 17 false (varsT false)) (hS : KidQ w ao ks 54 F) :
    Calls Tryz.prog 31 #[ndV x (.slice ao ks.length cap)] w fun e w' => e = .returned (.bool (blkD F x ks)) ∧ Below w.heap.size w w' := by
  cases hkd : x.kind == 47 with
  | false =>
    have e : blkD F x ks = false := by unfold blkD; rw [hkd]; rfl
    rw [e]
    exact blk31_kind hkd
  | true =>
  obtain ⟨kind, str, num, flag, pos⟩ := x
  obtain rfl : kind = 47 := eq_of_beq hkd
  clear hkd
  have hP := fun W => parts15 ⟨47, str, num, flag, pos⟩ ao ks.length cap false false false W
  cases hp : partsF ⟨47, str, num, flag, pos⟩ false false false with
  | false =>
    have e : blkD F ⟨47, str, num, flag, pos⟩ ks = false := by unfold blkD; rw [hp]; rfl
    rw [e]
    rw [hp] at hP
    exact blk31_parts hP
  | true =>
  rw [hp] at hP
  rw [blkD_is rfl hp]
  exact blk31_all hlen hP hV hS rfl
end Go.Proofs.YtnnnfabpceapcaaGreatDoor

namespace Go.Proofs.YtnnnfabpceapcaaGreatDoor
set_option linter.unusedSimpArgs false
open Go.RowKit
set_option linter.unusedVariables false
set_option linter.unusedSimpArgs false

theorem all_same {α : Type} {f g : α → Bool} : ∀ {l : List α}, (∀ t ∈ l, f t = g t) → l.all f = l.all g
  | [], _ => rfl
  | t :: l, h => by rw [List.all_cons, List.all_cons, h t (List.mem_cons_self ..), all_same (fun x hx => h x (List.mem_cons_of_mem _ hx))]
/-- A tree is as asked, and all in it may be. -/
def qR (F : Ask) (t : Tr) : Bool := onT F t && allT mayN t
theorem qR_node (F : Ask) (x : NdH) (ks : List Tr) : qR F (Tr.node x ks) = (F x ks && (mayN x ks && allL mayN ks)) := by unfold qR; rw [onT_node, allT_node]
theorem exR_q : exR = qR isExpr := rfl
def areR : List Ask → List Tr → Bool
  | [], [] => true
  | F :: Fs, t :: ts => qR F t && areR Fs ts
  | _, _ => false
theorem are_r : ∀ (Fs : List Ask) (ks : List Tr), (areK Fs ks && allL mayN ks) = areR Fs ks
  | [], [] => rfl
  | [], t :: r => rfl
  | F :: Fs, [] => rfl
  | F :: Fs, t :: r => by
    have ih := are_r Fs r
    have e1 : areK (F :: Fs) (t :: r) = (onT F t && areK Fs r) := rfl
    have e2 : areR (F :: Fs) (t :: r) = (qR F t && areR Fs r) := rfl
    rw [e1, e2, allL_cons, ← ih]
    unfold qR
    cases onT F t <;> cases allT mayN t <;> cases areK Fs r <;> cases allL mayN r <;> rfl
theorem all_r (F : Ask) : ∀ (ks : List Tr), (allK F ks && allL mayN ks) = ks.all (qR F)
  | [] => rfl
  | t :: r => by
    have ih := all_r F r
    have e1 : allK F (t :: r) = (onT F t && allK F r) := rfl
    have e2 : (t :: r).all (qR F) = (qR F t && r.all (qR F)) := rfl
    rw [e1, e2, allL_cons, ← ih]
    unfold qR
    cases onT F t <;> cases allT mayN t <;> cases allK F r <;> cases allL mayN r <;> rfl
theorem of_one (k : Int) (x : NdH) (ks : List Tr) : ofK [k] x ks = (x.kind == k) := by
  have e : ofK [k] x ks = (x.kind == k || false) := rfl
  rw [e, Bool.or_false]
theorem q_or (F G : Ask) (t : Tr) (ht : isT t = true) : qR (orK [F, G]) t = (qR F t || qR G t) := by
  obtain ⟨x, ks, rfl⟩ := isT_form ht
  rw [qR_node, qR_node, qR_node]
  have e : orK [F, G] x ks = (F x ks || (G x ks || false)) := rfl
  rw [e]
  cases F x ks <;> cases G x ks <;> cases mayN x ks <;> cases allL mayN ks <;> rfl

theorem typedT_q (t : Tr) (ht : isT t = true) : typedT t = qR (ofK [16]) t := by
  obtain ⟨x, ks, rfl⟩ := isT_form ht
  rw [typedT_node, typed_is]
  rfl
theorem len0 (ks : List Tr) : (ks.length == 0) = areR [] ks := by cases ks <;> rfl
theorem noneT_q (t : Tr) (ht : isT t = true) : noneT t = qR (ofK [56]) t := by
  obtain ⟨x, ks, rfl⟩ := isT_form ht
  rw [noneT_node, qR_node, of_one]
  unfold noneF
  cases hk : x.kind == 56 with
  | false => rfl
  | true =>
    obtain ⟨kind, str, num, flag, pos⟩ := x
    obtain rfl : kind = 56 := eq_of_beq hk
    have e : mayN ⟨56, str, num, flag, pos⟩ ks = (str.toList.isEmpty && (decide (num = 0) && (!flag && areK [] ks))) := rfl
    rw [len0, ← are_r, e]
    unfold partsF
    dsimp only
    rw [emp_dec, num_dec]
    cases str.toList.isEmpty <;> cases decide (num = 0) <;> cases flag <;> cases areK [] ks <;> cases allL mayN ks <;> rfl
theorem listR_q (t : Tr) (ht : isT t = true) : listR t = qR (ofK [44]) t := by
  obtain ⟨x, ks, rfl⟩ := isT_form ht
  rw [listR_node, qR_node, of_one]
  cases hk : x.kind == 44 with
  | false => rfl
  | true =>
    obtain ⟨kind, str, num, flag, pos⟩ := x
    obtain rfl : kind = 44 := eq_of_beq hk
    have e : mayN ⟨44, str, num, flag, pos⟩ ks = (str.toList.isEmpty && (decide (num = 0) && (!flag && (decide (1 ≤ ks.length) && allK isExpr ks)))) := rfl
    have e1 : decide (1 ≤ ks.length) = decide (0 < ks.length) := decide_eq_decide.2 (by omega)
    rw [exR_q, ← all_r, e, e1]
    unfold partsF
    dsimp only
    rw [emp_dec, num_dec]
    cases str.toList.isEmpty <;> cases decide (num = 0) <;> cases flag <;> cases decide (0 < ks.length) <;> cases allK isExpr ks <;> cases allL mayN ks <;> rfl

theorem var_rest {flag : Bool} {ks : List Tr} (hi : isL ks = true) :
    ((if flag then areK [orK [isExpr, ofK [56]]] ks || areK [orK [isExpr, ofK [56]], orK [isExpr, ofK [44]]] ks else areK [] ks || areK [isExpr] ks) && allL mayN ks) = (if flag then varFlag ks false else varRest false ks false) := by
  cases flag with
  | false =>
    rw [if_neg Bool.noConfusion, if_neg Bool.noConfusion, Bool.and_or_distrib_right, are_r, are_r]
    match ks with
    | [] => rfl
    | [t] =>
      have e : areR [isExpr] [t] = (exR t && true) := rfl
      have e2 : varRest false [t] false = (exR t) := by unfold varRest; simp
      have e3 : areR [] [t] = false := rfl
      rw [e, e2, e3, Bool.and_true, Bool.false_or]
    | t :: t1 :: r => simp [areR, varRest]
  | true =>
    rw [if_pos rfl, if_pos rfl, Bool.and_or_distrib_right, are_r, are_r]
    match ks, hi with
    | [], _ => rfl
    | [t], hi =>
      have h0 := isL_mem hi t (by simp)
      have e : areR [orK [isExpr, ofK [56]]] [t] = (qR (orK [isExpr, ofK [56]]) t && true) := rfl
      have e1 : areR [orK [isExpr, ofK [56]], orK [isExpr, ofK [44]]] [t] = (qR (orK [isExpr, ofK [56]]) t && false) := rfl
      have e2 : varFlag [t] false = ((noneT t || exR t) && true) := rfl
      rw [e, e1, e2, q_or _ _ _ h0, noneT_q _ h0, exR_q]
      cases qR isExpr t <;> cases qR (ofK [56]) t <;> rfl
    | [t, t1], hi =>
      have h0 := isL_mem hi t (by simp)
      have h1 := isL_mem hi t1 (by simp)
      have e : areR [orK [isExpr, ofK [56]]] [t, t1] = (qR (orK [isExpr, ofK [56]]) t && false) := rfl
      have e1 : areR [orK [isExpr, ofK [56]], orK [isExpr, ofK [44]]] [t, t1] = (qR (orK [isExpr, ofK [56]]) t && (qR (orK [isExpr, ofK [44]]) t1 && true)) := rfl
      have e2 : varFlag [t, t1] false = ((noneT t || exR t) && (true && ((true && listR t1) || exR t1))) := rfl
      rw [e, e1, e2, q_or _ _ _ h0, q_or _ _ _ h1, noneT_q _ h0, listR_q _ h1, exR_q]
      cases qR isExpr t <;> cases qR (ofK [56]) t <;> cases qR isExpr t1 <;> cases qR (ofK [44]) t1 <;> rfl
    | t :: t1 :: t2 :: r, _ => simp [areR, varFlag, varRest]
theorem var_bare {flag : Bool} {ks : List Tr} : (if flag then varFlag ks true else varRest false ks true) = ((if flag then varFlag ks false else varRest false ks false) && (ks.isEmpty || (flag && decide (ks.length = 1)))) := by
  cases flag with
  | false =>
    match ks with
    | [] => rfl
    | [t] => simp [varRest]
    | t :: t1 :: r => simp [varRest]
  | true =>
    match ks with
    | [] => rfl
    | [t] => simp [varFlag, varRest]
    | [t, t1] => simp [varFlag, varRest]
    | t :: t1 :: t2 :: r => simp [varFlag, varRest]

theorem varT_q (t : Tr) (ht : isT t = true) : varT false t = qR (ofK [43]) t := by
  obtain ⟨x, ks, rfl⟩ := isT_form ht
  rw [isT_node] at ht
  rw [varT_node, qR_node, of_one]
  unfold varF
  cases hk : x.kind == 43 with
  | false => rfl
  | true =>
    obtain ⟨kind, str, num, flag, pos⟩ := x
    obtain rfl : kind = 43 := eq_of_beq hk
    have e : mayN ⟨43, str, num, flag, pos⟩ ks = (nameB str && (decide (num = 0) && (true && (if flag then areK [orK [isExpr, ofK [56]]] ks || areK [orK [isExpr, ofK [56]], orK [isExpr, ofK [44]]] ks else areK [] ks || areK [isExpr] ks)))) := rfl
    dsimp only
    rw [← var_rest ht, e]
    unfold partsF
    dsimp only
    rw [num_dec]
    generalize (if flag then areK [orK [isExpr, ofK [56]]] ks || areK [orK [isExpr, ofK [56]], orK [isExpr, ofK [44]]] ks else areK [] ks || areK [isExpr] ks) = A
    cases nameB str <;> cases decide (num = 0) <;> cases flag <;> cases A <;> cases allL mayN ks <;> rfl
theorem varT_bare (t : Tr) (ht : isT t = true) : varT true t = (qR (ofK [43]) t && onT bareV t) := by
  rw [← varT_q t ht]
  obtain ⟨x, ks, rfl⟩ := isT_form ht
  rw [varT_node, varT_node, onT_node]
  unfold varF bareV
  cases hk : x.kind == 43 with
  | false => rfl
  | true =>
    have e : decide (x.kind = 43) = true := by simpa using hk
    rw [e, var_bare]
    generalize (if x.flag then varFlag ks false else varRest false ks false) = A
    generalize (ks.isEmpty || (x.flag && decide (ks.length = 1))) = D
    cases partsF x true false true <;> cases nameB x.str <;> cases A <;> cases D <;> rfl

theorem vars_rest {ks : List Tr} (hi : isL ks = true) : (varsF ks && allL mayN ks) = (decide (2 ≤ ks.length) && ((ks.take 1).all typedT && (ks.drop 1).all (varT false))) := by
  match ks, hi with
  | [], _ => rfl
  | [t], _ => rfl
  | t0 :: t1 :: r, hi =>
    have h0 := isL_mem hi t0 (by simp)
    have e : varsF (t0 :: t1 :: r) = (onT (ofK [16]) t0 && allK (ofK [43]) (t1 :: r)) := rfl
    have e1 : decide (2 ≤ (t0 :: t1 :: r).length) = true := decide_eq_true (by simp)
    have e2 : ((t0 :: t1 :: r).take 1).all typedT = (typedT t0 && true) := rfl
    have e3 : ((t0 :: t1 :: r).drop 1).all (varT false) = (t1 :: r).all (qR (ofK [43])) := by
      show (t1 :: r).all (varT false) = _
      exact all_same fun t ht => varT_q t (isL_mem hi t (List.mem_cons_of_mem _ ht))
    rw [e, e1, e2, e3, typedT_q _ h0, ← all_r, allL_cons]
    unfold qR
    cases onT (ofK [16]) t0 <;> cases allT mayN t0 <;> cases allK (ofK [43]) (t1 :: r) <;> cases allL mayN (t1 :: r) <;> rfl
theorem varsT_q (t : Tr) (ht : isT t = true) : varsT false t = qR (ofK [42]) t := by
  obtain ⟨x, ks, rfl⟩ := isT_form ht
  rw [isT_node] at ht
  rw [varsT_node, qR_node, of_one]
  unfold varsD
  cases hk : x.kind == 42 with
  | false => rfl
  | true =>
    obtain ⟨kind, str, num, flag, pos⟩ := x
    obtain rfl : kind = 42 := eq_of_beq hk
    have e : mayN ⟨42, str, num, flag, pos⟩ ks = (str.toList.isEmpty && (decide (num = 0) && (!flag && varsF ks))) := rfl
    rw [← vars_rest ht, e]
    unfold partsF
    dsimp only
    rw [emp_dec, num_dec]
    cases str.toList.isEmpty <;> cases decide (num = 0) <;> cases flag <;> cases varsF ks <;> cases allL mayN ks <;> rfl
theorem vars_bare {ks : List Tr} (hi : isL ks = true) : (decide (2 ≤ ks.length) && ((ks.take 1).all typedT && (ks.drop 1).all (varT true))) = ((decide (2 ≤ ks.length) && ((ks.take 1).all typedT && (ks.drop 1).all (varT false))) && allK bareV ks) := by
  match ks, hi with
  | [], _ => rfl
  | [t], _ => rfl
  | t0 :: t1 :: r, hi =>
    have h0 := isL_mem hi t0 (by simp)
    have e1 : decide (2 ≤ (t0 :: t1 :: r).length) = true := decide_eq_true (by simp)
    have e2 : ((t0 :: t1 :: r).take 1).all typedT = (typedT t0 && true) := rfl
    have d3 : ∀ l : List Tr, (∀ t ∈ l, isT t = true) → l.all (varT true) = (l.all (varT false) && allK bareV l) := fun l => by
      induction l with
      | nil => intro _; rfl
      | cons t l ih =>
        intro h
        have ih' := ih (fun t ht => h t (List.mem_cons_of_mem _ ht))
        have ht := h t (List.mem_cons_self ..)
        have a1 : (t :: l).all (varT true) = (varT true t && l.all (varT true)) := rfl
        have a2 : (t :: l).all (varT false) = (varT false t && l.all (varT false)) := rfl
        have a3 : allK bareV (t :: l) = (onT bareV t && allK bareV l) := rfl
        rw [a1, a2, a3, ih', varT_bare t ht, varT_q t ht]
        cases qR (ofK [43]) t <;> cases onT bareV t <;> cases l.all (varT false) <;> cases allK bareV l <;> rfl
    have e3 := d3 (t1 :: r) (fun t ht => isL_mem hi t (List.mem_cons_of_mem _ ht))
    have e4 : allK bareV (t0 :: t1 :: r) = (onT bareV t0 && allK bareV (t1 :: r)) := rfl
    have e5 : ∀ f : Tr → Bool, ((t0 :: t1 :: r).drop 1).all f = (t1 :: r).all f := fun f => rfl
    rw [e1, e2, e5, e5, e3, e4]
    have e6 : typedT t0 = true → onT bareV t0 = true := by
      obtain ⟨x, l, rfl⟩ := isT_form h0
      rw [typedT_node, onT_node]
      unfold typedF bareV
      intro h
      have hk := (Bool.and_eq_true _ _ ▸ h : _ ∧ _).1
      have : x.kind = 16 := eq_of_beq hk
      rw [this]
      rfl
    cases hT : typedT t0 with
    | false => rfl
    | true =>
      rw [e6 hT]
      cases (t1 :: r).all (varT false) <;> cases allK bareV (t1 :: r) <;> rfl
theorem varsT_bare (t : Tr) (ht : isT t = true) : varsT true t = qR bareK t := by
  have h1 := varsT_q t ht
  obtain ⟨x, ks, rfl⟩ := isT_form ht
  rw [isT_node] at ht
  rw [varsT_node, qR_node, of_one] at h1
  rw [varsT_node, qR_node]
  unfold bareK
  unfold varsD at *
  rw [vars_bare ht]
  have e : decide (x.kind = 42) = (x.kind == 42) := by cases hk : x.kind == 42 with
    | true => simpa using hk
    | false => simpa using hk
  rw [e]
  cases hk : x.kind == 42 with
  | false => rfl
  | true =>
    rw [hk] at h1
    simp only [Bool.true_and] at h1 ⊢
    rw [← h1]
    generalize (decide (2 ≤ ks.length) && ((ks.take 1).all typedT && (ks.drop 1).all (varT false))) = A
    cases partsF x false false false <;> cases A <;> cases allK bareV ks <;> rfl
theorem rec_q (x : NdH) (ks : List Tr) (hi : isL ks = true) : recD x ks = qR (ofK [41]) (Tr.node x ks) := by
  rw [qR_node, of_one]
  unfold recD
  cases hk : x.kind == 41 with
  | false => rfl
  | true =>
    obtain ⟨kind, str, num, flag, pos⟩ := x
    obtain rfl : kind = 41 := eq_of_beq hk
    have e : mayN ⟨41, str, num, flag, pos⟩ ks = (nameB str && (decide (num = 0) && (!flag && allK bareK ks))) := rfl
    have e1 : ks.all (varsT true) = (allK bareK ks && allL mayN ks) := by
      rw [all_r]
      exact all_same fun t ht => varsT_bare t (isL_mem hi t ht)
    rw [e1, e]
    unfold partsF
    dsimp only
    rw [num_dec]
    cases nameB str <;> cases decide (num = 0) <;> cases flag <;> cases allK bareK ks <;> cases allL mayN ks <;> rfl
def stR : Tr → Bool := qR isStmt
theorem blk_q (x : NdH) (ks : List Tr) (hi : isL ks = true) : blkD stR x ks = qR (ofK [47]) (Tr.node x ks) := by
  rw [qR_node, of_one]
  unfold blkD
  cases hk : x.kind == 47 with
  | false => rfl
  | true =>
    obtain ⟨kind, str, num, flag, pos⟩ := x
    obtain rfl : kind = 47 := eq_of_beq hk
    have e : mayN ⟨47, str, num, flag, pos⟩ ks = (str.toList.isEmpty && (decide (num = 0) && (!flag && allK (orK [isStmt, ofK [42]]) ks))) := rfl
    have e1 : ks.all (fun t => varsT false t || stR t) = (allK (orK [isStmt, ofK [42]]) ks && allL mayN ks) := by
      rw [all_r]
      refine all_same fun t ht => ?_
      have h := isL_mem hi t ht
      rw [q_or _ _ _ h, varsT_q t h]
      unfold stR
      exact Bool.or_comm _ _
    rw [e1, e]
    unfold partsF
    dsimp only
    rw [emp_dec, num_dec]
    cases str.toList.isEmpty <;> cases decide (num = 0) <;> cases flag <;> cases allK (orK [isStmt, ofK [42]]) ks <;> cases allL mayN ks <;> rfl
end Go.Proofs.YtnnnfabpceapcaaGreatDoor
