/- What words of 32 bits reckon, as plain functions on integers, and the arithmetic that the laws of layer word ask of them. No program is named here. -/
import Derived.WalkKit
import Derived.Test.YtiehlkhpblldaaaProg
set_option linter.unusedVariables false
set_option linter.unusedSimpArgs false
set_option maxRecDepth 20000
set_option maxHeartbeats 8000000
namespace Go.Proofs.Ytiehlkhpblldaaa
open Go.RowKit

/-- What an operation makes of two words. -/
def aluV (op a b : Int) : Int :=
  if op = 1 then (a + b) % 4294967296
  else if op = 2 then (a - b) % 4294967296
  else if op = 3 then a * b % 4294967296
  else if op = 4 then (if b = 0 then 0 else (wrap32 a).tdiv (wrap32 b) % 4294967296)
  else if op = 5 then (if b = 0 then 0 else a / b)
  else if op = 6 then (if b = 0 then 0 else (wrap32 a).tmod (wrap32 b) % 4294967296)
  else if op = 7 then (if b = 0 then 0 else a % b)
  else if op = 8 then bits .and .u32 a b
  else if op = 9 then bits .or .u32 a b
  else if op = 10 then bits .xor .u32 a b
  else if op = 11 then a * 2 ^ (b % 32).toNat % 4294967296
  else if op = 12 then a / 2 ^ (b % 32).toNat
  else if op = 13 then wrap32 a / 2 ^ (b % 32).toNat % 4294967296
  else if op = 14 then (if a = b then 1 else 0)
  else if op = 15 then (if a = b then 0 else 1)
  else if op = 16 then (if wrap32 a < wrap32 b then 1 else 0)
  else if op = 17 then (if a < b then 1 else 0)
  else if op = 18 then (if wrap32 a ≤ wrap32 b then 1 else 0)
  else if op = 19 then (if a ≤ b then 1 else 0)
  else 0

/-- The trap that it meets instead. -/
def aluT (op b : Int) : Int :=
  if 4 ≤ op ∧ op ≤ 7 then (if b = 0 then 1 else 0)
  else if 1 ≤ op ∧ op ≤ 19 then 0
  else 4

theorem wrap32_lo (x : Int) : -2147483648 ≤ wrap32 x := by unfold wrap32; omega
theorem wrap32_hi (x : Int) : wrap32 x ≤ 2147483647 := by unfold wrap32; omega
theorem wrap32_mod (x : Int) : wrap32 x % 4294967296 = x % 4294967296 := by unfold wrap32; omega
theorem wrap64_id (x : Int) (h0 : -9223372036854775808 ≤ x) (h1 : x ≤ 9223372036854775807) : wrap64 x = x := by unfold wrap64; omega
theorem wrap32_zero (b : Int) (b0 : 0 ≤ b) (b1 : b < 4294967296) (h : b ≠ 0) : ¬ wrap32 b = 0 := by unfold wrap32; omega
theorem wrap64_32 (x : Int) : wrap64 (wrap32 x) = wrap32 x :=
  wrap64_id _ (by have := wrap32_lo x; omega) (by have := wrap32_hi x; omega)

theorem tdiv_lo (x y : Int) (h0 : -2147483648 ≤ x) (h1 : x ≤ 2147483647) : -2147483648 ≤ x.tdiv y ∧ x.tdiv y ≤ 2147483648 := by
  have h : (x.tdiv y).natAbs ≤ x.natAbs := by
    rw [Int.natAbs_tdiv]; exact Nat.div_le_self _ _
  omega
theorem div64 (a b : Int) : wrap64 ((wrap64 (wrap32 a)).tdiv (wrap64 (wrap32 b))) % 4294967296 = (wrap32 a).tdiv (wrap32 b) % 4294967296 := by
  rw [wrap64_32, wrap64_32]
  have h := tdiv_lo (wrap32 a) (wrap32 b) (wrap32_lo a) (wrap32_hi a)
  rw [wrap64_id _ (by omega) (by omega)]
end Go.Proofs.Ytiehlkhpblldaaa
namespace Go.Proofs.Ytiehlkhpblldaaa
open Go.RowKit

theorem ret_pair {a b c d : Int} (h : a = b) (g : c = d) : Ending.returned (.tuple #[.int .u32 a, .int .i64 c]) = .returned (.tuple #[.int .u32 b, .int .i64 d]) := by rw [h, g]

theorem a7_1 (a b : Int) (a0 : 0 ≤ a) (a1 : a < 4294967296) (b0 : 0 ≤ b) (b1 : b < 4294967296) (w : World) :
    Calls Try.prog 69 #[.int .i64 1, .int .u32 a, .int .u32 b] w fun e w' => e = .returned (.tuple #[.int .u32 ((a + b) % 4294967296), .int .i64 0]) ∧ w' = w := by
  go_enter Try.func69, Try.ntmps69
  go_wp2
  go_ret2
  exact ⟨rfl, rfl⟩

theorem a7_2 (a b : Int) (a0 : 0 ≤ a) (a1 : a < 4294967296) (b0 : 0 ≤ b) (b1 : b < 4294967296) (w : World) :
    Calls Try.prog 69 #[.int .i64 2, .int .u32 a, .int .u32 b] w fun e w' => e = .returned (.tuple #[.int .u32 ((a - b) % 4294967296), .int .i64 0]) ∧ w' = w := by
  go_enter Try.func69, Try.ntmps69
  go_wp2
  go_ret2
  exact ⟨rfl, rfl⟩

theorem a7_3 (a b : Int) (a0 : 0 ≤ a) (a1 : a < 4294967296) (b0 : 0 ≤ b) (b1 : b < 4294967296) (w : World) :
    Calls Try.prog 69 #[.int .i64 3, .int .u32 a, .int .u32 b] w fun e w' => e = .returned (.tuple #[.int .u32 (a * b % 4294967296), .int .i64 0]) ∧ w' = w := by
  go_enter Try.func69, Try.ntmps69
  go_wp2
  go_ret2
  exact ⟨rfl, rfl⟩

theorem a7_4z (a b : Int) (a0 : 0 ≤ a) (a1 : a < 4294967296) (b0 : 0 ≤ b) (b1 : b < 4294967296) (h : (b == 0) = true) (w : World) :
    Calls Try.prog 69 #[.int .i64 4, .int .u32 a, .int .u32 b] w fun e w' => e = .returned (.tuple #[.int .u32 (0), .int .i64 1]) ∧ w' = w := by
  go_enter Try.func69, Try.ntmps69
  go_wp2
  go_ret2
  exact ⟨rfl, rfl⟩

theorem a7_4 (a b : Int) (a0 : 0 ≤ a) (a1 : a < 4294967296) (b0 : 0 ≤ b) (b1 : b < 4294967296) (h : (b == 0) = false) (h1 : ¬ b = 0) (h2 : ¬ wrap32 b = 0) (w : World) :
    Calls Try.prog 69 #[.int .i64 4, .int .u32 a, .int .u32 b] w fun e w' => e = .returned (.tuple #[.int .u32 (wrap32 ((wrap32 a).tdiv (wrap32 b)) % 4294967296), .int .i64 0]) ∧ w' = w := by
  go_enter Try.func69, Try.ntmps69
  go_wp2
  go_ret2
  exact ⟨rfl, rfl⟩

theorem a7_5z (a b : Int) (a0 : 0 ≤ a) (a1 : a < 4294967296) (b0 : 0 ≤ b) (b1 : b < 4294967296) (h : (b == 0) = true) (w : World) :
    Calls Try.prog 69 #[.int .i64 5, .int .u32 a, .int .u32 b] w fun e w' => e = .returned (.tuple #[.int .u32 (0), .int .i64 1]) ∧ w' = w := by
  go_enter Try.func69, Try.ntmps69
  go_wp2
  go_ret2
  exact ⟨rfl, rfl⟩

theorem a7_5 (a b : Int) (a0 : 0 ≤ a) (a1 : a < 4294967296) (b0 : 0 ≤ b) (b1 : b < 4294967296) (h : (b == 0) = false) (h1 : ¬ b = 0) (h2 : ¬ wrap32 b = 0) (w : World) :
    Calls Try.prog 69 #[.int .i64 5, .int .u32 a, .int .u32 b] w fun e w' => e = .returned (.tuple #[.int .u32 (a / b), .int .i64 0]) ∧ w' = w := by
  go_enter Try.func69, Try.ntmps69
  go_wp2
  go_ret2
  exact ⟨rfl, rfl⟩

theorem a7_6z (a b : Int) (a0 : 0 ≤ a) (a1 : a < 4294967296) (b0 : 0 ≤ b) (b1 : b < 4294967296) (h : (b == 0) = true) (w : World) :
    Calls Try.prog 69 #[.int .i64 6, .int .u32 a, .int .u32 b] w fun e w' => e = .returned (.tuple #[.int .u32 (0), .int .i64 1]) ∧ w' = w := by
  go_enter Try.func69, Try.ntmps69
  go_wp2
  go_ret2
  exact ⟨rfl, rfl⟩

theorem a7_6 (a b : Int) (a0 : 0 ≤ a) (a1 : a < 4294967296) (b0 : 0 ≤ b) (b1 : b < 4294967296) (h : (b == 0) = false) (h1 : ¬ b = 0) (h2 : ¬ wrap32 b = 0) (w : World) :
    Calls Try.prog 69 #[.int .i64 6, .int .u32 a, .int .u32 b] w fun e w' => e = .returned (.tuple #[.int .u32 ((wrap32 a).tmod (wrap32 b) % 4294967296), .int .i64 0]) ∧ w' = w := by
  go_enter Try.func69, Try.ntmps69
  go_wp2
  go_ret2
  exact ⟨rfl, rfl⟩

theorem a7_7z (a b : Int) (a0 : 0 ≤ a) (a1 : a < 4294967296) (b0 : 0 ≤ b) (b1 : b < 4294967296) (h : (b == 0) = true) (w : World) :
    Calls Try.prog 69 #[.int .i64 7, .int .u32 a, .int .u32 b] w fun e w' => e = .returned (.tuple #[.int .u32 (0), .int .i64 1]) ∧ w' = w := by
  go_enter Try.func69, Try.ntmps69
  go_wp2
  go_ret2
  exact ⟨rfl, rfl⟩

theorem a7_7 (a b : Int) (a0 : 0 ≤ a) (a1 : a < 4294967296) (b0 : 0 ≤ b) (b1 : b < 4294967296) (h : (b == 0) = false) (h1 : ¬ b = 0) (h2 : ¬ wrap32 b = 0) (w : World) :
    Calls Try.prog 69 #[.int .i64 7, .int .u32 a, .int .u32 b] w fun e w' => e = .returned (.tuple #[.int .u32 (a % b), .int .i64 0]) ∧ w' = w := by
  go_enter Try.func69, Try.ntmps69
  go_wp2
  go_ret2
  exact ⟨rfl, rfl⟩

theorem a7_8 (a b : Int) (a0 : 0 ≤ a) (a1 : a < 4294967296) (b0 : 0 ≤ b) (b1 : b < 4294967296) (w : World) :
    Calls Try.prog 69 #[.int .i64 8, .int .u32 a, .int .u32 b] w fun e w' => e = .returned (.tuple #[.int .u32 (bits .and .u32 a b), .int .i64 0]) ∧ w' = w := by
  go_enter Try.func69, Try.ntmps69
  go_wp2
  go_ret2
  exact ⟨rfl, rfl⟩

theorem a7_9 (a b : Int) (a0 : 0 ≤ a) (a1 : a < 4294967296) (b0 : 0 ≤ b) (b1 : b < 4294967296) (w : World) :
    Calls Try.prog 69 #[.int .i64 9, .int .u32 a, .int .u32 b] w fun e w' => e = .returned (.tuple #[.int .u32 (bits .or .u32 a b), .int .i64 0]) ∧ w' = w := by
  go_enter Try.func69, Try.ntmps69
  go_wp2
  go_ret2
  exact ⟨rfl, rfl⟩

theorem a7_10 (a b : Int) (a0 : 0 ≤ a) (a1 : a < 4294967296) (b0 : 0 ≤ b) (b1 : b < 4294967296) (w : World) :
    Calls Try.prog 69 #[.int .i64 10, .int .u32 a, .int .u32 b] w fun e w' => e = .returned (.tuple #[.int .u32 (bits .xor .u32 a b), .int .i64 0]) ∧ w' = w := by
  go_enter Try.func69, Try.ntmps69
  go_wp2
  go_ret2
  exact ⟨rfl, rfl⟩

theorem a7_11 (a b : Int) (a0 : 0 ≤ a) (a1 : a < 4294967296) (b0 : 0 ≤ b) (b1 : b < 4294967296) (w : World) :
    Calls Try.prog 69 #[.int .i64 11, .int .u32 a, .int .u32 b] w fun e w' => e = .returned (.tuple #[.int .u32 (a * 2 ^ (b % 32).toNat % 4294967296), .int .i64 0]) ∧ w' = w := by
  go_enter Try.func69, Try.ntmps69
  go_wp2
  go_ret2
  exact ⟨rfl, rfl⟩

theorem a7_12 (a b : Int) (a0 : 0 ≤ a) (a1 : a < 4294967296) (b0 : 0 ≤ b) (b1 : b < 4294967296) (w : World) :
    Calls Try.prog 69 #[.int .i64 12, .int .u32 a, .int .u32 b] w fun e w' => e = .returned (.tuple #[.int .u32 (a / 2 ^ (b % 32).toNat), .int .i64 0]) ∧ w' = w := by
  go_enter Try.func69, Try.ntmps69
  go_wp2
  go_ret2
  exact ⟨rfl, rfl⟩

theorem a7_13 (a b : Int) (a0 : 0 ≤ a) (a1 : a < 4294967296) (b0 : 0 ≤ b) (b1 : b < 4294967296) (w : World) :
    Calls Try.prog 69 #[.int .i64 13, .int .u32 a, .int .u32 b] w fun e w' => e = .returned (.tuple #[.int .u32 (wrap32 a / 2 ^ (b % 32).toNat % 4294967296), .int .i64 0]) ∧ w' = w := by
  go_enter Try.func69, Try.ntmps69
  go_wp2
  go_ret2
  exact ⟨rfl, rfl⟩

theorem a7_14y (a b : Int) (a0 : 0 ≤ a) (a1 : a < 4294967296) (b0 : 0 ≤ b) (b1 : b < 4294967296) (h : (a == b) = true) (w : World) :
    Calls Try.prog 69 #[.int .i64 14, .int .u32 a, .int .u32 b] w fun e w' => e = .returned (.tuple #[.int .u32 (1), .int .i64 0]) ∧ w' = w := by
  go_enter Try.func69, Try.ntmps69
  go_wp2
  go_ret2
  exact ⟨rfl, rfl⟩

theorem a7_14n (a b : Int) (a0 : 0 ≤ a) (a1 : a < 4294967296) (b0 : 0 ≤ b) (b1 : b < 4294967296) (h : (a == b) = false) (w : World) :
    Calls Try.prog 69 #[.int .i64 14, .int .u32 a, .int .u32 b] w fun e w' => e = .returned (.tuple #[.int .u32 (0), .int .i64 0]) ∧ w' = w := by
  go_enter Try.func69, Try.ntmps69
  go_wp2
  go_ret2
  exact ⟨rfl, rfl⟩

theorem a7_15y (a b : Int) (a0 : 0 ≤ a) (a1 : a < 4294967296) (b0 : 0 ≤ b) (b1 : b < 4294967296) (h : (a != b) = false) (w : World) :
    Calls Try.prog 69 #[.int .i64 15, .int .u32 a, .int .u32 b] w fun e w' => e = .returned (.tuple #[.int .u32 (0), .int .i64 0]) ∧ w' = w := by
  go_enter Try.func69, Try.ntmps69
  go_wp2
  go_ret2
  exact ⟨rfl, rfl⟩

theorem a7_15n (a b : Int) (a0 : 0 ≤ a) (a1 : a < 4294967296) (b0 : 0 ≤ b) (b1 : b < 4294967296) (h : (a != b) = true) (w : World) :
    Calls Try.prog 69 #[.int .i64 15, .int .u32 a, .int .u32 b] w fun e w' => e = .returned (.tuple #[.int .u32 (1), .int .i64 0]) ∧ w' = w := by
  go_enter Try.func69, Try.ntmps69
  go_wp2
  go_ret2
  exact ⟨rfl, rfl⟩

theorem a7_16y (a b : Int) (a0 : 0 ≤ a) (a1 : a < 4294967296) (b0 : 0 ≤ b) (b1 : b < 4294967296) (h : wrap32 a < wrap32 b) (w : World) :
    Calls Try.prog 69 #[.int .i64 16, .int .u32 a, .int .u32 b] w fun e w' => e = .returned (.tuple #[.int .u32 (1), .int .i64 0]) ∧ w' = w := by
  go_enter Try.func69, Try.ntmps69
  go_wp2
  go_ret2
  exact ⟨rfl, rfl⟩

theorem a7_16n (a b : Int) (a0 : 0 ≤ a) (a1 : a < 4294967296) (b0 : 0 ≤ b) (b1 : b < 4294967296) (h : ¬ wrap32 a < wrap32 b) (w : World) :
    Calls Try.prog 69 #[.int .i64 16, .int .u32 a, .int .u32 b] w fun e w' => e = .returned (.tuple #[.int .u32 (0), .int .i64 0]) ∧ w' = w := by
  go_enter Try.func69, Try.ntmps69
  go_wp2
  go_ret2
  exact ⟨rfl, rfl⟩

theorem a7_17y (a b : Int) (a0 : 0 ≤ a) (a1 : a < 4294967296) (b0 : 0 ≤ b) (b1 : b < 4294967296) (h : a < b) (w : World) :
    Calls Try.prog 69 #[.int .i64 17, .int .u32 a, .int .u32 b] w fun e w' => e = .returned (.tuple #[.int .u32 (1), .int .i64 0]) ∧ w' = w := by
  go_enter Try.func69, Try.ntmps69
  go_wp2
  go_ret2
  exact ⟨rfl, rfl⟩

theorem a7_17n (a b : Int) (a0 : 0 ≤ a) (a1 : a < 4294967296) (b0 : 0 ≤ b) (b1 : b < 4294967296) (h : ¬ a < b) (w : World) :
    Calls Try.prog 69 #[.int .i64 17, .int .u32 a, .int .u32 b] w fun e w' => e = .returned (.tuple #[.int .u32 (0), .int .i64 0]) ∧ w' = w := by
  go_enter Try.func69, Try.ntmps69
  go_wp2
  go_ret2
  exact ⟨rfl, rfl⟩

theorem a7_18y (a b : Int) (a0 : 0 ≤ a) (a1 : a < 4294967296) (b0 : 0 ≤ b) (b1 : b < 4294967296) (h : wrap32 a ≤ wrap32 b) (w : World) :
    Calls Try.prog 69 #[.int .i64 18, .int .u32 a, .int .u32 b] w fun e w' => e = .returned (.tuple #[.int .u32 (1), .int .i64 0]) ∧ w' = w := by
  go_enter Try.func69, Try.ntmps69
  go_wp2
  go_ret2
  exact ⟨rfl, rfl⟩

theorem a7_18n (a b : Int) (a0 : 0 ≤ a) (a1 : a < 4294967296) (b0 : 0 ≤ b) (b1 : b < 4294967296) (h : ¬ wrap32 a ≤ wrap32 b) (w : World) :
    Calls Try.prog 69 #[.int .i64 18, .int .u32 a, .int .u32 b] w fun e w' => e = .returned (.tuple #[.int .u32 (0), .int .i64 0]) ∧ w' = w := by
  go_enter Try.func69, Try.ntmps69
  go_wp2
  go_ret2
  exact ⟨rfl, rfl⟩

theorem a7_19y (a b : Int) (a0 : 0 ≤ a) (a1 : a < 4294967296) (b0 : 0 ≤ b) (b1 : b < 4294967296) (h : a ≤ b) (w : World) :
    Calls Try.prog 69 #[.int .i64 19, .int .u32 a, .int .u32 b] w fun e w' => e = .returned (.tuple #[.int .u32 (1), .int .i64 0]) ∧ w' = w := by
  go_enter Try.func69, Try.ntmps69
  go_wp2
  go_ret2
  exact ⟨rfl, rfl⟩

theorem a7_19n (a b : Int) (a0 : 0 ≤ a) (a1 : a < 4294967296) (b0 : 0 ≤ b) (b1 : b < 4294967296) (h : ¬ a ≤ b) (w : World) :
    Calls Try.prog 69 #[.int .i64 19, .int .u32 a, .int .u32 b] w fun e w' => e = .returned (.tuple #[.int .u32 (0), .int .i64 0]) ∧ w' = w := by
  go_enter Try.func69, Try.ntmps69
  go_wp2
  go_ret2
  exact ⟨rfl, rfl⟩

theorem a7_none (op a b : Int) (h1 : (op == 1) = false) (h2 : (op == 2) = false) (h3 : (op == 3) = false) (h4 : (op == 4) = false) (h5 : (op == 5) = false) (h6 : (op == 6) = false) (h7 : (op == 7) = false) (h8 : (op == 8) = false) (h9 : (op == 9) = false) (h10 : (op == 10) = false) (h11 : (op == 11) = false) (h12 : (op == 12) = false) (h13 : (op == 13) = false) (h14 : (op == 14) = false) (h15 : (op == 15) = false) (h16 : (op == 16) = false) (h17 : (op == 17) = false) (h18 : (op == 18) = false) (h19 : (op == 19) = false) (w : World) :
    Calls Try.prog 69 #[.int .i64 op, .int .u32 a, .int .u32 b] w fun e w' => e = .returned (.tuple #[.int .u32 0, .int .i64 4]) ∧ w' = w := by
  go_enter Try.func69, Try.ntmps69
  go_wp2
  go_ret2
  exact ⟨rfl, rfl⟩

theorem a8_1 (a b : Int) (a0 : 0 ≤ a) (a1 : a < 4294967296) (b0 : 0 ≤ b) (b1 : b < 4294967296) (w : World) :
    Calls Try.prog 74 #[.int .i64 1, .int .u32 a, .int .u32 b] w fun e w' => e = .returned (.tuple #[.int .u32 ((a + b) % 4294967296), .int .i64 0]) ∧ w' = w := by
  go_enter Try.func74, Try.ntmps74
  go_wp2
  go_ret2
  exact ⟨rfl, rfl⟩

theorem a8_2 (a b : Int) (a0 : 0 ≤ a) (a1 : a < 4294967296) (b0 : 0 ≤ b) (b1 : b < 4294967296) (w : World) :
    Calls Try.prog 74 #[.int .i64 2, .int .u32 a, .int .u32 b] w fun e w' => e = .returned (.tuple #[.int .u32 ((a - b) % 4294967296), .int .i64 0]) ∧ w' = w := by
  go_enter Try.func74, Try.ntmps74
  go_wp2
  go_ret2
  exact ⟨rfl, rfl⟩

theorem a8_3 (a b : Int) (a0 : 0 ≤ a) (a1 : a < 4294967296) (b0 : 0 ≤ b) (b1 : b < 4294967296) (w : World) :
    Calls Try.prog 74 #[.int .i64 3, .int .u32 a, .int .u32 b] w fun e w' => e = .returned (.tuple #[.int .u32 (a * b % 4294967296), .int .i64 0]) ∧ w' = w := by
  go_enter Try.func74, Try.ntmps74
  go_wp2
  go_ret2
  exact ⟨rfl, rfl⟩

theorem a8_4z (a b : Int) (a0 : 0 ≤ a) (a1 : a < 4294967296) (b0 : 0 ≤ b) (b1 : b < 4294967296) (h : (b == 0) = true) (w : World) :
    Calls Try.prog 74 #[.int .i64 4, .int .u32 a, .int .u32 b] w fun e w' => e = .returned (.tuple #[.int .u32 (0), .int .i64 1]) ∧ w' = w := by
  go_enter Try.func74, Try.ntmps74
  go_wp2
  go_ret2
  exact ⟨rfl, rfl⟩

theorem a8_4 (a b : Int) (a0 : 0 ≤ a) (a1 : a < 4294967296) (b0 : 0 ≤ b) (b1 : b < 4294967296) (h : (b == 0) = false) (h1 : ¬ b = 0) (h2 : ¬ wrap32 b = 0) (h3 : ¬ wrap64 (wrap32 b) = 0) (w : World) :
    Calls Try.prog 74 #[.int .i64 4, .int .u32 a, .int .u32 b] w fun e w' => e = .returned (.tuple #[.int .u32 (wrap64 ((wrap64 (wrap32 a)).tdiv (wrap64 (wrap32 b))) % 4294967296), .int .i64 0]) ∧ w' = w := by
  go_enter Try.func74, Try.ntmps74
  go_wp2
  go_ret2
  exact ⟨rfl, rfl⟩

theorem a8_5z (a b : Int) (a0 : 0 ≤ a) (a1 : a < 4294967296) (b0 : 0 ≤ b) (b1 : b < 4294967296) (h : (b == 0) = true) (w : World) :
    Calls Try.prog 74 #[.int .i64 5, .int .u32 a, .int .u32 b] w fun e w' => e = .returned (.tuple #[.int .u32 (0), .int .i64 1]) ∧ w' = w := by
  go_enter Try.func74, Try.ntmps74
  go_wp2
  go_ret2
  exact ⟨rfl, rfl⟩

theorem a8_5 (a b : Int) (a0 : 0 ≤ a) (a1 : a < 4294967296) (b0 : 0 ≤ b) (b1 : b < 4294967296) (h : (b == 0) = false) (h1 : ¬ b = 0) (h2 : ¬ wrap32 b = 0) (h3 : ¬ wrap64 (wrap32 b) = 0) (w : World) :
    Calls Try.prog 74 #[.int .i64 5, .int .u32 a, .int .u32 b] w fun e w' => e = .returned (.tuple #[.int .u32 (a / b), .int .i64 0]) ∧ w' = w := by
  go_enter Try.func74, Try.ntmps74
  go_wp2
  go_ret2
  exact ⟨rfl, rfl⟩

theorem a8_6z (a b : Int) (a0 : 0 ≤ a) (a1 : a < 4294967296) (b0 : 0 ≤ b) (b1 : b < 4294967296) (h : (b == 0) = true) (w : World) :
    Calls Try.prog 74 #[.int .i64 6, .int .u32 a, .int .u32 b] w fun e w' => e = .returned (.tuple #[.int .u32 (0), .int .i64 1]) ∧ w' = w := by
  go_enter Try.func74, Try.ntmps74
  go_wp2
  go_ret2
  exact ⟨rfl, rfl⟩

theorem a8_6 (a b : Int) (a0 : 0 ≤ a) (a1 : a < 4294967296) (b0 : 0 ≤ b) (b1 : b < 4294967296) (h : (b == 0) = false) (h1 : ¬ b = 0) (h2 : ¬ wrap32 b = 0) (h3 : ¬ wrap64 (wrap32 b) = 0) (w : World) :
    Calls Try.prog 74 #[.int .i64 6, .int .u32 a, .int .u32 b] w fun e w' => e = .returned (.tuple #[.int .u32 ((wrap64 (wrap32 a)).tmod (wrap64 (wrap32 b)) % 4294967296), .int .i64 0]) ∧ w' = w := by
  go_enter Try.func74, Try.ntmps74
  go_wp2
  go_ret2
  exact ⟨rfl, rfl⟩

theorem a8_7z (a b : Int) (a0 : 0 ≤ a) (a1 : a < 4294967296) (b0 : 0 ≤ b) (b1 : b < 4294967296) (h : (b == 0) = true) (w : World) :
    Calls Try.prog 74 #[.int .i64 7, .int .u32 a, .int .u32 b] w fun e w' => e = .returned (.tuple #[.int .u32 (0), .int .i64 1]) ∧ w' = w := by
  go_enter Try.func74, Try.ntmps74
  go_wp2
  go_ret2
  exact ⟨rfl, rfl⟩

theorem a8_7 (a b : Int) (a0 : 0 ≤ a) (a1 : a < 4294967296) (b0 : 0 ≤ b) (b1 : b < 4294967296) (h : (b == 0) = false) (h1 : ¬ b = 0) (h2 : ¬ wrap32 b = 0) (h3 : ¬ wrap64 (wrap32 b) = 0) (w : World) :
    Calls Try.prog 74 #[.int .i64 7, .int .u32 a, .int .u32 b] w fun e w' => e = .returned (.tuple #[.int .u32 (a % b), .int .i64 0]) ∧ w' = w := by
  go_enter Try.func74, Try.ntmps74
  go_wp2
  go_ret2
  exact ⟨rfl, rfl⟩

theorem a8_8 (a b : Int) (a0 : 0 ≤ a) (a1 : a < 4294967296) (b0 : 0 ≤ b) (b1 : b < 4294967296) (w : World) :
    Calls Try.prog 74 #[.int .i64 8, .int .u32 a, .int .u32 b] w fun e w' => e = .returned (.tuple #[.int .u32 (bits .and .u32 a b), .int .i64 0]) ∧ w' = w := by
  go_enter Try.func74, Try.ntmps74
  go_wp2
  go_ret2
  exact ⟨rfl, rfl⟩

theorem a8_9 (a b : Int) (a0 : 0 ≤ a) (a1 : a < 4294967296) (b0 : 0 ≤ b) (b1 : b < 4294967296) (w : World) :
    Calls Try.prog 74 #[.int .i64 9, .int .u32 a, .int .u32 b] w fun e w' => e = .returned (.tuple #[.int .u32 (bits .or .u32 a b), .int .i64 0]) ∧ w' = w := by
  go_enter Try.func74, Try.ntmps74
  go_wp2
  go_ret2
  exact ⟨rfl, rfl⟩

theorem a8_10 (a b : Int) (a0 : 0 ≤ a) (a1 : a < 4294967296) (b0 : 0 ≤ b) (b1 : b < 4294967296) (w : World) :
    Calls Try.prog 74 #[.int .i64 10, .int .u32 a, .int .u32 b] w fun e w' => e = .returned (.tuple #[.int .u32 (bits .xor .u32 a b), .int .i64 0]) ∧ w' = w := by
  go_enter Try.func74, Try.ntmps74
  go_wp2
  go_ret2
  exact ⟨rfl, rfl⟩

theorem a8_11 (a b : Int) (a0 : 0 ≤ a) (a1 : a < 4294967296) (b0 : 0 ≤ b) (b1 : b < 4294967296) (w : World) :
    Calls Try.prog 74 #[.int .i64 11, .int .u32 a, .int .u32 b] w fun e w' => e = .returned (.tuple #[.int .u32 (a * 2 ^ (b % 32).toNat % 4294967296), .int .i64 0]) ∧ w' = w := by
  go_enter Try.func74, Try.ntmps74
  go_wp2
  go_ret2
  exact ⟨rfl, rfl⟩

theorem a8_12 (a b : Int) (a0 : 0 ≤ a) (a1 : a < 4294967296) (b0 : 0 ≤ b) (b1 : b < 4294967296) (w : World) :
    Calls Try.prog 74 #[.int .i64 12, .int .u32 a, .int .u32 b] w fun e w' => e = .returned (.tuple #[.int .u32 (a / 2 ^ (b % 32).toNat), .int .i64 0]) ∧ w' = w := by
  go_enter Try.func74, Try.ntmps74
  go_wp2
  go_ret2
  exact ⟨rfl, rfl⟩

theorem a8_13 (a b : Int) (a0 : 0 ≤ a) (a1 : a < 4294967296) (b0 : 0 ≤ b) (b1 : b < 4294967296) (w : World) :
    Calls Try.prog 74 #[.int .i64 13, .int .u32 a, .int .u32 b] w fun e w' => e = .returned (.tuple #[.int .u32 (wrap32 a / 2 ^ (b % 32).toNat % 4294967296), .int .i64 0]) ∧ w' = w := by
  go_enter Try.func74, Try.ntmps74
  go_wp2
  go_ret2
  exact ⟨rfl, rfl⟩

theorem a8_14y (a b : Int) (a0 : 0 ≤ a) (a1 : a < 4294967296) (b0 : 0 ≤ b) (b1 : b < 4294967296) (h : (a == b) = true) (w : World) :
    Calls Try.prog 74 #[.int .i64 14, .int .u32 a, .int .u32 b] w fun e w' => e = .returned (.tuple #[.int .u32 (1), .int .i64 0]) ∧ w' = w := by
  go_enter Try.func74, Try.ntmps74
  go_wp2
  go_ret2
  exact ⟨rfl, rfl⟩

theorem a8_14n (a b : Int) (a0 : 0 ≤ a) (a1 : a < 4294967296) (b0 : 0 ≤ b) (b1 : b < 4294967296) (h : (a == b) = false) (w : World) :
    Calls Try.prog 74 #[.int .i64 14, .int .u32 a, .int .u32 b] w fun e w' => e = .returned (.tuple #[.int .u32 (0), .int .i64 0]) ∧ w' = w := by
  go_enter Try.func74, Try.ntmps74
  go_wp2
  go_ret2
  exact ⟨rfl, rfl⟩

theorem a8_15y (a b : Int) (a0 : 0 ≤ a) (a1 : a < 4294967296) (b0 : 0 ≤ b) (b1 : b < 4294967296) (h : (a != b) = false) (w : World) :
    Calls Try.prog 74 #[.int .i64 15, .int .u32 a, .int .u32 b] w fun e w' => e = .returned (.tuple #[.int .u32 (0), .int .i64 0]) ∧ w' = w := by
  go_enter Try.func74, Try.ntmps74
  go_wp2
  go_ret2
  exact ⟨rfl, rfl⟩

theorem a8_15n (a b : Int) (a0 : 0 ≤ a) (a1 : a < 4294967296) (b0 : 0 ≤ b) (b1 : b < 4294967296) (h : (a != b) = true) (w : World) :
    Calls Try.prog 74 #[.int .i64 15, .int .u32 a, .int .u32 b] w fun e w' => e = .returned (.tuple #[.int .u32 (1), .int .i64 0]) ∧ w' = w := by
  go_enter Try.func74, Try.ntmps74
  go_wp2
  go_ret2
  exact ⟨rfl, rfl⟩

theorem a8_16y (a b : Int) (a0 : 0 ≤ a) (a1 : a < 4294967296) (b0 : 0 ≤ b) (b1 : b < 4294967296) (h : wrap32 a < wrap32 b) (w : World) :
    Calls Try.prog 74 #[.int .i64 16, .int .u32 a, .int .u32 b] w fun e w' => e = .returned (.tuple #[.int .u32 (1), .int .i64 0]) ∧ w' = w := by
  go_enter Try.func74, Try.ntmps74
  go_wp2
  go_ret2
  exact ⟨rfl, rfl⟩

theorem a8_16n (a b : Int) (a0 : 0 ≤ a) (a1 : a < 4294967296) (b0 : 0 ≤ b) (b1 : b < 4294967296) (h : ¬ wrap32 a < wrap32 b) (w : World) :
    Calls Try.prog 74 #[.int .i64 16, .int .u32 a, .int .u32 b] w fun e w' => e = .returned (.tuple #[.int .u32 (0), .int .i64 0]) ∧ w' = w := by
  go_enter Try.func74, Try.ntmps74
  go_wp2
  go_ret2
  exact ⟨rfl, rfl⟩

theorem a8_17y (a b : Int) (a0 : 0 ≤ a) (a1 : a < 4294967296) (b0 : 0 ≤ b) (b1 : b < 4294967296) (h : a < b) (w : World) :
    Calls Try.prog 74 #[.int .i64 17, .int .u32 a, .int .u32 b] w fun e w' => e = .returned (.tuple #[.int .u32 (1), .int .i64 0]) ∧ w' = w := by
  go_enter Try.func74, Try.ntmps74
  go_wp2
  go_ret2
  exact ⟨rfl, rfl⟩

theorem a8_17n (a b : Int) (a0 : 0 ≤ a) (a1 : a < 4294967296) (b0 : 0 ≤ b) (b1 : b < 4294967296) (h : ¬ a < b) (w : World) :
    Calls Try.prog 74 #[.int .i64 17, .int .u32 a, .int .u32 b] w fun e w' => e = .returned (.tuple #[.int .u32 (0), .int .i64 0]) ∧ w' = w := by
  go_enter Try.func74, Try.ntmps74
  go_wp2
  go_ret2
  exact ⟨rfl, rfl⟩

theorem a8_18y (a b : Int) (a0 : 0 ≤ a) (a1 : a < 4294967296) (b0 : 0 ≤ b) (b1 : b < 4294967296) (h : wrap32 a ≤ wrap32 b) (w : World) :
    Calls Try.prog 74 #[.int .i64 18, .int .u32 a, .int .u32 b] w fun e w' => e = .returned (.tuple #[.int .u32 (1), .int .i64 0]) ∧ w' = w := by
  go_enter Try.func74, Try.ntmps74
  go_wp2
  go_ret2
  exact ⟨rfl, rfl⟩

theorem a8_18n (a b : Int) (a0 : 0 ≤ a) (a1 : a < 4294967296) (b0 : 0 ≤ b) (b1 : b < 4294967296) (h : ¬ wrap32 a ≤ wrap32 b) (w : World) :
    Calls Try.prog 74 #[.int .i64 18, .int .u32 a, .int .u32 b] w fun e w' => e = .returned (.tuple #[.int .u32 (0), .int .i64 0]) ∧ w' = w := by
  go_enter Try.func74, Try.ntmps74
  go_wp2
  go_ret2
  exact ⟨rfl, rfl⟩

theorem a8_19y (a b : Int) (a0 : 0 ≤ a) (a1 : a < 4294967296) (b0 : 0 ≤ b) (b1 : b < 4294967296) (h : a ≤ b) (w : World) :
    Calls Try.prog 74 #[.int .i64 19, .int .u32 a, .int .u32 b] w fun e w' => e = .returned (.tuple #[.int .u32 (1), .int .i64 0]) ∧ w' = w := by
  go_enter Try.func74, Try.ntmps74
  go_wp2
  go_ret2
  exact ⟨rfl, rfl⟩

theorem a8_19n (a b : Int) (a0 : 0 ≤ a) (a1 : a < 4294967296) (b0 : 0 ≤ b) (b1 : b < 4294967296) (h : ¬ a ≤ b) (w : World) :
    Calls Try.prog 74 #[.int .i64 19, .int .u32 a, .int .u32 b] w fun e w' => e = .returned (.tuple #[.int .u32 (0), .int .i64 0]) ∧ w' = w := by
  go_enter Try.func74, Try.ntmps74
  go_wp2
  go_ret2
  exact ⟨rfl, rfl⟩

theorem a8_none (op a b : Int) (h1 : (op == 1) = false) (h2 : (op == 2) = false) (h3 : (op == 3) = false) (h4 : (op == 4) = false) (h5 : (op == 5) = false) (h6 : (op == 6) = false) (h7 : (op == 7) = false) (h8 : (op == 8) = false) (h9 : (op == 9) = false) (h10 : (op == 10) = false) (h11 : (op == 11) = false) (h12 : (op == 12) = false) (h13 : (op == 13) = false) (h14 : (op == 14) = false) (h15 : (op == 15) = false) (h16 : (op == 16) = false) (h17 : (op == 17) = false) (h18 : (op == 18) = false) (h19 : (op == 19) = false) (w : World) :
    Calls Try.prog 74 #[.int .i64 op, .int .u32 a, .int .u32 b] w fun e w' => e = .returned (.tuple #[.int .u32 0, .int .i64 4]) ∧ w' = w := by
  go_enter Try.func74, Try.ntmps74
  go_wp2
  go_ret2
  exact ⟨rfl, rfl⟩

/-- Function 7, whatever the operation and the two words. -/
theorem alu7 (op a b : Int) (a0 : 0 ≤ a) (a1 : a < 4294967296) (b0 : 0 ≤ b) (b1 : b < 4294967296) (w : World) :
    Calls Try.prog 69 #[.int .i64 op, .int .u32 a, .int .u32 b] w fun e w' => e = .returned (.tuple #[.int .u32 (aluV op a b), .int .i64 (aluT op b)]) ∧ w' = w := by
  by_cases e1 : op = 1
  · subst e1
    refine (a7_1 a b a0 a1 b0 b1 w).mono ?_; exact fun e w' ⟨he, hw⟩ => ⟨he.trans (ret_pair (by simp [aluV]) (by simp [aluT])), hw⟩
  by_cases e2 : op = 2
  · subst e2
    refine (a7_2 a b a0 a1 b0 b1 w).mono ?_; exact fun e w' ⟨he, hw⟩ => ⟨he.trans (ret_pair (by simp [aluV]) (by simp [aluT])), hw⟩
  by_cases e3 : op = 3
  · subst e3
    refine (a7_3 a b a0 a1 b0 b1 w).mono ?_; exact fun e w' ⟨he, hw⟩ => ⟨he.trans (ret_pair (by simp [aluV]) (by simp [aluT])), hw⟩
  by_cases e4 : op = 4
  · subst e4
    by_cases hz : b = 0
    · refine (a7_4z a b a0 a1 b0 b1 (by simp [hz]) w).mono ?_; exact fun e w' ⟨he, hw⟩ => ⟨he.trans (ret_pair (by simp [aluV, hz]) (by simp [aluT, hz])), hw⟩
    · refine (a7_4 a b a0 a1 b0 b1 (by simp [hz]) hz (wrap32_zero b b0 b1 hz) w).mono ?_; exact fun e w' ⟨he, hw⟩ => ⟨he.trans (ret_pair (by simp [aluV, hz, wrap32_mod]) (by simp [aluT, hz])), hw⟩
  by_cases e5 : op = 5
  · subst e5
    by_cases hz : b = 0
    · refine (a7_5z a b a0 a1 b0 b1 (by simp [hz]) w).mono ?_; exact fun e w' ⟨he, hw⟩ => ⟨he.trans (ret_pair (by simp [aluV, hz]) (by simp [aluT, hz])), hw⟩
    · refine (a7_5 a b a0 a1 b0 b1 (by simp [hz]) hz (wrap32_zero b b0 b1 hz) w).mono ?_; exact fun e w' ⟨he, hw⟩ => ⟨he.trans (ret_pair (by simp [aluV, hz]) (by simp [aluT, hz])), hw⟩
  by_cases e6 : op = 6
  · subst e6
    by_cases hz : b = 0
    · refine (a7_6z a b a0 a1 b0 b1 (by simp [hz]) w).mono ?_; exact fun e w' ⟨he, hw⟩ => ⟨he.trans (ret_pair (by simp [aluV, hz]) (by simp [aluT, hz])), hw⟩
    · refine (a7_6 a b a0 a1 b0 b1 (by simp [hz]) hz (wrap32_zero b b0 b1 hz) w).mono ?_; exact fun e w' ⟨he, hw⟩ => ⟨he.trans (ret_pair (by simp [aluV, hz]) (by simp [aluT, hz])), hw⟩
  by_cases e7 : op = 7
  · subst e7
    by_cases hz : b = 0
    · refine (a7_7z a b a0 a1 b0 b1 (by simp [hz]) w).mono ?_; exact fun e w' ⟨he, hw⟩ => ⟨he.trans (ret_pair (by simp [aluV, hz]) (by simp [aluT, hz])), hw⟩
    · refine (a7_7 a b a0 a1 b0 b1 (by simp [hz]) hz (wrap32_zero b b0 b1 hz) w).mono ?_; exact fun e w' ⟨he, hw⟩ => ⟨he.trans (ret_pair (by simp [aluV, hz]) (by simp [aluT, hz])), hw⟩
  by_cases e8 : op = 8
  · subst e8
    refine (a7_8 a b a0 a1 b0 b1 w).mono ?_; exact fun e w' ⟨he, hw⟩ => ⟨he.trans (ret_pair (by simp [aluV]) (by simp [aluT])), hw⟩
  by_cases e9 : op = 9
  · subst e9
    refine (a7_9 a b a0 a1 b0 b1 w).mono ?_; exact fun e w' ⟨he, hw⟩ => ⟨he.trans (ret_pair (by simp [aluV]) (by simp [aluT])), hw⟩
  by_cases e10 : op = 10
  · subst e10
    refine (a7_10 a b a0 a1 b0 b1 w).mono ?_; exact fun e w' ⟨he, hw⟩ => ⟨he.trans (ret_pair (by simp [aluV]) (by simp [aluT])), hw⟩
  by_cases e11 : op = 11
  · subst e11
    refine (a7_11 a b a0 a1 b0 b1 w).mono ?_; exact fun e w' ⟨he, hw⟩ => ⟨he.trans (ret_pair (by simp [aluV]) (by simp [aluT])), hw⟩
  by_cases e12 : op = 12
  · subst e12
    refine (a7_12 a b a0 a1 b0 b1 w).mono ?_; exact fun e w' ⟨he, hw⟩ => ⟨he.trans (ret_pair (by simp [aluV]) (by simp [aluT])), hw⟩
  by_cases e13 : op = 13
  · subst e13
    refine (a7_13 a b a0 a1 b0 b1 w).mono ?_; exact fun e w' ⟨he, hw⟩ => ⟨he.trans (ret_pair (by simp [aluV]) (by simp [aluT])), hw⟩
  by_cases e14 : op = 14
  · subst e14
    by_cases hz : a = b
    · refine (a7_14y a b a0 a1 b0 b1 (by simp [hz]) w).mono ?_; exact fun e w' ⟨he, hw⟩ => ⟨he.trans (ret_pair (by simp [aluV, hz]) (by simp [aluT])), hw⟩
    · refine (a7_14n a b a0 a1 b0 b1 (by simp [hz]) w).mono ?_; exact fun e w' ⟨he, hw⟩ => ⟨he.trans (ret_pair (by simp [aluV, hz]) (by simp [aluT])), hw⟩
  by_cases e15 : op = 15
  · subst e15
    by_cases hz : a = b
    · refine (a7_15y a b a0 a1 b0 b1 (by simp [hz]) w).mono ?_; exact fun e w' ⟨he, hw⟩ => ⟨he.trans (ret_pair (by simp [aluV, hz]) (by simp [aluT])), hw⟩
    · refine (a7_15n a b a0 a1 b0 b1 (by simp [hz]) w).mono ?_; exact fun e w' ⟨he, hw⟩ => ⟨he.trans (ret_pair (by simp [aluV, hz]) (by simp [aluT])), hw⟩
  by_cases e16 : op = 16
  · subst e16
    by_cases hz : wrap32 a < wrap32 b
    · refine (a7_16y a b a0 a1 b0 b1 hz w).mono ?_; exact fun e w' ⟨he, hw⟩ => ⟨he.trans (ret_pair (by simp [aluV, hz]) (by simp [aluT])), hw⟩
    · refine (a7_16n a b a0 a1 b0 b1 hz w).mono ?_; exact fun e w' ⟨he, hw⟩ => ⟨he.trans (ret_pair (by simp [aluV, hz]) (by simp [aluT])), hw⟩
  by_cases e17 : op = 17
  · subst e17
    by_cases hz : a < b
    · refine (a7_17y a b a0 a1 b0 b1 hz w).mono ?_; exact fun e w' ⟨he, hw⟩ => ⟨he.trans (ret_pair (by simp [aluV, hz]) (by simp [aluT])), hw⟩
    · refine (a7_17n a b a0 a1 b0 b1 hz w).mono ?_; exact fun e w' ⟨he, hw⟩ => ⟨he.trans (ret_pair (by simp [aluV, hz]) (by simp [aluT])), hw⟩
  by_cases e18 : op = 18
  · subst e18
    by_cases hz : wrap32 a ≤ wrap32 b
    · refine (a7_18y a b a0 a1 b0 b1 hz w).mono ?_; exact fun e w' ⟨he, hw⟩ => ⟨he.trans (ret_pair (by simp [aluV, hz]) (by simp [aluT])), hw⟩
    · refine (a7_18n a b a0 a1 b0 b1 hz w).mono ?_; exact fun e w' ⟨he, hw⟩ => ⟨he.trans (ret_pair (by simp [aluV, hz]) (by simp [aluT])), hw⟩
  by_cases e19 : op = 19
  · subst e19
    by_cases hz : a ≤ b
    · refine (a7_19y a b a0 a1 b0 b1 hz w).mono ?_; exact fun e w' ⟨he, hw⟩ => ⟨he.trans (ret_pair (by simp [aluV, hz]) (by simp [aluT])), hw⟩
    · refine (a7_19n a b a0 a1 b0 b1 hz w).mono ?_; exact fun e w' ⟨he, hw⟩ => ⟨he.trans (ret_pair (by simp [aluV, hz]) (by simp [aluT])), hw⟩
  refine (a7_none op a b (by simp [e1]) (by simp [e2]) (by simp [e3]) (by simp [e4]) (by simp [e5]) (by simp [e6]) (by simp [e7]) (by simp [e8]) (by simp [e9]) (by simp [e10]) (by simp [e11]) (by simp [e12]) (by simp [e13]) (by simp [e14]) (by simp [e15]) (by simp [e16]) (by simp [e17]) (by simp [e18]) (by simp [e19]) w).mono ?_
  exact fun e w' ⟨he, hw⟩ => ⟨he.trans (ret_pair (by simp [aluV, e1, e2, e3, e4, e5, e6, e7, e8, e9, e10, e11, e12, e13, e14, e15, e16, e17, e18, e19]) (by unfold aluT; rw [if_neg (by omega), if_neg (by omega)])), hw⟩

/-- Function 8, whatever the operation and the two words. -/
theorem alu8 (op a b : Int) (a0 : 0 ≤ a) (a1 : a < 4294967296) (b0 : 0 ≤ b) (b1 : b < 4294967296) (w : World) :
    Calls Try.prog 74 #[.int .i64 op, .int .u32 a, .int .u32 b] w fun e w' => e = .returned (.tuple #[.int .u32 (aluV op a b), .int .i64 (aluT op b)]) ∧ w' = w := by
  by_cases e1 : op = 1
  · subst e1
    refine (a8_1 a b a0 a1 b0 b1 w).mono ?_; exact fun e w' ⟨he, hw⟩ => ⟨he.trans (ret_pair (by simp [aluV]) (by simp [aluT])), hw⟩
  by_cases e2 : op = 2
  · subst e2
    refine (a8_2 a b a0 a1 b0 b1 w).mono ?_; exact fun e w' ⟨he, hw⟩ => ⟨he.trans (ret_pair (by simp [aluV]) (by simp [aluT])), hw⟩
  by_cases e3 : op = 3
  · subst e3
    refine (a8_3 a b a0 a1 b0 b1 w).mono ?_; exact fun e w' ⟨he, hw⟩ => ⟨he.trans (ret_pair (by simp [aluV]) (by simp [aluT])), hw⟩
  by_cases e4 : op = 4
  · subst e4
    by_cases hz : b = 0
    · refine (a8_4z a b a0 a1 b0 b1 (by simp [hz]) w).mono ?_; exact fun e w' ⟨he, hw⟩ => ⟨he.trans (ret_pair (by simp [aluV, hz]) (by simp [aluT, hz])), hw⟩
    · refine (a8_4 a b a0 a1 b0 b1 (by simp [hz]) hz (wrap32_zero b b0 b1 hz) (by rw [wrap64_32]; exact wrap32_zero b b0 b1 hz) w).mono ?_; exact fun e w' ⟨he, hw⟩ => ⟨he.trans (ret_pair (by rw [div64]; simp [aluV, hz]) (by simp [aluT, hz])), hw⟩
  by_cases e5 : op = 5
  · subst e5
    by_cases hz : b = 0
    · refine (a8_5z a b a0 a1 b0 b1 (by simp [hz]) w).mono ?_; exact fun e w' ⟨he, hw⟩ => ⟨he.trans (ret_pair (by simp [aluV, hz]) (by simp [aluT, hz])), hw⟩
    · refine (a8_5 a b a0 a1 b0 b1 (by simp [hz]) hz (wrap32_zero b b0 b1 hz) (by rw [wrap64_32]; exact wrap32_zero b b0 b1 hz) w).mono ?_; exact fun e w' ⟨he, hw⟩ => ⟨he.trans (ret_pair (by simp [aluV, hz]) (by simp [aluT, hz])), hw⟩
  by_cases e6 : op = 6
  · subst e6
    by_cases hz : b = 0
    · refine (a8_6z a b a0 a1 b0 b1 (by simp [hz]) w).mono ?_; exact fun e w' ⟨he, hw⟩ => ⟨he.trans (ret_pair (by simp [aluV, hz]) (by simp [aluT, hz])), hw⟩
    · refine (a8_6 a b a0 a1 b0 b1 (by simp [hz]) hz (wrap32_zero b b0 b1 hz) (by rw [wrap64_32]; exact wrap32_zero b b0 b1 hz) w).mono ?_; exact fun e w' ⟨he, hw⟩ => ⟨he.trans (ret_pair (by rw [wrap64_32, wrap64_32]; simp [aluV, hz]) (by simp [aluT, hz])), hw⟩
  by_cases e7 : op = 7
  · subst e7
    by_cases hz : b = 0
    · refine (a8_7z a b a0 a1 b0 b1 (by simp [hz]) w).mono ?_; exact fun e w' ⟨he, hw⟩ => ⟨he.trans (ret_pair (by simp [aluV, hz]) (by simp [aluT, hz])), hw⟩
    · refine (a8_7 a b a0 a1 b0 b1 (by simp [hz]) hz (wrap32_zero b b0 b1 hz) (by rw [wrap64_32]; exact wrap32_zero b b0 b1 hz) w).mono ?_; exact fun e w' ⟨he, hw⟩ => ⟨he.trans (ret_pair (by simp [aluV, hz]) (by simp [aluT, hz])), hw⟩
  by_cases e8 : op = 8
  · subst e8
    refine (a8_8 a b a0 a1 b0 b1 w).mono ?_; exact fun e w' ⟨he, hw⟩ => ⟨he.trans (ret_pair (by simp [aluV]) (by simp [aluT])), hw⟩
  by_cases e9 : op = 9
  · subst e9
    refine (a8_9 a b a0 a1 b0 b1 w).mono ?_; exact fun e w' ⟨he, hw⟩ => ⟨he.trans (ret_pair (by simp [aluV]) (by simp [aluT])), hw⟩
  by_cases e10 : op = 10
  · subst e10
    refine (a8_10 a b a0 a1 b0 b1 w).mono ?_; exact fun e w' ⟨he, hw⟩ => ⟨he.trans (ret_pair (by simp [aluV]) (by simp [aluT])), hw⟩
  by_cases e11 : op = 11
  · subst e11
    refine (a8_11 a b a0 a1 b0 b1 w).mono ?_; exact fun e w' ⟨he, hw⟩ => ⟨he.trans (ret_pair (by simp [aluV]) (by simp [aluT])), hw⟩
  by_cases e12 : op = 12
  · subst e12
    refine (a8_12 a b a0 a1 b0 b1 w).mono ?_; exact fun e w' ⟨he, hw⟩ => ⟨he.trans (ret_pair (by simp [aluV]) (by simp [aluT])), hw⟩
  by_cases e13 : op = 13
  · subst e13
    refine (a8_13 a b a0 a1 b0 b1 w).mono ?_; exact fun e w' ⟨he, hw⟩ => ⟨he.trans (ret_pair (by simp [aluV]) (by simp [aluT])), hw⟩
  by_cases e14 : op = 14
  · subst e14
    by_cases hz : a = b
    · refine (a8_14y a b a0 a1 b0 b1 (by simp [hz]) w).mono ?_; exact fun e w' ⟨he, hw⟩ => ⟨he.trans (ret_pair (by simp [aluV, hz]) (by simp [aluT])), hw⟩
    · refine (a8_14n a b a0 a1 b0 b1 (by simp [hz]) w).mono ?_; exact fun e w' ⟨he, hw⟩ => ⟨he.trans (ret_pair (by simp [aluV, hz]) (by simp [aluT])), hw⟩
  by_cases e15 : op = 15
  · subst e15
    by_cases hz : a = b
    · refine (a8_15y a b a0 a1 b0 b1 (by simp [hz]) w).mono ?_; exact fun e w' ⟨he, hw⟩ => ⟨he.trans (ret_pair (by simp [aluV, hz]) (by simp [aluT])), hw⟩
    · refine (a8_15n a b a0 a1 b0 b1 (by simp [hz]) w).mono ?_; exact fun e w' ⟨he, hw⟩ => ⟨he.trans (ret_pair (by simp [aluV, hz]) (by simp [aluT])), hw⟩
  by_cases e16 : op = 16
  · subst e16
    by_cases hz : wrap32 a < wrap32 b
    · refine (a8_16y a b a0 a1 b0 b1 hz w).mono ?_; exact fun e w' ⟨he, hw⟩ => ⟨he.trans (ret_pair (by simp [aluV, hz]) (by simp [aluT])), hw⟩
    · refine (a8_16n a b a0 a1 b0 b1 hz w).mono ?_; exact fun e w' ⟨he, hw⟩ => ⟨he.trans (ret_pair (by simp [aluV, hz]) (by simp [aluT])), hw⟩
  by_cases e17 : op = 17
  · subst e17
    by_cases hz : a < b
    · refine (a8_17y a b a0 a1 b0 b1 hz w).mono ?_; exact fun e w' ⟨he, hw⟩ => ⟨he.trans (ret_pair (by simp [aluV, hz]) (by simp [aluT])), hw⟩
    · refine (a8_17n a b a0 a1 b0 b1 hz w).mono ?_; exact fun e w' ⟨he, hw⟩ => ⟨he.trans (ret_pair (by simp [aluV, hz]) (by simp [aluT])), hw⟩
  by_cases e18 : op = 18
  · subst e18
    by_cases hz : wrap32 a ≤ wrap32 b
    · refine (a8_18y a b a0 a1 b0 b1 hz w).mono ?_; exact fun e w' ⟨he, hw⟩ => ⟨he.trans (ret_pair (by simp [aluV, hz]) (by simp [aluT])), hw⟩
    · refine (a8_18n a b a0 a1 b0 b1 hz w).mono ?_; exact fun e w' ⟨he, hw⟩ => ⟨he.trans (ret_pair (by simp [aluV, hz]) (by simp [aluT])), hw⟩
  by_cases e19 : op = 19
  · subst e19
    by_cases hz : a ≤ b
    · refine (a8_19y a b a0 a1 b0 b1 hz w).mono ?_; exact fun e w' ⟨he, hw⟩ => ⟨he.trans (ret_pair (by simp [aluV, hz]) (by simp [aluT])), hw⟩
    · refine (a8_19n a b a0 a1 b0 b1 hz w).mono ?_; exact fun e w' ⟨he, hw⟩ => ⟨he.trans (ret_pair (by simp [aluV, hz]) (by simp [aluT])), hw⟩
  refine (a8_none op a b (by simp [e1]) (by simp [e2]) (by simp [e3]) (by simp [e4]) (by simp [e5]) (by simp [e6]) (by simp [e7]) (by simp [e8]) (by simp [e9]) (by simp [e10]) (by simp [e11]) (by simp [e12]) (by simp [e13]) (by simp [e14]) (by simp [e15]) (by simp [e16]) (by simp [e17]) (by simp [e18]) (by simp [e19]) w).mono ?_
  exact fun e w' ⟨he, hw⟩ => ⟨he.trans (ret_pair (by simp [aluV, e1, e2, e3, e4, e5, e6, e7, e8, e9, e10, e11, e12, e13, e14, e15, e16, e17, e18, e19]) (by unfold aluT; rw [if_neg (by omega), if_neg (by omega)])), hw⟩

end Go.Proofs.Ytiehlkhpblldaaa
