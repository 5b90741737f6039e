/- What a memory that nobody made answers. -/
import Derived.Test.YtgonjmifpaddgaaMem
namespace Go.Proofs.Ytgonjmifpaddgaa
open Go.RowKit

theorem load4_none {v : Value} {a : Int} {w : World} (h : Bare w v) (ha : 0 ≤ a) (ha' : a < 4294967296) :
    Calls Try.prog 10 #[v, .int .u32 a] w fun e w' => e = .returned (.tuple #[.int .u32 0, .int .i64 1]) ∧ w' = w := by
  go_enter Try.func10, Try.ntmps10
  go_wp2_with (go_at_call 22; refine (hasWord22_none h ha ha').mono ?_; rintro e w' ⟨rfl, rfl⟩)
  go_ret2
  exact ⟨rfl, rfl⟩

theorem load1_none {v : Value} {a : Int} {w : World} (h : Bare w v) :
    Calls Try.prog 12 #[v, .int .u32 a] w fun e w' => e = .returned (.tuple #[.int .u32 0, .int .i64 1]) ∧ w' = w := by
  go_enter Try.func12, Try.ntmps12
  go_wp2_with (go_at_call 21; refine (has21_none h).mono ?_; rintro e w' ⟨rfl, rfl⟩)
  go_ret2
  exact ⟨rfl, rfl⟩

theorem bytes_none {v : Value} {a k : Int} {w : World} (h : Bare w v) :
    Calls Try.prog 8 #[v, .int .u32 a, .int .i64 k] w fun e w' => e = .returned (.tuple #[.string ⟨#[]⟩, .int .i64 1]) ∧ w' = w := by
  go_enter Try.func8, Try.ntmps8
  go_wp2_with (go_at_call 21; refine (has21_none h).mono ?_; rintro e w' ⟨rfl, rfl⟩)
  go_ret2
  exact ⟨rfl, rfl⟩

theorem store4_none {v : Value} {a x : Int} {w : World} (h : Bare w v) (ha : 0 ≤ a) (ha' : a < 4294967296) :
    Calls Try.prog 15 #[v, .int .u32 a, .int .u32 x] w fun e w' => e = .returned (.int .i64 1) ∧ w' = w := by
  go_enter Try.func15, Try.ntmps15
  go_wp2_with (go_at_call 22; refine (hasWord22_none h ha ha').mono ?_; rintro e w' ⟨rfl, rfl⟩)
  go_ret
  exact ⟨rfl, rfl⟩

theorem store1_none {v : Value} {a x : Int} {w : World} (h : Bare w v) :
    Calls Try.prog 16 #[v, .int .u32 a, .int .u32 x] w fun e w' => e = .returned (.int .i64 1) ∧ w' = w := by
  go_enter Try.func16, Try.ntmps16
  go_wp2_with (go_at_call 21; refine (has21_none h).mono ?_; rintro e w' ⟨rfl, rfl⟩)
  go_ret
  exact ⟨rfl, rfl⟩

theorem fill_none {v : Value} {a : Int} {s : ByteArray} {w : World} (h : Bare w v) :
    Calls Try.prog 17 #[v, .int .u32 a, .string s] w fun e w' => e = .returned (.int .i64 1) ∧ w' = w := by
  go_enter Try.func17, Try.ntmps17
  go_wp2_with (go_at_call 21; refine (has21_none h).mono ?_; rintro e w' ⟨rfl, rfl⟩)
  go_ret
  exact ⟨rfl, rfl⟩

end Go.Proofs.Ytgonjmifpaddgaa
