/- What a memory is in a world: a struct of one slice, and its row of bytes. The small asking functions. -/
import Derived.Test.YtimbnlcegcmfiaaRows
import Derived.WalkKit
import Derived.Deep.OwnRows
namespace Go.Proofs.Ytimbnlcegcmfiaa
open Go.RowKit

/-- Block p is a struct of type T whose one field is the slice of all of block r, n bytes: byte i is g i. -/
structure IsMem (w : World) (T : TypeId) (p r n : Nat) (g : Nat → UInt8) : Prop where
  head : w.heap[p]? = some (.cells #[.slice (some ⟨r, 0, none⟩) n n] T (0, 0))
  row : w.rowIs r 5 n (fun i => .int .u8 ((g i).toNat : Int))
  ne : p ≠ r
  lo : 1 ≤ n
  hi : n ≤ 262144

theorem IsMem.cell {w : World} {T : TypeId} {p r n : Nat} {g : Nat → UInt8} (h : IsMem w T p r n g) : w.cell? ⟨p, 0, none⟩ = some (.slice (some ⟨r, 0, none⟩) n n) := by
  simp [World.cell?, h.head]
theorem IsMem.byte {w : World} {T : TypeId} {p r n : Nat} {g : Nat → UInt8} (h : IsMem w T p r n g) (i : Nat) (hi : i < n) : w.cell? ⟨r, i, none⟩ = some (.int .u8 ((g i).toNat : Int)) := h.row.cell hi
theorem IsMem.free {w : World} {T : TypeId} {p r n : Nat} {g : Nat → UInt8} (h : IsMem w T p r n g) (i : Nat) : w.frozen? ⟨r, i, none⟩ = false := h.row.frozen i

theorem ret_bool {a b : Bool} (h : a = b) : Ending.returned (.bool a) = .returned (.bool b) := by rw [h]
theorem ret_int {k : IntKind} {a b : Int} (h : a = b) : Ending.returned (.int k a) = .returned (.int k b) := by rw [h]

theorem size9_mem {p r n : Nat} {g : Nat → UInt8} {w : World} (h : IsMem w 92 p r n g) :
    Calls Try.prog 60 #[.pointer (some ⟨p, 0, none⟩)] w fun e w' => e = .returned (.int .i64 n) ∧ w' = w := by
  have hc := h.cell
  go_enter Try.func60, Try.ntmps60
  go_wp2
  go_ret
  exact ⟨rfl, rfl⟩

theorem size9_nil (w : World) :
    Calls Try.prog 60 #[.pointer none] w fun e w' => e = .returned (.int .i64 0) ∧ w' = w := by
  go_enter Try.func60, Try.ntmps60
  go_wp2
  go_ret
  exact ⟨rfl, rfl⟩

theorem size9_bare {p : Nat} {w : World} (hc : w.cell? ⟨p, 0, none⟩ = some (.slice none 0 0)) :
    Calls Try.prog 60 #[.pointer (some ⟨p, 0, none⟩)] w fun e w' => e = .returned (.int .i64 0) ∧ w' = w := by
  go_enter Try.func60, Try.ntmps60
  go_wp2
  go_ret
  exact ⟨rfl, rfl⟩

theorem has21_yes {p r n a : Nat} {k : Int} {g : Nat → UInt8} {w : World} (h : IsMem w 92 p r n g) (h1 : 0 ≤ k) (h2 : (a : Int) + k ≤ n) :
    Calls Try.prog 42 #[.pointer (some ⟨p, 0, none⟩), .int .u32 a, .int .i64 k] w fun e w' => e = .returned (.bool true) ∧ w' = w := by
  have hc := h.cell
  have lo := h.lo
  have hi := h.hi
  have hz : ((n : Int) == 0) = false := by simp; omega
  go_enter Try.func42, Try.ntmps42
  go_wp2_with (go_at_call 60; refine (size9_mem h).mono ?_; rintro e w' ⟨rfl, rfl⟩)
  go_ret
  exact ⟨by first | rfl | exact ret_bool (decide_eq_true (by omega)), rfl⟩

theorem has21_no {p r n a : Nat} {k : Int} {g : Nat → UInt8} {w : World} (h : IsMem w 92 p r n g) (ha : a < 4294967296) (hk : k ≤ 9223372036854775807) (h2 : k < 0 ∨ (n : Int) < (a : Int) + k) :
    Calls Try.prog 42 #[.pointer (some ⟨p, 0, none⟩), .int .u32 a, .int .i64 k] w fun e w' => e = .returned (.bool false) ∧ w' = w := by
  have hc := h.cell
  have lo := h.lo
  have hi := h.hi
  have hz : ((n : Int) == 0) = false := by simp; omega
  by_cases h1 : k < 0
  · clear h2
    go_enter Try.func42, Try.ntmps42
    go_wp2_with (go_at_call 60; refine (size9_mem h).mono ?_; rintro e w' ⟨rfl, rfl⟩)
    go_ret
    exact ⟨by first | rfl | exact ret_bool (decide_eq_false (by omega)), rfl⟩
  · have h3 : (n : Int) < (a : Int) + k := by omega
    have h4 : 0 ≤ k := by omega
    clear h2 h1
    go_enter Try.func42, Try.ntmps42
    go_wp2_with (go_at_call 60; refine (size9_mem h).mono ?_; rintro e w' ⟨rfl, rfl⟩)
    go_ret
    exact ⟨by first | rfl | exact ret_bool (decide_eq_false (by omega)), rfl⟩

/-- A memory that nobody made: none, or a struct of a nil slice. -/
def Bare (w : World) (v : Value) : Prop := v = .pointer none ∨ ∃ p, v = .pointer (some ⟨p, 0, none⟩) ∧ w.cell? ⟨p, 0, none⟩ = some (.slice none 0 0)

theorem size9_none {v : Value} {w : World} (h : Bare w v) :
    Calls Try.prog 60 #[v] w fun e w' => e = .returned (.int .i64 0) ∧ w' = w := by
  rcases h with rfl | ⟨p, rfl, hc⟩
  · exact size9_nil w
  · exact size9_bare hc

theorem has21_none {v : Value} {a k : Int} {w : World} (h : Bare w v) :
    Calls Try.prog 42 #[v, .int .u32 a, .int .i64 k] w fun e w' => e = .returned (.bool false) ∧ w' = w := by
  go_enter Try.func42, Try.ntmps42
  go_wp2_with (go_at_call 60; refine (size9_none h).mono ?_; rintro e w' ⟨rfl, rfl⟩)
  go_ret
  exact ⟨rfl, rfl⟩

theorem hasWord22_yes {p r n a : Nat} {g : Nat → UInt8} {w : World} (h : IsMem w 92 p r n g) (h1 : a % 4 = 0) (h2 : a + 4 ≤ n) :
    Calls Try.prog 76 #[.pointer (some ⟨p, 0, none⟩), .int .u32 a] w fun e w' => e = .returned (.bool true) ∧ w' = w := by
  have hm : (a : Int) % 4 = 0 := by omega
  go_enter Try.func76, Try.ntmps76
  go_wp2_with (go_at_call 42; refine (has21_yes h (by omega) (by omega)).mono ?_; rintro e w' ⟨rfl, rfl⟩)
  go_ret
  exact ⟨rfl, rfl⟩

theorem hasWord22_no {p r n a : Nat} {g : Nat → UInt8} {w : World} (h : IsMem w 92 p r n g) (ha : a < 4294967296) (h1 : ¬ a % 4 = 0 ∨ n < a + 4) :
    Calls Try.prog 76 #[.pointer (some ⟨p, 0, none⟩), .int .u32 a] w fun e w' => e = .returned (.bool false) ∧ w' = w := by
  by_cases h2 : a % 4 = 0
  · have hm : (a : Int) % 4 = 0 := by omega
    have h3 : n < a + 4 := by omega
    clear h1 h2
    go_enter Try.func76, Try.ntmps76
    go_wp2_with (go_at_call 42; refine (has21_no h ha (by omega) (by omega)).mono ?_; rintro e w' ⟨rfl, rfl⟩)
    go_ret
    exact ⟨rfl, rfl⟩
  · have hm : ¬ (a : Int) % 4 = 0 := by omega
    clear h1 h2
    go_enter Try.func76, Try.ntmps76
    go_wp2
    go_ret
    exact ⟨rfl, rfl⟩

theorem hasWord22_none {v : Value} {a : Int} {w : World} (h : Bare w v) (ha : 0 ≤ a) (ha' : a < 4294967296) :
    Calls Try.prog 76 #[v, .int .u32 a] w fun e w' => e = .returned (.bool false) ∧ w' = w := by
  by_cases hm : a % 4 = 0
  all_goals
    go_enter Try.func76, Try.ntmps76
    go_wp2_with (go_at_call 42; refine (has21_none h).mono ?_; rintro e w' ⟨rfl, rfl⟩)
    go_ret
    exact ⟨rfl, rfl⟩

theorem there23_yes {p r n a : Nat} {k : Int} {g : Nat → UInt8} {w : World} (h : IsMem w 50 p r n g) (h1 : 0 ≤ k) (h2 : (a : Int) + k ≤ n) :
    Calls Try.prog 46 #[.pointer (some ⟨p, 0, none⟩), .int .u32 a, .int .i64 k] w fun e w' => e = .returned (.bool true) ∧ w' = w := by
  have hc := h.cell
  have hi := h.hi
  go_enter Try.func46, Try.ntmps46
  go_wp2
  go_ret
  exact ⟨by first | rfl | exact ret_bool (decide_eq_true (by omega)), rfl⟩

theorem there23_no {p r n a : Nat} {k : Int} {g : Nat → UInt8} {w : World} (h : IsMem w 50 p r n g) (ha : a < 4294967296) (h2 : k < 0 ∨ (n : Int) < (a : Int) + k) :
    Calls Try.prog 46 #[.pointer (some ⟨p, 0, none⟩), .int .u32 a, .int .i64 k] w fun e w' => e = .returned (.bool false) ∧ w' = w := by
  have hc := h.cell
  have hi := h.hi
  by_cases h1 : k < 0
  · clear h2
    go_enter Try.func46, Try.ntmps46
    go_wp2
    go_ret
    exact ⟨by first | rfl | exact ret_bool (decide_eq_false (by omega)), rfl⟩
  · have h3 : (n : Int) < (a : Int) + k := by omega
    have h4 : 0 ≤ k := by omega
    clear h2 h1
    by_cases h5 : (a : Int) ≤ n
    all_goals
      go_enter Try.func46, Try.ntmps46
      go_wp2
      go_ret
      exact ⟨by first | rfl | exact ret_bool (decide_eq_false (by omega)), rfl⟩
end Go.Proofs.Ytimbnlcegcmfiaa
