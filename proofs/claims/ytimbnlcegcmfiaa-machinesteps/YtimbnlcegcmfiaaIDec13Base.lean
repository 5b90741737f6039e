/- What the document's answer to Decode leaves in memory, and a word's Imm by its bits. -/
import Derived.Test.YtimbnlcegcmfiaaIDecode
import Derived.Test.YtimbnlcegcmfiaaIShapedAt
import Derived.WalkKit
namespace Go.Proofs.Ytimbnlcegcmfiaa
open Go.RowKit

theorem below_call4 {w w1 : World} {o o2 o3 o4 : Obj} (hb : Below ((((w.alloc o).alloc o2).alloc o3).alloc o4).heap.size ((((w.alloc o).alloc o2).alloc o3).alloc o4) w1) : Below w.heap.size w w1 :=
  (((((Below.refl _ _).alloc (Nat.le_refl _) _).alloc (by simp) _).alloc (by simp; omega) _).alloc (by simp; omega) _).trans (hb.mono (by simp; omega))

theorem zero_after4 {w w1 : World} {o2 o3 o4 : Obj} (hb : Below ((((w.alloc (.cells #[.int .i64 0, .int .i64 0, .int .i64 0, .int .i64 0, .int .i32 0] 74)).alloc o2).alloc o3).alloc o4).heap.size ((((w.alloc (.cells #[.int .i64 0, .int .i64 0, .int .i64 0, .int .i64 0, .int .i32 0] 74)).alloc o2).alloc o3).alloc o4) w1) : ZeroAt w1 w.heap.size := by
  have hc := (bcell hb).1
  have hl : w.heap.size < ((((w.alloc (.cells #[.int .i64 0, .int .i64 0, .int .i64 0, .int .i64 0, .int .i32 0] 74)).alloc o2).alloc o3).alloc o4).heap.size := by simp; omega
  have l2 : w.heap.size < w.heap.size + 1 + 1 := by omega
  have l3 : w.heap.size < w.heap.size + 1 + 1 + 1 := by omega
  refine ⟨?_, ?_, ?_, ?_, ?_⟩
  all_goals (rw [hc _ _ hl]; simp [go_sem, l2, l3])

theorem reg15 {v r : Int} (v0 : 0 ≤ v) (v1 : v < 4294967296) (h : regF v true = r) : bits BinOp.and IntKind.u32 v 15 = r ∧ 0 ≤ r ∧ r < 16 := by
  have h' : v % 16 = r := h
  rw [mask4 v v0 v1]
  omega
theorem imm16s {u i : Int} (u0 : 0 ≤ u) (u1 : u < 4294967296) (h : immF 16 true u = i) :
    (bits BinOp.and IntKind.u32 u 65535 = i ∧ 0 ≤ i ∧ i < 32768) ∨ (bits BinOp.and IntKind.u32 u 65535 = i + 65536 ∧ -32768 ≤ i ∧ i < 0) := by
  have h' : (if u % 65536 < 32768 then u % 65536 else u % 65536 - 65536) = i := h
  rw [mask16 u u0 u1]
  omega
theorem imm16u {u i : Int} (u0 : 0 ≤ u) (u1 : u < 4294967296) (h : immF 16 false u = i) : bits BinOp.and IntKind.u32 u 65535 = i ∧ 0 ≤ i ∧ i < 65536 := by
  have h' : u % 65536 = i := h
  rw [mask16 u u0 u1]
  omega
theorem imm24s {u i : Int} (u0 : 0 ≤ u) (u1 : u < 4294967296) (h : immF 24 true u = i) :
    (bits BinOp.and IntKind.u32 u 16777215 = i ∧ 0 ≤ i ∧ i < 8388608) ∨ (bits BinOp.and IntKind.u32 u 16777215 = i + 16777216 ∧ -8388608 ≤ i ∧ i < 0) := by
  have h' : (if u % 16777216 < 8388608 then u % 16777216 else u % 16777216 - 16777216) = i := h
  rw [mask24 u u0 u1]
  omega
end Go.Proofs.Ytimbnlcegcmfiaa
