/- A copy of a text: a new row, its bytes, and the text that is read off it. -/
import Derived.Test.YthdphldagfeepaaBase
import Derived.Lib.UnsafeStr
import Derived.Lib.BufferWrite
import Derived.Laws.MakeOwn
import Derived.Laws.DeepStrings4
namespace Go.Proofs.Ythdphldagfeepaa
open Go.RowKit
set_option linter.unusedVariables false
set_option linter.unusedSimpArgs false

theorem info5' : (Try.prog.info? 5).map (fun i => (i.zero, i.size, i.bytes)) = some (some (.int .u8 0), 1, 1) := by kernel_rfl
theorem size_list (s : ByteArray) : s.data.toList.length = s.size := Array.length_toList
theorem ext_list {s t : ByteArray} (h : s.data.toList = t.data.toList) : s = t := by
  cases s; cases t
  simp at h
  rw [h]
def vals (l : List UInt8) : List Value := l.map fun x => Value.int .u8 (x.toNat : Int)
theorem vals_length (l : List UInt8) : (vals l).length = l.length := by simp [vals]
theorem below_box (w : World) (o : Obj) : Below w.heap.size w (w.alloc o) := (Below.refl _ _).alloc (Nat.le_refl _) _

/-- What the three statements of a copy do: the row that is made, the world behind the copying, and the world in which the row's bytes are frozen. -/
structure Copied (s : ByteArray) (w : World) (R : Array Value) (W2 W3 : World) : Prop where
  make : (Instr.makeSlice 54 (.int .i64 (s.size : Int)) (.int .i64 (s.size : Int))).run Try.prog w = .ok (.slice (some ⟨w.heap.size, 0, none⟩) s.size s.size) (w.alloc (.cells R 5))
  copy : (Builtin.copy_ #[54, 9] 3 #[.slice (some ⟨w.heap.size, 0, none⟩) s.size s.size, .string s]).run Try.prog (w.alloc (.cells R 5)) = .ok (.int .i64 (s.size : Int)) W2
  text : (Builtin.unsafeString_ #[55, 3] 9 #[.pointer (some ⟨w.heap.size, 0, none⟩), .int .i64 (s.size : Int)]).run Try.prog W2 = .ok (.string s) W3
  below : Below w.heap.size w W3

theorem copied (s : ByteArray) (w : World) (h0 : ¬ s.size = 0) (hs : s.size ≤ 140737488351232) : ∃ R W2 W3, Copied s w R W2 W3 := by
  obtain ⟨i, hi, hz, h1, hb⟩ := info_parts info5'
  have hm := run_make (P := Try.prog) w 54 5 i (.int .u8 0) Try.underlying54 hi hz .i64 .i64 (s.size : Int) (s.size : Int) (by omega) (Int.le_refl _) (by rw [hb]; omega) (by omega)
  rw [Int.toNat_natCast, h1, Nat.mul_one] at hm
  have hR := size_madeCells (Value.int .u8 0).cells s.size
  generalize madeCells (Value.int .u8 0).cells s.size = R at hm hR
  have hone : (Try.prog.info? 5).map (·.size) = some 1 := by rw [hi, Option.map_some, h1]
  have hcells : Try.prog.cellsOf 5 = 1 := by rw [Program.cellsOf, hi]; exact h1
  have hc := Lib.run_copy_row_string (P := Try.prog) (w.alloc (.cells R 5)) 54 9 3 5 w.heap.size 0 s.size s.size s R 5 Try.underlying54 hone (heap_alloc_new w _) (Nat.le_refl _) (by omega)
  have hrow : (R.toList.take 0 ++ Lib.byteCells s.data.toList ++ R.toList.drop (0 + s.size)) = vals s.data.toList := by
    rw [Nat.zero_add, ← hR, ← Array.length_toList, List.drop_length, List.append_nil, List.take_zero, List.nil_append]
    rfl
  rw [hrow] at hc
  have hnew : ((w.alloc (.cells R 5)).setRow w.heap.size (vals s.data.toList).toArray).heap[w.heap.size]? = some (.cells (vals s.data.toList).toArray 5 (0, 0)) := setRow_heap _ _ R _ 5 (0, 0) (heap_alloc_new w _)
  have hsh : ((w.alloc (.cells R 5)).setRow w.heap.size (vals s.data.toList).toArray).shape? w.heap.size = some (5, s.size) := by
    unfold World.shape?
    rw [hnew]
    simp [vals_length]
  have hl : s.data.toList ≠ [] := fun e => h0 (by rw [← size_list, e]; rfl)
  have ht := Lib.run_unsafeString_row (P := Try.prog) ((w.alloc (.cells R 5)).setRow w.heap.size (vals s.data.toList).toArray) 55 3 9 5 Try.underlying55 hcells w.heap.size s.size hsh s.data.toList hl (by rw [size_list]; exact Nat.le_refl _) (by rw [size_list]; omega) (fun j x hx => by
    rw [Addr.add_lit, Nat.zero_add]
    simp only [World.cell?, hnew]
    simp [vals, hx])
  rw [size_list] at ht
  have hset : Below w.heap.size (w.alloc (.cells R 5)) ((w.alloc (.cells R 5)).setRow w.heap.size (vals s.data.toList).toArray) := ⟨rfl, rfl, rfl, by simp, fun k hk => setRow_other _ _ _ _ (Nat.ne_of_lt hk)⟩
  exact ⟨R, _, _, hm, hc, ht, Lib.below_freeze ((below_box w _).trans hset) (p := ⟨w.heap.size, 0, none⟩) (Nat.le_refl _) _⟩

set_option maxHeartbeats 1000000 in
theorem clone20_none (w : World) : Calls Try.prog 20 #[.string ⟨#[]⟩] w fun e w' => e = .returned (.string ⟨#[]⟩) ∧ Below w.heap.size w w' := by
  go_enter Try.func20, Try.ntmps20
  go_wp2
  go_ret
  exact ⟨rfl, Below.refl _ _⟩

set_option maxHeartbeats 4000000 in
set_option maxRecDepth 20000 in
theorem clone20 (s : ByteArray) (w : World) (hs : s.size ≤ 140737488351232) :
    Calls Try.prog 20 #[.string s] w fun e w' => e = .returned (.string s) ∧ Below w.heap.size w w' := by
  by_cases h0 : s.size = 0
  · obtain rfl : s = ⟨#[]⟩ := ext_list (List.eq_nil_of_length_eq_zero (by rw [size_list]; exact h0))
    exact clone20_none w
  · obtain ⟨R, W2, W3, hm, hc, ht, hb⟩ := copied s w h0 hs
    go_enter Try.func20, Try.ntmps20
    go_wp2
    go_ret
    exact ⟨rfl, hb⟩

theorem clone19 (s : ByteArray) (w : World) (hlim : s.size ≤ 140737488351232) :
    Calls Try.prog 19 #[.string s] w fun e w' => e = .returned (.string s) ∧ Below w.heap.size w w' := by
  go_enter Try.func19, Try.ntmps19
  go_wp2_with (go_at_call 20; refine (clone20 s _ hlim).mono ?_; rintro e w1 ⟨rfl, hb1⟩)
  go_ret
  exact ⟨rfl, hb1⟩
end Go.Proofs.Ythdphldagfeepaa
