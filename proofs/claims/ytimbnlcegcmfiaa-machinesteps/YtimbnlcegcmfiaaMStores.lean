/- Store1, Store4 and Fill, of the program. -/
import Derived.Test.YtimbnlcegcmfiaaMLay
import Derived.Lib.BufferWrite
namespace Go.Proofs.Ytimbnlcegcmfiaa
open Go.RowKit

theorem size5 : (Try.prog.info? 5).map (·.size) = some 1 := by kernel_rfl
theorem sizeOf5 (w : World) : (Go.sizeOf 5).run Try.prog w = .ok 1 w := by
  obtain ⟨i, hi, hs⟩ := Option.map_eq_some_iff.1 size5
  simp [Go.sizeOf, typeInfo, hi, hs]

theorem store1_yes {p r n a : Nat} {x : Int} {g : Nat → UInt8} {w : World} (h : IsMem w 92 p r n g) (h2 : a < n) (x0 : 0 ≤ x) :
    Calls Try.prog 68 #[.pointer (some ⟨p, 0, none⟩), .int .u32 a, .int .u32 x] w fun e w' => e = .returned (.int .i64 0) ∧ IsMem w' 92 p r n (lay g a [by8 x]) ∧ Only r w w' := by
  have hc := h.cell
  have hb := h.byte a h2
  have hf := h.free a
  have hi := h.hi
  have R := h.lay1 a (by8 x)
  rw [by8_val x0] at R
  have O := Only.set w r a (.int .u8 (x % 256))
  have H : Hid (IsMem (w.setCell ⟨r, a, none⟩ (.int .u8 (x % 256))) 92 p r n (lay g a [by8 x]) ∧ Only r w (w.setCell ⟨r, a, none⟩ (.int .u8 (x % 256)))) := ⟨R, O⟩
  clear R O
  go_enter Try.func68, Try.ntmps68
  go_wp2_with (go_at_call 42; refine (has21_yes h (by omega) (by omega)).mono ?_; rintro e w' ⟨rfl, rfl⟩)
  go_ret
  exact ⟨rfl, H.out⟩

theorem store1_no {p r n a : Nat} {x : Int} {g : Nat → UInt8} {w : World} (h : IsMem w 92 p r n g) (ha : a < 4294967296) (h2 : ¬ a < n) :
    Calls Try.prog 68 #[.pointer (some ⟨p, 0, none⟩), .int .u32 a, .int .u32 x] w fun e w' => e = .returned (.int .i64 1) ∧ w' = w := by
  go_enter Try.func68, Try.ntmps68
  go_wp2_with (go_at_call 42; refine (has21_no h ha (by omega) (by omega)).mono ?_; rintro e w' ⟨rfl, rfl⟩)
  go_ret
  exact ⟨rfl, rfl⟩

theorem store4_yes {p r n a : Nat} {x : Int} {g : Nat → UInt8} {w : World} (h : IsMem w 92 p r n g) (h1 : a % 4 = 0) (h2 : a + 4 ≤ n) (x0 : 0 ≤ x) (x1 : x < 4294967296) :
    Calls Try.prog 70 #[.pointer (some ⟨p, 0, none⟩), .int .u32 a, .int .u32 x] w fun e w' => e = .returned (.int .i64 0) ∧ IsMem w' 92 p r n (lay g a (four x)) ∧ Only r w w' := by
  have hc := h.cell
  have hi := h.hi
  have hcp : (Builtin.copy_ #[39, 39] 3 #[.slice (some ⟨r, a, none⟩) (n - a) (n - a), .slice (some ⟨w.heap.size, 0, none⟩) 4 4]).run Try.prog
      (w.alloc (.cells #[.int .u8 (x % 256), .int .u8 (x / 256 % 256), .int .u8 (x / 65536 % 256), .int .u8 (x / 16777216)] 5)) =
      .ok (.int .i64 4) ((w.alloc (.cells #[.int .u8 (x % 256), .int .u8 (x / 256 % 256), .int .u8 (x / 65536 % 256), .int .u8 (x / 16777216)] 5)).setCells r a [.int .u8 (x % 256), .int .u8 (x / 256 % 256), .int .u8 (x / 65536 % 256), .int .u8 (x / 16777216)]) := by
    have hA := h.alloc (.cells #[.int .u8 (x % 256), .int .u8 (x / 256 % 256), .int .u8 (x / 65536 % 256), .int .u8 (x / 16777216)] 5)
    exact run_copy_cells (P := Try.prog) _ 39 39 3 5 r a (n - a) (n - a) ⟨w.heap.size, 0, none⟩ 4 4 [.int .u8 (x % 256), .int .u8 (x / 256 % 256), .int .u8 (x / 65536 % 256), .int .u8 (x / 16777216)] Try.underlying39 size5
      (by show 4 = min 4 (n - a); omega)
      (by
        intro j v hj
        match j, hj with
        | 0, hj => simp at hj; subst hj; simp [Addr.add]
        | 1, hj => simp at hj; subst hj; simp [Addr.add]
        | 2, hj => simp at hj; subst hj; simp [Addr.add]
        | 3, hj => simp at hj; subst hj; simp [Addr.add]
        | j + 4, hj => simp at hj)
      (fun j hj => by rw [hA.byte (a + j) (by simp at hj; omega)]; rfl) (fun j _ => hA.free (a + j))
      (by intro v hv; simp at hv; rcases hv with rfl | rfl | rfl | rfl <;> rfl)
  have H : Hid (IsMem ((w.alloc (.cells #[.int .u8 (x % 256), .int .u8 (x / 256 % 256), .int .u8 (x / 65536 % 256), .int .u8 (x / 16777216)] 5)).setCells r a [.int .u8 (x % 256), .int .u8 (x / 256 % 256), .int .u8 (x / 65536 % 256), .int .u8 (x / 16777216)]) 92 p r n (lay g a (four x)) ∧
      Only r w ((w.alloc (.cells #[.int .u8 (x % 256), .int .u8 (x / 256 % 256), .int .u8 (x / 65536 % 256), .int .u8 (x / 16777216)] 5)).setCells r a [.int .u8 (x % 256), .int .u8 (x / 256 % 256), .int .u8 (x / 65536 % 256), .int .u8 (x / 16777216)])) := by
    refine ⟨?_, (Only.alloc r w _).trans (Only.sets r _ a _)⟩
    have := (h.alloc (.cells #[.int .u8 (x % 256), .int .u8 (x / 256 % 256), .int .u8 (x / 65536 % 256), .int .u8 (x / 16777216)] 5)).lays a (four x)
    rw [four_cells x0 x1] at this
    exact this
  go_enter Try.func70, Try.ntmps70
  go_wp2_with (go_at_call 76; refine (hasWord22_yes h h1 h2).mono ?_; rintro e w' ⟨rfl, rfl⟩)
  go_ret
  exact ⟨rfl, H.out⟩

theorem store4_no {p r n a : Nat} {x : Int} {g : Nat → UInt8} {w : World} (h : IsMem w 92 p r n g) (ha : a < 4294967296) (h2 : ¬ (a % 4 = 0 ∧ a + 4 ≤ n)) :
    Calls Try.prog 70 #[.pointer (some ⟨p, 0, none⟩), .int .u32 a, .int .u32 x] w fun e w' => e = .returned (.int .i64 1) ∧ w' = w := by
  have h3 : ¬ a % 4 = 0 ∨ n < a + 4 := by omega
  clear h2
  go_enter Try.func70, Try.ntmps70
  go_wp2_with (go_at_call 76; refine (hasWord22_no h ha h3).mono ?_; rintro e w' ⟨rfl, rfl⟩)
  go_ret
  exact ⟨rfl, rfl⟩

theorem fill_yes {p r n a : Nat} {s : ByteArray} {g : Nat → UInt8} {w : World} (h : IsMem w 92 p r n g) (h2 : a + s.size ≤ n) :
    Calls Try.prog 45 #[.pointer (some ⟨p, 0, none⟩), .int .u32 a, .string s] w fun e w' => e = .returned (.int .i64 0) ∧ IsMem w' 92 p r n (lay g a s.data.toList) ∧ Only r w w' := by
  have hc := h.cell
  have hi := h.hi
  by_cases h3 : s.size = 0
  · have hcp : ∀ d l c, (Builtin.copy_ #[39, 9] 3 #[.slice d l c, .string s]).run Try.prog w = .ok (goInt 0) w := fun d l c =>
      Lib.run_copy_empty_string (P := Try.prog) w 39 9 3 5 d l c s Try.underlying39 (by rw [size5]; rfl) h3
    have H : Hid (lay g a s.data.toList = g) := by
      rw [show s.data.toList = [] from List.eq_nil_of_length_eq_zero (by simpa using h3)]
      exact lay_nil g a
    by_cases hn : a = n
    · subst hn
      go_enter Try.func45, Try.ntmps45
      go_wp2_with (go_at_call 42; refine (has21_yes h (by omega) (by omega)).mono ?_; rintro e w' ⟨rfl, rfl⟩)
      go_ret
      rw [H.out]
      exact ⟨rfl, h, Only.rfl _ _⟩
    · go_enter Try.func45, Try.ntmps45
      go_wp2_with (go_at_call 42; refine (has21_yes h (by omega) (by omega)).mono ?_; rintro e w' ⟨rfl, rfl⟩)
      go_ret
      rw [H.out]
      exact ⟨rfl, h, Only.rfl _ _⟩
  · have hcp := run_copy_string (P := Try.prog) w 39 9 3 5 r a (n - a) (n - a) s Try.underlying39 sizeOf5 (by omega) (fun j hj => by rw [h.byte (a + j) (by omega)]; rfl) (fun j _ => h.free (a + j))
    have H : Hid (IsMem (w.setCells r a (s.data.toList.map fun x => Value.int .u8 (x.toNat : Int))) 92 p r n (lay g a s.data.toList) ∧ Only r w (w.setCells r a (s.data.toList.map fun x => Value.int .u8 (x.toNat : Int)))) :=
      ⟨h.lays a _, Only.sets r _ a w⟩
    go_enter Try.func45, Try.ntmps45
    go_wp2_with (go_at_call 42; refine (has21_yes h (by omega) (by omega)).mono ?_; rintro e w' ⟨rfl, rfl⟩)
    go_ret
    exact ⟨rfl, H.out⟩

theorem fill_no {p r n a : Nat} {s : ByteArray} {g : Nat → UInt8} {w : World} (h : IsMem w 92 p r n g) (ha : a < 4294967296) (hs : s.size ≤ maxLen) (h2 : ¬ a + s.size ≤ n) :
    Calls Try.prog 45 #[.pointer (some ⟨p, 0, none⟩), .int .u32 a, .string s] w fun e w' => e = .returned (.int .i64 1) ∧ w' = w := by
  unfold maxLen at hs
  go_enter Try.func45, Try.ntmps45
  go_wp2_with (go_at_call 42; refine (has21_no h ha (by omega) (by omega)).mono ?_; rintro e w' ⟨rfl, rfl⟩)
  go_ret
  exact ⟨rfl, rfl⟩
end Go.Proofs.Ytimbnlcegcmfiaa
