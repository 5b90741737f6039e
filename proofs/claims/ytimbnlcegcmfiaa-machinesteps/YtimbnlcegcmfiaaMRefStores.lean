/- Store1, Store4 and Fill, of the document's answer. -/
import Derived.Test.YtimbnlcegcmfiaaMLay
namespace Go.Proofs.Ytimbnlcegcmfiaa
open Go.RowKit

theorem rstore1_yes {p r n a : Nat} {x : Int} {g : Nat → UInt8} {w : World} (h : IsMem w 50 p r n g) (h2 : a < n) (x0 : 0 ≤ x) :
    Calls Try.prog 59 #[.pointer (some ⟨p, 0, none⟩), .int .u32 a, .int .u32 x] w fun e w' => e = .returned (.int .i64 0) ∧ IsMem w' 50 p r n (lay g a [by8 x]) ∧ Only r w w' := by
  have hc := h.cell
  have hb := h.byte a h2
  have hf := h.free a
  have hi := h.hi
  have R := h.lay1 a (by8 x)
  rw [by8_val x0] at R
  have O := Only.set w r a (.int .u8 (x % 256))
  have H : Hid (IsMem (w.setCell ⟨r, a, none⟩ (.int .u8 (x % 256))) 50 p r n (lay g a [by8 x]) ∧ Only r w (w.setCell ⟨r, a, none⟩ (.int .u8 (x % 256)))) := ⟨R, O⟩
  clear R O
  go_enter Try.func59, Try.ntmps59
  go_wp2_with (go_at_call 46; refine (there23_yes h (by omega) (by omega)).mono ?_; rintro e w' ⟨rfl, rfl⟩)
  go_ret
  exact ⟨rfl, H.out⟩

theorem rstore1_no {p r n a : Nat} {x : Int} {g : Nat → UInt8} {w : World} (h : IsMem w 50 p r n g) (ha : a < 4294967296) (h2 : ¬ a < n) :
    Calls Try.prog 59 #[.pointer (some ⟨p, 0, none⟩), .int .u32 a, .int .u32 x] w fun e w' => e = .returned (.int .i64 1) ∧ w' = w := by
  go_enter Try.func59, Try.ntmps59
  go_wp2_with (go_at_call 46; refine (there23_no h ha (by omega)).mono ?_; rintro e w' ⟨rfl, rfl⟩)
  go_ret
  exact ⟨rfl, rfl⟩

theorem rstore4_no {p r n a : Nat} {x : Int} {g : Nat → UInt8} {w : World} (h : IsMem w 50 p r n g) (ha : a < 4294967296) (h2 : ¬ (a % 4 = 0 ∧ a + 4 ≤ n)) :
    Calls Try.prog 58 #[.pointer (some ⟨p, 0, none⟩), .int .u32 a, .int .u32 x] w fun e w' => e = .returned (.int .i64 1) ∧ w' = w := by
  by_cases h1 : a % 4 = 0
  · have hm : (a : Int) % 4 = 0 := by omega
    have h3 : n < a + 4 := by omega
    clear h2 h1
    go_enter Try.func58, Try.ntmps58
    go_wp2_with (go_at_call 46; refine (there23_no h ha (by omega)).mono ?_; rintro e w' ⟨rfl, rfl⟩)
    go_ret
    exact ⟨rfl, rfl⟩
  · have hm : ¬ (a : Int) % 4 = 0 := by omega
    clear h2 h1
    go_enter Try.func58, Try.ntmps58
    go_wp2
    go_ret
    exact ⟨rfl, rfl⟩

theorem rfill_no {p r n a : Nat} {s : ByteArray} {g : Nat → UInt8} {w : World} (h : IsMem w 50 p r n g) (ha : a < 4294967296) (h2 : ¬ a + s.size ≤ n) :
    Calls Try.prog 29 #[.pointer (some ⟨p, 0, none⟩), .int .u32 a, .string s] w fun e w' => e = .returned (.int .i64 1) ∧ w' = w := by
  go_enter Try.func29, Try.ntmps29
  go_wp2_with (go_at_call 46; refine (there23_no h ha (by omega)).mono ?_; rintro e w' ⟨rfl, rfl⟩)
  go_ret
  exact ⟨rfl, rfl⟩

theorem snoc_take (s : ByteArray) (k : Nat) (h : k < s.size) : s.data.toList.take (k + 1) = s.data.toList.take k ++ [s[k]] := by
  rw [List.take_succ_eq_append_getElem (by simpa using h)]; rfl

theorem fill_step {w wr : World} {p r n a k : Nat} {s : ByteArray} {g : Nat → UInt8} (hk : k < s.size) (h : IsMem wr 50 p r n (lay g a (s.data.toList.take k))) (hO : Only r w wr) :
    IsMem (wr.setCell ⟨r, a + k, none⟩ (.int .u8 (s[k].toNat : Int))) 50 p r n (lay g a (s.data.toList.take (k + 1))) ∧ Only r w (wr.setCell ⟨r, a + k, none⟩ (.int .u8 (s[k].toNat : Int))) := by
  refine ⟨?_, hO.trans (Only.set _ _ _ _)⟩
  have hl : (s.data.toList.take k).length = k := by rw [List.length_take]; have : s.data.toList.length = s.size := by simp
                                                    omega
  have := lay_snoc g a (s.data.toList.take k) s[k]
  rw [hl] at this
  rw [snoc_take s k hk, ← this]
  exact h.lay1 (a + k) s[k]

theorem rfill_yes {p r n a : Nat} {s : ByteArray} {g : Nat → UInt8} {w : World} (h : IsMem w 50 p r n g) (h2 : a + s.size ≤ n) :
    Calls Try.prog 29 #[.pointer (some ⟨p, 0, none⟩), .int .u32 a, .string s] w fun e w' => e = .returned (.int .i64 0) ∧ IsMem w' 50 p r n (lay g a s.data.toList) ∧ Only r w w' := by
  have hi := h.hi
  go_enter Try.func29, Try.ntmps29
  go_wp2_with (go_at_call 46; refine (there23_yes h (by omega) (by omega)).mono ?_; rintro e w' ⟨rfl, hw⟩; have hv := hw.symm; clear hw; subst hv)
  go_loopw [7] (fun i wr => ∃ k : Nat, k ≤ s.size ∧ i = .int .i64 k ∧ IsMem wr 50 p r n (lay g a (s.data.toList.take k)) ∧ Only r w wr) (fun i _ => s.size - (intOf i).toNat)
  case atStart => exact ⟨0, Nat.zero_le _, rfl, by rw [List.take_zero, lay_nil]; exact h, Only.rfl _ _⟩
  case round =>
    obtain ⟨k, hk, rfl, hM, hO⟩ := hrel
    by_cases hlt : k < s.size
    · have hc := hM.cell
      have hb := hM.byte (a + k) (by omega)
      have hf := hM.free (a + k)
      have H : Hid (_) := fill_step hlt hM hO
      clear hM hO h
      go_wp2
      go_region
      go_wp2
      go_roundw
      case rel => exact ⟨k + 1, by omega, by go_num, H.out.1.drew, H.out.2.drew⟩
      case measure => simp [intOf]; omega
    · go_wp2
      go_ret
      rw [List.take_of_length_le (by simp; omega)] at hM
      exact ⟨rfl, hM, hO⟩

theorem rstore4_yes {p r n a : Nat} {x : Int} {g : Nat → UInt8} {w : World} (h : IsMem w 50 p r n g) (h1 : a % 4 = 0) (h2 : a + 4 ≤ n) (x0 : 0 ≤ x) (x1 : x < 4294967296) :
    Calls Try.prog 58 #[.pointer (some ⟨p, 0, none⟩), .int .u32 a, .int .u32 x] w fun e w' => e = .returned (.int .i64 0) ∧ IsMem w' 50 p r n (lay g a (four x)) ∧ Only r w w' := by
  have hc := h.cell
  have hi := h.hi
  have hm : (a : Int) % 4 = 0 := by omega
  have b0 := h.byte a (by omega)
  have b1 := h.byte (a + 1) (by omega)
  have b2 := h.byte (a + 2) (by omega)
  have b3 := h.byte (a + 3) (by omega)
  have n1 : ¬ p = r := h.ne
  have n2 : ¬ r = p := fun e => h.ne e.symm
  have f0 := h.free a
  have f1 := h.free (a + 1)
  have f2 := h.free (a + 2)
  have f3 := h.free (a + 3)
  go_enter Try.func58, Try.ntmps58
  go_wp2_with (go_at_call 46; refine (there23_yes h (by omega) (by omega)).mono ?_; rintro e w' ⟨rfl, hw⟩; have hv := hw.symm; clear hw; subst hv)
  refine wp_loop_rounds 5 ?_
  rw [rounds_succ]
  go_wp2
  rw [rounds_succ]
  go_wp2
  rw [rounds_succ]
  go_wp2
  rw [rounds_succ]
  go_wp2
  rw [rounds_succ]
  go_wp2
  go_ret
  have R := h.lays a (four x)
  rw [four_cells x0 x1] at R
  exact ⟨rfl, R, Only.sets r [.int .u8 (x % 256), .int .u8 (x / 256 % 256), .int .u8 (x / 65536 % 256), .int .u8 (x / 16777216)] a w⟩
end Go.Proofs.Ytimbnlcegcmfiaa
