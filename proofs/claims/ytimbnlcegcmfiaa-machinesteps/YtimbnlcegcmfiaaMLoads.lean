/- Load1, Load4 and Bytes, of both. -/
import Derived.Test.YtimbnlcegcmfiaaMLay
import Derived.Test.YtimbnlcegcmfiaaMWords
import Derived.Laws.BytesArg
import Derived.Deep.QuietTactic
import Derived.BigQuiet
namespace Go.Proofs.Ytimbnlcegcmfiaa
open Go.RowKit

theorem load1_yes {p r n a : Nat} {g : Nat → UInt8} {w : World} (h : IsMem w 92 p r n g) (h2 : a < n) :
    Calls Try.prog 78 #[.pointer (some ⟨p, 0, none⟩), .int .u32 a] w fun e w' => e = .returned (.tuple #[.int .u32 (g a).toNat, .int .i64 0]) ∧ w' = w := by
  have hc := h.cell
  have hb := h.byte a h2
  have hi := h.hi
  have hg : (g a).toNat < 256 := (g a).toNat_lt
  go_enter Try.func78, Try.ntmps78
  go_wp2_with (go_at_call 42; refine (has21_yes h (by omega) (by omega)).mono ?_; rintro e w' ⟨rfl, rfl⟩)
  go_ret2
  exact ⟨rfl, rfl⟩

theorem load1_no {p r n a : Nat} {g : Nat → UInt8} {w : World} (h : IsMem w 92 p r n g) (ha : a < 4294967296) (h2 : ¬ a < n) :
    Calls Try.prog 78 #[.pointer (some ⟨p, 0, none⟩), .int .u32 a] w fun e w' => e = .returned (.tuple #[.int .u32 0, .int .i64 1]) ∧ w' = w := by
  go_enter Try.func78, Try.ntmps78
  go_wp2_with (go_at_call 42; refine (has21_no h ha (by omega) (by omega)).mono ?_; rintro e w' ⟨rfl, rfl⟩)
  go_ret2
  exact ⟨rfl, rfl⟩

theorem rload1_yes {p r n a : Nat} {g : Nat → UInt8} {w : World} (h : IsMem w 50 p r n g) (h2 : a < n) :
    Calls Try.prog 57 #[.pointer (some ⟨p, 0, none⟩), .int .u32 a] w fun e w' => e = .returned (.tuple #[.int .u32 (g a).toNat, .int .i64 0]) ∧ w' = w := by
  have hc := h.cell
  have hb := h.byte a h2
  have hi := h.hi
  have hg : (g a).toNat < 256 := (g a).toNat_lt
  go_enter Try.func57, Try.ntmps57
  go_wp2_with (go_at_call 46; refine (there23_yes h (by omega) (by omega)).mono ?_; rintro e w' ⟨rfl, rfl⟩)
  go_ret2
  exact ⟨rfl, rfl⟩

theorem rload1_no {p r n a : Nat} {g : Nat → UInt8} {w : World} (h : IsMem w 50 p r n g) (ha : a < 4294967296) (h2 : ¬ a < n) :
    Calls Try.prog 57 #[.pointer (some ⟨p, 0, none⟩), .int .u32 a] w fun e w' => e = .returned (.tuple #[.int .u32 0, .int .i64 1]) ∧ w' = w := by
  go_enter Try.func57, Try.ntmps57
  go_wp2_with (go_at_call 46; refine (there23_no h ha (by omega)).mono ?_; rintro e w' ⟨rfl, rfl⟩)
  go_ret2
  exact ⟨rfl, rfl⟩

theorem load4_no {p r n a : Nat} {g : Nat → UInt8} {w : World} (h : IsMem w 92 p r n g) (ha : a < 4294967296) (h2 : ¬ (a % 4 = 0 ∧ a + 4 ≤ n)) :
    Calls Try.prog 77 #[.pointer (some ⟨p, 0, none⟩), .int .u32 a] w fun e w' => e = .returned (.tuple #[.int .u32 0, .int .i64 1]) ∧ w' = w := by
  have h3 : ¬ a % 4 = 0 ∨ n < a + 4 := by omega
  clear h2
  go_enter Try.func77, Try.ntmps77
  go_wp2_with (go_at_call 76; refine (hasWord22_no h ha h3).mono ?_; rintro e w' ⟨rfl, rfl⟩)
  go_ret2
  exact ⟨rfl, rfl⟩

theorem rload4_no {p r n a : Nat} {g : Nat → UInt8} {w : World} (h : IsMem w 50 p r n g) (ha : a < 4294967296) (h2 : ¬ (a % 4 = 0 ∧ a + 4 ≤ n)) :
    Calls Try.prog 56 #[.pointer (some ⟨p, 0, none⟩), .int .u32 a] w fun e w' => e = .returned (.tuple #[.int .u32 0, .int .i64 1]) ∧ w' = w := by
  by_cases h1 : a % 4 = 0
  · have hm : (a : Int) % 4 = 0 := by omega
    have h3 : n < a + 4 := by omega
    clear h2 h1
    go_enter Try.func56, Try.ntmps56
    go_wp2_with (go_at_call 46; refine (there23_no h ha (by omega)).mono ?_; rintro e w' ⟨rfl, rfl⟩)
    go_ret2
    exact ⟨rfl, rfl⟩
  · have hm : ¬ (a : Int) % 4 = 0 := by omega
    clear h2 h1
    go_enter Try.func56, Try.ntmps56
    go_wp2
    go_ret2
    exact ⟨rfl, rfl⟩

/-- The word at a place. -/
def wordAt (g : Nat → UInt8) (a : Nat) : Int := word4 (g a).toNat (g (a + 1)).toNat (g (a + 2)).toNat (g (a + 3)).toNat

theorem ret_word {a b : Int} (h : a = b) : Ending.returned (.tuple #[.int .u32 a, .int .i64 0]) = .returned (.tuple #[.int .u32 b, .int .i64 0]) := by rw [h]

theorem load4_yes {p r n a : Nat} {g : Nat → UInt8} {w : World} (h : IsMem w 92 p r n g) (h1 : a % 4 = 0) (h2 : a + 4 ≤ n) :
    Calls Try.prog 77 #[.pointer (some ⟨p, 0, none⟩), .int .u32 a] w fun e w' => e = .returned (.tuple #[.int .u32 (wordAt g a), .int .i64 0]) ∧ ∃ q, w' = w.drewN q := by
  have hc := h.cell
  have hi := h.hi
  have b0 := h.byte a (by omega)
  have b1 := h.byte (a + 1) (by omega)
  have b2 := h.byte (a + 2) (by omega)
  have b3 := h.byte (a + 3) (by omega)
  go_enter Try.func77, Try.ntmps77
  go_wp2_with (go_at_call 76; refine (hasWord22_yes h h1 h2).mono ?_; rintro e w' ⟨rfl, hw⟩; have hv := hw.symm; clear hw; subst hv)
  go_quiet (fail)
  go_wp2
  go_ret2
  exact ⟨ret_word (up4 _ _ _ _ (g a).toNat_lt (g (a + 1)).toNat_lt (g (a + 2)).toNat_lt (g (a + 3)).toNat_lt), _, rfl⟩

theorem rload4_yes {p r n a : Nat} {g : Nat → UInt8} {w : World} (h : IsMem w 50 p r n g) (h1 : a % 4 = 0) (h2 : a + 4 ≤ n) :
    Calls Try.prog 56 #[.pointer (some ⟨p, 0, none⟩), .int .u32 a] w fun e w' => e = .returned (.tuple #[.int .u32 (wordAt g a), .int .i64 0]) ∧ w' = w := by
  have hc := h.cell
  have hi := h.hi
  have hm : (a : Int) % 4 = 0 := by omega
  have b0 := h.byte a (by omega)
  have b1 := h.byte (a + 1) (by omega)
  have b2 := h.byte (a + 2) (by omega)
  have b3 := h.byte (a + 3) (by omega)
  go_enter Try.func56, Try.ntmps56
  go_wp2_with (go_at_call 46; refine (there23_yes h (by omega) (by omega)).mono ?_; rintro e w' ⟨rfl, hw⟩; have hv := hw.symm; clear hw; subst hv)
  refine wp_loop_rounds 5 ?_
  rw [rounds_succ]
  go_wp2
  rw [rounds_succ]
  go_wp2
  rw [rounds_succ]
  go_wp2
  rw [rounds_succ]
  go_wp2
  rw [rounds_succ]
  go_wp2
  go_ret2
  exact ⟨ret_word (down4 _ _ _ _ (g a).toNat_lt (g (a + 1)).toNat_lt (g (a + 2)).toNat_lt (g (a + 3)).toNat_lt), rfl⟩

theorem bytes_no {p r n a : Nat} {k : Int} {g : Nat → UInt8} {w : World} (h : IsMem w 92 p r n g) (ha : a < 4294967296) (hk : k ≤ 9223372036854775807) (h2 : k < 0 ∨ (n : Int) < (a : Int) + k) :
    Calls Try.prog 20 #[.pointer (some ⟨p, 0, none⟩), .int .u32 a, .int .i64 k] w fun e w' => e = .returned (.tuple #[.string ⟨#[]⟩, .int .i64 1]) ∧ w' = w := by
  go_enter Try.func20, Try.ntmps20
  go_wp2_with (go_at_call 42; refine (has21_no h ha hk h2).mono ?_; rintro e w' ⟨rfl, rfl⟩)
  go_ret2
  exact ⟨rfl, rfl⟩


/-- So many bytes from a place on, as a string. -/
def bstr (g : Nat → UInt8) (a k : Nat) : ByteArray := strOfNums ((List.range k).map fun i => ((g (a + i)).toNat : Int))

theorem IsMem.conv {w : World} {T : TypeId} {p r n : Nat} {g : Nat → UInt8} (h : IsMem w T p r n g) (a k cap : Nat) (h2 : a + k ≤ n) :
    (convert 39 9 (.slice (some ⟨r, a, none⟩) k cap)).run Try.prog w = .ok (.string (bstr g a k)) w :=
  run_convert_bytes_arg w 39 5 Try.underlying39 Try.underlying5 r a k cap _ (by simp) (fun i hi => by
    rw [h.byte (a + i) (by omega)]
    simp [List.getD, hi]) 9 Try.underlying9

theorem bytes_yes {p r n a k : Nat} {g : Nat → UInt8} {w : World} (h : IsMem w 92 p r n g) (h2 : a + k ≤ n) :
    Calls Try.prog 20 #[.pointer (some ⟨p, 0, none⟩), .int .u32 a, .int .i64 k] w fun e w' => e = .returned (.tuple #[.string (bstr g a k), .int .i64 0]) ∧ w' = w := by
  have hc := h.cell
  have hi := h.hi
  have hcv := fun cap => h.conv a k cap h2
  by_cases hk : k = 0
  · subst hk
    have hcv2 := fun cap => h.conv 0 0 cap (by omega)
    have hE : Hid (bstr g 0 0 = bstr g a 0) := rfl
    by_cases hn : a = n
    · subst hn
      go_enter Try.func20, Try.ntmps20
      go_wp2_with (go_at_call 42; refine (has21_yes h (by omega) (by omega)).mono ?_; rintro e w' ⟨rfl, rfl⟩)
      go_ret2
      exact ⟨rfl, rfl⟩
    · go_enter Try.func20, Try.ntmps20
      go_wp2_with (go_at_call 42; refine (has21_yes h (by omega) (by omega)).mono ?_; rintro e w' ⟨rfl, rfl⟩)
      go_ret2
      exact ⟨rfl, rfl⟩
  · go_enter Try.func20, Try.ntmps20
    go_wp2_with (go_at_call 42; refine (has21_yes h (by omega) (by omega)).mono ?_; rintro e w' ⟨rfl, rfl⟩)
    go_ret2
    exact ⟨rfl, rfl⟩

end Go.Proofs.Ytimbnlcegcmfiaa
