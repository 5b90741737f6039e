/- How many a set has: of one set. -/
import Derived.Test.YtjhndnhldhmjnaaDoorUs
namespace Go.Proofs.YtjhndnhldhmjnaaDoor
open Go Go.RowKit Go.Maps
set_option linter.unusedVariables false
set_option linter.unusedSimpArgs false
theorem bits_lit (a b c : Nat) (ha : a < 18446744073709551616) (hb : b < 18446744073709551616) (h : a &&& b = c) : bits .and .u64 (a : Int) (b : Int) = (c : Int) := by
  have h1 := b_and (BitVec.ofNat 64 a) (BitVec.ofNat 64 b)
  rw [BitVec.toNat_and, BitVec.toNat_ofNat, BitVec.toNat_ofNat, Nat.mod_eq_of_lt ha, Nat.mod_eq_of_lt hb, h] at h1
  exact h1
set_option maxRecDepth 20000 in
theorem ones14 (w : World) : Calls Tryd.prog 44 #[.int .u64 14] w fun e w' => e = .returned (.int .i64 3) ∧ w' = w := by
  have e1 : bits .and .u64 (7 : Int) (6148914691236517205 : Int) = 5 := bits_lit 7 6148914691236517205 5 (by decide) (by decide) (by decide)
  have e2 : bits .and .u64 (14 : Int) (6148914691236517205 : Int) = 4 := bits_lit 14 6148914691236517205 4 (by decide) (by decide) (by decide)
  have e3 : bits .and .u64 (2 : Int) (3689348814741910323 : Int) = 2 := bits_lit 2 3689348814741910323 2 (by decide) (by decide) (by decide)
  have e4 : bits .and .u64 (9 : Int) (3689348814741910323 : Int) = 1 := bits_lit 9 3689348814741910323 1 (by decide) (by decide) (by decide)
  have e5 : bits .and .u64 (3 : Int) (1085102592571150095 : Int) = 3 := bits_lit 3 1085102592571150095 3 (by decide) (by decide) (by decide)
  go_enter Tryd.func44, Tryd.ntmps44
  go_wp2_with fail
  rw [show bits BinOp.and IntKind.i64 (3 : Int) (127 : Int) = 3 by kernel_rfl]
  go_ret
  exact ⟨rfl, rfl⟩
def xs14 : List Wd := [14#64]
theorem mem14 (n : Nat) : memL xs14 n = decide (n = 1 ∨ n = 2 ∨ n = 3) := by
  by_cases h : n < 64
  · have : ∀ n : Fin 64, memL xs14 n.val = decide (n.val = 1 ∨ n.val = 2 ∨ n.val = 3) := by decide
    exact this ⟨n, h⟩
  · have e : memL xs14 n = false := by
      cases e : memL xs14 n
      · rfl
      · have := mem_lt e
        have : xs14.length = 1 := rfl
        omega
    rw [e]
    symm
    exact decide_eq_false (by omega)
theorem can14 : Can xs14 := fun _ => by
  show (14#64 : Wd) ≠ 0
  decide
theorem is14 {xs : List Wd} (hc : Can xs) (h : ∀ n, memL xs n = decide (n = 1 ∨ n = 2 ∨ n = 3)) : xs = xs14 := can_eq hc can14 fun n => by rw [h, mem14]
set_option maxRecDepth 20000 in
set_option maxHeartbeats 4000000 in
theorem len26_14 {w : World} {v : Value} (h : SetIs w v xs14) : Calls Tryd.prog 26 #[v] w fun e w' => e = .returned (.int .i64 3) ∧ Below w.heap.size w w' := by
  obtain ⟨⟨rv, rfl, hs⟩, _, _⟩ := h
  obtain ⟨ao, cp, rfl, hf⟩ := hs.words
  obtain ⟨b, off, rfl, hb1, hc1, hx⟩ := hf 0 (by decide)
  have hb := below1 w (.cells #[.slice (some ⟨b, off, none⟩) xs14.length cp] 49)
  have c0 : (w.alloc (.cells #[.slice (some ⟨b, off, none⟩) 1 cp] 49)).cell? ⟨b, off + 0, none⟩ = some (.int .u64 14) := hx _ hb
  rw [Nat.add_zero] at c0
  have HB : Hid (Below w.heap.size w (w.alloc (.cells #[.slice (some ⟨b, off, none⟩) 1 cp] 49))) := hb
  have hl : xs14.length = 1 := rfl
  rw [hl]
  have hcx : (w.alloc (.cells #[.slice (some ⟨b, off, none⟩) 1 cp] 49)).cell? ⟨w.heap.size, 0, none⟩ = some (.slice (some ⟨b, off, none⟩) 1 cp) := by simp
  clear hs hf hx hl hb
  go_enter Tryd.func26, Tryd.ntmps26
  go_wp2_with fail
  generalize (w.alloc (.cells #[.slice (some ⟨b, off, none⟩) 1 cp] 49)) = W at *
  clear hcx
  go_loopw [3, 9] (fun sv iv wr => ((iv = .int .i64 0 ∧ sv = .int .i64 0) ∨ (iv = .int .i64 1 ∧ sv = .int .i64 3)) ∧ wr = W) (fun _ iv _ => 1 - (intOf iv).toNat)
  case atStart => exact ⟨.inl ⟨rfl, rfl⟩, rfl⟩
  case round =>
    obtain ⟨⟨rfl, rfl⟩ | ⟨rfl, rfl⟩, e0⟩ := hrel
    · have e1 := e0.symm
      clear e0
      subst e1
      go_wp2_with (go_at_call 44; refine (ones14 _).mono ?_; rintro e9 w9 ⟨rfl, rfl⟩)
      exact ⟨⟨.inr ⟨rfl, rfl⟩, by trivial⟩, by simp [intOf]⟩
    · have e1 := e0.symm
      clear e0
      subst e1
      go_wp2_with fail
      go_ret
      exact ⟨rfl, HB.out⟩
end Go.Proofs.YtjhndnhldhmjnaaDoor
