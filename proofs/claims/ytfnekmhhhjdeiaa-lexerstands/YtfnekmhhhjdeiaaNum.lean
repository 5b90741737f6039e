/- Numbers, by the program. -/
import Derived.Test.YtfnekmhhhjdeiaaGap
namespace Go.Proofs.Ytfnekmhhhjdeiaa
open Go.RowKit
set_option linter.unusedVariables false

theorem vu {a b : Int} (h : a = b) : Value.int .u64 a = Value.int .u64 b := by rw [h]
theorem ret_un {a b c d : Int} (h : a = b) (h2 : c = d) : Ending.returned (.tuple #[.int .u64 a, .int .i64 c]) = .returned (.tuple #[.int .u64 b, .int .i64 d]) := by rw [h, h2]
theorem dig_no {base v : Nat} {c : UInt8} {r : List UInt8} (h : ¬ hexv c < base) : digG base v (c :: r) = (v, 0) := by unfold digG; rw [if_neg h]
theorem dig_yes {base v : Nat} {c : UInt8} {r : List UInt8} (h : hexv c < base) : digG base v (c :: r) = ((digG base (min (v * base + hexv c) 4294967296) r).1, (digG base (min (v * base + hexv c) 4294967296) r).2 + 1) := by
  conv => lhs; unfold digG
  rw [if_pos h]

set_option maxHeartbeats 1000000 in
theorem digits53 (s : ByteArray) (f base : Nat) (hb : base ≤ 16) (hf : f ≤ s.size) (hs : s.size < 4611686018427387904) (w : World) :
    Calls Try.prog 53 #[.string s, .int .i64 (f : Int), .int .u64 (base : Int)] w fun e w' => e = .returned (.tuple #[.int .u64 ((digG base 0 ((lst s).drop f)).1 : Nat), .int .i64 ((f + (digG base 0 ((lst s).drop f)).2 : Nat) : Int)]) ∧ w' = w := by
  obtain ⟨A, hA⟩ : ∃ A, A = (digG base 0 ((lst s).drop f)).1 := ⟨_, rfl⟩
  obtain ⟨B, hB⟩ : ∃ B, B = f + (digG base 0 ((lst s).drop f)).2 := ⟨_, rfl⟩
  rw [← hA, ← hB]
  replace hA := hid hA
  replace hB := hid hB
  go_enter Try.func53, Try.ntmps53
  go_wp2
  go_loop [1, 8] (fun i n => ∃ k v : Nat, f ≤ k ∧ k ≤ s.size ∧ v ≤ 4294967296 ∧ i = .int .i64 k ∧ n = .int .u64 v ∧ A = (digG base v ((lst s).drop k)).1 ∧ B = k + (digG base v ((lst s).drop k)).2) (fun i _ => s.size - (intOf i).toNat)
  case atStart => exact ⟨f, 0, Nat.le_refl _, hf, by omega, rfl, rfl, hA.out, hB.out⟩
  case round =>
    obtain ⟨k, v, hk0, hk, hv, rfl, rfl, hA1, hB1⟩ := hrel
    have hA2 := hid hA1
    have hB2 := hid hB1
    clear hA1 hB1
    by_cases hlt : k < s.size
    · have hl := hid (lst_cons s k hlt)
      have hx := hexv_le s[k]
      obtain ⟨x, hx'⟩ : ∃ x, x = hexv s[k] := ⟨_, rfl⟩
      have hcall : ∀ w, Calls Try.prog 66 #[byteV s[k]] w fun e w' => e = .returned (.int .u64 (x : Nat)) ∧ w' = w := by rw [hx']; exact digit66 s[k]
      rw [← hx'] at hx
      replace hx' := hid hx'
      by_cases hd : x < base
      · have hmul : v * base ≤ 4294967296 * 16 := Nat.mul_le_mul hv hb
        have hm1 : ((v : Int) * (base : Int)) ≤ 68719476736 := by (have : ((v * base : Nat) : Int) ≤ 68719476736 := by omega); rwa [Int.natCast_mul] at this
        have hm0 : 0 ≤ ((v : Int) * (base : Int)) := by (have : 0 ≤ ((v * base : Nat) : Int) := by omega); rwa [Int.natCast_mul] at this
        clear hmul
        have hd' : (x : Int) < base := by omega
        go_wp2_with (go_at_call 66; refine (hcall _).mono ?_; rintro e w1 ⟨rfl, rfl⟩)
        have hy := dig_yes (v := v) (r := (lst s).drop (k + 1)) (show hexv s[k] < base by rw [← hx'.out]; exact hd)
        rw [← hl.out, ← hx'.out] at hy
        refine ⟨⟨k + 1, min (v * base + x) 4294967296, by omega, by omega, Nat.min_le_right _ _, vi (by omega), vu (by rw [← Int.natCast_mul]; omega), ?_, ?_⟩, by simp [intOf]; omega⟩
        · rw [hA2.out, hy]
        · rw [hB2.out, hy]
          show k + (_ + 1) = k + 1 + _
          omega
      · have hd' : (base : Int) ≤ x := by omega
        go_wp2_with (go_at_call 66; refine (hcall _).mono ?_; rintro e w1 ⟨rfl, rfl⟩)
        have hA3 := hA2.out
        have hB3 := hB2.out
        rw [hl.out, dig_no (by rw [← hx'.out]; exact hd)] at hA3 hB3
        refine bodyPost_ret (v := .tuple #[.int .u64 (v : Int), .int .i64 (k : Int)]) (by simp [results, Try.results53, go_sem]) rfl ⟨?_, rfl⟩
        exact ret_un (by rw [hA3]) (by rw [hB3]; rfl)
    · go_wp2
      have hA3 := hA2.out
      have hB3 := hB2.out
      rw [lst_nil s k (by omega)] at hA3 hB3
      refine bodyPost_ret (v := .tuple #[.int .u64 (v : Int), .int .i64 (k : Int)]) (by simp [results, Try.results53, go_sem]) rfl ⟨?_, rfl⟩
      exact ret_un (by rw [hA3]; rfl) (by rw [hB3]; rfl)
end Go.Proofs.Ytfnekmhhhjdeiaa
