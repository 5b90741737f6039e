/- made: both memories behind some acts, alike. -/
import Derived.Test.YtgonjmifpaddgaaBoth
namespace Go.Proofs.Ytgonjmifpaddgaa
open Go.RowKit

/-- Whatever act is done in both memories, they answer alike and stay alike. -/
def PlayOk : Prop := ∀ (B p r q t n a : Nat) (d x : Int) (s : ByteArray) (g : Nat → UInt8) (w : World), Pair w B p r q t n g → a < 4294967296 → 0 ≤ x → x < 4294967296 → s.size ≤ maxLen →
  Calls Try.prog 20 #[.pointer (some ⟨p, 0, none⟩), .pointer (some ⟨q, 0, none⟩), .agg #[.int .i64 d, .int .u32 a, .int .u32 x, .string s]] w fun e w' => e = .returned (.bool true) ∧ (∃ g', Pair w' B p r q t n g') ∧ Below B w w'

/-- The acts of a slice, as its cells have them. -/
def Acts (w : World) (b off len : Nat) : Prop := ∀ i, i < len → ∃ (d : Int) (a : Nat) (x : Int) (s : ByteArray),
  w.cell? ⟨b, off + i * 4, none⟩ = some (.int .i64 d) ∧ w.cell? ⟨b, off + i * 4 + 1, none⟩ = some (.int .u32 a) ∧ w.cell? ⟨b, off + i * 4 + 2, none⟩ = some (.int .u32 x) ∧ w.cell? ⟨b, off + i * 4 + 3, none⟩ = some (.string s) ∧
  a < 4294967296 ∧ 0 ≤ x ∧ x < 4294967296 ∧ s.size ≤ maxLen

/-- The world behind both News. -/
def bothW (w : World) (n : Nat) : World := newW (newW w 46 n) 35 n

theorem bothW_pair (w : World) (n : Nat) (lo : 1 ≤ n) (hi : n ≤ 262144) : Pair (bothW w n) w.heap.size (w.heap.size + 1) w.heap.size (w.heap.size + 3) (w.heap.size + 2) n (fun _ => 0) := by
  have s1 := newW_size w 46 n
  have h1 := newW_is w 46 n lo hi
  have h2 := newW_is (newW w 46 n) 35 n lo hi
  have b2 := newW_below (newW w 46 n) 35 n
  rw [s1] at h2 b2
  exact ⟨h1.below b2 (by omega) (by omega), h2, by omega, by omega, by omega, by omega, by omega, by omega, by omega⟩

theorem bothW_below (w : World) (n : Nat) : Below w.heap.size w (bothW w n) :=
  (newW_below w 46 n).trans ((newW_below (newW w 46 n) 35 n).mono (by rw [newW_size]; omega))

set_option maxHeartbeats 1000000 in
theorem made_no (n : Int) (h : n < 1 ∨ 262144 < n) (ao : Option Addr) (len cap : Nat) (w : World) :
    Calls Try.prog 6 #[.int .i64 n, .slice ao len cap] w fun e w' => e = .returned (.tuple #[.pointer none, .pointer none, .bool true, .bool false]) ∧ w' = w := by
  have H : Hid (n < 1 ∨ 262144 < n) := h
  clear h
  go_enter Try.func6, Try.ntmps6
  go_wp2_with (first
    | (go_at_call 18; refine (new18_no n H.out _).mono ?_; rintro e w' ⟨rfl, hw⟩; have hv := hw.symm; clear hw; subst hv)
    | (go_at_call 19; refine (new19_no n H.out _).mono ?_; rintro e w' ⟨rfl, hw⟩; have hv := hw.symm; clear hw; subst hv))
  refine wp_loop_rounds 1 ?_
  rw [rounds_succ]
  by_cases hl : 0 < len
  all_goals
    go_wp2
    refine bodyPost_ret (v := .tuple #[.pointer none, .pointer none, .bool true, .bool false]) (by simp [results, Try.results6, go_sem]) rfl ⟨rfl, rfl⟩

set_option maxHeartbeats 1000000 in
theorem made_none (n : Nat) (lo : 1 ≤ n) (hi : n ≤ 262144) (ao : Option Addr) (cap : Nat) (w : World) :
    Calls Try.prog 6 #[.int .i64 n, .slice ao 0 cap] w fun e w' => ∃ g, e = .returned (.tuple #[.pointer (some ⟨w.heap.size + 1, 0, none⟩), .pointer (some ⟨w.heap.size + 3, 0, none⟩), .bool true, .bool true]) ∧
      Pair w' w.heap.size (w.heap.size + 1) w.heap.size (w.heap.size + 3) (w.heap.size + 2) n g ∧ Below w.heap.size w w' := by
  have hs := newW_size w 46 n
  go_enter Try.func6, Try.ntmps6
  go_wp2_with (first
    | (go_at_call 18; refine (new18_yes n lo hi _).mono ?_; rintro e w' ⟨rfl, hw⟩; subst hw)
    | (go_at_call 19; refine (new19_yes n lo hi _).mono ?_; rintro e w' ⟨rfl, hw⟩; subst hw))
  refine wp_loop_rounds 1 ?_
  rw [rounds_succ]
  go_wp2
  refine bodyPost_ret (v := .tuple #[.pointer (some ⟨w.heap.size + 1, 0, none⟩), .pointer (some ⟨w.heap.size + 3, 0, none⟩), .bool true, .bool true]) (by simp [results, Try.results6, go_sem]) rfl ⟨_, rfl, bothW_pair w n lo hi, bothW_below w n⟩

set_option maxHeartbeats 2000000 in
theorem made_some (hp : PlayOk) (n : Nat) (lo : 1 ≤ n) (hi : n ≤ 262144) (b off len cap : Nat) (w : World) (hb : b < w.heap.size) (hlen : len ≤ maxLen) (hA : Acts w b off len) :
    Calls Try.prog 6 #[.int .i64 n, .slice (some ⟨b, off, none⟩) len cap] w fun e w' => ∃ g, e = .returned (.tuple #[.pointer (some ⟨w.heap.size + 1, 0, none⟩), .pointer (some ⟨w.heap.size + 3, 0, none⟩), .bool true, .bool true]) ∧
      Pair w' w.heap.size (w.heap.size + 1) w.heap.size (w.heap.size + 3) (w.heap.size + 2) n g ∧ Below w.heap.size w w' := by
  unfold maxLen at hlen
  have hs := newW_size w 46 n
  go_enter Try.func6, Try.ntmps6
  go_wp2_with (first
    | (go_at_call 18; refine (new18_yes n lo hi _).mono ?_; rintro e w' ⟨rfl, hw⟩; subst hw)
    | (go_at_call 19; refine (new19_yes n lo hi _).mono ?_; rintro e w' ⟨rfl, hw⟩; subst hw))
  go_loopw [6, 10] (fun f i wr => ∃ k : Nat, k ≤ len ∧ f = .bool true ∧ i = .int .i64 k ∧ (∃ g, Pair wr w.heap.size (w.heap.size + 1) w.heap.size (w.heap.size + 3) (w.heap.size + 2) n g) ∧ Below w.heap.size w wr) (fun _ i _ => len - (intOf i).toNat)
  case atStart => exact ⟨0, Nat.zero_le _, rfl, rfl, ⟨_, bothW_pair w n lo hi⟩, bothW_below w n⟩
  case round =>
    obtain ⟨k, hk, rfl, rfl, ⟨g, hP⟩, hB⟩ := hrel
    by_cases hlt : k < len
    · obtain ⟨d, a, x, s, c0, c1, c2, c3, ha, x0, x1, hz⟩ := hA k hlt
      have e0 : wr.cell? ⟨b, off + k * 4, none⟩ = some (.int .i64 d) := (hB.cell (by exact hb)).trans c0
      have e1 : wr.cell? ⟨b, off + k * 4 + 1, none⟩ = some (.int .u32 a) := (hB.cell (by exact hb)).trans c1
      have e2 : wr.cell? ⟨b, off + k * 4 + 2, none⟩ = some (.int .u32 x) := (hB.cell (by exact hb)).trans c2
      have e3 : wr.cell? ⟨b, off + k * 4 + 3, none⟩ = some (.string s) := (hB.cell (by exact hb)).trans c3
      clear c0 c1 c2 c3
      go_wp2_with (go_at_call 20; refine (hp _ _ _ _ _ _ _ _ _ _ _ _ hP ha x0 x1 hz).mono ?_; rintro e w1 ⟨rfl, hP1, hB1⟩)
      go_roundw
      case rel => exact ⟨k + 1, by omega, rfl, by go_num, by assumption, hB.trans (by assumption)⟩
      case measure => simp [intOf]; omega
    · go_wp2
      refine bodyPost_ret (v := .tuple #[.pointer (some ⟨w.heap.size + 1, 0, none⟩), .pointer (some ⟨w.heap.size + 3, 0, none⟩), .bool true, .bool true]) (by simp [results, Try.results6, go_sem]) rfl ⟨_, rfl, hP, hB⟩
end Go.Proofs.Ytgonjmifpaddgaa
