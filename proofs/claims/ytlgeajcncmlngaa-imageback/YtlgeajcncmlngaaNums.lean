/- Words in a text. -/
import Derived.Test.YtlgeajcncmlngaaBase
import Derived.Test.YtlgeajcncmlngaaWords
namespace Go.Proofs.Ytlgeajcncmlngaa
open Go.RowKit
set_option linter.unusedVariables false

theorem drop_cons (s : ByteArray) (k : Nat) (h : k < s.size) : s.data.toList.drop k = s[k] :: s.data.toList.drop (k + 1) :=
  List.drop_eq_getElem_cons (by rw [size_list]; exact h)
theorem numAt_eq (s : ByteArray) (k : Nat) (h0 : k < s.size) (h1 : k + 1 < s.size) (h2 : k + 2 < s.size) (h3 : k + 3 < s.size) :
    numAt s k = s[k].toNat + s[k+1].toNat * 256 + s[k+2].toNat * 65536 + s[k+3].toNat * 16777216 := by
  rw [numAt, drop_cons s k h0, drop_cons s (k+1) h1, drop_cons s (k+2) h2, drop_cons s (k+3) h3]
  rfl

/-- The places of the head's words. -/
def At (k : Nat) : Prop := k = 4 ∨ k = 8 ∨ k = 12 ∨ k = 16 ∨ k = 20 ∨ k = 24

theorem num_up {n : Nat} {a b c d : UInt8} (h : n = a.toNat + b.toNat * 256 + c.toNat * 65536 + d.toNat * 16777216) :
    bits .or .u32 (bits .or .u32 (bits .or .u32 ((a.toNat : Int) % 4294967296) ((b.toNat : Int) % 4294967296 * 256 % 4294967296)) ((c.toNat : Int) % 4294967296 * 65536 % 4294967296)) ((d.toNat : Int) % 4294967296 * 16777216 % 4294967296) = (n : Int) := by
  rw [up4 _ _ _ _ a.toNat_lt b.toNat_lt c.toNat_lt d.toNat_lt, h]
  unfold word4
  omega
theorem w64 {x : Int} (h0 : 0 ≤ x) (h1 : x < 4294967296) : wrap64 x = x := by unfold wrap64; omega
theorem num_dn {n : Nat} {a b c d : UInt8} (h : n = a.toNat + b.toNat * 256 + c.toNat * 65536 + d.toNat * 16777216) :
    wrap64 (wrap64 (wrap64 (wrap64 (wrap64 (wrap64 (wrap64 (wrap64 (d.toNat : Int)) * 256) + wrap64 (c.toNat : Int)) * 256) + wrap64 (b.toNat : Int)) * 256) + wrap64 (a.toNat : Int)) = (n : Int) := by
  have ha := a.toNat_lt
  have hb := b.toNat_lt
  have hc := c.toNat_lt
  have hd := d.toNat_lt
  rw [w64 (x := (d.toNat : Int)) (by omega) (by omega), w64 (x := (d.toNat : Int)) (by omega) (by omega), w64 (x := (c.toNat : Int)) (by omega) (by omega), w64 (x := (b.toNat : Int)) (by omega) (by omega), w64 (x := (a.toNat : Int)) (by omega) (by omega)]
  rw [w64 (x := (d.toNat : Int) * 256) (by omega) (by omega)]
  rw [w64 (x := (d.toNat : Int) * 256 + (c.toNat : Int)) (by omega) (by omega)]
  rw [w64 (x := ((d.toNat : Int) * 256 + (c.toNat : Int)) * 256) (by omega) (by omega)]
  rw [w64 (x := ((d.toNat : Int) * 256 + (c.toNat : Int)) * 256 + (b.toNat : Int)) (by omega) (by omega)]
  rw [w64 (x := (((d.toNat : Int) * 256 + (c.toNat : Int)) * 256 + (b.toNat : Int)) * 256) (by omega) (by omega)]
  rw [w64 (x := (((d.toNat : Int) * 256 + (c.toNat : Int)) * 256 + (b.toNat : Int)) * 256 + (a.toNat : Int)) (by omega) (by omega)]
  omega

set_option maxHeartbeats 4000000 in
theorem wordAt19 (s : ByteArray) (k : Nat) (hk : At k) (h : 28 ≤ s.size) (w : World) :
    Calls Try.prog 19 #[.string s, .int .i64 (k : Int)] w fun e w' => e = .returned (.int .u32 (numAt s k : Nat)) ∧ ∃ n, w' = w.drewN n := by
  rcases hk with rfl | rfl | rfl | rfl | rfl | rfl
  · have hn := hid (numAt_eq s 4 (by omega) (by omega) (by omega) (by omega))
    have h0 : (4 : Int) < s.size := by omega
    have h1 : (5 : Int) < s.size := by omega
    have h2 : (6 : Int) < s.size := by omega
    have h3 : (7 : Int) < s.size := by omega
    go_enter Try.func19, Try.ntmps19
    go_wp2
    go_quiet (fail)
    go_wp2
    go_ret
    exact ⟨ret_int (num_up hn.out), _, rfl⟩
  · have hn := hid (numAt_eq s 8 (by omega) (by omega) (by omega) (by omega))
    have h0 : (8 : Int) < s.size := by omega
    have h1 : (9 : Int) < s.size := by omega
    have h2 : (10 : Int) < s.size := by omega
    have h3 : (11 : Int) < s.size := by omega
    go_enter Try.func19, Try.ntmps19
    go_wp2
    go_quiet (fail)
    go_wp2
    go_ret
    exact ⟨ret_int (num_up hn.out), _, rfl⟩
  · have hn := hid (numAt_eq s 12 (by omega) (by omega) (by omega) (by omega))
    have h0 : (12 : Int) < s.size := by omega
    have h1 : (13 : Int) < s.size := by omega
    have h2 : (14 : Int) < s.size := by omega
    have h3 : (15 : Int) < s.size := by omega
    go_enter Try.func19, Try.ntmps19
    go_wp2
    go_quiet (fail)
    go_wp2
    go_ret
    exact ⟨ret_int (num_up hn.out), _, rfl⟩
  · have hn := hid (numAt_eq s 16 (by omega) (by omega) (by omega) (by omega))
    have h0 : (16 : Int) < s.size := by omega
    have h1 : (17 : Int) < s.size := by omega
    have h2 : (18 : Int) < s.size := by omega
    have h3 : (19 : Int) < s.size := by omega
    go_enter Try.func19, Try.ntmps19
    go_wp2
    go_quiet (fail)
    go_wp2
    go_ret
    exact ⟨ret_int (num_up hn.out), _, rfl⟩
  · have hn := hid (numAt_eq s 20 (by omega) (by omega) (by omega) (by omega))
    have h0 : (20 : Int) < s.size := by omega
    have h1 : (21 : Int) < s.size := by omega
    have h2 : (22 : Int) < s.size := by omega
    have h3 : (23 : Int) < s.size := by omega
    go_enter Try.func19, Try.ntmps19
    go_wp2
    go_quiet (fail)
    go_wp2
    go_ret
    exact ⟨ret_int (num_up hn.out), _, rfl⟩
  · have hn := hid (numAt_eq s 24 (by omega) (by omega) (by omega) (by omega))
    have h0 : (24 : Int) < s.size := by omega
    have h1 : (25 : Int) < s.size := by omega
    have h2 : (26 : Int) < s.size := by omega
    have h3 : (27 : Int) < s.size := by omega
    go_enter Try.func19, Try.ntmps19
    go_wp2
    go_quiet (fail)
    go_wp2
    go_ret
    exact ⟨ret_int (num_up hn.out), _, rfl⟩

set_option maxHeartbeats 4000000 in
theorem number21 (s : ByteArray) (k : Nat) (hk : At k) (h : 28 ≤ s.size) (w : World) :
    Calls Try.prog 21 #[.string s, .int .i64 (k : Int)] w fun e w' => e = .returned (.int .i64 (numAt s k : Nat)) ∧ w' = w := by
  rcases hk with rfl | rfl | rfl | rfl | rfl | rfl
  · have hn := hid (numAt_eq s 4 (by omega) (by omega) (by omega) (by omega))
    have h0 : (4 : Int) < s.size := by omega
    have h1 : (5 : Int) < s.size := by omega
    have h2 : (6 : Int) < s.size := by omega
    have h3 : (7 : Int) < s.size := by omega
    go_enter Try.func21, Try.ntmps21
    go_wp2
    refine wp_loop_rounds 5 ?_
    rw [rounds_succ]
    go_wp2
    rw [rounds_succ]
    go_wp2
    rw [rounds_succ]
    go_wp2
    rw [rounds_succ]
    go_wp2
    rw [rounds_succ]
    go_wp2
    go_ret
    exact ⟨ret_int (num_dn hn.out), rfl⟩
  · have hn := hid (numAt_eq s 8 (by omega) (by omega) (by omega) (by omega))
    have h0 : (8 : Int) < s.size := by omega
    have h1 : (9 : Int) < s.size := by omega
    have h2 : (10 : Int) < s.size := by omega
    have h3 : (11 : Int) < s.size := by omega
    go_enter Try.func21, Try.ntmps21
    go_wp2
    refine wp_loop_rounds 5 ?_
    rw [rounds_succ]
    go_wp2
    rw [rounds_succ]
    go_wp2
    rw [rounds_succ]
    go_wp2
    rw [rounds_succ]
    go_wp2
    rw [rounds_succ]
    go_wp2
    go_ret
    exact ⟨ret_int (num_dn hn.out), rfl⟩
  · have hn := hid (numAt_eq s 12 (by omega) (by omega) (by omega) (by omega))
    have h0 : (12 : Int) < s.size := by omega
    have h1 : (13 : Int) < s.size := by omega
    have h2 : (14 : Int) < s.size := by omega
    have h3 : (15 : Int) < s.size := by omega
    go_enter Try.func21, Try.ntmps21
    go_wp2
    refine wp_loop_rounds 5 ?_
    rw [rounds_succ]
    go_wp2
    rw [rounds_succ]
    go_wp2
    rw [rounds_succ]
    go_wp2
    rw [rounds_succ]
    go_wp2
    rw [rounds_succ]
    go_wp2
    go_ret
    exact ⟨ret_int (num_dn hn.out), rfl⟩
  · have hn := hid (numAt_eq s 16 (by omega) (by omega) (by omega) (by omega))
    have h0 : (16 : Int) < s.size := by omega
    have h1 : (17 : Int) < s.size := by omega
    have h2 : (18 : Int) < s.size := by omega
    have h3 : (19 : Int) < s.size := by omega
    go_enter Try.func21, Try.ntmps21
    go_wp2
    refine wp_loop_rounds 5 ?_
    rw [rounds_succ]
    go_wp2
    rw [rounds_succ]
    go_wp2
    rw [rounds_succ]
    go_wp2
    rw [rounds_succ]
    go_wp2
    rw [rounds_succ]
    go_wp2
    go_ret
    exact ⟨ret_int (num_dn hn.out), rfl⟩
  · have hn := hid (numAt_eq s 20 (by omega) (by omega) (by omega) (by omega))
    have h0 : (20 : Int) < s.size := by omega
    have h1 : (21 : Int) < s.size := by omega
    have h2 : (22 : Int) < s.size := by omega
    have h3 : (23 : Int) < s.size := by omega
    go_enter Try.func21, Try.ntmps21
    go_wp2
    refine wp_loop_rounds 5 ?_
    rw [rounds_succ]
    go_wp2
    rw [rounds_succ]
    go_wp2
    rw [rounds_succ]
    go_wp2
    rw [rounds_succ]
    go_wp2
    rw [rounds_succ]
    go_wp2
    go_ret
    exact ⟨ret_int (num_dn hn.out), rfl⟩
  · have hn := hid (numAt_eq s 24 (by omega) (by omega) (by omega) (by omega))
    have h0 : (24 : Int) < s.size := by omega
    have h1 : (25 : Int) < s.size := by omega
    have h2 : (26 : Int) < s.size := by omega
    have h3 : (27 : Int) < s.size := by omega
    go_enter Try.func21, Try.ntmps21
    go_wp2
    refine wp_loop_rounds 5 ?_
    rw [rounds_succ]
    go_wp2
    rw [rounds_succ]
    go_wp2
    rw [rounds_succ]
    go_wp2
    rw [rounds_succ]
    go_wp2
    rw [rounds_succ]
    go_wp2
    go_ret
    exact ⟨ret_int (num_dn hn.out), rfl⟩
end Go.Proofs.Ytlgeajcncmlngaa
