/- The next number in a row. -/
import Derived.Test.YtjhndnhldhmjnaaDoorQp
namespace Go.Proofs.YtjhndnhldhmjnaaDoor
open Go.RowKit Go.Maps
set_option linter.unusedVariables false
set_option linter.unusedSimpArgs false
/-- math/bits' table lies in its variable. -/
def TabM (w : World) : Prop := ∀ j, j < 64 → w.cell? ⟨0, j, none⟩ = some (.int .u8 (Lib.deBruijn64tab.getD j 0))
theorem b_key (x : Wd) (h : x ≠ 0) : IntKind.u64.wrap (bits BinOp.and IntKind.u64 (x.toNat : Int) (IntKind.u64.wrap (-(x.toNat : Int))) * 285870213051353865) / 288230376151711744 = ((2 ^ tz x * 285870213051353865 % 18446744073709551616 / 288230376151711744 : Nat) : Int) := by
  have hx : x.toNat ≠ 0 := fun e => h (BitVec.eq_of_toNat_eq (by simpa using e))
  have hlt := x.isLt
  have hl0 : x.toNat &&& (18446744073709551616 - x.toNat) = 2 ^ tz x := (Lib.lowest_bit 64 x.toNat hx hlt).1
  have e0 : IntKind.u64.wrap (-(x.toNat : Int)) = ((-x).toNat : Int) := by
    rw [IntKind.wrap_u64, BitVec.toNat_neg]
    omega
  have hl : (x &&& -x).toNat = 2 ^ tz x := by
    rw [BitVec.toNat_and, BitVec.toNat_neg]
    rw [show (2 ^ 64 - x.toNat) % 2 ^ 64 = 18446744073709551616 - x.toNat by omega]
    exact hl0
  rw [e0, b_and, hl, IntKind.wrap_u64]
  generalize 2 ^ tz x = z
  omega
set_option maxHeartbeats 1000000 in
theorem tz_core {w : World} (x k idx : Nat) (hx0 : ((x : Int) == 0) = false)
    (key : IntKind.u64.wrap (bits BinOp.and IntKind.u64 (x : Int) (IntKind.u64.wrap (-(x : Int))) * 285870213051353865) / 288230376151711744 = (idx : Int))
    (hi : idx < 64) (hk : k < 64) (hcell : w.cell? ⟨0, idx, none⟩ = some (.int .u8 k)) :
    Calls Tryd.prog 53 #[.int .u64 x] w fun e w' => e = .returned (.int .i64 k) ∧ w' = w := by
  go_enter Tryd.func53, Tryd.ntmps53
  go_wp2_with (simp only [key])
  go_ret
  exact ⟨rfl, rfl⟩
theorem tz53 {w : World} (hT : TabM w) (x : Wd) (h : x ≠ 0) : Calls Tryd.prog 53 #[uv x] w fun e w' => e = .returned (.int .i64 (tz x)) ∧ w' = w := by
  obtain ⟨hk, _⟩ := tz_spec h
  obtain ⟨hi, htab⟩ := Lib.deBruijn64_at _ hk
  have hcell := hT _ hi
  rw [htab] at hcell
  have hx0 : ((x.toNat : Int) == 0) = false := by
    have := b_beq x 0
    rw [decide_eq_false h] at this
    exact this
  exact tz_core x.toNat (tz x) _ hx0 (b_key x h) hi hk hcell
theorem bit52u (w : World) (n : Nat) : Calls Tryd.prog 52 #[.int .i64 n] w fun e w' => e = .returned (.int .u64 ((bitW n).toNat : Nat)) ∧ w' = w := bit52 w n
theorem tz_core' {w : World} (hT : TabM w) {x : Wd} (h : x ≠ 0) : Calls Tryd.prog 53 #[.int .u64 (x.toNat : Nat)] w fun e w' => e = .returned (.int .i64 (tz x)) ∧ w' = w := tz53 hT x h
theorem TabM_drew {w : World} (h : TabM w) (d : Nat) : TabM (w.drewN d) := h
theorem i64_of (n : Nat) : ((n : Int) / 64) = ((n / 64 : Nat) : Int) := by omega
theorem b_sub1 (n : Nat) : IntKind.u64.wrap (((bitW n).toNat : Int) - 1) = ((bitW n - 1).toNat : Int) := by
  have e1 : (1 : Wd).toNat = 1 := rfl
  rw [IntKind.wrap_u64, BitVec.toNat_sub, e1]
  have := (bitW n).isLt
  omega
theorem b_cut (x : Wd) (n : Nat) : bits .andNot .u64 (x.toNat : Int) ((bitW n - 1).toNat : Int) = ((cutW x n).toNat : Int) := b_andNot _ _
theorem beq0 (x : Wd) : ((x.toNat : Int) == 0) = decide (x = 0) := b_beq x 0
set_option maxRecDepth 20000 in
set_option maxHeartbeats 1000000 in
theorem next43 {w : World} {g m cp : Nat} {f : Nat → Wd} (h : RowU w g m f) (hT : TabM w) (n : Nat) (hm : m ≤ 1024) (hn : n ≤ 65536) : Calls Tryd.prog 43 #[.slice (some ⟨g, 0, none⟩) m cp, .int .i64 n] w fun e w' => (∃ r, e = .returned (.int .i64 r) ∧ NextR f m n r) ∧ ∃ d, w' = w.drewN d := by
  have w1 : IntKind.i64.wrap ((n : Int) / 64) = (n : Int) / 64 := wrap_small (by omega) (by omega)
  have H := hid' h
  have HT := hid' hT
  by_cases hlt : n / 64 < m
  · have c := h.cell hlt
    have hs := hid' (b_sub1 n)
    have hb := b_cut (f (n / 64)) n
    have w2 : (0 : Int) ≤ (n : Int) / 64 := by omega
    have w3 : (n : Int) / 64 < (m : Int) := by omega
    have w4 : ((n : Int) / 64).toNat = n / 64 := by omega
    clear h hT
    unfold uv at *
    go_enter Tryd.func43, Tryd.ntmps43
    go_wp2
    go_quiet (exact Calls.quiet_of_same (bit52u _ _))
    have e0 : cutW (f (n / 64)) n = wordAt f n (n / 64) := by unfold wordAt; rw [if_pos rfl]
    rw [hs.out, hb, e0, show ((n : Int) / 64) = ((n / 64 : Nat) : Int) by omega]
    go_wp2
    go_loopw [5, 6] (fun iv xv wr => ∃ (i d : Nat), n / 64 ≤ i ∧ i < m ∧ iv = .int .i64 i ∧ xv = .int .u64 ((wordAt f n i).toNat : Nat) ∧ NoneTo f n i ∧ wr = w.drewN d) (fun iv _ _ => m - (intOf iv).toNat)
    case atStart => exact ⟨n / 64, _, Nat.le_refl _, hlt, rfl, rfl, fun j h1 h2 => by omega, rfl⟩
    case round =>
      obtain ⟨i, d, hi, him, rfl, rfl, hNo, rfl⟩ := hrel
      have HN := hid' hNo
      have z0 := beq0 (wordAt f n i)
      clear hNo
      by_cases hz : wordAt f n i = 0
      · rw [decide_eq_true hz] at z0
        have HN2 : Hid (NoneTo f n (i + 1)) := fun j h1 h2 => by
          by_cases e : j = i
          · subst e; exact hz
          · exact HN.out j h1 (by omega)
        by_cases hl : i + 1 = m
        · rw [hl] at HN2
          have e2 : ((i : Int) + 1 = (m : Int)) = True := eq_true (by omega)
          go_wp2
          go_ret
          exact ⟨⟨-1, rfl, next_none HN2.out⟩, d, rfl⟩
        · have e2 : ((i : Int) + 1 = (m : Int)) = False := eq_false (by omega)
          have cc : (w.drewN d).cell? ⟨g, i + 1, none⟩ = some (uv (f (i + 1))) := H.out.cell (by omega)
          unfold uv at cc
          have e3 : f (i + 1) = wordAt f n (i + 1) := by unfold wordAt; rw [if_neg (by omega)]
          rw [e3] at cc
          go_wp2
          exact ⟨⟨i + 1, d, by omega, by omega, by go_num, rfl, HN2.out, rfl⟩, by simp [intOf]; omega⟩
      · rw [decide_eq_false hz] at z0
        have hn2 := next_some HN.out hi him hz
        obtain ⟨ht, _⟩ := tz_spec hz
        have HX := hid' hn2
        have K := tz_core' (w := w.drewN d) (TabM_drew HT.out d) hz
        clear hn2
        go_wp2_with (go_at_call 53; refine K.mono ?_; rintro e9 w9 ⟨rfl, rfl⟩)
        go_ret
        exact ⟨⟨_, by go_num, HX.out⟩, d, rfl⟩
  · have w3 : (m : Int) ≤ (n : Int) / 64 := by omega
    clear h hT
    go_enter Tryd.func43, Tryd.ntmps43
    go_wp2
    go_ret
    exact ⟨⟨-1, rfl, next_none fun j hj hjm => by omega⟩, 0, rfl⟩
end Go.Proofs.YtjhndnhldhmjnaaDoor
