/- The small functions of the program's machine. -/
import Derived.Test.YtimbnlcegcmfiaaPure
import Derived.Deep.QuietTactic
import Derived.BigQuiet
namespace Go.Proofs.Ytimbnlcegcmfiaa
open Go.RowKit
set_option linter.unusedVariables false
section
variable {w : World} {N p q r : Nat} {sl : Value} {s : St}

theorem trap33 (h : IsM w N p q r sl s) (k : Int) :
    Calls Try.prog 33 #[.pointer (some ⟨p, 0, none⟩), .int .i64 k] w fun e w' => e = .returned (.tuple #[]) ∧ IsM w' N p q r sl (trapS s k) ∧ Kept (Mine p r sl) w w' := by
  have hc21 := h.c21
  have hc23 := h.c23
  have hf21 := h.free 21
  have hf23 := h.free 23
  have H : Hid (IsM ((w.setCell ⟨p, 21, none⟩ (.int .i64 2)).setCell ⟨p, 23, none⟩ (.int .i64 k)) N p q r sl (trapS s k) ∧ Kept (Mine p r sl) w ((w.setCell ⟨p, 21, none⟩ (.int .i64 2)).setCell ⟨p, 23, none⟩ (.int .i64 k))) :=
    ⟨(h.setKind 2).setTrap k, (((Kept.rfl _ w).set (.inl (mine_p p r sl)) _).set (.inl (mine_p p r sl)) _)⟩
  clear h
  go_enter Try.func33, Try.ntmps33
  go_wp2
  go_end0
  exact ⟨rfl, H.out⟩

theorem write71_zero (x : Int) (w : World) (v : Value) :
    Calls Try.prog 71 #[v, .int .i64 0, .int .u32 x] w fun e w' => e = .returned (.tuple #[]) ∧ w' = w := by
  go_enter Try.func71, Try.ntmps71
  go_wp2
  go_end0
  exact ⟨rfl, rfl⟩

theorem write71_some (h : IsM w N p q r sl s) (d : Nat) (hd : d < 16) (hz : ¬ d = 0) (x : Int) :
    Calls Try.prog 71 #[.pointer (some ⟨p, 0, none⟩), .int .i64 (d : Int), .int .u32 x] w fun e w' => e = .returned (.tuple #[]) ∧ IsM w' N p q r sl { s with reg := upd s.reg d x } ∧ Kept (Mine p r sl) w w' := by
  have hc := h.reg d hd
  have hf := h.free (3 + d)
  have hz' : ¬ (d : Int) = 0 := by omega
  go_enter Try.func71, Try.ntmps71
  go_wp2
  go_end0
  exact ⟨rfl, h.setReg d hd x, (Kept.rfl _ w).set (.inl (mine_p p r sl)) _⟩

theorem write71 (h : IsM w N p q r sl s) (d : Nat) (hd : d < 16) (x : Int) :
    Calls Try.prog 71 #[.pointer (some ⟨p, 0, none⟩), .int .i64 (d : Int), .int .u32 x] w fun e w' => e = .returned (.tuple #[]) ∧ IsM w' N p q r sl { s with reg := wr s.reg d x } ∧ Kept (Mine p r sl) w w' := by
  by_cases hz : d = 0
  · subst hz
    refine (write71_zero x w _).mono ?_
    rintro e w' ⟨rfl, rfl⟩
    exact ⟨rfl, h, Kept.rfl _ _⟩
  · refine (write71_some h d hd hz x).mono ?_
    rintro e w' ⟨rfl, h1, h2⟩
    refine ⟨rfl, ?_, h2⟩
    simpa [wr, hz] using h1

theorem below_drewN (w : World) (n : Nat) : Below w.heap.size w (w.drewN n) := ⟨rfl, rfl, rfl, Nat.le_refl _, fun _ _ => rfl⟩
theorem ret_u {a b : Int} (h : a = b) : Ending.returned (.int .u32 a) = .returned (.int .u32 b) := by rw [h]

theorem address69 (h : IsM w N p q r sl s) (op d b i : Int) (a : Nat) (ha : a < 16) :
    Calls Try.prog 69 #[.pointer (some ⟨p, 0, none⟩), .agg #[.int .i64 op, .int .i64 d, .int .i64 a, .int .i64 b, .int .i32 i]] w fun e w' => e = .returned (.int .u32 (adr s a i)) ∧ Below w.heap.size w w' := by
  have hc := h.reg a ha
  have hp := h.plt
  go_enter Try.func69, Try.ntmps69
  go_wp2
  go_quiet (fail)
  go_wp2
  go_ret
  exact ⟨ret_u (by unfold adr; omega), ⟨rfl, rfl, rfl, by simp, fun k hk => Below.heap_alloc _ _ _ hk⟩⟩

theorem get79_end (h : IsM w N p q r sl s) (hu : s.used = s.input.size) :
    Calls Try.prog 79 #[.pointer (some ⟨p, 0, none⟩)] w fun e w' => e = .returned (.int .u32 4294967295) ∧ Below w.heap.size w w' := by
  have hc1 := h.c1
  have hc25 := h.c25
  rw [hu] at hc25
  go_enter Try.func79, Try.ntmps79
  go_wp2
  go_quiet (fail)
  go_wp2
  go_ret
  exact ⟨rfl, below_drewN _ _⟩

theorem get79_one (h : IsM w N p q r sl s) (hO : Ok s) (hu : s.used < s.input.size) :
    Calls Try.prog 79 #[.pointer (some ⟨p, 0, none⟩)] w fun e w' => e = .returned (.int .u32 (s.input[s.used].toNat : Int)) ∧ IsM w' N p q r sl { s with used := s.used + 1 } ∧ Kept (Mine p r sl) w w' := by
  have hc1 := h.c1
  have hc25 := h.c25
  have hf := h.free 25
  have hs := hO.isize
  have hne : ((s.used : Int) == (s.input.size : Int)) = false := by simp; omega
  have hb : s.input[s.used].toNat < 256 := s.input[s.used].toNat_lt
  go_enter Try.func79, Try.ntmps79
  go_wp2
  go_quiet (fail)
  go_wp2
  go_quiet (fail)
  go_wp2
  go_ret
  exact ⟨rfl, (h.below (below_drewN w _)).setUsed (s.used + 1), (Kept.of_below (below_drewN w _)).set (.inl (mine_p p r sl)) _⟩
end
end Go.Proofs.Ytimbnlcegcmfiaa
