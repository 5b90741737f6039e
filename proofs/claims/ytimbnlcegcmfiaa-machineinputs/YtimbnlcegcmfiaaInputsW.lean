/- MachineInputs' walk. -/
import Derived.Test.YtimbnlcegcmfiaaInputs
import Derived.Laws.DeepStrings4
import Derived.Laws.Concat
import Derived.Deep.QuietTactic
import Derived.BigQuiet
namespace Go.Proofs.Ytimbnlcegcmfiaa
open Go.RowKit
set_option linter.unusedVariables false

theorem boxed3 {w w1 : World} {c : Array Value} {t : TypeId} {n : Nat} (hb : Below ((w.alloc (.cells c t)).drewN n).heap.size ((w.alloc (.cells c t)).drewN n) w1) (i : Nat) (v : Value) (hv : c[i]? = some v) : w1.cell? ⟨w.heap.size, i, none⟩ = some v :=
  boxed2 ((below_drewN _ n).trans hb) i v hv

set_option maxHeartbeats 2000000 in
theorem inputs7_zero (m : Im) (x y : ByteArray) (f c : Int) (f0 : 0 ≤ f) (f1 : f < 65536) (hc : ¬ c = 0) (w : World)
    (hr : ∀ w, Calls Try.prog 23 #[m.val, .string x, .int .i64 (f % 3000)] w fun e w' => e = .returned (.tuple #[.agg #[.int .i64 0, .int .i32 0, .int .i64 0, .string ⟨#[]⟩, .int .i64 0], .int .i64 c]) ∧ Below w.heap.size w w') :
    Calls Try.prog 7 #[m.val, .agg #[.string x, .string y], .int .u16 f] w fun e w' => e = .returned (.bool true) ∧ Below w.heap.size w w' := by
  go_enter Try.func7, Try.ntmps7
  go_wp2_with (first
    | (go_at_call 23; with_reducible refine (hr _).mono ?_; rintro e w1 ⟨rfl, hb1⟩; have i0 := box_a hb1 0 (.string m.code) rfl; have i1 := box_a hb1 1 (.string m.data) rfl; have i2 := box_a hb1 2 (.int .i64 m.global) rfl; have i3 := box_a hb1 3 (.int .i64 m.entry) rfl; have i4 := box_a hb1 4 (.int .i64 m.frame) rfl; have j0 := box_b hb1 0 (.string x) rfl; have j1 := box_b hb1 1 (.string y) rfl; have hs0 : w.heap.size < w1.heap.size := (by have hq := hb1.size; simp at hq; omega); have hs1 : w.heap.size + 1 < w1.heap.size := by (have hq := hb1.size; simp at hq; omega))
    | (go_at_call 13; refine (awake13 _).mono ?_; rintro e w3 ⟨rfl, hb3⟩))
  go_ret
  exact ⟨rfl, below_next2 (below_box2 (below_box2 hb1)) (below_box2 hb3)⟩

set_option maxHeartbeats 2000000 in
theorem inputs7_all (m : Im) (x y : ByteArray) (f k t u : Int) (xx : Int) (o : ByteArray) (f0 : 0 ≤ f) (f1 : f < 65536) (hu : u = (x.size : Int)) (w : World)
    (hr : ∀ w, Calls Try.prog 23 #[m.val, .string x, .int .i64 (f % 3000)] w fun e w' => e = .returned (.tuple #[.agg #[.int .i64 k, .int .i32 xx, .int .i64 t, .string o, .int .i64 u], .int .i64 0]) ∧ Below w.heap.size w w') :
    Calls Try.prog 7 #[m.val, .agg #[.string x, .string y], .int .u16 f] w fun e w' => e = .returned (.bool true) ∧ Below w.heap.size w w' := by
  subst hu
  go_enter Try.func7, Try.ntmps7
  go_wp2_with (first
    | (go_at_call 23; with_reducible refine (hr _).mono ?_; rintro e w1 ⟨rfl, hb1⟩; have i0 := box_a hb1 0 (.string m.code) rfl; have i1 := box_a hb1 1 (.string m.data) rfl; have i2 := box_a hb1 2 (.int .i64 m.global) rfl; have i3 := box_a hb1 3 (.int .i64 m.entry) rfl; have i4 := box_a hb1 4 (.int .i64 m.frame) rfl; have j0 := box_b hb1 0 (.string x) rfl; have j1 := box_b hb1 1 (.string y) rfl; have hs0 : w.heap.size < w1.heap.size := (by have hq := hb1.size; simp at hq; omega); have hs1 : w.heap.size + 1 < w1.heap.size := by (have hq := hb1.size; simp at hq; omega))
    | (go_at_call 13; refine (awake13 _).mono ?_; rintro e w3 ⟨rfl, hb3⟩))
  go_ret
  exact ⟨rfl, below_next2 (below_box2 (below_box2 hb1)) (below_box2 hb3)⟩

set_option maxHeartbeats 2000000 in
theorem inputs7_long (m : Im) (x y : ByteArray) (f k t : Int) (u : Nat) (xx : Int) (o : ByteArray) (f0 : 0 ≤ f) (f1 : f < 65536) (hu : u < x.size) (hx : x.size ≤ 1048576) (hy : y.size ≤ 140737488351232) (hl : ¬ (x.extract 0 (u + 1) ++ y).size ≤ 1048576) (w : World)
    (hr : ∀ w, Calls Try.prog 23 #[m.val, .string x, .int .i64 (f % 3000)] w fun e w' => e = .returned (.tuple #[.agg #[.int .i64 k, .int .i32 xx, .int .i64 t, .string o, .int .i64 (u : Int)], .int .i64 0]) ∧ Below w.heap.size w w') :
    Calls Try.prog 7 #[m.val, .agg #[.string x, .string y], .int .u16 f] w fun e w' => e = .returned (.bool true) ∧ Below w.heap.size w w' := by
  have hne : ((u : Int) == (x.size : Int)) = false := by simp; omega
  have hu2 : (u : Int) ≤ (x.size : Int) := by omega
  have hw1 : IntKind.i64.wrap ((u : Int) + 1) = (u : Int) + 1 := by simp [IntKind.wrap, IntKind.bits, IntKind.signed]; omega
  have hu3 : (u : Int) + 1 ≤ (x.size : Int) := by omega
  have hu4 : 0 ≤ (u : Int) + 1 := by omega
  have htn : ((u : Int) + 1).toNat = u + 1 := by omega
  have hzs : (x.extract 0 (u + 1)).size = u + 1 := by rw [ByteArray.size_extract]; omega
  rw [ByteArray.size_append] at hl
  generalize hz : x.extract 0 (u + 1) = z at *
  have hadd : ∀ W, (Op.stringOp .add z y).run Try.prog W = .ok (.string (z ++ y)) W := fun W => run_string_add_sum W z y (by omega)
  have hno : ¬ (z.size + y.size > 9223372036854775807) := by omega
  have hno2 : z.size + y.size ≤ 9223372036854775807 := by omega
  have hl1 : (1048576 : Int) < (z.size : Int) + (y.size : Int) := by omega
  have hl2 : (1048576 : Int) < ((z ++ y).size : Int) := by rw [ByteArray.size_append]; omega
  clear hl hzs
  go_enter Try.func7, Try.ntmps7
  go_wp2_with (first
    | (go_at_call 23; with_reducible refine (hr _).mono ?_; rintro e w1 ⟨rfl, hb1⟩; have i0 := box_a hb1 0 (.string m.code) rfl; have i1 := box_a hb1 1 (.string m.data) rfl; have i2 := box_a hb1 2 (.int .i64 m.global) rfl; have i3 := box_a hb1 3 (.int .i64 m.entry) rfl; have i4 := box_a hb1 4 (.int .i64 m.frame) rfl; have j0 := box_b hb1 0 (.string x) rfl; have j1 := box_b hb1 1 (.string y) rfl; have hs0 : w.heap.size < w1.heap.size := (by have hq := hb1.size; simp at hq; omega); have hs1 : w.heap.size + 1 < w1.heap.size := by (have hq := hb1.size; simp at hq; omega))
    | (go_at_call 13; refine (awake13 _).mono ?_; rintro e w3 ⟨rfl, hb3⟩))
  go_quiet (fail)
  go_wp2_with (first | (go_at_call 13; refine (awake13 _).mono ?_; rintro e w3 ⟨rfl, hb3⟩))
  go_ret
  exact ⟨rfl, below_next2 (below_box2 (below_box2 hb1)) (below_box2 ((below_drewN _ _).trans hb3))⟩

set_option maxHeartbeats 2000000 in
theorem inputs7_ok (m : Im) (x y : ByteArray) (f k t : Int) (u : Nat) (xx : Int) (o : ByteArray) (f0 : 0 ≤ f) (f1 : f < 65536) (hu : u < x.size) (hx : x.size ≤ 1048576) (hy : y.size ≤ 140737488351232) (hl : (x.extract 0 (u + 1) ++ y).size ≤ 1048576) (w : World)
    (hr : ∀ w, Calls Try.prog 23 #[m.val, .string x, .int .i64 (f % 3000)] w fun e w' => e = .returned (.tuple #[.agg #[.int .i64 k, .int .i32 xx, .int .i64 t, .string o, .int .i64 (u : Int)], .int .i64 0]) ∧ Below w.heap.size w w')
    (hr2 : ∀ w, Calls Try.prog 23 #[m.val, .string (x.extract 0 (u + 1) ++ y), .int .i64 (f % 3000)] w fun e w' => e = .returned (.tuple #[.agg #[.int .i64 k, .int .i32 xx, .int .i64 t, .string o, .int .i64 (u : Int)], .int .i64 0]) ∧ Below w.heap.size w w') :
    Calls Try.prog 7 #[m.val, .agg #[.string x, .string y], .int .u16 f] w fun e w' => e = .returned (.bool true) ∧ Below w.heap.size w w' := by
  have hne : ((u : Int) == (x.size : Int)) = false := by simp; omega
  have hu2 : (u : Int) ≤ (x.size : Int) := by omega
  have hw1 : IntKind.i64.wrap ((u : Int) + 1) = (u : Int) + 1 := by simp [IntKind.wrap, IntKind.bits, IntKind.signed]; omega
  have hu3 : (u : Int) + 1 ≤ (x.size : Int) := by omega
  have hu4 : 0 ≤ (u : Int) + 1 := by omega
  have htn : ((u : Int) + 1).toNat = u + 1 := by omega
  have hzs : (x.extract 0 (u + 1)).size = u + 1 := by rw [ByteArray.size_extract]; omega
  rw [ByteArray.size_append] at hl
  generalize hz : x.extract 0 (u + 1) = z at *
  have hadd : ∀ W, (Op.stringOp .add z y).run Try.prog W = .ok (.string (z ++ y)) W := fun W => run_string_add_sum W z y (by omega)
  have hno : ¬ (z.size + y.size > 9223372036854775807) := by omega
  have hno2 : z.size + y.size ≤ 9223372036854775807 := by omega
  have hl1 : (z.size : Int) + (y.size : Int) ≤ 1048576 := by omega
  have hl2 : ((z ++ y).size : Int) ≤ 1048576 := by rw [ByteArray.size_append]; omega
  clear hl hzs
  go_enter Try.func7, Try.ntmps7
  go_wp2_with (first
    | (go_at_call 23; with_reducible refine (hr _).mono ?_; rintro e w1 ⟨rfl, hb1⟩; have i0 := box_a hb1 0 (.string m.code) rfl; have i1 := box_a hb1 1 (.string m.data) rfl; have i2 := box_a hb1 2 (.int .i64 m.global) rfl; have i3 := box_a hb1 3 (.int .i64 m.entry) rfl; have i4 := box_a hb1 4 (.int .i64 m.frame) rfl; have j0 := box_b hb1 0 (.string x) rfl; have j1 := box_b hb1 1 (.string y) rfl; have hs0 : w.heap.size < w1.heap.size := (by have hq := hb1.size; simp at hq; omega); have hs1 : w.heap.size + 1 < w1.heap.size := by (have hq := hb1.size; simp at hq; omega))
    | (go_at_call 13; refine (awake13 _).mono ?_; rintro e w3 ⟨rfl, hb3⟩))
  go_quiet (fail)
  go_wp2_with (first
    | (go_at_call 23; with_reducible refine (hr2 _).mono ?_; rintro e w2 ⟨rfl, hb2⟩; have a0 := boxed3 hb2 0 (.int .i64 k) rfl; have a1 := boxed3 hb2 1 (.int .i32 xx) rfl; have a2 := boxed3 hb2 2 (.int .i64 t) rfl; have a3 := boxed3 hb2 3 (.string o) rfl; have a4 := boxed3 hb2 4 (.int .i64 u) rfl; have hs2 : w1.heap.size < w2.heap.size := by (have hq := hb2.size; simp at hq; omega))
    | (go_at_call 13; refine (awake13 _).mono ?_; rintro e w3 ⟨rfl, hb3⟩))
  go_ret
  exact ⟨rfl, below_next2 (below_next2 (below_box2 (below_box2 hb1)) (below_box2 ((below_drewN _ _).trans hb2))) (below_box2 hb3)⟩

theorem inputs7 (m : Im) (x y : ByteArray) (f : Int) (wy : y.size ≤ 140737488351232) (wf : (Lit.int .u16 f).wf = true) (w : World) :
    Calls Try.prog 7 #[m.val, .agg #[.string x, .string y], .int .u16 f] w fun e w' => e = .returned (.bool true) ∧ Below w.heap.size w w' := by
  obtain ⟨f0, f1⟩ : 0 ≤ f ∧ f < 65536 := by have := bounds_u16 wf; omega
  cases h : m.may
  · exact inputs7_zero m x y f 1 f0 f1 (by decide) w (fun w => run23_arg m x _ h w)
  · by_cases hi : x.size ≤ 1048576
    · have e1 : f % 3000 = ((f % 3000).toNat : Int) := by omega
      have hr1 : ∀ w, Calls Try.prog 23 #[m.val, .string x, .int .i64 (f % 3000)] w fun e w' => e = .returned (.tuple #[endV (stepN (f % 3000).toNat (initS m x)), .int .i64 0]) ∧ Below w.heap.size w w' := fun w => by
        have := run23_ok m x (f % 3000).toNat h hi (by omega) w
        rwa [← e1] at this
      have hu := (stepN_ok (initS_ok h hi) (f % 3000).toNat).used
      rw [stepN_input] at hu
      by_cases he : (stepN (f % 3000).toNat (initS m x)).used = x.size
      · exact inputs7_all m x y f _ _ _ _ _ f0 f1 (by rw [he]) w hr1
      · have hlt : (stepN (f % 3000).toNat (initS m x)).used < x.size := by
          have : (stepN (f % 3000).toNat (initS m x)).used ≤ x.size := hu
          omega
        by_cases hl : (x.extract 0 ((stepN (f % 3000).toNat (initS m x)).used + 1) ++ y).size ≤ 1048576
        · refine inputs7_ok m x y f _ _ _ _ _ f0 f1 hlt hi wy hl w hr1 (fun w => ?_)
          have := run23_ok m _ (f % 3000).toNat h hl (by omega) w
          rw [← e1] at this
          have e2 := stepN_withI (s := initS m x) (n := (f % 3000).toNat) (alike_cut x y _ hlt) _ (Nat.le_refl _)
          have e3 : initS m (x.extract 0 ((stepN (f % 3000).toNat (initS m x)).used + 1) ++ y) = withI (initS m x) (x.extract 0 ((stepN (f % 3000).toNat (initS m x)).used + 1) ++ y) := rfl
          rw [e3, e2] at this
          exact this
        · exact inputs7_long m x y f _ _ _ _ _ f0 f1 hlt hi wy hl w hr1
    · exact inputs7_zero m x y f 3 f0 f1 (by decide) w (fun w => run23_long m x _ h hi w)
end Go.Proofs.Ytimbnlcegcmfiaa
