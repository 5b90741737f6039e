/- How a run of any image under any fuel ends: as the document's answer does. -/
import Derived.Test.YtimbnlcegcmfiaaAwake
import Derived.Test.YtimbnlcegcmfiaaRRun
namespace Go.Proofs.Ytimbnlcegcmfiaa
open Go.RowKit
set_option linter.unusedVariables false

set_option maxHeartbeats 2000000 in
theorem runs4_same (m : Im) (x : ByteArray) (f g : Int) (k xx t c : Int) (o : ByteArray) (u : Int) (hg : g = if 3000 < f then 3000 else f) (w : World)
    (hr1 : ∀ w, Calls Try.prog 23 #[m.val, .string x, .int .i64 g] w fun e w' => e = .returned (.tuple #[.agg #[.int .i64 k, .int .i32 xx, .int .i64 t, .string o, .int .i64 u], .int .i64 c]) ∧ Below w.heap.size w w')
    (hr2 : ∀ w, Calls Try.prog 24 #[m.val, .string x, .int .i64 g] w fun e w' => e = .returned (.tuple #[.agg #[.int .i64 k, .int .i32 xx, .int .i64 t, .string o, .int .i64 u], .int .i64 c]) ∧ Below w.heap.size w w') :
    Calls Try.prog 4 #[m.val, .string x, .int .i64 f] w fun e w' => e = .returned (.bool true) ∧ Below w.heap.size w w' := by
  by_cases hf : 3000 < f
  · rw [if_pos hf] at hg
    subst hg
    go_enter Try.func4, Try.ntmps4
    go_wp2_with (first
      | (go_at_call 23; with_reducible refine (hr1 _).mono ?_; rintro e w1 ⟨rfl, hb1⟩; have i0 := boxed2 hb1 0 (.string m.code) rfl; have i1 := boxed2 hb1 1 (.string m.data) rfl; have i2 := boxed2 hb1 2 (.int .i64 m.global) rfl; have i3 := boxed2 hb1 3 (.int .i64 m.entry) rfl; have i4 := boxed2 hb1 4 (.int .i64 m.frame) rfl; have hs1 : w.heap.size < w1.heap.size := by (have hq := hb1.size; simp at hq; omega))
      | (go_at_call 24; with_reducible refine (hr2 _).mono ?_; rintro e w2 ⟨rfl, hb2⟩; have a0 := boxed2 hb2 0 (.int .i64 k) rfl; have a1 := boxed2 hb2 1 (.int .i32 xx) rfl; have a2 := boxed2 hb2 2 (.int .i64 t) rfl; have a3 := boxed2 hb2 3 (.string o) rfl; have a4 := boxed2 hb2 4 (.int .i64 u) rfl; have hs2 : w1.heap.size < w2.heap.size := by (have hq := hb2.size; simp at hq; omega))
      | (go_at_call 13; refine (awake13 _).mono ?_; rintro e w3 ⟨rfl, hb3⟩))
    go_ret
    exact ⟨rfl, below_then (below_then (below_box2 hb1) (below_box2 hb2)) (below_box2 hb3)⟩
  · rw [if_neg hf] at hg
    subst hg
    go_enter Try.func4, Try.ntmps4
    go_wp2_with (first
      | (go_at_call 23; with_reducible refine (hr1 _).mono ?_; rintro e w1 ⟨rfl, hb1⟩; have i0 := boxed2 hb1 0 (.string m.code) rfl; have i1 := boxed2 hb1 1 (.string m.data) rfl; have i2 := boxed2 hb1 2 (.int .i64 m.global) rfl; have i3 := boxed2 hb1 3 (.int .i64 m.entry) rfl; have i4 := boxed2 hb1 4 (.int .i64 m.frame) rfl; have hs1 : w.heap.size < w1.heap.size := by (have hq := hb1.size; simp at hq; omega))
      | (go_at_call 24; with_reducible refine (hr2 _).mono ?_; rintro e w2 ⟨rfl, hb2⟩; have a0 := boxed2 hb2 0 (.int .i64 k) rfl; have a1 := boxed2 hb2 1 (.int .i32 xx) rfl; have a2 := boxed2 hb2 2 (.int .i64 t) rfl; have a3 := boxed2 hb2 3 (.string o) rfl; have a4 := boxed2 hb2 4 (.int .i64 u) rfl; have hs2 : w1.heap.size < w2.heap.size := by (have hq := hb2.size; simp at hq; omega))
      | (go_at_call 13; refine (awake13 _).mono ?_; rintro e w3 ⟨rfl, hb3⟩))
    go_ret
    exact ⟨rfl, below_then (below_then (below_box2 hb1) (below_box2 hb2)) (below_box2 hb3)⟩

theorem runs4 (m : Im) (x : ByteArray) (f : Int) (w : World) :
    Calls Try.prog 4 #[m.val, .string x, .int .i64 f] w fun e w' => e = .returned (.bool true) ∧ Below w.heap.size w w' := by
  obtain ⟨g, hg⟩ : ∃ g : Int, g = if 3000 < f then 3000 else f := ⟨_, rfl⟩
  have hle : g ≤ 3000 := by rw [hg]; split <;> omega
  cases h : m.may
  · exact runs4_same m x f g 0 0 0 1 ⟨#[]⟩ 0 hg w (fun w => run23_arg m x g h w) (fun w => rrun24_arg m x g h w)
  · by_cases hi : x.size ≤ 1048576
    · by_cases h0 : g < 0
      · exact runs4_same m x f g 0 0 0 1 ⟨#[]⟩ 0 hg w (fun w => run23_fuel m x g h hi h0 w) (fun w => rrun24_fuel m x g h hi h0 w)
      · have e1 : g = (g.toNat : Int) := by omega
        refine runs4_same m x f g (stepN g.toNat (initS m x)).kind (stepN g.toNat (initS m x)).exit (stepN g.toNat (initS m x)).trap 0 (outS (stepN g.toNat (initS m x)).out) (stepN g.toNat (initS m x)).used hg w (fun w => ?_) (fun w => ?_)
        · have := run23_ok m x g.toNat h hi (by omega) w
          rw [← e1] at this
          exact this
        · have := rrun24_ok m x g.toNat h hi (by omega) w
          rw [← e1] at this
          exact this
    · exact runs4_same m x f g 0 0 0 3 ⟨#[]⟩ 0 hg w (fun w => run23_long m x g h hi w) (fun w => rrun24_long m x g h hi w)
end Go.Proofs.Ytimbnlcegcmfiaa
