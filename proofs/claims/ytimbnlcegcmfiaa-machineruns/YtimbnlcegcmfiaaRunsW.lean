/- How a run of any image under any fuel ends: as the document's answer does. -/
import Derived.Test.YtimbnlcegcmfiaaRStepW
import Derived.Test.YtimbnlcegcmfiaaRNewW
import Derived.Test.YtimbnlcegcmfiaaAwake
namespace Go.Proofs.Ytimbnlcegcmfiaa
open Go.RowKit
set_option linter.unusedVariables false

theorem rmine_ge {B N p q r : Nat} {m : Im} {sl : Value} {s : St} {w : World} (h : IsR w m N p q r sl s) (hp : B ≤ p) (hr : B ≤ r) (hN : B ≤ N) : ∀ k, Mine p r sl k → B ≤ k := by
  rintro k (rfl | rfl | e)
  · exact hp
  · exact hr
  · exact Nat.le_trans hN (h.own.lt k e).1

theorem rrun24_arg (m : Im) (input : ByteArray) (fuel : Int) (h : m.may = false) (w : World) :
    Calls Try.prog 24 #[m.val, .string input, .int .i64 fuel] w fun e w' => e = .returned (.tuple #[.agg #[.int .i64 0, .int .i32 0, .int .i64 0, .string ⟨#[]⟩, .int .i64 0], .int .i64 1]) ∧ Below w.heap.size w w' := by
  go_enter Try.func24, Try.ntmps24
  go_wp2_with (first
    | (go_at_call 10; refine (rnew10_arg m input h _).mono ?_; rintro e w1 ⟨rfl, hb1⟩; obtain ⟨⟨k0, k1, k2, k3, k4⟩, hz, hb2, hs⟩ := endz hb1; have z0 := hz 0; have z1 := hz 1; have z2 := hz 2; have z3 := hz 3; have z4 := hz 4; clear hz hb1))
  refine bodyPost_ret (v := .tuple #[.agg #[.int .i64 0, .int .i32 0, .int .i64 0, .string ⟨#[]⟩, .int .i64 0], .int .i64 1]) (by simp [results, Try.results24, go_sem, k0, k1, k2, k3, k4]) rfl ⟨rfl, below_end hb2 _ _ _ _ _⟩

theorem rrun24_long (m : Im) (input : ByteArray) (fuel : Int) (h : m.may = true) (hi : ¬ input.size ≤ 1048576) (w : World) :
    Calls Try.prog 24 #[m.val, .string input, .int .i64 fuel] w fun e w' => e = .returned (.tuple #[.agg #[.int .i64 0, .int .i32 0, .int .i64 0, .string ⟨#[]⟩, .int .i64 0], .int .i64 3]) ∧ Below w.heap.size w w' := by
  go_enter Try.func24, Try.ntmps24
  go_wp2_with (first
    | (go_at_call 10; refine (rnew10_long m input h hi _).mono ?_; rintro e w1 ⟨rfl, hb1⟩; obtain ⟨⟨k0, k1, k2, k3, k4⟩, hz, hb2, hs⟩ := endz hb1; have z0 := hz 0; have z1 := hz 1; have z2 := hz 2; have z3 := hz 3; have z4 := hz 4; clear hz hb1))
  refine bodyPost_ret (v := .tuple #[.agg #[.int .i64 0, .int .i32 0, .int .i64 0, .string ⟨#[]⟩, .int .i64 0], .int .i64 3]) (by simp [results, Try.results24, go_sem, k0, k1, k2, k3, k4]) rfl ⟨rfl, below_end hb2 _ _ _ _ _⟩

theorem rrun24_fuel (m : Im) (input : ByteArray) (fuel : Int) (h : m.may = true) (hi : input.size ≤ 1048576) (hf : fuel < 0) (w : World) :
    Calls Try.prog 24 #[m.val, .string input, .int .i64 fuel] w fun e w' => e = .returned (.tuple #[.agg #[.int .i64 0, .int .i32 0, .int .i64 0, .string ⟨#[]⟩, .int .i64 0], .int .i64 1]) ∧ Below w.heap.size w w' := by
  go_enter Try.func24, Try.ntmps24
  go_wp2_with (first
    | (go_at_call 10; refine (rnew10_yes m input h hi _).mono ?_; rintro e w1 ⟨p, rfl, q, r, hM, _, _, _, hb1⟩; obtain ⟨⟨k0, k1, k2, k3, k4⟩, hz, hb2, hs⟩ := endz hb1; have z0 := hz 0; have z1 := hz 1; have z2 := hz 2; have z3 := hz 3; have z4 := hz 4; clear hz hb1 hM))
  refine bodyPost_ret (v := .tuple #[.agg #[.int .i64 0, .int .i32 0, .int .i64 0, .string ⟨#[]⟩, .int .i64 0], .int .i64 1]) (by simp [results, Try.results24, go_sem, k0, k1, k2, k3, k4]) rfl ⟨rfl, below_end hb2 _ _ _ _ _⟩

set_option maxRecDepth 100000 in
set_option maxHeartbeats 2000000 in
theorem rrun24_ok (m : Im) (input : ByteArray) (n : Nat) (h : m.may = true) (hi : input.size ≤ 1048576) (hn : n ≤ 1000000) (w : World) :
    Calls Try.prog 24 #[m.val, .string input, .int .i64 n] w fun e w' => e = .returned (.tuple #[endV (stepN n (initS m input)), .int .i64 0]) ∧ Below w.heap.size w w' := by
  have hO : Hid (∀ k, Ok (stepN k (initS m input))) := stepN_ok (initS_ok h hi)
  have hl : Hid (∀ k, (stepN k (initS m input)).out.length ≤ k) := stepN_out rfl
  generalize hs0 : initS m input = s0 at *
  go_enter Try.func24, Try.ntmps24
  go_wp2_with (first
    | (go_at_call 10; refine (rnew10_yes m input h hi _).mono ?_; rintro e w1 ⟨p, rfl, q, r, hM, hp, hq, hr, hb1⟩))
  go_loopw [10] (fun i wr => ∃ k : Nat, k ≤ n ∧ i = .int .i64 k ∧ (∃ sl, IsR wr m w1.heap.size p q r sl (stepN k s0)) ∧ Below ((w.alloc (.cells #[.string m.code, .string m.data, .int .i64 m.global, .int .i64 m.entry, .int .i64 m.frame] 23)).alloc (.cells #[.int .i64 0, .int .i32 0, .int .i64 0, .string ⟨#[]⟩, .int .i64 0] 38)).heap.size ((w.alloc (.cells #[.string m.code, .string m.data, .int .i64 m.global, .int .i64 m.entry, .int .i64 m.frame] 23)).alloc (.cells #[.int .i64 0, .int .i32 0, .int .i64 0, .string ⟨#[]⟩, .int .i64 0] 38)) wr) (fun i _ => n - (intOf i).toNat)
  case atStart => exact ⟨0, Nat.zero_le _, rfl, ⟨_, by rw [hs0] at hM; exact hM⟩, hb1⟩
  case round =>
    obtain ⟨k, hk, rfl, ⟨sl, hMk⟩, hbk⟩ := hrel
    have hs1 := hb1.size
    have hmine := hid (rmine_ge hMk hp hr hs1)
    have hst := rstep18 hMk (hO.out k) (Nat.le_trans (hl.out k) (Nat.le_trans hk hn))
    have hsz := hid hbk.size
    have c24 := hMk.c24
    have hpl := hMk.plt
    clear hb1 hM
    by_cases hlt : k < n
    · by_cases hk3 : (stepN k s0).kind = 3
      · rw [decide_eq_true hk3] at hst c24
        unfold RSteps at hst
        clear hMk
        go_wp2_with (first
          | (go_at_call 18; refine hst.mono ?_; rintro e w2 ⟨rfl, sl', hM2, hK2, _⟩))
        go_roundw
        case rel => exact ⟨k + 1, by omega, by go_num, ⟨sl', hM2⟩, hbk.trans (hK2.below hsz.out hmine.out)⟩
        case measure => simp [intOf]; omega
      · rw [decide_eq_false hk3] at c24
        clear hst
        have hend := hid (stepN_over hk3 n (Nat.le_of_lt hlt))
        go_wp2_with (first
          | (go_at_call 22; refine (rend22 hMk).mono ?_; rintro e w3 ⟨rfl, hb3⟩; have hb4 := hbk.trans (hb3.mono hsz.out); obtain ⟨⟨k0, k1, k2, k3, k4⟩, hz, hb5, hs⟩ := endz hb4; have z0 := hz 0; have z1 := hz 1; have z2 := hz 2; have z3 := hz 3; have z4 := hz 4; clear hz hb4))
        refine bodyPost_ret (v := .tuple #[endV (stepN k s0), .int .i64 0]) (by simp [results, Try.results24, go_sem, k0, k1, k2, k3, k4]) rfl ⟨?_, below_end hb5 _ _ _ _ _⟩
        rw [hend.out]
    · obtain rfl : k = n := by omega
      clear hst c24
      go_wp2_with (first
        | (go_at_call 22; refine (rend22 hMk).mono ?_; rintro e w3 ⟨rfl, hb3⟩; have hb4 := hbk.trans (hb3.mono hsz.out); obtain ⟨⟨k0, k1, k2, k3, k4⟩, hz, hb5, hs⟩ := endz hb4; have z0 := hz 0; have z1 := hz 1; have z2 := hz 2; have z3 := hz 3; have z4 := hz 4; clear hz hb4))
      refine bodyPost_ret (v := .tuple #[endV (stepN k s0), .int .i64 0]) (by simp [results, Try.results24, go_sem, k0, k1, k2, k3, k4]) rfl ⟨rfl, below_end hb5 _ _ _ _ _⟩
end Go.Proofs.Ytimbnlcegcmfiaa

namespace Go.Proofs.Ytimbnlcegcmfiaa
open Go.RowKit
set_option linter.unusedVariables false

set_option maxHeartbeats 2000000 in
theorem runs4_same (m : Im) (x : ByteArray) (f g : Int) (k xx t c : Int) (o : ByteArray) (u : Int) (hg : g = if 3000 < f then 3000 else f) (w : World)
    (hr1 : ∀ w, Calls Try.prog 23 #[m.val, .string x, .int .i64 g] w fun e w' => e = .returned (.tuple #[.agg #[.int .i64 k, .int .i32 xx, .int .i64 t, .string o, .int .i64 u], .int .i64 c]) ∧ Below w.heap.size w w')
    (hr2 : ∀ w, Calls Try.prog 24 #[m.val, .string x, .int .i64 g] w fun e w' => e = .returned (.tuple #[.agg #[.int .i64 k, .int .i32 xx, .int .i64 t, .string o, .int .i64 u], .int .i64 c]) ∧ Below w.heap.size w w') :
    Calls Try.prog 4 #[m.val, .string x, .int .i64 f] w fun e w' => e = .returned (.bool true) ∧ Below w.heap.size w w' := by
  by_cases hf : 3000 < f
  · rw [if_pos hf] at hg
    subst hg
    go_enter Try.func4, Try.ntmps4
    go_wp2_with (first
      | (go_at_call 23; with_reducible refine (hr1 _).mono ?_; rintro e w1 ⟨rfl, hb1⟩; have i0 := boxed2 hb1 0 (.string m.code) rfl; have i1 := boxed2 hb1 1 (.string m.data) rfl; have i2 := boxed2 hb1 2 (.int .i64 m.global) rfl; have i3 := boxed2 hb1 3 (.int .i64 m.entry) rfl; have i4 := boxed2 hb1 4 (.int .i64 m.frame) rfl; have hs1 : w.heap.size < w1.heap.size := by (have hq := hb1.size; simp at hq; omega))
      | (go_at_call 24; with_reducible refine (hr2 _).mono ?_; rintro e w2 ⟨rfl, hb2⟩; have a0 := boxed2 hb2 0 (.int .i64 k) rfl; have a1 := boxed2 hb2 1 (.int .i32 xx) rfl; have a2 := boxed2 hb2 2 (.int .i64 t) rfl; have a3 := boxed2 hb2 3 (.string o) rfl; have a4 := boxed2 hb2 4 (.int .i64 u) rfl; have hs2 : w1.heap.size < w2.heap.size := by (have hq := hb2.size; simp at hq; omega))
      | (go_at_call 13; refine (awake13 _).mono ?_; rintro e w3 ⟨rfl, hb3⟩))
    go_ret
    exact ⟨rfl, below_then (below_then (below_box2 hb1) (below_box2 hb2)) (below_box2 hb3)⟩
  · rw [if_neg hf] at hg
    subst hg
    go_enter Try.func4, Try.ntmps4
    go_wp2_with (first
      | (go_at_call 23; with_reducible refine (hr1 _).mono ?_; rintro e w1 ⟨rfl, hb1⟩; have i0 := boxed2 hb1 0 (.string m.code) rfl; have i1 := boxed2 hb1 1 (.string m.data) rfl; have i2 := boxed2 hb1 2 (.int .i64 m.global) rfl; have i3 := boxed2 hb1 3 (.int .i64 m.entry) rfl; have i4 := boxed2 hb1 4 (.int .i64 m.frame) rfl; have hs1 : w.heap.size < w1.heap.size := by (have hq := hb1.size; simp at hq; omega))
      | (go_at_call 24; with_reducible refine (hr2 _).mono ?_; rintro e w2 ⟨rfl, hb2⟩; have a0 := boxed2 hb2 0 (.int .i64 k) rfl; have a1 := boxed2 hb2 1 (.int .i32 xx) rfl; have a2 := boxed2 hb2 2 (.int .i64 t) rfl; have a3 := boxed2 hb2 3 (.string o) rfl; have a4 := boxed2 hb2 4 (.int .i64 u) rfl; have hs2 : w1.heap.size < w2.heap.size := by (have hq := hb2.size; simp at hq; omega))
      | (go_at_call 13; refine (awake13 _).mono ?_; rintro e w3 ⟨rfl, hb3⟩))
    go_ret
    exact ⟨rfl, below_then (below_then (below_box2 hb1) (below_box2 hb2)) (below_box2 hb3)⟩

theorem runs4 (m : Im) (x : ByteArray) (f : Int) (w : World) :
    Calls Try.prog 4 #[m.val, .string x, .int .i64 f] w fun e w' => e = .returned (.bool true) ∧ Below w.heap.size w w' := by
  obtain ⟨g, hg⟩ : ∃ g : Int, g = if 3000 < f then 3000 else f := ⟨_, rfl⟩
  have hle : g ≤ 3000 := by rw [hg]; split <;> omega
  cases h : m.may
  · exact runs4_same m x f g 0 0 0 1 ⟨#[]⟩ 0 hg w (fun w => run23_arg m x g h w) (fun w => rrun24_arg m x g h w)
  · by_cases hi : x.size ≤ 1048576
    · by_cases h0 : g < 0
      · exact runs4_same m x f g 0 0 0 1 ⟨#[]⟩ 0 hg w (fun w => run23_fuel m x g h hi h0 w) (fun w => rrun24_fuel m x g h hi h0 w)
      · have e1 : g = (g.toNat : Int) := by omega
        refine runs4_same m x f g (stepN g.toNat (initS m x)).kind (stepN g.toNat (initS m x)).exit (stepN g.toNat (initS m x)).trap 0 (outS (stepN g.toNat (initS m x)).out) (stepN g.toNat (initS m x)).used hg w (fun w => ?_) (fun w => ?_)
        · have := run23_ok m x g.toNat h hi (by omega) w
          rw [← e1] at this
          exact this
        · have := rrun24_ok m x g.toNat h hi (by omega) w
          rw [← e1] at this
          exact this
    · exact runs4_same m x f g 0 0 0 3 ⟨#[]⟩ 0 hg w (fun w => run23_long m x g h hi w) (fun w => rrun24_long m x g h hi w)
end Go.Proofs.Ytimbnlcegcmfiaa
