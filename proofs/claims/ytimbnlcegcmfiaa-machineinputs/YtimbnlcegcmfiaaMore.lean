/- With more fuel a run that ended ends alike, and one that did not has put and got at least as much. -/
import Derived.Test.YtimbnlcegcmfiaaAwake
import Derived.OpenShut
namespace Go.Proofs.Ytimbnlcegcmfiaa
open Go.RowKit
set_option linter.unusedVariables false

theorem below_next2 {w w1 w2 : World} (h1 : Below w.heap.size w w1) (h2 : Below w1.heap.size w1 w2) : Below w.heap.size w w2 := h1.trans (h2.mono h1.size)

theorem doF_used (s : St) (op : Int) (d a b : Nat) (i : Int) : s.used ≤ (doF s op d a b i).used := by
  have h1 : (stF s op d a i).1.used = s.used := by unfold stF; split <;> rfl
  have h2 : s.used ≤ (getS s).used := by
    unfold getS
    split
    · exact Nat.le_succ _
    · exact Nat.le_refl _
  have h3 : s.used ≤ (giF s op d a b i).1.used := by
    unfold giF
    split
    · exact h2
    · split
      · exact Nat.le_refl _
      · exact Nat.le_refl _
  unfold doF
  repeat' split
  all_goals first
    | exact Nat.le_refl _
    | exact Nat.le_of_eq h1.symm
    | exact h3
theorem stepF_used (s : St) : s.used ≤ (stepF s).used := by
  unfold stepF
  split
  · split
    · exact doF_used s _ _ _ _ _
    · exact Nat.le_refl _
  · exact Nat.le_refl _
theorem stepN_used (s : St) (n : Nat) : ∀ d, (stepN n s).used ≤ (stepN (n + d) s).used
  | 0 => Nat.le_refl _
  | d + 1 => Nat.le_trans (stepN_used s n d) (stepF_used _)
theorem stepN_prefix (s : St) (n : Nat) : ∀ d, ∃ l, (stepN (n + d) s).out = (stepN n s).out ++ l
  | 0 => ⟨[], by simp⟩
  | d + 1 => by
    obtain ⟨l, hl⟩ := stepN_prefix s n d
    obtain ⟨l', hl', _⟩ := stepF_out (stepN (n + d) s)
    refine ⟨l ++ l', ?_⟩
    show (stepF (stepN (n + d) s)).out = _
    rw [hl', hl, List.append_assoc]

theorem outS_size (l : List UInt8) : (outS l).size = l.length := by simp [outS, ByteArray.size]
theorem outS_cut (l k : List UInt8) : (outS (l ++ k)).extract 0 (outS l).size = outS l := by
  apply ByteArray.ext
  rw [ByteArray.data_extract, outS_size]
  simp [outS]

theorem prefix43 (l k : List UInt8) (w : World) : Calls Try.prog 43 #[.string (outS (l ++ k)), .string (outS l)] w fun e w' => e = .returned (.bool true) ∧ w' = w := by
  have h1 : ((outS l).size : Int) ≤ ((outS (l ++ k)).size : Int) := by rw [outS_size, outS_size, List.length_append]; omega
  have h2 := outS_cut l k
  generalize outS (l ++ k) = x at *
  generalize outS l = y at *
  go_enter Try.func43, Try.ntmps43
  go_wp2
  go_ret
  exact ⟨rfl, rfl⟩
theorem prefix25 (l k : List UInt8) (w : World) : Calls Try.prog 25 #[.string (outS (l ++ k)), .string (outS l)] w fun e w' => e = .returned (.bool true) ∧ w' = w := by
  go_enter Try.func25, Try.ntmps25
  go_wp2_with (first | (go_at_call 43; refine (prefix43 l k _).mono ?_; rintro e w' ⟨rfl, rfl⟩))
  go_ret
  exact ⟨rfl, rfl⟩

/-- The cells of two boxes, behind a call that has turned nothing. -/
theorem box_a {w w1 : World} {c : Array Value} {t : TypeId} {o : Obj} (hb : Below ((w.alloc (.cells c t)).alloc o).heap.size ((w.alloc (.cells c t)).alloc o) w1) (i : Nat) (v : Value) (hv : c[i]? = some v) : w1.cell? ⟨w.heap.size, i, none⟩ = some v :=
  boxed2 (((Below.refl _ _).alloc (Nat.le_refl _) o).trans (hb.mono (by simp))) i v hv
theorem box_b {w w1 : World} {c : Array Value} {t : TypeId} {o : Obj} (hb : Below ((w.alloc o).alloc (.cells c t)).heap.size ((w.alloc o).alloc (.cells c t)) w1) (i : Nat) (v : Value) (hv : c[i]? = some v) : w1.cell? ⟨w.heap.size + 1, i, none⟩ = some v := by
  have := boxed2 hb i v hv
  simpa using this

set_option maxHeartbeats 2000000 in
theorem more5_zero (m : Im) (input : ByteArray) (f g c : Int) (f0 : 0 ≤ f) (f1 : f < 65536) (g0 : 0 ≤ g) (g1 : g < 65536) (hc : ¬ c = 0) (w : World)
    (hr : ∀ (n : Int) w, 0 ≤ n → Calls Try.prog 23 #[m.val, .string input, .int .i64 n] w fun e w' => e = .returned (.tuple #[.agg #[.int .i64 0, .int .i32 0, .int .i64 0, .string ⟨#[]⟩, .int .i64 0], .int .i64 c]) ∧ Below w.heap.size w w') :
    Calls Try.prog 5 #[m.val, .string input, .agg #[.int .u16 f, .int .u16 g]] w fun e w' => e = .returned (.bool true) ∧ Below w.heap.size w w' := by
  go_enter Try.func5, Try.ntmps5
  go_wp2_with (first
    | (go_at_call 23; with_reducible refine (hr (f % 3000) _ (by omega)).mono ?_; rintro e w1 ⟨rfl, hb1⟩; have i0 := box_a hb1 0 (.string m.code) rfl; have i1 := box_a hb1 1 (.string m.data) rfl; have i2 := box_a hb1 2 (.int .i64 m.global) rfl; have i3 := box_a hb1 3 (.int .i64 m.entry) rfl; have i4 := box_a hb1 4 (.int .i64 m.frame) rfl; have j1 := box_b hb1 1 (.int .u16 g) rfl; have hs0 : w.heap.size < w1.heap.size := (by have hq := hb1.size; simp at hq; omega); have hs1 : w.heap.size + 1 < w1.heap.size := by (have hq := hb1.size; simp at hq; omega))
    | (go_at_call 23; with_reducible refine (hr (f % 3000 + g % 3000) _ (by omega)).mono ?_; rintro e w2 ⟨rfl, hb2⟩; have a0 := boxed2 hb2 0 (.int .i64 0) rfl; have a1 := boxed2 hb2 1 (.int .i32 0) rfl; have a2 := boxed2 hb2 2 (.int .i64 0) rfl; have a3 := boxed2 hb2 3 (.string ⟨#[]⟩) rfl; have a4 := boxed2 hb2 4 (.int .i64 0) rfl; have hs2 : w1.heap.size < w2.heap.size := by (have hq := hb2.size; simp at hq; omega))
    | (go_at_call 13; refine (awake13 _).mono ?_; rintro e w3 ⟨rfl, hb3⟩))
  go_ret
  exact ⟨rfl, below_next2 (below_next2 (below_box2 (below_box2 hb1)) (below_box2 hb2)) (below_box2 hb3)⟩

set_option maxHeartbeats 2000000 in
theorem more5_over (m : Im) (input : ByteArray) (f g : Int) (n k : Nat) (s0 : St) (hn : f % 3000 = (n : Int)) (hk : f % 3000 + g % 3000 = (k : Int)) (f0 : 0 ≤ f) (f1 : f < 65536) (g0 : 0 ≤ g) (g1 : g < 65536) (w : World)
    (hr1 : ∀ w, Calls Try.prog 23 #[m.val, .string input, .int .i64 (f % 3000)] w fun e w' => e = .returned (.tuple #[endV (stepN n s0), .int .i64 0]) ∧ Below w.heap.size w w')
    (hr2 : ∀ w, Calls Try.prog 23 #[m.val, .string input, .int .i64 (f % 3000 + g % 3000)] w fun e w' => e = .returned (.tuple #[endV (stepN n s0), .int .i64 0]) ∧ Below w.heap.size w w') (h3 : ¬ (stepN n s0).kind = 3) :
    Calls Try.prog 5 #[m.val, .string input, .agg #[.int .u16 f, .int .u16 g]] w fun e w' => e = .returned (.bool true) ∧ Below w.heap.size w w' := by
  have h3' : ((stepN n s0).kind != 3) = true := by simp [h3]
  clear hn hk
  go_enter Try.func5, Try.ntmps5
  go_wp2_with (first
    | (go_at_call 23; with_reducible refine (hr1 _).mono ?_; rintro e w1 ⟨rfl, hb1⟩; have i0 := box_a hb1 0 (.string m.code) rfl; have i1 := box_a hb1 1 (.string m.data) rfl; have i2 := box_a hb1 2 (.int .i64 m.global) rfl; have i3 := box_a hb1 3 (.int .i64 m.entry) rfl; have i4 := box_a hb1 4 (.int .i64 m.frame) rfl; have j1 := box_b hb1 1 (.int .u16 g) rfl; have hs0 : w.heap.size < w1.heap.size := (by have hq := hb1.size; simp at hq; omega); have hs1 : w.heap.size + 1 < w1.heap.size := by (have hq := hb1.size; simp at hq; omega))
    | (go_at_call 23; with_reducible refine (hr2 _).mono ?_; rintro e w2 ⟨rfl, hb2⟩; have a0 := boxed2 hb2 0 (.int .i64 (stepN n s0).kind) rfl; have a1 := boxed2 hb2 1 (.int .i32 (stepN n s0).exit) rfl; have a2 := boxed2 hb2 2 (.int .i64 (stepN n s0).trap) rfl; have a3 := boxed2 hb2 3 (.string (outS (stepN n s0).out)) rfl; have a4 := boxed2 hb2 4 (.int .i64 (stepN n s0).used) rfl; have hs2 : w1.heap.size < w2.heap.size := by (have hq := hb2.size; simp at hq; omega))
    | (go_at_call 13; refine (awake13 _).mono ?_; rintro e w3 ⟨rfl, hb3⟩))
  go_ret
  exact ⟨rfl, below_next2 (below_next2 (below_box2 (below_box2 hb1)) (below_box2 hb2)) (below_box2 hb3)⟩

set_option maxHeartbeats 2000000 in
theorem more5_fuel (m : Im) (input : ByteArray) (f g : Int) (n k : Nat) (s0 : St) (f0 : 0 ≤ f) (f1 : f < 65536) (g0 : 0 ≤ g) (g1 : g < 65536) (w : World)
    (hr1 : ∀ w, Calls Try.prog 23 #[m.val, .string input, .int .i64 (f % 3000)] w fun e w' => e = .returned (.tuple #[endV (stepN n s0), .int .i64 0]) ∧ Below w.heap.size w w')
    (hr2 : ∀ w, Calls Try.prog 23 #[m.val, .string input, .int .i64 (f % 3000 + g % 3000)] w fun e w' => e = .returned (.tuple #[endV (stepN k s0), .int .i64 0]) ∧ Below w.heap.size w w')
    (h3 : (stepN n s0).kind = 3) (h4 : (stepN n s0).exit = 0) (h5 : (stepN n s0).trap = 0) (hu : ((stepN n s0).used : Int) ≤ ((stepN k s0).used : Int)) (l : List UInt8) (ho : (stepN k s0).out = (stepN n s0).out ++ l) :
    Calls Try.prog 5 #[m.val, .string input, .agg #[.int .u16 f, .int .u16 g]] w fun e w' => e = .returned (.bool true) ∧ Below w.heap.size w w' := by
  unfold endV at hr1 hr2
  rw [h3, h4, h5] at hr1
  rw [ho] at hr2
  have hpre : ∀ w, Calls Try.prog 25 #[.string (outS ((stepN n s0).out ++ l)), .string (outS (stepN n s0).out)] w fun e w' => e = .returned (.bool true) ∧ w' = w := fun w => prefix25 _ _ w
  clear h3 h4 h5 ho
  generalize outS ((stepN n s0).out ++ l) = oB at *
  generalize outS (stepN n s0).out = oA at *
  generalize (stepN n s0).used = uA at *
  generalize (stepN k s0).used = uB at *
  generalize (stepN k s0).kind = kB at *
  generalize (stepN k s0).exit = xB at *
  generalize (stepN k s0).trap = tB at *
  go_enter Try.func5, Try.ntmps5
  go_wp2_with (first
    | (go_at_call 23; with_reducible refine (hr1 _).mono ?_; rintro e w1 ⟨rfl, hb1⟩; have i0 := box_a hb1 0 (.string m.code) rfl; have i1 := box_a hb1 1 (.string m.data) rfl; have i2 := box_a hb1 2 (.int .i64 m.global) rfl; have i3 := box_a hb1 3 (.int .i64 m.entry) rfl; have i4 := box_a hb1 4 (.int .i64 m.frame) rfl; have j1 := box_b hb1 1 (.int .u16 g) rfl; have hs0 : w.heap.size < w1.heap.size := (by have hq := hb1.size; simp at hq; omega); have hs1 : w.heap.size + 1 < w1.heap.size := by (have hq := hb1.size; simp at hq; omega))
    | (go_at_call 23; with_reducible refine (hr2 _).mono ?_; rintro e w2 ⟨rfl, hb2⟩; have a0 := boxed2 hb2 0 (.int .i64 3) rfl; have a1 := boxed2 hb2 1 (.int .i32 0) rfl; have a2 := boxed2 hb2 2 (.int .i64 0) rfl; have a3 := boxed2 hb2 3 (.string oA) rfl; have a4 := boxed2 hb2 4 (.int .i64 uA) rfl; have hs2 : w1.heap.size < w2.heap.size := by (have hq := hb2.size; simp at hq; omega))
    | (go_at_call 25; refine (hpre _).mono ?_; rintro e w' ⟨rfl, hw⟩; have hv := hw.symm; clear hw; subst hv)
    | (go_at_call 13; refine (awake13 _).mono ?_; rintro e w3 ⟨rfl, hb3⟩))
  go_ret
  exact ⟨rfl, below_next2 (below_next2 (below_box2 (below_box2 hb1)) (below_box2 hb2)) (below_box2 hb3)⟩

theorem more5 (m : Im) (input : ByteArray) (f g : Int) (wf : (Lit.int .u16 f).wf = true) (wg : (Lit.int .u16 g).wf = true) (w : World) :
    Calls Try.prog 5 #[m.val, .string input, .agg #[.int .u16 f, .int .u16 g]] w fun e w' => e = .returned (.bool true) ∧ Below w.heap.size w w' := by
  obtain ⟨f0, f1⟩ : 0 ≤ f ∧ f < 65536 := by have := bounds_u16 wf; omega
  obtain ⟨g0, g1⟩ : 0 ≤ g ∧ g < 65536 := by have := bounds_u16 wg; omega
  cases h : m.may
  · exact more5_zero m input f g 1 f0 f1 g0 g1 (by decide) w (fun n w hn => run23_arg m input n h w)
  · by_cases hi : input.size ≤ 1048576
    · have e1 : f % 3000 = ((f % 3000).toNat : Int) := by omega
      have e2 : f % 3000 + g % 3000 = (((f % 3000).toNat + (g % 3000).toNat : Nat) : Int) := by omega
      have hr1 : ∀ w, Calls Try.prog 23 #[m.val, .string input, .int .i64 (f % 3000)] w fun e w' => e = .returned (.tuple #[endV (stepN (f % 3000).toNat (initS m input)), .int .i64 0]) ∧ Below w.heap.size w w' := fun w => by
        have := run23_ok m input (f % 3000).toNat h hi (by omega) w
        rwa [← e1] at this
      have hr2 : ∀ w, Calls Try.prog 23 #[m.val, .string input, .int .i64 (f % 3000 + g % 3000)] w fun e w' => e = .returned (.tuple #[endV (stepN ((f % 3000).toNat + (g % 3000).toNat) (initS m input)), .int .i64 0]) ∧ Below w.heap.size w w' := fun w => by
        have := run23_ok m input ((f % 3000).toNat + (g % 3000).toNat) h hi (by omega) w
        rwa [← e2] at this
      by_cases h3 : (stepN (f % 3000).toNat (initS m input)).kind = 3
      · obtain ⟨l, hl⟩ := stepN_prefix (initS m input) (f % 3000).toNat (g % 3000).toNat
        have hf := (stepN_ok (initS_ok h hi) (f % 3000).toNat).fin h3
        have hu := stepN_used (initS m input) (f % 3000).toNat (g % 3000).toNat
        exact more5_fuel m input f g _ _ _ f0 f1 g0 g1 w hr1 hr2 h3 hf.1 hf.2 (by omega) l hl
      · rw [stepN_over h3 _ (Nat.le_add_right _ _)] at hr2
        exact more5_over m input f g _ _ _ e1 e2 f0 f1 g0 g1 w hr1 hr2 h3
    · exact more5_zero m input f g 3 f0 f1 g0 g1 (by decide) w (fun n w hn => run23_long m input n h hi w)
end Go.Proofs.Ytimbnlcegcmfiaa
