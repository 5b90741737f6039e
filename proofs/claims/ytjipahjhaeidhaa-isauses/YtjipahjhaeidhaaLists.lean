/- The contracts of the list of registers: whether one is in it (of none or one), and one more behind it. -/
import Derived.Test.YtjipahjhaeidhaaEncode
import Derived.WalkKit
namespace Go.Proofs.Ytjipahjhaeidhaa
open Go.RowKit

theorem info3 : (Try.prog.info? 3).map (fun i => (i.zero, i.size, i.bytes)) = some (some (.int .i64 0), 1, 8) := by kernel_rfl

set_option maxHeartbeats 400000 in
theorem index29_nil (r : Int) (w : World) :
    Calls Try.prog 29 #[.slice none 0 0, .int .i64 r] w fun e w' => e = .returned (.int .i64 (-1)) ∧ w' = w := by
  go_enter Try.func29, Try.ntmps29
  go_wp2
  refine wp_loop_rounds 1 ?_
  rw [rounds_succ]
  go_wp2
  go_ret
  exact ⟨rfl, rfl⟩
set_option maxHeartbeats 400000 in
theorem index29_same (g cap : Nat) (r : Int) (w : World) (hc : w.cell? ⟨g, 0, none⟩ = some (.int .i64 r)) :
    Calls Try.prog 29 #[.slice (some ⟨g, 0, none⟩) 1 cap, .int .i64 r] w fun e w' => e = .returned (.int .i64 0) ∧ w' = w := by
  go_enter Try.func29, Try.ntmps29
  go_wp2
  refine wp_loop_rounds 1 ?_
  rw [rounds_succ]
  go_wp2
  go_ret
  exact ⟨rfl, rfl⟩
set_option maxHeartbeats 400000 in
theorem index29_other (g cap : Nat) (x r : Int) (hx : ¬ r = x) (w : World) (hc : w.cell? ⟨g, 0, none⟩ = some (.int .i64 x)) :
    Calls Try.prog 29 #[.slice (some ⟨g, 0, none⟩) 1 cap, .int .i64 r] w fun e w' => e = .returned (.int .i64 (-1)) ∧ w' = w := by
  go_enter Try.func29, Try.ntmps29
  go_wp2
  refine wp_loop_rounds 2 ?_
  rw [rounds_succ]
  go_wp2
  rw [rounds_succ]
  go_wp2
  go_ret
  exact ⟨rfl, rfl⟩

theorem contains28_nil (r : Int) (w : World) :
    Calls Try.prog 28 #[.slice none 0 0, .int .i64 r] w fun e w' => e = .returned (.bool false) ∧ w' = w := by
  go_enter Try.func28, Try.ntmps28
  go_wp2_with (go_at_call 29; refine (index29_nil r _).mono ?_; rintro e w' ⟨rfl, rfl⟩)
  go_ret
  exact ⟨rfl, rfl⟩
theorem contains28_same (g cap : Nat) (r : Int) (w : World) (hc : w.cell? ⟨g, 0, none⟩ = some (.int .i64 r)) :
    Calls Try.prog 28 #[.slice (some ⟨g, 0, none⟩) 1 cap, .int .i64 r] w fun e w' => e = .returned (.bool true) ∧ w' = w := by
  go_enter Try.func28, Try.ntmps28
  go_wp2_with (go_at_call 29; refine (index29_same g cap r _ hc).mono ?_; rintro e w' ⟨rfl, rfl⟩)
  go_ret
  exact ⟨rfl, rfl⟩
theorem contains28_other (g cap : Nat) (x r : Int) (hx : ¬ r = x) (w : World) (hc : w.cell? ⟨g, 0, none⟩ = some (.int .i64 x)) :
    Calls Try.prog 28 #[.slice (some ⟨g, 0, none⟩) 1 cap, .int .i64 r] w fun e w' => e = .returned (.bool false) ∧ w' = w := by
  go_enter Try.func28, Try.ntmps28
  go_wp2_with (go_at_call 29; refine (index29_other g cap x r hx _ hc).mono ?_; rintro e w' ⟨rfl, rfl⟩)
  go_ret
  exact ⟨rfl, rfl⟩

theorem with25_off (v : Value) (r : Int) (h : Int) (h0 : (h != 0) = false) (w : World) :
    Calls Try.prog 25 #[v, .int .i64 r, .int .i64 h] w fun e w' => e = .returned v ∧ w' = w := by
  have hz : h = 0 := by simpa using h0
  subst hz
  go_enter Try.func25, Try.ntmps25
  go_wp2
  go_ret
  exact ⟨rfl, rfl⟩
theorem with25_same (g cap : Nat) (r h : Int) (h0 : (h != 0) = true) (w : World) (hc : w.cell? ⟨g, 0, none⟩ = some (.int .i64 r)) :
    Calls Try.prog 25 #[.slice (some ⟨g, 0, none⟩) 1 cap, .int .i64 r, .int .i64 h] w fun e w' => e = .returned (.slice (some ⟨g, 0, none⟩) 1 cap) ∧ w' = w := by
  have hz : (h == 0) = false := by simpa using h0
  go_enter Try.func25, Try.ntmps25
  go_wp2_with (go_at_call 28; refine (contains28_same g cap r _ hc).mono ?_; rintro e w' ⟨rfl, rfl⟩)
  go_ret
  exact ⟨rfl, rfl⟩

theorem below_append {base : Nat} {w w1 : World} {o : Obj} {row : Option Nat} (hg : (w.alloc o).grownBy w1 row) (hB : base ≤ w.heap.size) (hr : ∀ k, row = some k → base ≤ k) : Below base w w1 :=
  ((Below.refl base w).alloc hB _).grown hg (by simp; omega) hr

set_option maxHeartbeats 400000 in
theorem with25_nil (r h : Int) (h0 : (h != 0) = true) (w : World) :
    Calls Try.prog 25 #[.slice none 0 0, .int .i64 r, .int .i64 h] w fun e w' => ∃ v, e = .returned v ∧ w'.ownsRow w.heap.size 3 1 v 1 [.int .i64 r] ∧ Below w.heap.size w w' := by
  have hz : (h == 0) = false := by simpa using h0
  obtain ⟨i0, hi, hz0, hz1, hz2⟩ := info_parts info3
  have hown := World.ownsRow_nil w w.heap.size 3 1
  go_enter Try.func25, Try.ntmps25
  go_wp2_with (first
    | (go_at_call 28; refine (contains28_nil r _).mono ?_; rintro e w' ⟨rfl, hw⟩; have hw2 := hw.symm; clear hw; subst hw2)
    | (at_builtin; refine wpList_append_own _ rfl _ _ 34 rfl w.heap.size 3 i0 (.int .i64 0) 1 8 Try.underlying34 hi hz0 hz1 hz2 rfl (by decide) _ _ _ rfl (hown.alloc _) ⟨w.heap.size, 0, none⟩ 1 1 [.int .i64 r] rfl rfl ?c1 ?c2 ?c3 ?c4 ?c5 ?_))
  case c1 =>
    intro j u hj
    match j, hj with
    | 0, hj => simp at hj; subst hj; simp [Addr.add]
  case c2 => intro u hu; simp at hu; subst hu; rfl
  case c3 => unfold maxLen; omega
  case c4 => omega
  case c5 => simp
  · intro v' w1 hown' hgrow _
    go_wp2
    go_ret
    exact ⟨_, rfl, hown', below_append hgrow (Nat.le_refl _) (fun k hk => by simp [Value.ownBlock] at hk)⟩

set_option maxHeartbeats 400000 in
theorem with25_grow {base : Nat} (g cap : Nat) (x r h : Int) (h0 : (h != 0) = true) (hx : ¬ r = x) (w : World) (hown : w.ownsRow base 3 1 (.slice (some ⟨g, 0, none⟩) 1 cap) 1 [.int .i64 x]) (hB : base ≤ w.heap.size) (hc : w.cell? ⟨g, 0, none⟩ = some (.int .i64 x)) :
    Calls Try.prog 25 #[.slice (some ⟨g, 0, none⟩) 1 cap, .int .i64 r, .int .i64 h] w fun e w' => ∃ v, e = .returned v ∧ w'.ownsRow base 3 1 v 2 [.int .i64 x, .int .i64 r] ∧ Below base w w' := by
  have hz : (h == 0) = false := by simpa using h0
  have hg := (hown.lt g rfl).1
  obtain ⟨i0, hi, hz0, hz1, hz2⟩ := info_parts info3
  go_enter Try.func25, Try.ntmps25
  go_wp2_with (first
    | (go_at_call 28; refine (contains28_other g cap x r hx _ hc).mono ?_; rintro e w' ⟨rfl, hw⟩; have hw2 := hw.symm; clear hw; subst hw2)
    | (at_builtin; refine wpList_append_own _ rfl _ _ 34 rfl base 3 i0 (.int .i64 0) 1 8 Try.underlying34 hi hz0 hz1 hz2 rfl (by decide) _ _ _ rfl (hown.alloc _) ⟨w.heap.size, 0, none⟩ 1 1 [.int .i64 r] rfl rfl ?c1 ?c2 ?c3 ?c4 ?c5 ?_))
  case c1 =>
    intro j u hj
    match j, hj with
    | 0, hj => simp at hj; subst hj; simp [Addr.add]
  case c2 => intro u hu; simp at hu; subst hu; rfl
  case c3 => unfold maxLen; omega
  case c4 => omega
  case c5 => simp; omega
  · intro v' w1 hown' hgrow _
    go_wp2
    go_ret
    exact ⟨_, rfl, hown', below_append hgrow hB (fun k hk => by simp [Value.ownBlock] at hk; omega)⟩
end Go.Proofs.Ytjipahjhaeidhaa
