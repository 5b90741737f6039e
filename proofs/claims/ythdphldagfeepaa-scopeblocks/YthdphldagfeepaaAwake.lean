/- awake; a scope that nobody made. -/
import Derived.Test.YthdphldagfeepaaRel
namespace Go.Proofs.Ythdphldagfeepaa
open Go.RowKit Go.Maps
set_option linter.unusedVariables false
set_option linter.unusedSimpArgs false

def xS : ByteArray := ⟨#[120]⟩
theorem xS_le : xS.size ≤ 140737488351232 := by decide
def g0 : Blocks := fun _ _ => none
def g1 : Blocks := declG g0 0 xS 1
def g2 : Blocks := enterG g1 1
def g3 : Blocks := declG g2 1 xS 2
theorem g3_in : findG g3 2 xS = some 2 := by
  simp [findG, g3, g2, g1, g0, declG, enterG, putG]
theorem g3_out : findG g3 1 xS = some 1 := by
  simp [findG, g3, g2, g1, g0, declG, enterG, putG]

section
variable {w : World} {B p : Nat}
theorem dx1 (h : Sc w B p 1 1 g0) : Calls Try.prog 15 #[.pointer (some ⟨p, 0, none⟩), .string ⟨#[120]⟩, .int .i64 1] w fun e w' => e = .returned (.int .i64 (declE g0 0 xS)) ∧ Sc w' B p 2 1 g1 ∧ KP B w w' :=
  declare15 (k := 0) h xS xS_le 1 (by decide) (by omega)
theorem dx2 (h : Sc w B p 3 2 g2) : Calls Try.prog 15 #[.pointer (some ⟨p, 0, none⟩), .string ⟨#[120]⟩, .int .i64 2] w fun e w' => e = .returned (.int .i64 (declE g2 1 xS)) ∧ Sc w' B p 4 2 g3 ∧ KP B w w' :=
  declare15 (k := 1) h xS xS_le 2 (by decide) (by omega)
theorem ex1 (h : Sc w B p 2 1 g1) : Calls Try.prog 13 #[.pointer (some ⟨p, 0, none⟩)] w fun e w' => e = .returned (.tuple #[]) ∧ Sc w' B p 3 2 g2 ∧ KP B w w' := enter13' h (by omega)
theorem fx2 (h : Sc w B p 4 2 g3) : Calls Try.prog 10 #[.pointer (some ⟨p, 0, none⟩), .string ⟨#[120]⟩] w fun e w' => e = .returned (.tuple #[.int .i64 2, .bool true]) ∧ w' = w := by
  have := find10' h xS xS_le (by omega)
  rw [g3_in] at this
  exact this
theorem fx1 (h : Sc w B p 4 1 g3) : Calls Try.prog 10 #[.pointer (some ⟨p, 0, none⟩), .string ⟨#[120]⟩] w fun e w' => e = .returned (.tuple #[.int .i64 1, .bool true]) ∧ w' = w := by
  have := find10' h xS xS_le (by omega)
  rw [g3_out] at this
  exact this
theorem lx2 (h : Sc w B p 4 2 g3) : Calls Try.prog 14 #[.pointer (some ⟨p, 0, none⟩)] w fun e w' => e = .returned (.int .i64 0) ∧ Sc w' B p 4 1 g3 ∧ KP B w w' := leave14' h (by omega)
end

set_option maxHeartbeats 2000000 in
theorem awake12 (w : World) : Calls Try.prog 12 #[] w fun e w' => e = .returned (.bool true) ∧ Below w.heap.size w w' := by
  go_enter Try.func12, Try.ntmps12
  go_wp2_with (first
    | (go_at_call 6; refine (new6 w).mono ?_; rintro e1 w1 ⟨rfl, hS1, hB1⟩; replace hS1 := hid' hS1; replace hB1 := hid' hB1)
    | (go_at_call 15; with_reducible refine (dx2 hS3.out).mono ?_; rintro e4 w4 ⟨rfl, hS4, hK4⟩; replace hS4 := hid' hS4; replace hK4 := hid' hK4)
    | (go_at_call 15; with_reducible refine (dx1 hS1.out).mono ?_; rintro e2 w2 ⟨rfl, hS2, hK2⟩; replace hS2 := hid' hS2; replace hK2 := hid' hK2)
    | (go_at_call 13; refine (ex1 hS2.out).mono ?_; rintro e3 w3 ⟨rfl, hS3, hK3⟩; replace hS3 := hid' hS3; replace hK3 := hid' hK3)
    | (go_at_call 10; with_reducible refine (fx1 hS6.out).mono ?_; rintro e7 w7 ⟨rfl, hw⟩; have hv := hw.symm; clear hw; subst hv)
    | (go_at_call 10; with_reducible refine (fx2 hS4.out).mono ?_; rintro e5 w5 ⟨rfl, hw⟩; have hv := hw.symm; clear hw; subst hv)
    | (go_at_call 14; refine (lx2 hS4.out).mono ?_; rintro e6 w6 ⟨rfl, hS6, hK6⟩; replace hS6 := hid' hS6; replace hK6 := hid' hK6))
  go_ret
  refine ⟨rfl, ?_⟩
  have hb2 := hB1.out.trans (hK2.out.below hS1.out.size)
  have hb3 := hb2.trans (hK3.out.below hS2.out.size)
  have hb4 := hb3.trans (hK4.out.below hS3.out.size)
  exact hb4.trans (hK6.out.below hS4.out.size)

/-- A scope that nobody made: none, or a struct of a nil slice. -/
def Bare (w : World) (v : Value) : Prop := v = .pointer none ∨ ∃ p, v = .pointer (some ⟨p, 0, none⟩) ∧ w.cell? ⟨p, 0, none⟩ = some (.slice none 0 0)
section
variable {w : World} {v : Value}
theorem depth9_bare (h : Bare w v) : Calls Try.prog 9 #[v] w fun e w' => e = .returned (.int .i64 0) ∧ w' = w := by
  rcases h with rfl | ⟨p, rfl, hc⟩
  · go_enter Try.func9, Try.ntmps9
    go_wp2
    go_ret
    exact ⟨rfl, rfl⟩
  · go_enter Try.func9, Try.ntmps9
    go_wp2
    go_ret
    exact ⟨rfl, rfl⟩
theorem enter13_bare (h : Bare w v) : Calls Try.prog 13 #[v] w fun e w' => e = .returned (.tuple #[]) ∧ w' = w := by
  go_enter Try.func13, Try.ntmps13
  go_wp2_with (go_at_call 9; refine (depth9_bare h).mono ?_; rintro e w' ⟨rfl, rfl⟩)
  exact bodyPost_ret (v := .tuple #[]) (by simp [results, Try.results13, go_sem]) rfl ⟨rfl, rfl⟩
theorem leave14_bare (h : Bare w v) : Calls Try.prog 14 #[v] w fun e w' => e = .returned (.int .i64 1) ∧ w' = w := by
  go_enter Try.func14, Try.ntmps14
  go_wp2_with (go_at_call 9; refine (depth9_bare h).mono ?_; rintro e w' ⟨rfl, rfl⟩)
  go_ret
  exact ⟨rfl, rfl⟩
theorem declare15_bare (h : Bare w v) (s : ByteArray) (x : Int) : Calls Try.prog 15 #[v, .string s, .int .i64 x] w fun e w' => e = .returned (.int .i64 1) ∧ w' = w := by
  go_enter Try.func15, Try.ntmps15
  go_wp2_with (go_at_call 9; refine (depth9_bare h).mono ?_; rintro e w' ⟨rfl, rfl⟩)
  go_ret
  exact ⟨rfl, rfl⟩
theorem find10_bare (h : Bare w v) (s : ByteArray) : Calls Try.prog 10 #[v, .string s] w fun e w' => e = .returned (.tuple #[.int .i64 0, .bool false]) ∧ w' = w := by
  go_enter Try.func10, Try.ntmps10
  go_wp2_with (go_at_call 9; refine (depth9_bare h).mono ?_; rintro e w' ⟨rfl, rfl⟩)
  refine wp_loop_rounds 1 ?_
  rw [rounds_succ]
  go_wp2
  go_ret2
  exact ⟨rfl, rfl⟩
end

theorem bare_nil (w : World) : Bare w (.pointer none) := Or.inl rfl
theorem bare_at {w : World} {p : Nat} (h : w.cell? ⟨p, 0, none⟩ = some (.slice none 0 0)) : Bare w (.pointer (some ⟨p, 0, none⟩)) := Or.inr ⟨p, rfl, h⟩
end Go.Proofs.Ythdphldagfeepaa
