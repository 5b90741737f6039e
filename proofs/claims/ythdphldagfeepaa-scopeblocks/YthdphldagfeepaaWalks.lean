/- The program's calls, one contract each. -/
import Derived.Test.YthdphldagfeepaaSteps
import Derived.Test.YthdphldagfeepaaClone
import Derived.Test.YthdphldagfeepaaQuiet
namespace Go.Proofs.Ythdphldagfeepaa
open Go.RowKit Go.Maps
set_option linter.unusedVariables false
set_option linter.unusedSimpArgs false

section
variable {w : World} {B p M n r cap : Nat} {mb : Nat → Option Nat} {g : Blocks}
theorem depth9 (h : IsS w B p M n r cap mb g) : Calls Try.prog 9 #[.pointer (some ⟨p, 0, none⟩)] w fun e w' => e = .returned (.int .i64 n) ∧ w' = w := by
  have hc := h.cellp
  go_enter Try.func9, Try.ntmps9
  go_wp2
  go_ret
  exact ⟨rfl, rfl⟩

theorem new6 (w : World) : Calls Try.prog 6 #[] w fun e w' => e = .returned (.pointer (some ⟨w.heap.size + 1, 0, none⟩)) ∧ Sc w' w.heap.size (w.heap.size + 1) 1 1 (fun _ _ => none) ∧ Below w.heap.size w w' := by
  have hmk : (Instr.makeSlice 42 (.int .i64 1) (.int .i64 1)).run Try.prog w = .ok (.slice (some ⟨w.heap.size, 0, none⟩) 1 1) (w.alloc (.cells (madeCells #[.map none] 1) 50)) := run_make_row' (P := Try.prog) 42 50 (.map none) 8 Try.underlying42 info50 rfl .i64 .i64 1 (by omega) (by omega) w
  have hN := hid' (isS_new w)
  go_enter Try.func6, Try.ntmps6
  go_wp2
  go_ret
  exact ⟨rfl, ⟨_, _, _, hN.out⟩, ((Below.refl _ _).alloc (Nat.le_refl _) _).alloc (by simp) _⟩

def retF (o : Option Int) : Value := .tuple #[.int .i64 (o.getD 0), .bool o.isSome]

set_option maxHeartbeats 1000000 in
theorem find10 (h : IsS w B p M n r cap mb g) (s : ByteArray) (hs : s.size ≤ maxLen) (hM : M ≤ 9000000000000000000) :
    Calls Try.prog 10 #[.pointer (some ⟨p, 0, none⟩), .string s] w fun e w' => e = .returned (retF (findG g n s)) ∧ w' = w := by
  have hc := h.cellp
  have hhi := h.hi
  have hlo := h.lo
  obtain ⟨cur, _, _, hcap, hcm⟩ := h.row
  have HS := hid' h
  have H9 := hid' (depth9 h)
  unfold maxLen at hcm
  go_enter Try.func10, Try.ntmps10
  go_wp2_with (go_at_call 9; refine (H9.out).mono ?_; rintro e w' ⟨rfl, hw⟩; have hv := hw.symm; clear hw; subst hv)
  go_loop [6] (fun i => ∃ j : Nat, j ≤ n ∧ i = .int .i64 ((j : Int) - 1) ∧ findG g n s = findG g j s) (fun i => (intOf i + 1).toNat)
  case atStart => exact ⟨n, Nat.le_refl _, rfl, rfl⟩
  case round =>
    obtain ⟨j, hj, rfl, hf⟩ := hrel
    have HF := hid' hf
    clear hf
    cases j with
    | zero =>
      go_wp2
      go_ret2
      exact ⟨by rw [HF.out]; rfl, rfl⟩
    | succ k =>
      have hcr := HS.out.cellr (i := k) (by omega)
      obtain ⟨c, hl, hgv⟩ := HS.out.look (i := k) (by omega) s hs
      have e1 : ((k + 1 : Nat) : Int) - 1 = k := by omega
      rw [e1]
      have HG := hid' hgv
      clear hgv
      cases hv : g k s with
      | none =>
        rw [hv] at hl
        have HN : Hid (findG g n s = findG g k s) := by unfold Hid; rw [HF.out, findG, hv]
        go_wp2
        go_round
        case rel => exact ⟨k, by omega, by go_num, HN.out⟩
        case measure => simp [intOf]
      | some x =>
        rw [hv] at hl
        have HN : Hid (findG g n s = some c) := by unfold Hid; rw [HF.out, findG, hv]; have := HG.out; rw [hv] at this; simpa using this
        go_wp2
        go_ret2
        exact ⟨by rw [HN.out]; rfl, rfl⟩
end
end Go.Proofs.Ythdphldagfeepaa
