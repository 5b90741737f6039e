/- A number's token, by the program: one of three roads. -/
import Derived.Test.YtjeioblhpfogfaaGreatDoorX01
set_option linter.unusedVariables false
set_option linter.unusedSimpArgs false
set_option maxRecDepth 20000
set_option maxHeartbeats 8000000
namespace Go.Proofs.YtjeioblhpfogfaaGreatDoorLx
open Go.RowKit

theorem number37_B (s : ByteArray) (v n : Nat) (hs : s.size < 4611686018427387904) (h0 : 0 < s.size) (hn : n ≤ s.size) (hv : v ≤ 4294967296)
    (h1 : ∀ w, Calls Tryz.prog 169 #[.string s, .string ⟨#[48, 120]⟩] w fun e w' => e = .returned (.bool true) ∧ w' = w)
    (h3 : ∀ w, Calls Tryz.prog 217 #[.string s, .int .i64 2, .int .u64 16] w fun e w' => e = .returned (.tuple #[.int .u64 (v : Nat), .int .i64 (n : Nat)]) ∧ w' = w)
    (x : Option (Tok × Nat)) (hx : x = if n = 2 ∨ 4294967296 ≤ v then none else numEnd v n (lst s)) (w : World) :
    Calls Tryz.prog 173 #[.string s] w fun e w' => e = .returned (readV x) ∧ Below w.heap.size w w' := by
  replace hx := hid hx
  go_enter Tryz.func173, Tryz.ntmps173
  go_wp2_with (first
    | (go_at_call 169; (with_reducible refine (h1 _).mono ?_); rintro e w1 ⟨rfl, rfl⟩)
    | (go_at_call 217; (with_reducible refine (h3 _).mono ?_); rintro e w1 ⟨rfl, rfl⟩)
    | (go_at_call 174; refine (isInName26 _ _).mono ?_; rintro e w1 ⟨rfl, rfl⟩))
  all_goals clear h1 h3
  all_goals (try simp only [beq_iff_eq, beq_eq_false_iff_ne, ne_eq] at *)
  all_goals first
    | (rw [show x = none from hx.out.trans (if_pos (by omega))]; exact bodyPost_ret (v := readV none) (by simp [results, Tryz.results173, go_sem, readV, zeroV]) rfl ⟨rfl, below_box _ _⟩)
    | (rw [show x = _ from (hx.out.trans (if_neg (by omega))).trans (E1 (by omega))]; exact bodyPost_ret (v := readV (some (⟨5, [], v, decide ((2147483648 : Int) ≤ v)⟩, n))) (by simp [results, Tryz.results173, go_sem, readV, tokV, strL]) rfl ⟨rfl, below_box _ _⟩)
    | (rw [show x = _ from (hx.out.trans (if_neg (by omega))).trans (E2 (by omega) (isU_no (by omega) (by omega)) (by assumption))]; exact bodyPost_ret (v := readV (some (⟨5, [], v, decide ((2147483648 : Int) ≤ v)⟩, n))) (by simp [results, Tryz.results173, go_sem, readV, tokV, strL]) rfl ⟨rfl, below_box _ _⟩)
    | (rw [show x = none from (hx.out.trans (if_neg (by omega))).trans (E3 (by omega) (isU_no (by omega) (by omega)) (by assumption))]; exact bodyPost_ret (v := readV none) (by simp [results, Tryz.results173, go_sem, readV, zeroV]) rfl ⟨rfl, below_box _ _⟩)
    | (rw [show x = _ from (hx.out.trans (if_neg (by omega))).trans (E4 (by omega) (isU_yes (by omega)) (by omega))]; exact bodyPost_ret (v := readV (some (⟨5, [], v, true⟩, n + 1))) (by simp [results, Tryz.results173, go_sem, readV, tokV, strL]) rfl ⟨rfl, below_box _ _⟩)
    | (rw [show x = none from (hx.out.trans (if_neg (by omega))).trans (E5 (by omega) (isU_yes (by omega)) (by omega) (by assumption))]; exact bodyPost_ret (v := readV none) (by simp [results, Tryz.results173, go_sem, readV, zeroV]) rfl ⟨rfl, below_box _ _⟩)
    | (rw [show x = _ from (hx.out.trans (if_neg (by omega))).trans (E6 (by omega) (isU_yes (by omega)) (by omega) (by assumption))]; exact bodyPost_ret (v := readV (some (⟨5, [], v, true⟩, n + 1))) (by simp [results, Tryz.results173, go_sem, readV, tokV, strL]) rfl ⟨rfl, below_box _ _⟩)
    | (exfalso; omega)
end Go.Proofs.YtjeioblhpfogfaaGreatDoorLx
