/- A unit of a character or string, by the program. -/
import Derived.Test.YtfnekmhhhjdeiaaGap
namespace Go.Proofs.Ytfnekmhhhjdeiaa
open Go.RowKit
set_option linter.unusedVariables false

/-- What unit tells. -/
def unitV : Option (UInt8 × Nat) → Value
  | none => .tuple #[.int .u8 0, .int .i64 0]
  | some (b, n) => .tuple #[.int .u8 (b.toNat : Int), .int .i64 (n : Nat)]
theorem ret_v {a b : Value} (h : a = b) : Ending.returned a = .returned b := by rw [h]

theorem or_u64 (a b : Nat) (ha : a < 16) (hb : b < 16) : bits .or .u64 ((a : Int) * 16) (b : Int) = ((a * 16 + b : Nat) : Int) := by
  have : a = 0 ∨ a = 1 ∨ a = 2 ∨ a = 3 ∨ a = 4 ∨ a = 5 ∨ a = 6 ∨ a = 7 ∨ a = 8 ∨ a = 9 ∨ a = 10 ∨ a = 11 ∨ a = 12 ∨ a = 13 ∨ a = 14 ∨ a = 15 := by omega
  have : b = 0 ∨ b = 1 ∨ b = 2 ∨ b = 3 ∨ b = 4 ∨ b = 5 ∨ b = 6 ∨ b = 7 ∨ b = 8 ∨ b = 9 ∨ b = 10 ∨ b = 11 ∨ b = 12 ∨ b = 13 ∨ b = 14 ∨ b = 15 := by omega
  rcases ‹a = 0 ∨ _› with rfl | rfl | rfl | rfl | rfl | rfl | rfl | rfl | rfl | rfl | rfl | rfl | rfl | rfl | rfl | rfl <;>
    rcases ‹b = 0 ∨ _› with rfl | rfl | rfl | rfl | rfl | rfl | rfl | rfl | rfl | rfl | rfl | rfl | rfl | rfl | rfl | rfl <;> decide

/-- What hexByte tells of a text that begins with \x. -/
def hexF : List UInt8 → Option (UInt8 × Nat)
  | _ :: _ :: h :: g :: _ => if hexv h < 16 ∧ hexv g < 16 then some ((hexv h * 16 + hexv g).toUInt8, 4) else none
  | _ => none

set_option maxHeartbeats 1000000 in
theorem hexByte71 (s : ByteArray) (w : World) : Calls Try.prog 71 #[.string s] w fun e w' => e = .returned (unitV (hexF (lst s))) ∧ ∃ n, w' = w.drewN n := by
  by_cases h : 4 ≤ s.size
  · have h2 : (2 : Int) < s.size := by omega
    have h3 : (3 : Int) < s.size := by omega
    have h4 : (4 : Int) ≤ s.size := by omega
    have hl := hid (lst_cons s 0 (by omega))
    rw [lst_cons s 1 (by omega), lst_cons s 2 (by omega), lst_cons s 3 (by omega), List.drop_zero] at hl
    have hc2 : ∀ w, Calls Try.prog 66 #[byteV s[2]] w fun e w' => e = .returned (.int .u64 (hexv s[2] : Nat)) ∧ w' = w := digit66 s[2]
    have hc3 : ∀ w, Calls Try.prog 66 #[byteV s[3]] w fun e w' => e = .returned (.int .u64 (hexv s[3] : Nat)) ∧ w' = w := digit66 s[3]
    have hr : Hid (hexF (lst s) = if hexv s[2] < 16 ∧ hexv s[3] < 16 then some ((hexv s[2] * 16 + hexv s[3]).toUInt8, 4) else none) := by rw [hl.out]; rfl
    have b2 := hexv_le s[2]
    have b3 := hexv_le s[3]
    generalize hexF (lst s) = X at hr ⊢
    obtain ⟨x, hx⟩ : ∃ x, x = hexv s[2] := ⟨_, rfl⟩
    obtain ⟨y, hy⟩ : ∃ y, y = hexv s[3] := ⟨_, rfl⟩
    rw [← hx] at hc2 b2 hr
    rw [← hy] at hc3 b3 hr
    clear hx hy hl
    go_enter Try.func71, Try.ntmps71
    go_wp2
    go_quiet (first | (with_reducible exact Calls.quiet_of_same (hc2 _)) | (with_reducible exact Calls.quiet_of_same (hc3 _)))
    go_wp2
    all_goals (try simp only [beq_iff_eq, beq_eq_false_iff_ne, ne_eq] at *)
    · rw [show X = none from hr.out.trans (if_neg (by omega))]
      exact bodyPost_ret (v := unitV none) (by simp [results, Try.results71, go_sem, unitV]) rfl ⟨rfl, _, rfl⟩
    · rw [show X = none from hr.out.trans (if_neg (by omega))]
      exact bodyPost_ret (v := unitV none) (by simp [results, Try.results71, go_sem, unitV]) rfl ⟨rfl, _, rfl⟩
    · rw [show X = _ from hr.out.trans (if_pos (by omega))]
      have e := or_u64 x y (by omega) (by omega)
      refine bodyPost_ret (v := .tuple #[.int .u8 (bits .or .u64 ((x : Int) * 16) (y : Int) % 256), .int .i64 4]) (by simp [results, Try.results71, go_sem]) rfl ⟨ret_v ?_, _, rfl⟩
      rw [e]
      simp only [unitV, Nat.toUInt8_eq, UInt8.toNat_ofNat']
      rfl
  · have h4 : (s.size : Int) < 4 := by omega
    have hr : Hid (hexF (lst s) = none) := by
      have hz := lst_len s
      show hexF (lst s) = none
      match hq : lst s with
      | [] => rfl
      | [_] => rfl
      | [_, _] => rfl
      | [_, _, _] => rfl
      | _ :: _ :: _ :: _ :: _ => rw [hq] at hz; simp at hz; omega
    go_enter Try.func71, Try.ntmps71
    go_wp2
    refine bodyPost_ret (v := unitV none) (by simp [results, Try.results71, go_sem, unitV]) rfl ⟨by rw [hr.out], 0, rfl⟩

theorem esc_eq (c d : UInt8) (q : List UInt8) : escF (d :: q) = if d.toNat = 110 then some (10, 2) else if d.toNat = 116 then some (9, 2) else if d.toNat = 114 then some (13, 2) else if d.toNat = 48 then some (0, 2)
    else if d.toNat = 92 ∨ d.toNat = 39 ∨ d.toNat = 34 then some (d, 2) else if d.toNat = 120 then hexF (c :: d :: q) else none := by
  simp only [escF]
  congr 5
  match q with
  | [] => rfl
  | [_] => rfl
  | _ :: _ :: _ => rfl

theorem esc_at (s : ByteArray) (h : 2 ≤ s.size) : escF ((lst s).drop 1) = if s[1].toNat = 110 then some ((10 : UInt8), 2) else if s[1].toNat = 116 then some (9, 2) else if s[1].toNat = 114 then some (13, 2) else if s[1].toNat = 48 then some (0, 2)
    else if s[1].toNat = 92 ∨ s[1].toNat = 39 ∨ s[1].toNat = 34 then some (s[1], 2) else if s[1].toNat = 120 then hexF (lst s) else none := by
  have hl := lst_cons s 0 (by omega)
  have hl1 := lst_cons s 1 (by omega)
  rw [hl1, esc_eq s[0], ← hl1, ← hl, List.drop_zero]

set_option maxHeartbeats 2000000 in
theorem escape68 (s : ByteArray) (w : World) : Calls Try.prog 68 #[.string s] w fun e w' => e = .returned (unitV (escF ((lst s).drop 1))) ∧ ∃ n, w' = w.drewN n := by
  by_cases h : 2 ≤ s.size
  · have h1 : (1 : Int) < s.size := by omega
    have h4 : (2 : Int) ≤ s.size := by omega
    have hr := hid (esc_at s h)
    generalize escF ((lst s).drop 1) = X at hr ⊢
    have hc := hexByte71 s
    generalize hexF (lst s) = Y at hr hc
    rcases Y with _ | ⟨b, m⟩
    · simp only [unitV] at hc
      go_enter Try.func68, Try.ntmps68
      go_wp2_with (go_at_call 71; refine (hc _).mono ?_; rintro e w1 ⟨rfl, nq, rfl⟩)
      all_goals clear hc
      all_goals (try simp only [beq_iff_eq, beq_eq_false_iff_ne, ne_eq] at *)
      all_goals first
        | (rw [show X = some (10, 2) from hr.out.trans (if_pos (by omega))]; exact bodyPost_ret (v := unitV (some (10, 2))) (by simp [results, Try.results68, go_sem, unitV, *]) rfl ⟨rfl, 0, rfl⟩)
        | (rw [show X = some (9, 2) from hr.out.trans ((if_neg (by omega)).trans (if_pos (by omega)))]; exact bodyPost_ret (v := unitV (some (9, 2))) (by simp [results, Try.results68, go_sem, unitV, *]) rfl ⟨rfl, 0, rfl⟩)
        | (rw [show X = some (13, 2) from hr.out.trans ((if_neg (by omega)).trans ((if_neg (by omega)).trans (if_pos (by omega))))]; exact bodyPost_ret (v := unitV (some (13, 2))) (by simp [results, Try.results68, go_sem, unitV, *]) rfl ⟨rfl, 0, rfl⟩)
        | (rw [show X = some (0, 2) from hr.out.trans ((if_neg (by omega)).trans ((if_neg (by omega)).trans ((if_neg (by omega)).trans (if_pos (by omega)))))]; exact bodyPost_ret (v := unitV (some (0, 2))) (by simp [results, Try.results68, go_sem, unitV, *]) rfl ⟨rfl, 0, rfl⟩)
        | (rw [show X = some (s[1], 2) from hr.out.trans ((if_neg (by omega)).trans ((if_neg (by omega)).trans ((if_neg (by omega)).trans ((if_neg (by omega)).trans (if_pos (by omega))))))]; exact bodyPost_ret (v := unitV (some (s[1], 2))) (by simp [results, Try.results68, go_sem, unitV, *]) rfl ⟨rfl, 0, rfl⟩)
        | (rw [show X = none from hr.out.trans ((if_neg (by omega)).trans ((if_neg (by omega)).trans ((if_neg (by omega)).trans ((if_neg (by omega)).trans ((if_neg (by omega)).trans (if_pos (by omega)))))))]; exact bodyPost_ret (v := unitV none) (by simp [results, Try.results68, go_sem, unitV, *]) rfl ⟨rfl, nq, rfl⟩)
        | (rw [show X = none from hr.out.trans ((if_neg (by omega)).trans ((if_neg (by omega)).trans ((if_neg (by omega)).trans ((if_neg (by omega)).trans ((if_neg (by omega)).trans (if_neg (by omega)))))))]; exact bodyPost_ret (v := unitV none) (by simp [results, Try.results68, go_sem, unitV, *]) rfl ⟨rfl, 0, rfl⟩)
    · simp only [unitV] at hc
      go_enter Try.func68, Try.ntmps68
      go_wp2_with (go_at_call 71; refine (hc _).mono ?_; rintro e w1 ⟨rfl, nq, rfl⟩)
      all_goals clear hc
      all_goals (try simp only [beq_iff_eq, beq_eq_false_iff_ne, ne_eq] at *)
      all_goals first
        | (rw [show X = some (10, 2) from hr.out.trans (if_pos (by omega))]; exact bodyPost_ret (v := unitV (some (10, 2))) (by simp [results, Try.results68, go_sem, unitV, *]) rfl ⟨rfl, 0, rfl⟩)
        | (rw [show X = some (9, 2) from hr.out.trans ((if_neg (by omega)).trans (if_pos (by omega)))]; exact bodyPost_ret (v := unitV (some (9, 2))) (by simp [results, Try.results68, go_sem, unitV, *]) rfl ⟨rfl, 0, rfl⟩)
        | (rw [show X = some (13, 2) from hr.out.trans ((if_neg (by omega)).trans ((if_neg (by omega)).trans (if_pos (by omega))))]; exact bodyPost_ret (v := unitV (some (13, 2))) (by simp [results, Try.results68, go_sem, unitV, *]) rfl ⟨rfl, 0, rfl⟩)
        | (rw [show X = some (0, 2) from hr.out.trans ((if_neg (by omega)).trans ((if_neg (by omega)).trans ((if_neg (by omega)).trans (if_pos (by omega)))))]; exact bodyPost_ret (v := unitV (some (0, 2))) (by simp [results, Try.results68, go_sem, unitV, *]) rfl ⟨rfl, 0, rfl⟩)
        | (rw [show X = some (s[1], 2) from hr.out.trans ((if_neg (by omega)).trans ((if_neg (by omega)).trans ((if_neg (by omega)).trans ((if_neg (by omega)).trans (if_pos (by omega))))))]; exact bodyPost_ret (v := unitV (some (s[1], 2))) (by simp [results, Try.results68, go_sem, unitV, *]) rfl ⟨rfl, 0, rfl⟩)
        | (rw [show X = some (b, m) from hr.out.trans ((if_neg (by omega)).trans ((if_neg (by omega)).trans ((if_neg (by omega)).trans ((if_neg (by omega)).trans ((if_neg (by omega)).trans (if_pos (by omega)))))))]; exact bodyPost_ret (v := unitV (some (b, m))) (by simp [results, Try.results68, go_sem, unitV, *]) rfl ⟨rfl, nq, rfl⟩)
        | (rw [show X = none from hr.out.trans ((if_neg (by omega)).trans ((if_neg (by omega)).trans ((if_neg (by omega)).trans ((if_neg (by omega)).trans ((if_neg (by omega)).trans (if_neg (by omega)))))))]; exact bodyPost_ret (v := unitV none) (by simp [results, Try.results68, go_sem, unitV, *]) rfl ⟨rfl, 0, rfl⟩)
  · have h4 : (s.size : Int) < 2 := by omega
    have hr : Hid (escF ((lst s).drop 1) = none) := by
      show escF ((lst s).drop 1) = none
      rw [lst_nil s 1 (by omega)]
      rfl
    go_enter Try.func68, Try.ntmps68
    go_wp2
    refine bodyPost_ret (v := unitV none) (by simp [results, Try.results68, go_sem, unitV]) rfl ⟨by rw [hr.out], 0, rfl⟩
end Go.Proofs.Ytfnekmhhhjdeiaa
