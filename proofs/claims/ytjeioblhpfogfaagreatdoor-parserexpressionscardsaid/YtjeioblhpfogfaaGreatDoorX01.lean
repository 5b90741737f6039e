/- Numbers, by the program. -/
import Derived.Test.YtjeioblhpfogfaaGreatDoorX00
import Derived.Lib.UnsafeStr
import Derived.Laws.MakeOwn
import Derived.Laws.DeepStrings4
set_option linter.unusedVariables false
set_option linter.unusedSimpArgs false
set_option maxRecDepth 20000
set_option maxHeartbeats 8000000
namespace Go.Proofs.YtjeioblhpfogfaaGreatDoorLx
open Go.RowKit

theorem vu {a b : Int} (h : a = b) : Value.int .u64 a = Value.int .u64 b := by rw [h]
theorem ret_un {a b c d : Int} (h : a = b) (h2 : c = d) : Ending.returned (.tuple #[.int .u64 a, .int .i64 c]) = .returned (.tuple #[.int .u64 b, .int .i64 d]) := by rw [h, h2]
theorem dig_no {base v : Nat} {c : UInt8} {r : List UInt8} (h : ¬ hexv c < base) : digG base v (c :: r) = (v, 0) := by unfold digG; rw [if_neg h]
theorem dig_yes {base v : Nat} {c : UInt8} {r : List UInt8} (h : hexv c < base) : digG base v (c :: r) = ((digG base (min (v * base + hexv c) 4294967296) r).1, (digG base (min (v * base + hexv c) 4294967296) r).2 + 1) := by
  conv => lhs; unfold digG
  rw [if_pos h]

theorem digits53 (s : ByteArray) (f base : Nat) (hb : base ≤ 16) (hf : f ≤ s.size) (hs : s.size < 4611686018427387904) (w : World) :
    Calls Tryz.prog 217 #[.string s, .int .i64 (f : Int), .int .u64 (base : Int)] w fun e w' => e = .returned (.tuple #[.int .u64 ((digG base 0 ((lst s).drop f)).1 : Nat), .int .i64 ((f + (digG base 0 ((lst s).drop f)).2 : Nat) : Int)]) ∧ w' = w := by
  obtain ⟨A, hA⟩ : ∃ A, A = (digG base 0 ((lst s).drop f)).1 := ⟨_, rfl⟩
  obtain ⟨B, hB⟩ : ∃ B, B = f + (digG base 0 ((lst s).drop f)).2 := ⟨_, rfl⟩
  rw [← hA, ← hB]
  replace hA := hid hA
  replace hB := hid hB
  go_enter Tryz.func217, Tryz.ntmps217
  go_wp2
  go_loop [1, 8] (fun i n => ∃ k v : Nat, f ≤ k ∧ k ≤ s.size ∧ v ≤ 4294967296 ∧ i = .int .i64 k ∧ n = .int .u64 v ∧ A = (digG base v ((lst s).drop k)).1 ∧ B = k + (digG base v ((lst s).drop k)).2) (fun i _ => s.size - (intOf i).toNat)
  case atStart => exact ⟨f, 0, Nat.le_refl _, hf, by omega, rfl, rfl, hA.out, hB.out⟩
  case round =>
    obtain ⟨k, v, hk0, hk, hv, rfl, rfl, hA1, hB1⟩ := hrel
    have hA2 := hid hA1
    have hB2 := hid hB1
    clear hA1 hB1
    by_cases hlt : k < s.size
    · have hl := hid (lst_cons s k hlt)
      have hx := hexv_le s[k]
      obtain ⟨x, hx'⟩ : ∃ x, x = hexv s[k] := ⟨_, rfl⟩
      have hcall : ∀ w, Calls Tryz.prog 247 #[byteV s[k]] w fun e w' => e = .returned (.int .u64 (x : Nat)) ∧ w' = w := by rw [hx']; exact digit66 s[k]
      rw [← hx'] at hx
      replace hx' := hid hx'
      by_cases hd : x < base
      · have hmul : v * base ≤ 4294967296 * 16 := Nat.mul_le_mul hv hb
        have hm1 : ((v : Int) * (base : Int)) ≤ 68719476736 := by (have : ((v * base : Nat) : Int) ≤ 68719476736 := by omega); rwa [Int.natCast_mul] at this
        have hm0 : 0 ≤ ((v : Int) * (base : Int)) := by (have : 0 ≤ ((v * base : Nat) : Int) := by omega); rwa [Int.natCast_mul] at this
        clear hmul
        have hd' : (x : Int) < base := by omega
        go_wp2_with (go_at_call 247; refine (hcall _).mono ?_; rintro e w1 ⟨rfl, rfl⟩)
        have hy := dig_yes (v := v) (r := (lst s).drop (k + 1)) (show hexv s[k] < base by rw [← hx'.out]; exact hd)
        rw [← hl.out, ← hx'.out] at hy
        refine ⟨⟨k + 1, min (v * base + x) 4294967296, by omega, by omega, Nat.min_le_right _ _, vi (by omega), vu (by rw [← Int.natCast_mul]; omega), ?_, ?_⟩, by simp [intOf]; omega⟩
        · rw [hA2.out, hy]
        · rw [hB2.out, hy]
          show k + (_ + 1) = k + 1 + _
          omega
      · have hd' : (base : Int) ≤ x := by omega
        go_wp2_with (go_at_call 247; refine (hcall _).mono ?_; rintro e w1 ⟨rfl, rfl⟩)
        have hA3 := hA2.out
        have hB3 := hB2.out
        rw [hl.out, dig_no (by rw [← hx'.out]; exact hd)] at hA3 hB3
        refine bodyPost_ret (v := .tuple #[.int .u64 (v : Int), .int .i64 (k : Int)]) (by simp [results, Tryz.results217, go_sem]) rfl ⟨?_, rfl⟩
        exact ret_un (by rw [hA3]) (by rw [hB3]; rfl)
    · go_wp2
      have hA3 := hA2.out
      have hB3 := hB2.out
      rw [lst_nil s k (by omega)] at hA3 hB3
      refine bodyPost_ret (v := .tuple #[.int .u64 (v : Int), .int .i64 (k : Int)]) (by simp [results, Tryz.results217, go_sem]) rfl ⟨?_, rfl⟩
      exact ret_un (by rw [hA3]; rfl) (by rw [hB3]; rfl)
end Go.Proofs.YtjeioblhpfogfaaGreatDoorLx
namespace Go.Proofs.YtjeioblhpfogfaaGreatDoorLx
open Go.RowKit

/-- A token as a value. -/
def tokV (t : Tok) (p e : Int) : Value := .agg #[.int .i64 (t.kind : Nat), .string (strL t.text), .int .u32 (t.num : Nat), .bool t.uns, .int .i64 p, .int .i64 e]
def zeroV : Value := .agg #[.int .i64 0, .string ⟨#[]⟩, .int .u32 0, .bool false, .int .i64 0, .int .i64 0]
/-- What read, number and the like tell. -/
def readV : Option (Tok × Nat) → Value
  | none => .tuple #[zeroV, .int .i64 0]
  | some (t, n) => .tuple #[tokV t 0 0, .int .i64 (n : Nat)]

theorem isU_yes {c : UInt8} (h : (c.toNat : Int) = 117 ∨ (c.toNat : Int) = 85) : isU c = true := by simp [isU]; omega
theorem isU_no {c : UInt8} (h1 : ¬ (c.toNat : Int) = 117) (h2 : ¬ (c.toNat : Int) = 85) : isU c = false := by simp [isU]; omega
section
variable {s : ByteArray} {v n : Nat}
theorem E1 (h : s.size ≤ n) : numEnd v n (lst s) = some (⟨5, [], v, decide ((2147483648 : Int) ≤ v)⟩, n) := by
  simp [numEnd, lst_nil s n h, headIs]
  omega
theorem E2 (h : n < s.size) (h1 : isU s[n] = false) (h2 : nm s[n] = false) : numEnd v n (lst s) = some (⟨5, [], v, decide ((2147483648 : Int) ≤ v)⟩, n) := by
  simp [numEnd, lst_cons s n h, headIs, h1, h2]
  omega
theorem E3 (h : n < s.size) (h1 : isU s[n] = false) (h2 : nm s[n] = true) : numEnd v n (lst s) = none := by
  simp [numEnd, lst_cons s n h, headIs, h1, h2]
theorem E4 (h : n < s.size) (h1 : isU s[n] = true) (h2 : s.size ≤ n + 1) : numEnd v n (lst s) = some (⟨5, [], v, true⟩, n + 1) := by
  simp only [numEnd, lst_cons s n h, headIs, h1, if_pos, lst_nil s (n + 1) h2, Bool.or_true]
  simp
theorem E5 (h : n < s.size) (h1 : isU s[n] = true) (h2 : n + 1 < s.size) (h3 : nm s[n + 1] = true) : numEnd v n (lst s) = none := by
  simp only [numEnd, lst_cons s n h, headIs, h1, if_pos, lst_cons s (n + 1) h2]
  simp [h3]
theorem E6 (h : n < s.size) (h1 : isU s[n] = true) (h2 : n + 1 < s.size) (h3 : nm s[n + 1] = false) : numEnd v n (lst s) = some (⟨5, [], v, true⟩, n + 1) := by
  simp only [numEnd, lst_cons s n h, headIs, h1, if_pos, lst_cons s (n + 1) h2, Bool.or_true]
  simp [h3]
end

end Go.Proofs.YtjeioblhpfogfaaGreatDoorLx
namespace Go.Proofs.YtjeioblhpfogfaaGreatDoorLx
open Go.RowKit

/-- What unit tells. -/
def unitV : Option (UInt8 × Nat) → Value
  | none => .tuple #[.int .u8 0, .int .i64 0]
  | some (b, n) => .tuple #[.int .u8 (b.toNat : Int), .int .i64 (n : Nat)]
theorem ret_v {a b : Value} (h : a = b) : Ending.returned a = .returned b := by rw [h]

theorem or_u64 (a b : Nat) (ha : a < 16) (hb : b < 16) : bits .or .u64 ((a : Int) * 16) (b : Int) = ((a * 16 + b : Nat) : Int) := by
  have : a = 0 ∨ a = 1 ∨ a = 2 ∨ a = 3 ∨ a = 4 ∨ a = 5 ∨ a = 6 ∨ a = 7 ∨ a = 8 ∨ a = 9 ∨ a = 10 ∨ a = 11 ∨ a = 12 ∨ a = 13 ∨ a = 14 ∨ a = 15 := by omega
  have : b = 0 ∨ b = 1 ∨ b = 2 ∨ b = 3 ∨ b = 4 ∨ b = 5 ∨ b = 6 ∨ b = 7 ∨ b = 8 ∨ b = 9 ∨ b = 10 ∨ b = 11 ∨ b = 12 ∨ b = 13 ∨ b = 14 ∨ b = 15 := by omega
  rcases ‹a = 0 ∨ _› with rfl | rfl | rfl | rfl | rfl | rfl | rfl | rfl | rfl | rfl | rfl | rfl | rfl | rfl | rfl | rfl <;>
    rcases ‹b = 0 ∨ _› with rfl | rfl | rfl | rfl | rfl | rfl | rfl | rfl | rfl | rfl | rfl | rfl | rfl | rfl | rfl | rfl <;> decide

/-- What hexByte tells of a text that begins with \x. -/
def hexF : List UInt8 → Option (UInt8 × Nat)
  | _ :: _ :: h :: g :: _ => if hexv h < 16 ∧ hexv g < 16 then some ((hexv h * 16 + hexv g).toUInt8, 4) else none
  | _ => none

theorem hexByte71 (s : ByteArray) (w : World) : Calls Tryz.prog 262 #[.string s] w fun e w' => e = .returned (unitV (hexF (lst s))) ∧ ∃ n, w' = w.drewN n := by
  by_cases h : 4 ≤ s.size
  · have h2 : (2 : Int) < s.size := by omega
    have h3 : (3 : Int) < s.size := by omega
    have h4 : (4 : Int) ≤ s.size := by omega
    have hl := hid (lst_cons s 0 (by omega))
    rw [lst_cons s 1 (by omega), lst_cons s 2 (by omega), lst_cons s 3 (by omega), List.drop_zero] at hl
    have hc2 : ∀ w, Calls Tryz.prog 247 #[byteV s[2]] w fun e w' => e = .returned (.int .u64 (hexv s[2] : Nat)) ∧ w' = w := digit66 s[2]
    have hc3 : ∀ w, Calls Tryz.prog 247 #[byteV s[3]] w fun e w' => e = .returned (.int .u64 (hexv s[3] : Nat)) ∧ w' = w := digit66 s[3]
    have hr : Hid (hexF (lst s) = if hexv s[2] < 16 ∧ hexv s[3] < 16 then some ((hexv s[2] * 16 + hexv s[3]).toUInt8, 4) else none) := by rw [hl.out]; rfl
    have b2 := hexv_le s[2]
    have b3 := hexv_le s[3]
    generalize hexF (lst s) = X at hr ⊢
    obtain ⟨x, hx⟩ : ∃ x, x = hexv s[2] := ⟨_, rfl⟩
    obtain ⟨y, hy⟩ : ∃ y, y = hexv s[3] := ⟨_, rfl⟩
    rw [← hx] at hc2 b2 hr
    rw [← hy] at hc3 b3 hr
    clear hx hy hl
    go_enter Tryz.func262, Tryz.ntmps262
    go_wp2
    go_quiet (first | (with_reducible exact Calls.quiet_of_same (hc2 _)) | (with_reducible exact Calls.quiet_of_same (hc3 _)))
    go_wp2
    all_goals (try simp only [beq_iff_eq, beq_eq_false_iff_ne, ne_eq] at *)
    · rw [show X = none from hr.out.trans (if_neg (by omega))]
      exact bodyPost_ret (v := unitV none) (by simp [results, Tryz.results262, go_sem, unitV]) rfl ⟨rfl, _, rfl⟩
    · rw [show X = none from hr.out.trans (if_neg (by omega))]
      exact bodyPost_ret (v := unitV none) (by simp [results, Tryz.results262, go_sem, unitV]) rfl ⟨rfl, _, rfl⟩
    · rw [show X = _ from hr.out.trans (if_pos (by omega))]
      have e := or_u64 x y (by omega) (by omega)
      refine bodyPost_ret (v := .tuple #[.int .u8 (bits .or .u64 ((x : Int) * 16) (y : Int) % 256), .int .i64 4]) (by simp [results, Tryz.results262, go_sem]) rfl ⟨ret_v ?_, _, rfl⟩
      rw [e]
      simp only [unitV, Nat.toUInt8_eq, UInt8.toNat_ofNat']
      rfl
  · have h4 : (s.size : Int) < 4 := by omega
    have hr : Hid (hexF (lst s) = none) := by
      have hz := lst_len s
      show hexF (lst s) = none
      match hq : lst s with
      | [] => rfl
      | [_] => rfl
      | [_, _] => rfl
      | [_, _, _] => rfl
      | _ :: _ :: _ :: _ :: _ => rw [hq] at hz; simp at hz; omega
    go_enter Tryz.func262, Tryz.ntmps262
    go_wp2
    refine bodyPost_ret (v := unitV none) (by simp [results, Tryz.results262, go_sem, unitV]) rfl ⟨by rw [hr.out], 0, rfl⟩

theorem esc_eq (c d : UInt8) (q : List UInt8) : escF (d :: q) = if d.toNat = 110 then some (10, 2) else if d.toNat = 116 then some (9, 2) else if d.toNat = 114 then some (13, 2) else if d.toNat = 48 then some (0, 2)
    else if d.toNat = 92 ∨ d.toNat = 39 ∨ d.toNat = 34 then some (d, 2) else if d.toNat = 120 then hexF (c :: d :: q) else none := by
  simp only [escF]
  congr 5
  match q with
  | [] => rfl
  | [_] => rfl
  | _ :: _ :: _ => rfl

theorem esc_at (s : ByteArray) (h : 2 ≤ s.size) : escF ((lst s).drop 1) = if s[1].toNat = 110 then some ((10 : UInt8), 2) else if s[1].toNat = 116 then some (9, 2) else if s[1].toNat = 114 then some (13, 2) else if s[1].toNat = 48 then some (0, 2)
    else if s[1].toNat = 92 ∨ s[1].toNat = 39 ∨ s[1].toNat = 34 then some (s[1], 2) else if s[1].toNat = 120 then hexF (lst s) else none := by
  have hl := lst_cons s 0 (by omega)
  have hl1 := lst_cons s 1 (by omega)
  rw [hl1, esc_eq s[0], ← hl1, ← hl, List.drop_zero]

theorem escape68 (s : ByteArray) (w : World) : Calls Tryz.prog 250 #[.string s] w fun e w' => e = .returned (unitV (escF ((lst s).drop 1))) ∧ ∃ n, w' = w.drewN n := by
  by_cases h : 2 ≤ s.size
  · have h1 : (1 : Int) < s.size := by omega
    have h4 : (2 : Int) ≤ s.size := by omega
    have hr := hid (esc_at s h)
    generalize escF ((lst s).drop 1) = X at hr ⊢
    have hc := hexByte71 s
    generalize hexF (lst s) = Y at hr hc
    rcases Y with _ | ⟨b, m⟩
    · simp only [unitV] at hc
      go_enter Tryz.func250, Tryz.ntmps250
      go_wp2_with (go_at_call 262; refine (hc _).mono ?_; rintro e w1 ⟨rfl, nq, rfl⟩)
      all_goals clear hc
      all_goals (try simp only [beq_iff_eq, beq_eq_false_iff_ne, ne_eq] at *)
      all_goals first
        | (rw [show X = some (10, 2) from hr.out.trans (if_pos (by omega))]; exact bodyPost_ret (v := unitV (some (10, 2))) (by simp [results, Tryz.results250, go_sem, unitV, *]) rfl ⟨rfl, 0, rfl⟩)
        | (rw [show X = some (9, 2) from hr.out.trans ((if_neg (by omega)).trans (if_pos (by omega)))]; exact bodyPost_ret (v := unitV (some (9, 2))) (by simp [results, Tryz.results250, go_sem, unitV, *]) rfl ⟨rfl, 0, rfl⟩)
        | (rw [show X = some (13, 2) from hr.out.trans ((if_neg (by omega)).trans ((if_neg (by omega)).trans (if_pos (by omega))))]; exact bodyPost_ret (v := unitV (some (13, 2))) (by simp [results, Tryz.results250, go_sem, unitV, *]) rfl ⟨rfl, 0, rfl⟩)
        | (rw [show X = some (0, 2) from hr.out.trans ((if_neg (by omega)).trans ((if_neg (by omega)).trans ((if_neg (by omega)).trans (if_pos (by omega)))))]; exact bodyPost_ret (v := unitV (some (0, 2))) (by simp [results, Tryz.results250, go_sem, unitV, *]) rfl ⟨rfl, 0, rfl⟩)
        | (rw [show X = some (s[1], 2) from hr.out.trans ((if_neg (by omega)).trans ((if_neg (by omega)).trans ((if_neg (by omega)).trans ((if_neg (by omega)).trans (if_pos (by omega))))))]; exact bodyPost_ret (v := unitV (some (s[1], 2))) (by simp [results, Tryz.results250, go_sem, unitV, *]) rfl ⟨rfl, 0, rfl⟩)
        | (rw [show X = none from hr.out.trans ((if_neg (by omega)).trans ((if_neg (by omega)).trans ((if_neg (by omega)).trans ((if_neg (by omega)).trans ((if_neg (by omega)).trans (if_pos (by omega)))))))]; exact bodyPost_ret (v := unitV none) (by simp [results, Tryz.results250, go_sem, unitV, *]) rfl ⟨rfl, nq, rfl⟩)
        | (rw [show X = none from hr.out.trans ((if_neg (by omega)).trans ((if_neg (by omega)).trans ((if_neg (by omega)).trans ((if_neg (by omega)).trans ((if_neg (by omega)).trans (if_neg (by omega)))))))]; exact bodyPost_ret (v := unitV none) (by simp [results, Tryz.results250, go_sem, unitV, *]) rfl ⟨rfl, 0, rfl⟩)
    · simp only [unitV] at hc
      go_enter Tryz.func250, Tryz.ntmps250
      go_wp2_with (go_at_call 262; refine (hc _).mono ?_; rintro e w1 ⟨rfl, nq, rfl⟩)
      all_goals clear hc
      all_goals (try simp only [beq_iff_eq, beq_eq_false_iff_ne, ne_eq] at *)
      all_goals first
        | (rw [show X = some (10, 2) from hr.out.trans (if_pos (by omega))]; exact bodyPost_ret (v := unitV (some (10, 2))) (by simp [results, Tryz.results250, go_sem, unitV, *]) rfl ⟨rfl, 0, rfl⟩)
        | (rw [show X = some (9, 2) from hr.out.trans ((if_neg (by omega)).trans (if_pos (by omega)))]; exact bodyPost_ret (v := unitV (some (9, 2))) (by simp [results, Tryz.results250, go_sem, unitV, *]) rfl ⟨rfl, 0, rfl⟩)
        | (rw [show X = some (13, 2) from hr.out.trans ((if_neg (by omega)).trans ((if_neg (by omega)).trans (if_pos (by omega))))]; exact bodyPost_ret (v := unitV (some (13, 2))) (by simp [results, Tryz.results250, go_sem, unitV, *]) rfl ⟨rfl, 0, rfl⟩)
        | (rw [show X = some (0, 2) from hr.out.trans ((if_neg (by omega)).trans ((if_neg (by omega)).trans ((if_neg (by omega)).trans (if_pos (by omega)))))]; exact bodyPost_ret (v := unitV (some (0, 2))) (by simp [results, Tryz.results250, go_sem, unitV, *]) rfl ⟨rfl, 0, rfl⟩)
        | (rw [show X = some (s[1], 2) from hr.out.trans ((if_neg (by omega)).trans ((if_neg (by omega)).trans ((if_neg (by omega)).trans ((if_neg (by omega)).trans (if_pos (by omega))))))]; exact bodyPost_ret (v := unitV (some (s[1], 2))) (by simp [results, Tryz.results250, go_sem, unitV, *]) rfl ⟨rfl, 0, rfl⟩)
        | (rw [show X = some (b, m) from hr.out.trans ((if_neg (by omega)).trans ((if_neg (by omega)).trans ((if_neg (by omega)).trans ((if_neg (by omega)).trans ((if_neg (by omega)).trans (if_pos (by omega)))))))]; exact bodyPost_ret (v := unitV (some (b, m))) (by simp [results, Tryz.results250, go_sem, unitV, *]) rfl ⟨rfl, nq, rfl⟩)
        | (rw [show X = none from hr.out.trans ((if_neg (by omega)).trans ((if_neg (by omega)).trans ((if_neg (by omega)).trans ((if_neg (by omega)).trans ((if_neg (by omega)).trans (if_neg (by omega)))))))]; exact bodyPost_ret (v := unitV none) (by simp [results, Tryz.results250, go_sem, unitV, *]) rfl ⟨rfl, 0, rfl⟩)
  · have h4 : (s.size : Int) < 2 := by omega
    have hr : Hid (escF ((lst s).drop 1) = none) := by
      show escF ((lst s).drop 1) = none
      rw [lst_nil s 1 (by omega)]
      rfl
    go_enter Tryz.func250, Tryz.ntmps250
    go_wp2
    refine bodyPost_ret (v := unitV none) (by simp [results, Tryz.results250, go_sem, unitV]) rfl ⟨by rw [hr.out], 0, rfl⟩
end Go.Proofs.YtjeioblhpfogfaaGreatDoorLx
namespace Go.Proofs.YtjeioblhpfogfaaGreatDoorLx
open Go.RowKit

theorem info5' : (Tryz.prog.info? 5).map (fun i => (i.zero, i.size, i.bytes)) = some (some (.int .u8 0), 1, 1) := by kernel_rfl
def vals (l : List UInt8) : List Value := l.map fun x => Value.int .u8 (x.toNat : Int)
theorem vals_append (l m : List UInt8) : vals (l ++ m) = vals l ++ vals m := by simp [vals]
def Mark (x : Prop) : Prop := x
theorem of_mark {x : Prop} (h : Mark x) : x := h

/-- The bytes of cells, as a string. -/
theorem conv_cells {W : World} {g len cap : Nat} {l : List UInt8} (hl : l.length = len) (h : ∀ (j : Nat) (u : Value), (vals l)[j]? = some u → W.cell? ((⟨g, 0, none⟩ : Addr).add j) = some u) :
    (convert 40 9 (.slice (some ⟨g, 0, none⟩) len cap)).run Tryz.prog W = .ok (.string (strL l)) W := by
  have e : strL l = strOfNums (l.map fun x => (x.toNat : Int)) := by
    unfold strOfNums strL
    simp [List.map_map, Function.comp_def]
  rw [e]
  refine run_convert_bytes_arg W 40 5 Tryz.underlying40 Tryz.underlying5 g 0 len cap _ (by simpa using hl) (fun i hi => ?_) 9 Tryz.underlying9
  have hi' : i < l.length := by omega
  have := h i (.int .u8 (l[i].toNat : Int)) (by simp [vals, hi'])
  rw [Addr.add_lit] at this
  simpa [List.getD, hi'] using this
theorem conv_own {W : World} {N : Nat} {sl : Value} {l : List UInt8} (h : W.ownsRow N 5 1 sl l.length (vals l)) : (convert 40 9 sl).run Tryz.prog W = .ok (.string (strL l)) W := by
  have h' := h
  obtain ⟨_, ⟨rfl, h0⟩ | ⟨g, cap, cur, rfl, _⟩⟩ := h
  · obtain rfl : l = [] := List.eq_nil_of_length_eq_zero h0
    exact run_convert_bytes_nil W 40 5 Tryz.underlying40 Tryz.underlying5 0 0 9 Tryz.underlying9
  · exact conv_cells rfl (h'.cells (g := g) rfl)

theorem nonempty {s : ByteArray} (h : 0 < s.size) : (s.toList == []) = false := by
  rw [ByteArray.toList_eq, Bool.eq_false_iff]
  intro e
  have e2 : s.data.toList.length = 0 := by rw [eq_of_beq e]; rfl
  rw [size_list] at e2
  omega
theorem empty_eq {s : ByteArray} (h : ¬ 0 < s.size) : s = ⟨#[]⟩ := ext_list (List.eq_nil_of_length_eq_zero (by rw [size_list]; omega))

theorem unit55 (s : ByteArray) (mk : UInt8) (w : World) : Calls Tryz.prog 219 #[.string s, byteV mk] w fun e w' => e = .returned (unitV (unitF mk (lst s))) ∧ ∃ n, w' = w.drewN n := by
  by_cases h : 0 < s.size
  · have h0 : (0 : Int) < s.size := by omega
    have hne := nonempty h
    have hl := lst_cons0 s h
    have hr : unitF mk (lst s) = if s[0].toNat = mk.toNat ∨ plainB s[0] = false then none else if s[0].toNat = 92 then escF ((lst s).drop 1) else some (s[0], 1) := by
      rw [hl]; rfl
    replace hr := hid hr
    clear hl
    have hc := escape68 s
    generalize unitF mk (lst s) = X at hr ⊢
    generalize escF ((lst s).drop 1) = Y at hr hc
    rcases Y with _ | ⟨b, m⟩
    · simp only [unitV] at hc
      go_enter Tryz.func219, Tryz.ntmps219
      go_wp2_with (first
        | (go_at_call 250; refine (hc _).mono ?_; rintro e w1 ⟨rfl, nq, rfl⟩)
        | (go_at_call 249; refine (isPlain49 _ _).mono ?_; rintro e w1 ⟨rfl, rfl⟩))
      all_goals clear hc
      all_goals (try simp only [beq_iff_eq, beq_eq_false_iff_ne, ne_eq] at *)
      · rw [show X = none from hr.out.trans (if_pos (.inl (by omega)))]
        exact bodyPost_ret (v := unitV none) (by simp [results, Tryz.results219, go_sem, unitV]) rfl ⟨rfl, 0, rfl⟩
      · have hp : plainB s[0] = false := by simp_all
        rw [show X = none from hr.out.trans (if_pos (.inr hp))]
        exact bodyPost_ret (v := unitV none) (by simp [results, Tryz.results219, go_sem, unitV]) rfl ⟨rfl, 0, rfl⟩
      · have hp : plainB s[0] = true := by simp_all
        rw [show X = none from hr.out.trans ((if_neg (by rw [hp]; simp; omega)).trans (if_pos (by omega)))]
        exact bodyPost_ret (v := unitV (none)) (by simp [results, Tryz.results219, go_sem, unitV]) rfl ⟨rfl, nq, rfl⟩
      · have hp : plainB s[0] = true := by simp_all
        rw [show X = some (s[0], 1) from hr.out.trans ((if_neg (by rw [hp]; simp; omega)).trans (if_neg (by omega)))]
        exact bodyPost_ret (v := unitV (some (s[0], 1))) (by simp [results, Tryz.results219, go_sem, unitV]) rfl ⟨rfl, 0, rfl⟩
    · simp only [unitV] at hc
      go_enter Tryz.func219, Tryz.ntmps219
      go_wp2_with (first
        | (go_at_call 250; refine (hc _).mono ?_; rintro e w1 ⟨rfl, nq, rfl⟩)
        | (go_at_call 249; refine (isPlain49 _ _).mono ?_; rintro e w1 ⟨rfl, rfl⟩))
      all_goals clear hc
      all_goals (try simp only [beq_iff_eq, beq_eq_false_iff_ne, ne_eq] at *)
      · rw [show X = none from hr.out.trans (if_pos (.inl (by omega)))]
        exact bodyPost_ret (v := unitV none) (by simp [results, Tryz.results219, go_sem, unitV]) rfl ⟨rfl, 0, rfl⟩
      · have hp : plainB s[0] = false := by simp_all
        rw [show X = none from hr.out.trans (if_pos (.inr hp))]
        exact bodyPost_ret (v := unitV none) (by simp [results, Tryz.results219, go_sem, unitV]) rfl ⟨rfl, 0, rfl⟩
      · have hp : plainB s[0] = true := by simp_all
        rw [show X = some (b, m) from hr.out.trans ((if_neg (by rw [hp]; simp; omega)).trans (if_pos (by omega)))]
        exact bodyPost_ret (v := unitV (some (b, m))) (by simp [results, Tryz.results219, go_sem, unitV]) rfl ⟨rfl, nq, rfl⟩
      · have hp : plainB s[0] = true := by simp_all
        rw [show X = some (s[0], 1) from hr.out.trans ((if_neg (by rw [hp]; simp; omega)).trans (if_neg (by omega)))]
        exact bodyPost_ret (v := unitV (some (s[0], 1))) (by simp [results, Tryz.results219, go_sem, unitV]) rfl ⟨rfl, 0, rfl⟩
  · obtain rfl := empty_eq h
    go_enter Tryz.func219, Tryz.ntmps219
    go_wp2
    exact bodyPost_ret (v := unitV none) (by simp [results, Tryz.results219, go_sem, unitV]) rfl ⟨rfl, 0, rfl⟩

theorem below_more {w w0 : World} (h : Below w.heap.size w w0) (o : Obj) : Below w.heap.size w (w0.alloc o) := h.alloc h.size o
theorem alloc_drewN (w : World) (o : Obj) (n : Nat) : (w.alloc o).drewN n = (w.drewN n).alloc o := rfl
theorem ext_at (s : ByteArray) (k : Nat) (mk : UInt8) (w : World) : Calls Tryz.prog 219 #[.string (s.extract k s.size), byteV mk] w fun e w' => e = .returned (unitV (unitF mk ((lst s).drop k))) ∧ ∃ n, w' = w.drewN n := by
  rw [← lst_ext]; exact unit55 _ mk w

theorem character39 (s : ByteArray) (hs : s.size < 4611686018427387904) (h0 : 0 < s.size) (hm : s[0].toNat = 39) (w : World) :
    Calls Tryz.prog 176 #[.string s] w fun e w' => e = .returned (readV (charF (lst s))) ∧ Below w.heap.size w w' := by
  have h0' : (0 : Int) < s.size := by omega
  have h1' : (1 : Int) ≤ s.size := by omega
  have hm1 : s[0] = 39 := UInt8.toNat_inj.1 hm
  have hc := ext_at s 1 s[0]
  have e1 : unitF s[0] ((lst s).drop 1) = unitF 39 ((lst s).drop 1) := by rw [hm1]
  rw [e1] at hc
  clear hm hm1 e1
  have hlen := lst_len s
  cases hu : unitF 39 ((lst s).drop 1) with
  | none =>
    have hX : Hid (charF (lst s) = none) := by show charF (lst s) = none; unfold charF; rw [hu]
    rw [hu] at hc
    simp only [unitV] at hc
    clear hu
    generalize charF (lst s) = X at hX ⊢
    go_enter Tryz.func176, Tryz.ntmps176
    go_wp2
    go_quiet (with_reducible exact Calls.quiet_of (hc _))
    obtain ⟨w0, hw0⟩ : ∃ w0, w0 = w.drewN nq := ⟨_, rfl⟩
    have hz : w.heap.size = w0.heap.size := by rw [hw0]; rfl
    have hB0 := hid (show Below w.heap.size w w0 by rw [hw0]; exact below_drewN w nq)
    rw [alloc_drewN, ← hw0, hz]
    clear hw0 hz
    go_wp2
    rw [hX.out]
    exact bodyPost_ret (v := readV none) (by simp [results, Tryz.results176, go_sem, readV, zeroV]) rfl ⟨rfl, below_more hB0.out _⟩
  | some p =>
    obtain ⟨b, n⟩ := p
    have hn := unitF_len hu
    rw [List.length_drop] at hn
    have hX : charF (lst s) = if [39].isPrefixOf ((lst s).drop (1 + n)) then some (⟨6, [], b.toNat, false⟩, n + 2) else none := by unfold charF; rw [hu]
    replace hX := hid hX
    rw [hu] at hc
    simp only [unitV] at hc
    have hn2 : (1 : Int) + n ≤ s.size := by omega
    have hn3 : 1 ≤ n := hn.1
    have hp := fun w => hasPrefix34 (s.extract (1 + n) s.size) ⟨#[39]⟩ [39] rfl w
    rw [lst_ext] at hp
    clear hu hn hlen
    generalize charF (lst s) = X at hX ⊢
    generalize [39].isPrefixOf ((lst s).drop (1 + n)) = B at hX hp
    have hb := b.toNat_lt
    go_enter Tryz.func176, Tryz.ntmps176
    go_wp2
    go_quiet (with_reducible exact Calls.quiet_of (hc _))
    obtain ⟨w0, hw0⟩ : ∃ w0, w0 = w.drewN nq := ⟨_, rfl⟩
    have hz : w.heap.size = w0.heap.size := by rw [hw0]; rfl
    have hB0 := hid (show Below w.heap.size w w0 by rw [hw0]; exact below_drewN w nq)
    rw [alloc_drewN, ← hw0, hz]
    clear hw0 hz
    go_wp2_with (go_at_call 169; refine (hp _).mono ?_; rintro e w1 ⟨rfl, rfl⟩)
    all_goals (try simp only [beq_iff_eq, beq_eq_false_iff_ne, ne_eq] at *)
    · have hB : B = false := by (cases B <;> simp_all)
      subst hB
      rw [show X = none from hX.out]
      exact bodyPost_ret (v := readV none) (by simp [results, Tryz.results176, go_sem, readV, zeroV]) rfl ⟨rfl, below_more hB0.out _⟩
    · have hB : B = true := by (cases B <;> simp_all)
      subst hB
      rw [show X = some (⟨6, [], b.toNat, false⟩, n + 2) from hX.out]
      refine bodyPost_ret (v := .tuple #[tokV ⟨6, [], b.toNat, false⟩ 0 0, .int .i64 (1 + (n : Int) + 1)]) (by simp [results, Tryz.results176, go_sem, tokV, strL]) rfl ⟨ret_v ?_, below_more hB0.out _⟩
      show Value.tuple #[_, Value.int .i64 _] = Value.tuple #[_, Value.int .i64 _]
      rw [show (1 + (n : Int) + 1) = ((n + 2 : Nat) : Int) by omega]

end Go.Proofs.YtjeioblhpfogfaaGreatDoorLx
