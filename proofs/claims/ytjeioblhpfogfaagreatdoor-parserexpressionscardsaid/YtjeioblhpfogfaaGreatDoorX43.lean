/- A unit, by the document. -/
import Derived.Test.YtjeioblhpfogfaaGreatDoorX01
set_option linter.unusedVariables false
set_option linter.unusedSimpArgs false
set_option maxRecDepth 20000
set_option maxHeartbeats 8000000
namespace Go.Proofs.YtjeioblhpfogfaaGreatDoorLx
open Go.RowKit

def escR (c1 c2 c3 : UInt8) : Option (UInt8 × Nat) :=
  if c1.toNat = 110 then some (10, 2) else if c1.toNat = 116 then some (9, 2) else if c1.toNat = 114 then some (13, 2) else if c1.toNat = 48 then some (0, 2)
  else if c1.toNat = 92 ∨ c1.toNat = 39 ∨ c1.toNat = 34 then some (c1, 2) else if c1.toNat = 120 then (if hexv c2 < 16 ∧ hexv c3 < 16 then some ((hexv c2 * 16 + hexv c3).toUInt8, 4) else none) else none
def unitR (mk c0 c1 c2 c3 : UInt8) : Option (UInt8 × Nat) :=
  if c0.toNat < 32 ∨ 126 < c0.toNat ∨ c0.toNat = mk.toNat then none else if c0.toNat = 92 then escR c1 c2 c3 else some (c0, 1)
theorem hex_zero : hexv 0 = 16 := by decide
theorem escR_eq (r : List UInt8) : escF r = escR (byteAt r) (byteAt (r.drop 1)) (byteAt (r.drop 2)) := by
  match r with
  | [] => rfl
  | [d] =>
    simp only [escF, escR, byteAt, List.drop_succ_cons, List.drop_nil, List.headD_cons, List.headD_nil, hex_zero]
    repeat' split
    all_goals first | rfl | omega
  | [d, e] =>
    simp only [escF, escR, byteAt, List.drop_succ_cons, List.drop_zero, List.drop_nil, List.headD_cons, List.headD_nil, hex_zero]
    repeat' split
    all_goals first | rfl | omega
  | d :: e :: f :: q => rfl
theorem unitR_eq (mk : UInt8) (l : List UInt8) : unitF mk l = unitR mk (byteAt l) (byteAt (l.drop 1)) (byteAt (l.drop 2)) (byteAt (l.drop 3)) := by
  match l with
  | [] => simp [unitF, unitR, byteAt]
  | a :: r =>
    have hc : (a.toNat = mk.toNat ∨ plainB a = false) ↔ (a.toNat < 32 ∨ 126 < a.toNat ∨ a.toNat = mk.toNat) := by
      simp only [plainB, Bool.and_eq_false_iff, decide_eq_false_iff_not]
      omega
    show (if a.toNat = mk.toNat ∨ plainB a = false then none else if a.toNat = 92 then escF r else some (a, 1)) = unitR mk a (byteAt r) (byteAt (r.drop 1)) (byteAt (r.drop 2))
    unfold unitR
    by_cases h : a.toNat < 32 ∨ 126 < a.toNat ∨ a.toNat = mk.toNat
    · rw [if_pos (hc.2 h), if_pos h]
    · rw [if_neg (fun x => h (hc.1 x)), if_neg h, escR_eq]
section
variable {mk c0 c1 c2 c3 : UInt8}
theorem U0 (h : c0.toNat < 32 ∨ 126 < c0.toNat ∨ c0.toNat = mk.toNat) : unitR mk c0 c1 c2 c3 = none := if_pos h
theorem U1 (h : ¬ (c0.toNat < 32 ∨ 126 < c0.toNat ∨ c0.toNat = mk.toNat)) (h2 : ¬ c0.toNat = 92) : unitR mk c0 c1 c2 c3 = some (c0, 1) := (if_neg h).trans (if_neg h2)
theorem U2 (h : ¬ (c0.toNat < 32 ∨ 126 < c0.toNat ∨ c0.toNat = mk.toNat)) (h2 : c0.toNat = 92) : unitR mk c0 c1 c2 c3 = escR c1 c2 c3 := (if_neg h).trans (if_pos h2)
theorem V0 : escR 0 c2 c3 = none := rfl
theorem V1 (h : c1.toNat = 110) : escR c1 c2 c3 = some (10, 2) := if_pos h
theorem V2 (h : c1.toNat = 116) : escR c1 c2 c3 = some (9, 2) := (if_neg (by omega)).trans (if_pos h)
theorem V3 (h : c1.toNat = 114) : escR c1 c2 c3 = some (13, 2) := (if_neg (by omega)).trans ((if_neg (by omega)).trans (if_pos h))
theorem V4 (h : c1.toNat = 48) : escR c1 c2 c3 = some (0, 2) := (if_neg (by omega)).trans ((if_neg (by omega)).trans ((if_neg (by omega)).trans (if_pos h)))
theorem V5 (h : c1.toNat = 92 ∨ c1.toNat = 39 ∨ c1.toNat = 34) : escR c1 c2 c3 = some (c1, 2) := (if_neg (by omega)).trans ((if_neg (by omega)).trans ((if_neg (by omega)).trans ((if_neg (by omega)).trans (if_pos h))))
theorem V6 (h : c1.toNat = 120) (h2 : hexv c2 < 16 ∧ hexv c3 < 16) : escR c1 c2 c3 = some ((hexv c2 * 16 + hexv c3).toUInt8, 4) := (if_neg (by omega)).trans ((if_neg (by omega)).trans ((if_neg (by omega)).trans ((if_neg (by omega)).trans ((if_neg (by omega)).trans ((if_pos h).trans (if_pos h2))))))
theorem V7 (h : c1.toNat = 120) (h2 : ¬ (hexv c2 < 16 ∧ hexv c3 < 16)) : escR c1 c2 c3 = none := (if_neg (by omega)).trans ((if_neg (by omega)).trans ((if_neg (by omega)).trans ((if_neg (by omega)).trans ((if_neg (by omega)).trans ((if_pos h).trans (if_neg h2))))))
theorem V8 (h : ¬ c1.toNat = 110 ∧ ¬ c1.toNat = 116 ∧ ¬ c1.toNat = 114 ∧ ¬ c1.toNat = 48 ∧ ¬ (c1.toNat = 92 ∨ c1.toNat = 39 ∨ c1.toNat = 34) ∧ ¬ c1.toNat = 120) : escR c1 c2 c3 = none := (if_neg h.1).trans ((if_neg h.2.1).trans ((if_neg h.2.2.1).trans ((if_neg h.2.2.2.1).trans ((if_neg h.2.2.2.2.1).trans (if_neg h.2.2.2.2.2)))))
end

/-- What the document's unit answers. -/
def unitP (k : Nat) : Option (UInt8 × Nat) → Ending → Prop
  | none, e => ∃ x y : Int, e = .returned (.tuple #[.int .u8 x, .int .i64 y, .bool false])
  | some (b, n), e => e = .returned (.tuple #[byteV b, .int .i64 ((k + n : Nat) : Int), .bool true])
theorem unitP_some {k n : Nat} {b : UInt8} {x y : Int} (h1 : x = b.toNat) (h2 : y = (k : Int) + n) : unitP k (some (b, n)) (.returned (.tuple #[.int .u8 x, .int .i64 y, .bool true])) := by
  subst h1 h2
  show _ = _
  rw [Int.natCast_add]
theorem hex_byte {a b : Nat} {x y : Int} (hx : x = a) (hy : y = b) (ha : a < 16) (hb : b < 16) : (x * 16 + y) % 256 = ((a * 16 + b).toUInt8.toNat : Int) := by
  subst hx hy
  simp only [Nat.toUInt8_eq, UInt8.toNat_ofNat']
  omega

theorem unit59 (s : ByteArray) (k : Nat) (mk : UInt8) (hk : k ≤ s.size) (hs : s.size < 4294967281) (w : World) :
    Calls Tryz.prog 167 #[.string s, .int .i64 (k : Int), byteV mk] w fun e w' => unitP k (unitF mk ((lst s).drop k)) e ∧ w' = w := by
  have hX := unitR_eq mk ((lst s).drop k)
  rw [List.drop_drop, List.drop_drop, List.drop_drop] at hX
  have hc0 := at58 s k
  have hc1 := at58 s (k + 1)
  have hc2 := at58 s (k + 2)
  have hc3 := at58 s (k + 3)
  rw [show ((k + 1 : Nat) : Int) = (k : Int) + 1 by omega] at hc1
  rw [show ((k + 2 : Nat) : Int) = (k : Int) + 2 by omega] at hc2
  rw [show ((k + 3 : Nat) : Int) = (k : Int) + 3 by omega] at hc3
  have hin : ¬ byteAt ((lst s).drop (k + 1)) = 0 → ∃ h : k + 1 < s.size, s[k + 1] = byteAt ((lst s).drop (k + 1)) := fun hne => by
    by_cases h : k + 1 < s.size
    · refine ⟨h, ?_⟩
      rw [lst_cons s (k + 1) h]; rfl
    · exact absurd (by rw [lst_nil s (k + 1) (by omega)]; rfl) hne
  generalize unitF mk ((lst s).drop k) = X at hX ⊢
  generalize byteAt ((lst s).drop k) = c0 at hX hc0
  generalize byteAt ((lst s).drop (k + 1)) = c1 at hX hc1 hin
  generalize byteAt ((lst s).drop (k + 2)) = c2 at hX hc2
  generalize byteAt ((lst s).drop (k + 3)) = c3 at hX hc3
  have b2 := hexv_le c2
  have b3 := hexv_le c3
  have hh2 := hex57 c2
  have hh3 := hex57 c3
  have e2 : hex9 c2 = if hexv c2 = 16 then 99 else hexv c2 := rfl
  have e3 : hex9 c3 = if hexv c3 = 16 then 99 else hexv c3 := rfl
  have g2 : hex9 c2 ≤ 99 ∧ (hexv c2 < 16 → hex9 c2 = hexv c2) ∧ (hex9 c2 < 16 → hexv c2 < 16) := by rw [e2]; split <;> omega
  have g3 : hex9 c3 ≤ 99 ∧ (hexv c3 < 16 → hex9 c3 = hexv c3) ∧ (hex9 c3 < 16 → hexv c3 < 16) := by rw [e3]; split <;> omega
  clear e2 e3
  replace hX := hid hX
  generalize hex9 c2 = x2 at hh2 g2
  generalize hex9 c3 = x3 at hh3 g3
  have x2b : x2 ≤ 99 := g2.1
  have x3b : x3 ≤ 99 := g3.1
  have G2 := hid g2
  have G3 := hid g3
  clear g2 g3 b2 b3
  by_cases hz : c1 = 0
  · subst hz
    clear hin
    go_enter Tryz.func167, Tryz.ntmps167
    go_wp2_with (first
      | (go_at_call 166; (with_reducible refine (hc0 _).mono ?_); rintro e w1 ⟨rfl, rfl⟩)
      | (go_at_call 166; (with_reducible refine (hc1 _).mono ?_); rintro e w1 ⟨rfl, rfl⟩))
    all_goals clear hc0 hc1 hc2 hc3 hh2 hh3
    all_goals (try simp only [beq_iff_eq, bne_iff_ne, beq_eq_false_iff_ne, bne_eq_false_iff_eq, ne_eq] at *)
    all_goals first
      | (rw [show X = none from hX.out.trans (U0 (by omega))]; exact bodyPost_ret (v := .tuple #[.int .u8 0, .int .i64 0, .bool false]) (by simp [results, Tryz.results167, go_sem]) rfl ⟨⟨0, 0, rfl⟩, rfl⟩)
      | (rw [show X = some (c0, 1) from hX.out.trans (U1 (by omega) (by omega))]; exact bodyPost_ret (v := .tuple #[byteV c0, .int .i64 ((k : Int) + 1), .bool true]) (by simp [results, Tryz.results167, go_sem]) rfl ⟨unitP_some rfl rfl, rfl⟩)
      | (rw [show X = none from hX.out.trans ((U2 (by omega) (by omega)).trans V0)]; exact bodyPost_ret (v := .tuple #[.int .u8 0, .int .i64 0, .bool false]) (by simp [results, Tryz.results167, go_sem]) rfl ⟨⟨0, 0, rfl⟩, rfl⟩)
      | trace_state
  · obtain ⟨hk1, hs1⟩ := hin hz
    have hk1' : (k : Int) + 1 < s.size := by omega
    clear hz
    go_enter Tryz.func167, Tryz.ntmps167
    go_wp2_with (first
      | (go_at_call 166; (with_reducible refine (hc0 _).mono ?_); rintro e w1 ⟨rfl, rfl⟩)
      | (go_at_call 166; (with_reducible refine (hc1 _).mono ?_); rintro e w1 ⟨rfl, rfl⟩)
      | (go_at_call 166; (with_reducible refine (hc2 _).mono ?_); rintro e w1 ⟨rfl, rfl⟩)
      | (go_at_call 166; (with_reducible refine (hc3 _).mono ?_); rintro e w1 ⟨rfl, rfl⟩)
      | (go_at_call 165; (with_reducible refine (hh2 _).mono ?_); rintro e w1 ⟨rfl, rfl⟩)
      | (go_at_call 165; (with_reducible refine (hh3 _).mono ?_); rintro e w1 ⟨rfl, rfl⟩))
    all_goals clear hc0 hc1 hc2 hc3 hh2 hh3
    all_goals (try simp only [beq_iff_eq, bne_iff_ne, beq_eq_false_iff_ne, bne_eq_false_iff_eq, ne_eq] at *)
    all_goals first
      | (rw [show X = none from hX.out.trans (U0 (by omega))]; exact bodyPost_ret (v := .tuple #[.int .u8 0, .int .i64 0, .bool false]) (by simp [results, Tryz.results167, go_sem]) rfl ⟨⟨0, 0, rfl⟩, rfl⟩)
      | (rw [show X = some (c0, 1) from hX.out.trans (U1 (by omega) (by omega))]; exact bodyPost_ret (v := .tuple #[byteV c0, .int .i64 ((k : Int) + 1), .bool true]) (by simp [results, Tryz.results167, go_sem]) rfl ⟨unitP_some rfl rfl, rfl⟩)
      | (rw [show X = some (10, 2) from hX.out.trans ((U2 (by omega) (by omega)).trans (V1 (by omega)))]; exact bodyPost_ret (v := .tuple #[.int .u8 10, .int .i64 ((k : Int) + 2), .bool true]) (by simp [results, Tryz.results167, go_sem]) rfl ⟨unitP_some rfl rfl, rfl⟩)
      | (rw [show X = some (9, 2) from hX.out.trans ((U2 (by omega) (by omega)).trans (V2 (by omega)))]; exact bodyPost_ret (v := .tuple #[.int .u8 9, .int .i64 ((k : Int) + 2), .bool true]) (by simp [results, Tryz.results167, go_sem]) rfl ⟨unitP_some rfl rfl, rfl⟩)
      | (rw [show X = some (13, 2) from hX.out.trans ((U2 (by omega) (by omega)).trans (V3 (by omega)))]; exact bodyPost_ret (v := .tuple #[.int .u8 13, .int .i64 ((k : Int) + 2), .bool true]) (by simp [results, Tryz.results167, go_sem]) rfl ⟨unitP_some rfl rfl, rfl⟩)
      | (rw [show X = some (0, 2) from hX.out.trans ((U2 (by omega) (by omega)).trans (V4 (by omega)))]; exact bodyPost_ret (v := .tuple #[.int .u8 0, .int .i64 ((k : Int) + 2), .bool true]) (by simp [results, Tryz.results167, go_sem]) rfl ⟨unitP_some rfl rfl, rfl⟩)
      | (rw [show X = some (c1, 2) from hX.out.trans ((U2 (by omega) (by omega)).trans (V5 (by omega)))]; exact bodyPost_ret (v := .tuple #[byteV c1, .int .i64 ((k : Int) + 2), .bool true]) (by simp [results, Tryz.results167, go_sem]) rfl ⟨unitP_some rfl rfl, rfl⟩)
      | (rw [show X = none from hX.out.trans ((U2 (by omega) (by omega)).trans (V8 (by omega)))]; exact bodyPost_ret (v := .tuple #[.int .u8 0, .int .i64 0, .bool false]) (by simp [results, Tryz.results167, go_sem]) rfl ⟨⟨0, 0, rfl⟩, rfl⟩)
      | skip
    · obtain ⟨_, a1, a2⟩ := G2.out
      obtain ⟨_, b1, b2⟩ := G3.out
      have hE := hX.out.trans (U2 (by omega) (by omega))
      by_cases hx3 : x3 < 16
      · have h16 : (x3 : Int) < 16 := by omega
        rw [show X = _ from hE.trans (V6 (by omega) ⟨a2 (by omega), b2 hx3⟩)]
        exact bodyPost_ret (v := .tuple #[.int .u8 (((x2 : Int) * 16 + x3) % 256), .int .i64 ((k : Int) + 4), .bool true]) (by simp [results, Tryz.results167, go_sem, h16]) rfl ⟨unitP_some (hex_byte (by rw [a1 (a2 (by omega))]) (by rw [b1 (b2 hx3)]) (a2 (by omega)) (b2 hx3)) rfl, rfl⟩
      · have h16 : ¬ (x3 : Int) < 16 := by omega
        rw [show X = _ from hE.trans (V7 (by omega) (fun h => by have := b1 h.2; omega))]
        exact bodyPost_ret (v := .tuple #[.int .u8 (((x2 : Int) * 16 + x3) % 256), .int .i64 ((k : Int) + 4), .bool false]) (by simp [results, Tryz.results167, go_sem, h16]) rfl ⟨⟨_, _, rfl⟩, rfl⟩
    · obtain ⟨_, a1, a2⟩ := G2.out
      rw [show X = _ from hX.out.trans ((U2 (by omega) (by omega)).trans (V7 (by omega) (fun h => by have := a1 h.1; omega)))]
      exact bodyPost_ret (v := .tuple #[.int .u8 (((x2 : Int) * 16 + x3) % 256), .int .i64 ((k : Int) + 4), .bool false]) (by simp [results, Tryz.results167, go_sem]) rfl ⟨⟨_, _, rfl⟩, rfl⟩
end Go.Proofs.YtjeioblhpfogfaaGreatDoorLx
