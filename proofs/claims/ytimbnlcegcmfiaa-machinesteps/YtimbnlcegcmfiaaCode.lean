/- The question that each law asks besides: a program of four instructions. Its code. -/
import Derived.Test.YtimbnlcegcmfiaaRun
namespace Go.Proofs.Ytimbnlcegcmfiaa
open Go.RowKit
set_option linter.unusedVariables false

/-- The bytes of the four instructions. -/
def wakeL : List UInt8 := [0, 0, 16, 44, 1, 0, 17, 32, 0, 0, 1, 45, 0, 0, 0, 47]

theorem own_below {w w' : World} {base n : Nat} {v : Value} {xs : List Value} (h : w.ownsRow base 5 1 v n xs) (hb : Below w.heap.size w w') : w'.ownsRow base 5 1 v n xs :=
  h.kept (row := none) ⟨hb.os, hb.tape, hb.output, hb.size, fun k hk _ => hb.block k hk⟩ (by
    cases e : v.ownBlock with
    | none => exact .inl rfl
    | some k => exact .inr (by simp))

theorem enc47_0 (w : World) : Calls Try.prog 47 #[.agg #[.int .i64 44, .int .i64 1, .int .i64 0, .int .i64 0, .int .i32 0]] w fun e w' => e = .returned (.tuple #[.int .u32 739246080, .int .i64 0]) ∧ Below w.heap.size w w' := by
  have h := encode8_yes (op := 44) (d := 1) (a := 0) (b := 0) (i := 0) (row_of 44) rfl (by decide) (by decide) (by decide) w
  have e : wordF (nF (partsF 44)) 44 1 0 0 0 = 739246080 := by decide
  rw [e] at h
  exact h

theorem enc47_1 (w : World) : Calls Try.prog 47 #[.agg #[.int .i64 32, .int .i64 1, .int .i64 1, .int .i64 0, .int .i32 1]] w fun e w' => e = .returned (.tuple #[.int .u32 537985025, .int .i64 0]) ∧ Below w.heap.size w w' := by
  have h := encode8_yes (op := 32) (d := 1) (a := 1) (b := 0) (i := 1) (row_of 32) rfl (by decide) (by decide) (by decide) w
  have e : wordF (nF (partsF 32)) 32 1 1 0 1 = 537985025 := by decide
  rw [e] at h
  exact h

theorem enc47_2 (w : World) : Calls Try.prog 47 #[.agg #[.int .i64 45, .int .i64 0, .int .i64 1, .int .i64 0, .int .i32 0]] w fun e w' => e = .returned (.tuple #[.int .u32 755040256, .int .i64 0]) ∧ Below w.heap.size w w' := by
  have h := encode8_yes (op := 45) (d := 0) (a := 1) (b := 0) (i := 0) (row_of 45) rfl (by decide) (by decide) (by decide) w
  have e : wordF (nF (partsF 45)) 45 0 1 0 0 = 755040256 := by decide
  rw [e] at h
  exact h

theorem enc47_3 (w : World) : Calls Try.prog 47 #[.agg #[.int .i64 47, .int .i64 0, .int .i64 0, .int .i64 0, .int .i32 0]] w fun e w' => e = .returned (.tuple #[.int .u32 788529152, .int .i64 0]) ∧ Below w.heap.size w w' := by
  have h := encode8_yes (op := 47) (d := 0) (a := 0) (b := 0) (i := 0) (row_of 47) rfl (by decide) (by decide) (by decide) w
  have e : wordF (nF (partsF 47)) 47 0 0 0 0 = 788529152 := by decide
  rw [e] at h
  exact h

/-- The cells of the list of the four instructions. -/
def wakeA : Array Value := #[.int .i64 44, .int .i64 1, .int .i64 0, .int .i64 0, .int .i32 0, .int .i64 32, .int .i64 1, .int .i64 1, .int .i64 0, .int .i32 1, .int .i64 45, .int .i64 0, .int .i64 1, .int .i64 0, .int .i32 0, .int .i64 47, .int .i64 0, .int .i64 0, .int .i64 0, .int .i32 0]

def Mark (x : Prop) : Prop := x
theorem of_mark {x : Prop} (h : Mark x) : x := h

theorem four_cells' {w : World} {g : Nat} {a b c d : Value} (h0 : w.cell? ⟨g, 0, none⟩ = some a) (h1 : w.cell? ⟨g, 1, none⟩ = some b) (h2 : w.cell? ⟨g, 2, none⟩ = some c) (h3 : w.cell? ⟨g, 3, none⟩ = some d) :
    ∀ (j : Nat) (u : Value), [a, b, c, d][j]? = some u → w.cell? ((⟨g, 0, none⟩ : Addr).add j) = some u := by
  intro j u hj
  rw [Addr.add_lit]
  match j, hj with
  | 0, hj => simp at hj; subst hj; simpa using h0
  | 1, hj => simp at hj; subst hj; simpa using h1
  | 2, hj => simp at hj; subst hj; simpa using h2
  | 3, hj => simp at hj; subst hj; simpa using h3

set_option maxRecDepth 20000 in
set_option maxHeartbeats 2000000 in
theorem code31 (b : Nat) (w : World) (hb : b < w.heap.size) (hc : ∀ (j : Nat) (v : Value), wakeA[j]? = some v → w.cell? ⟨b, j, none⟩ = some v) :
    Calls Try.prog 31 #[.slice (some ⟨b, 0, none⟩) 4 4] w fun e w' => e = .returned (.string (outS wakeL)) ∧ Below w.heap.size w w' := by
  obtain ⟨i0, hi, hz0, hz1, hz2⟩ := info_parts info5'
  go_enter Try.func31, Try.ntmps31
  go_wp2
  go_loopw [3, 4] (fun v i wr => ∃ k : Nat, k ≤ 4 ∧ i = .int .i64 k ∧ wr.ownsRow w.heap.size 5 1 v (4 * k) (vals (wakeL.take (4 * k))) ∧ Below w.heap.size w wr) (fun _ i _ => 4 - (intOf i).toNat)
  case atStart => exact ⟨0, by omega, rfl, World.ownsRow_nil _ _ _ _, Below.refl _ _⟩
  case round =>
    obtain ⟨k, hk, rfl, hown, hbw⟩ := hrel
    have hcw : Hid (∀ (j : Nat) (v : Value), wakeA[j]? = some v → wr.cell? ⟨b, j, none⟩ = some v) := fun j v hj => (hbw.cell (p := ⟨b, j, none⟩) hb).trans (hc j v hj)
    have hsz := hid hbw.size
    clear hc
    match k, hk with
    | 0, _ =>
      have hownK : wr.ownsRow w.heap.size 5 1 u3 0 (vals []) := hown
      clear hown
      have c0 := hcw.out 0 _ rfl
      have c1 := hcw.out 1 _ rfl
      have c2 := hcw.out 2 _ rfl
      have c3 := hcw.out 3 _ rfl
      have c4 := hcw.out 4 _ rfl
      go_wp2_with (first
        | (go_at_call 47; refine (enc47_0 _).mono ?_; rintro e w1 ⟨rfl, hb1⟩; have hown1 := own_below hownK hb1)
        | (at_builtin; refine of_mark ?_))
      unfold Mark
      refine wpList_append_own _ rfl _ _ 39 rfl w.heap.size 5 i0 (.int .u8 0) 1 1 Try.underlying39 hi hz0 hz1 hz2 rfl (by decide) _ _ _ rfl (hown1.alloc _) ⟨w1.heap.size, 0, none⟩ 4 4 [.int .u8 0, .int .u8 0, .int .u8 16, .int .u8 44] rfl rfl ?c1 ?c2 ?c3 ?c4 ?c5 ?_
      case c1 => exact four_cells' (by simp [go_sem]) (by simp [go_sem]) (by simp [go_sem]) (by simp [go_sem])
      case c2 => intro u hu; simp at hu; rcases hu with rfl | rfl | rfl | rfl <;> rfl
      case c3 => unfold maxLen; omega
      case c4 => omega
      case c5 => have := hsz.out; have := hb1.size; simp; omega
      · intro v' w2 hown2 hgrow _
        have hb2 := hid (hbw.trans (((hb1.mono hsz.out).alloc (Nat.le_trans hsz.out hb1.size) _).grown hgrow (by have := hsz.out; have := hb1.size; simp; omega) (fun k hk => (hown1.lt k hk).1)))
        go_wp2
        go_roundw
        case rel => exact ⟨1, by omega, by go_num, hown2, hb2.out⟩
        case measure => simp [intOf]
    | 1, _ =>
      have hownK : wr.ownsRow w.heap.size 5 1 u3 4 (vals [0, 0, 16, 44]) := hown
      clear hown
      have c0 := hcw.out 5 _ rfl
      have c1 := hcw.out 6 _ rfl
      have c2 := hcw.out 7 _ rfl
      have c3 := hcw.out 8 _ rfl
      have c4 := hcw.out 9 _ rfl
      go_wp2_with (first
        | (go_at_call 47; refine (enc47_1 _).mono ?_; rintro e w1 ⟨rfl, hb1⟩; have hown1 := own_below hownK hb1)
        | (at_builtin; refine of_mark ?_))
      unfold Mark
      refine wpList_append_own _ rfl _ _ 39 rfl w.heap.size 5 i0 (.int .u8 0) 1 1 Try.underlying39 hi hz0 hz1 hz2 rfl (by decide) _ _ _ rfl (hown1.alloc _) ⟨w1.heap.size, 0, none⟩ 4 4 [.int .u8 1, .int .u8 0, .int .u8 17, .int .u8 32] rfl rfl ?c1 ?c2 ?c3 ?c4 ?c5 ?_
      case c1 => exact four_cells' (by simp [go_sem]) (by simp [go_sem]) (by simp [go_sem]) (by simp [go_sem])
      case c2 => intro u hu; simp at hu; rcases hu with rfl | rfl | rfl | rfl <;> rfl
      case c3 => unfold maxLen; omega
      case c4 => omega
      case c5 => have := hsz.out; have := hb1.size; simp; omega
      · intro v' w2 hown2 hgrow _
        have hb2 := hid (hbw.trans (((hb1.mono hsz.out).alloc (Nat.le_trans hsz.out hb1.size) _).grown hgrow (by have := hsz.out; have := hb1.size; simp; omega) (fun k hk => (hown1.lt k hk).1)))
        go_wp2
        go_roundw
        case rel => exact ⟨2, by omega, by go_num, hown2, hb2.out⟩
        case measure => simp [intOf]
    | 2, _ =>
      have hownK : wr.ownsRow w.heap.size 5 1 u3 8 (vals [0, 0, 16, 44, 1, 0, 17, 32]) := hown
      clear hown
      have c0 := hcw.out 10 _ rfl
      have c1 := hcw.out 11 _ rfl
      have c2 := hcw.out 12 _ rfl
      have c3 := hcw.out 13 _ rfl
      have c4 := hcw.out 14 _ rfl
      go_wp2_with (first
        | (go_at_call 47; refine (enc47_2 _).mono ?_; rintro e w1 ⟨rfl, hb1⟩; have hown1 := own_below hownK hb1)
        | (at_builtin; refine of_mark ?_))
      unfold Mark
      refine wpList_append_own _ rfl _ _ 39 rfl w.heap.size 5 i0 (.int .u8 0) 1 1 Try.underlying39 hi hz0 hz1 hz2 rfl (by decide) _ _ _ rfl (hown1.alloc _) ⟨w1.heap.size, 0, none⟩ 4 4 [.int .u8 0, .int .u8 0, .int .u8 1, .int .u8 45] rfl rfl ?c1 ?c2 ?c3 ?c4 ?c5 ?_
      case c1 => exact four_cells' (by simp [go_sem]) (by simp [go_sem]) (by simp [go_sem]) (by simp [go_sem])
      case c2 => intro u hu; simp at hu; rcases hu with rfl | rfl | rfl | rfl <;> rfl
      case c3 => unfold maxLen; omega
      case c4 => omega
      case c5 => have := hsz.out; have := hb1.size; simp; omega
      · intro v' w2 hown2 hgrow _
        have hb2 := hid (hbw.trans (((hb1.mono hsz.out).alloc (Nat.le_trans hsz.out hb1.size) _).grown hgrow (by have := hsz.out; have := hb1.size; simp; omega) (fun k hk => (hown1.lt k hk).1)))
        go_wp2
        go_roundw
        case rel => exact ⟨3, by omega, by go_num, hown2, hb2.out⟩
        case measure => simp [intOf]
    | 3, _ =>
      have hownK : wr.ownsRow w.heap.size 5 1 u3 12 (vals [0, 0, 16, 44, 1, 0, 17, 32, 0, 0, 1, 45]) := hown
      clear hown
      have c0 := hcw.out 15 _ rfl
      have c1 := hcw.out 16 _ rfl
      have c2 := hcw.out 17 _ rfl
      have c3 := hcw.out 18 _ rfl
      have c4 := hcw.out 19 _ rfl
      go_wp2_with (first
        | (go_at_call 47; refine (enc47_3 _).mono ?_; rintro e w1 ⟨rfl, hb1⟩; have hown1 := own_below hownK hb1)
        | (at_builtin; refine of_mark ?_))
      unfold Mark
      refine wpList_append_own _ rfl _ _ 39 rfl w.heap.size 5 i0 (.int .u8 0) 1 1 Try.underlying39 hi hz0 hz1 hz2 rfl (by decide) _ _ _ rfl (hown1.alloc _) ⟨w1.heap.size, 0, none⟩ 4 4 [.int .u8 0, .int .u8 0, .int .u8 0, .int .u8 47] rfl rfl ?c1 ?c2 ?c3 ?c4 ?c5 ?_
      case c1 => exact four_cells' (by simp [go_sem]) (by simp [go_sem]) (by simp [go_sem]) (by simp [go_sem])
      case c2 => intro u hu; simp at hu; rcases hu with rfl | rfl | rfl | rfl <;> rfl
      case c3 => unfold maxLen; omega
      case c4 => omega
      case c5 => have := hsz.out; have := hb1.size; simp; omega
      · intro v' w2 hown2 hgrow _
        have hb2 := hid (hbw.trans (((hb1.mono hsz.out).alloc (Nat.le_trans hsz.out hb1.size) _).grown hgrow (by have := hsz.out; have := hb1.size; simp; omega) (fun k hk => (hown1.lt k hk).1)))
        go_wp2
        go_roundw
        case rel => exact ⟨4, by omega, by go_num, hown2, hb2.out⟩
        case measure => simp [intOf]
    | 4, _ =>
      have hcv := conv_own (l := wakeL) hown
      clear hown
      go_wp2
      go_ret
      exact ⟨rfl, hbw⟩
    | n + 5, h => exact absurd h (by omega)
end Go.Proofs.Ytimbnlcegcmfiaa
