/- May a node be: its text. -/
import Derived.Test.YtnnnfabpceapcaaGreatDoorMay1
namespace Go.Proofs.YtnnnfabpceapcaaGreatDoor
open Go.RowKit
set_option linter.unusedVariables false

/-- A call on a text that answers one value. -/
def AskS (g : FuncId) (F : ByteArray → Value) : Prop := ∀ (s : ByteArray) (W : World), s.size < 4611686018427387904 → Calls Tryz.prog g #[.string s] W fun e w' => e = .returned (F s) ∧ Below W.heap.size W w'

section
variable {nameF typeF signF asgF : ByteArray → Bool} {binF logF : ByteArray → Int}
/-- May a node have its text? -/
def strF (nameF typeF signF asgF : ByteArray → Bool) (binF logF : ByteArray → Int) (x : NdH) : Bool :=
  if x.kind = 3 then true
  else if x.kind = 4 ∨ x.kind = 6 ∨ x.kind = 7 ∨ x.kind = 41 ∨ x.kind = 43 ∨ x.kind = 45 ∨ x.kind = 46 then nameF x.str
  else if x.kind = 8 then nameF x.str || (x.str.toList == [103, 101, 116, 98, 121, 116, 101] || x.str.toList == [112, 117, 116, 98, 121, 116, 101])
  else if x.kind = 16 then typeF x.str
  else if x.kind = 9 then signF x.str
  else if x.kind = 10 then binF x.str != 0
  else if x.kind = 11 then logF x.str != 0
  else if x.kind = 13 then asgF x.str
  else x.str.toList.isEmpty

set_option maxHeartbeats 4000000 in
theorem str31 {w : World} {b o : Nat} {x : NdH} {kv : Value} (hN : AskS 38 fun s => .bool (nameF s)) (hT : AskS 39 fun s => .bool (typeF s)) (hS : AskS 40 fun s => .bool (signF s)) (hB : AskS 41 fun s => .int .i64 (binF s)) (hL : AskS 42 fun s => .int .i64 (logF s)) (hG : AskS 43 fun s => .bool (asgF s)) (h : NdAt w b o x kv) (hb : b < w.heap.size) (hz : x.str.size < 4611686018427387904) :
    Calls Tryz.prog 23 #[.pointer (some ⟨b, o, none⟩)] w fun e w' => e = .returned (.bool (strF nameF typeF signF asgF binF logF x)) ∧ Below w.heap.size w w' := by
  obtain ⟨c0, c1, _, _, _, _⟩ := h
  obtain ⟨k, s, m, f, p⟩ := x
  unfold strF
  simp only at c0 c1 hz ⊢
  have hn : Hid (Calls Tryz.prog 38 #[.string s] w fun e w' => e = .returned (.bool (nameF s)) ∧ Below w.heap.size w w') := hN s w hz
  have ht := hid' (hT s w hz)
  have hs := hid' (hS s w hz)
  have hb' := hid' (hB s w hz)
  have hl := hid' (hL s w hz)
  have hg := hid' (hG s w hz)
  clear hN hT hS hB hL hG
  by_cases k3 : k = 3
  · subst k3
    rw [if_pos rfl]
    go_enter Tryz.func23, Tryz.ntmps23
    go_wp2
    go_ret
    exact ⟨rfl, Below.refl _ _⟩
  rw [if_neg k3]
  by_cases k4 : k = 4
  · subst k4
    rw [if_pos (by decide)]
    go_enter Tryz.func23, Tryz.ntmps23
    go_wp2_with (go_at_call 38; (with_reducible refine hn.out.mono ?_); rintro e w1 ⟨rfl, hb1⟩; replace hb1 := hid' hb1)
    go_ret
    exact ⟨rfl, hb1.out⟩
  by_cases k6 : k = 6
  · subst k6
    rw [if_pos (by decide)]
    go_enter Tryz.func23, Tryz.ntmps23
    go_wp2_with (go_at_call 38; (with_reducible refine hn.out.mono ?_); rintro e w1 ⟨rfl, hb1⟩; replace hb1 := hid' hb1)
    go_ret
    exact ⟨rfl, hb1.out⟩
  by_cases k7 : k = 7
  · subst k7
    rw [if_pos (by decide)]
    go_enter Tryz.func23, Tryz.ntmps23
    go_wp2_with (go_at_call 38; (with_reducible refine hn.out.mono ?_); rintro e w1 ⟨rfl, hb1⟩; replace hb1 := hid' hb1)
    go_ret
    exact ⟨rfl, hb1.out⟩
  by_cases k41 : k = 41
  · subst k41
    rw [if_pos (by decide)]
    go_enter Tryz.func23, Tryz.ntmps23
    go_wp2_with (go_at_call 38; (with_reducible refine hn.out.mono ?_); rintro e w1 ⟨rfl, hb1⟩; replace hb1 := hid' hb1)
    go_ret
    exact ⟨rfl, hb1.out⟩
  by_cases k43 : k = 43
  · subst k43
    rw [if_pos (by decide)]
    go_enter Tryz.func23, Tryz.ntmps23
    go_wp2_with (go_at_call 38; (with_reducible refine hn.out.mono ?_); rintro e w1 ⟨rfl, hb1⟩; replace hb1 := hid' hb1)
    go_ret
    exact ⟨rfl, hb1.out⟩
  by_cases k45 : k = 45
  · subst k45
    rw [if_pos (by decide)]
    go_enter Tryz.func23, Tryz.ntmps23
    go_wp2_with (go_at_call 38; (with_reducible refine hn.out.mono ?_); rintro e w1 ⟨rfl, hb1⟩; replace hb1 := hid' hb1)
    go_ret
    exact ⟨rfl, hb1.out⟩
  by_cases k46 : k = 46
  · subst k46
    rw [if_pos (by decide)]
    go_enter Tryz.func23, Tryz.ntmps23
    go_wp2_with (go_at_call 38; (with_reducible refine hn.out.mono ?_); rintro e w1 ⟨rfl, hb1⟩; replace hb1 := hid' hb1)
    go_ret
    exact ⟨rfl, hb1.out⟩
  rw [if_neg (by omega)]
  by_cases k8 : k = 8
  · subst k8
    rw [if_pos rfl]
    cases hq : nameF s with
    | true =>
      rw [hq] at hn
      rw [Bool.true_or]
      clear hq
      go_enter Tryz.func23, Tryz.ntmps23
      go_wp2_with (go_at_call 38; (with_reducible refine hn.out.mono ?_); rintro e w1 ⟨rfl, hb1⟩; have d1 := (hb1.cell (p := ⟨b, o + 1, none⟩) hb).trans c1; have l1 := Nat.lt_of_lt_of_le hb hb1.size; replace hb1 := hid' hb1)
      go_ret
      exact ⟨rfl, hb1.out⟩
    | false =>
      rw [hq] at hn
      rw [Bool.false_or]
      clear hq
      go_enter Tryz.func23, Tryz.ntmps23
      go_wp2_with (go_at_call 38; (with_reducible refine hn.out.mono ?_); rintro e w1 ⟨rfl, hb1⟩; have d1 := (hb1.cell (p := ⟨b, o + 1, none⟩) hb).trans c1; have l1 := Nat.lt_of_lt_of_le hb hb1.size; replace hb1 := hid' hb1)
      · rename_i hq
        go_ret
        refine ⟨?_, hb1.out⟩
        rw [beq_iff_eq.2 hq]
        rfl
      · go_ret
        exact ⟨rfl, hb1.out⟩
  rw [if_neg k8]
  by_cases k16 : k = 16
  · subst k16
    rw [if_pos rfl]
    go_enter Tryz.func23, Tryz.ntmps23
    go_wp2_with (go_at_call 39; (with_reducible refine ht.out.mono ?_); rintro e w1 ⟨rfl, hb1⟩; replace hb1 := hid' hb1)
    go_ret
    exact ⟨rfl, hb1.out⟩
  rw [if_neg k16]
  by_cases k9 : k = 9
  · subst k9
    rw [if_pos rfl]
    go_enter Tryz.func23, Tryz.ntmps23
    go_wp2_with (go_at_call 40; (with_reducible refine hs.out.mono ?_); rintro e w1 ⟨rfl, hb1⟩; replace hb1 := hid' hb1)
    go_ret
    exact ⟨rfl, hb1.out⟩
  rw [if_neg k9]
  by_cases k10 : k = 10
  · subst k10
    rw [if_pos rfl]
    go_enter Tryz.func23, Tryz.ntmps23
    go_wp2_with (go_at_call 41; (with_reducible refine hb'.out.mono ?_); rintro e w1 ⟨rfl, hb1⟩; replace hb1 := hid' hb1)
    go_ret
    exact ⟨rfl, hb1.out⟩
  rw [if_neg k10]
  by_cases k11 : k = 11
  · subst k11
    rw [if_pos rfl]
    go_enter Tryz.func23, Tryz.ntmps23
    go_wp2_with (go_at_call 42; (with_reducible refine hl.out.mono ?_); rintro e w1 ⟨rfl, hb1⟩; replace hb1 := hid' hb1)
    go_ret
    exact ⟨rfl, hb1.out⟩
  rw [if_neg k11]
  by_cases k13 : k = 13
  · subst k13
    rw [if_pos rfl]
    go_enter Tryz.func23, Tryz.ntmps23
    go_wp2_with (go_at_call 43; (with_reducible refine hg.out.mono ?_); rintro e w1 ⟨rfl, hb1⟩; replace hb1 := hid' hb1)
    go_ret
    exact ⟨rfl, hb1.out⟩
  rw [if_neg k13]
  go_enter Tryz.func23, Tryz.ntmps23
  go_wp2
  go_ret
  exact ⟨rfl, Below.refl _ _⟩
end
end Go.Proofs.YtnnnfabpceapcaaGreatDoor
