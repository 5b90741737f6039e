/- May a node be, over its kids. -/
import Derived.Test.YtnnnfabpceapcaaGreatDoorMay3
import Derived.Test.YtnnnfabpceapcaaGreatDoorCheckW
namespace Go.Proofs.YtnnnfabpceapcaaGreatDoor
open Go.RowKit
set_option linter.unusedVariables false

/-- kidsMay answers a question. -/
def KidsIs (kg kidsF : NdH → List Tr → Bool) : Prop := ∀ (W : World) (b o : Nat) (x : NdH) (kv : Value) (n : Nat) (ks : List Tr) (cb : Nat), kg x ks = true → NdAt W b o x kv → b < W.heap.size → Ks cb n W kv ks → Calls Tryz.prog 26 #[.pointer (some ⟨b, o, none⟩)] W fun e w' => e = .returned (.bool (kidsF x ks)) ∧ Below W.heap.size W w'

section
variable {nameF typeF : ByteArray → Bool} {kg kidsF : NdH → List Tr → Bool}
/-- May a node be, where its kids may? -/
def mayF (nameF typeF : ByteArray → Bool) (kidsF : NdH → List Tr → Bool) (x : NdH) (ks : List Tr) : Bool := strF nameF typeF signF asgF binF logF x && (numF x && (flagF x && kidsF x ks))

theorem NdAt.below {w w' : World} {b o : Nat} {x : NdH} {kv : Value} (h : NdAt w b o x kv) (hb : Below w.heap.size w w') (hl : b < w.heap.size) : NdAt w' b o x kv := h.kept (S := fun _ => False) (Kept.of_below hb) hl (fun e => e)

set_option maxHeartbeats 4000000 in
theorem may25 (hN : AskS 38 fun s => .bool (nameF s)) (hT : AskS 39 fun s => .bool (typeF s)) (hKi : KidsIs kg kidsF) : MayIs (fun x ks => smallN x ks && kg x ks) (mayF nameF typeF kidsF) := fun w b o x kv n ks cb hgd hc hb hK => by
  rw [Bool.and_eq_true] at hgd
  have hz : x.str.size < 4611686018427387904 := of_decide_eq_true hgd.1
  have hkg := hgd.2
  have h31 := hid' (str31 hN hT sign43 bin44 log45 asg46 hc hb hz)
  have h32 : Hid (∀ W, Below w.heap.size w W → Calls Tryz.prog 24 #[.pointer (some ⟨b, o, none⟩)] W fun e w' => e = .returned (.bool (numF x)) ∧ w' = W) := fun W h => num32 (hc.below h hb) (Nat.lt_of_lt_of_le hb h.size)
  have h33 : Hid (∀ W, Below w.heap.size w W → Calls Tryz.prog 25 #[.pointer (some ⟨b, o, none⟩)] W fun e w' => e = .returned (.bool (flagF x)) ∧ w' = W) := fun W h => flag33 (hc.below h hb) (Nat.lt_of_lt_of_le hb h.size)
  have h34 : Hid (∀ W, Below w.heap.size w W → Calls Tryz.prog 26 #[.pointer (some ⟨b, o, none⟩)] W fun e w' => e = .returned (.bool (kidsF x ks)) ∧ Below W.heap.size W w') := fun W h => hKi W b o x kv n ks cb hkg (hc.below h hb) (Nat.lt_of_lt_of_le hb h.size) (hK.below h)
  unfold mayF
  clear hc hb hK hN hT hKi hz hgd hkg
  generalize strF nameF typeF signF asgF binF logF x = a at *
  generalize numF x = m at *
  generalize flagF x = f at *
  generalize kidsF x ks = q at *
  go_enter Tryz.func13, Tryz.ntmps13
  cases a with
  | false =>
    go_wp2_with (go_at_call 23; (with_reducible refine h31.out.mono ?_); rintro e w1 ⟨rfl, hb1⟩; replace hb1 := hid' hb1)
    go_ret
    exact ⟨rfl, hb1.out⟩
  | true =>
  cases m with
  | false =>
    go_wp2_with (first
      | (go_at_call 23; (with_reducible refine h31.out.mono ?_); rintro e w1 ⟨rfl, hb1⟩; replace hb1 := hid' hb1)
      | (go_at_call 24; (with_reducible refine (h32.out _ hb1.out).mono ?_); rintro e w2 ⟨rfl, rfl⟩))
    go_ret
    exact ⟨rfl, hb1.out⟩
  | true =>
  cases f with
  | false =>
    go_wp2_with (first
      | (go_at_call 23; (with_reducible refine h31.out.mono ?_); rintro e w1 ⟨rfl, hb1⟩; replace hb1 := hid' hb1)
      | (go_at_call 24; (with_reducible refine (h32.out _ hb1.out).mono ?_); rintro e w2 ⟨rfl, rfl⟩)
      | (go_at_call 25; (with_reducible refine (h33.out _ hb1.out).mono ?_); rintro e w3 ⟨rfl, rfl⟩))
    go_ret
    exact ⟨rfl, hb1.out⟩
  | true =>
    go_wp2_with (first
      | (go_at_call 23; (with_reducible refine h31.out.mono ?_); rintro e w1 ⟨rfl, hb1⟩; replace hb1 := hid' hb1)
      | (go_at_call 24; (with_reducible refine (h32.out _ hb1.out).mono ?_); rintro e w2 ⟨rfl, rfl⟩)
      | (go_at_call 25; (with_reducible refine (h33.out _ hb1.out).mono ?_); rintro e w3 ⟨rfl, rfl⟩)
      | (go_at_call 26; (with_reducible refine (h34.out _ hb1.out).mono ?_); rintro e w4 ⟨rfl, hb4⟩; replace hb4 := hid' hb4))
    go_ret
    exact ⟨rfl, below_on hb1.out hb4.out⟩
end
end Go.Proofs.YtnnnfabpceapcaaGreatDoor
