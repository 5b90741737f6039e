/- What kids the law's own nodes have. -/
import Derived.Test.YtnnnfabpceapcaaGreatDoorKids
namespace Go.Proofs.YtnnnfabpceapcaaGreatDoor
open Go.RowKit
set_option linter.unusedVariables false

theorem asks1 (w : World) (g : FuncId) (F : Ask) (h : ∀ w, AskV (.func (.func g) #[] #[]) F w) : Asks (w.alloc (.cells #[.func (.func g) #[] #[]] 77)) (.slice (some ⟨w.heap.size, 0, none⟩) 1 1) [F] :=
  ⟨by simp, _, rfl, fun i hi => by
    have : i = 0 := by simp at hi; omega
    subst this
    exact ⟨w.heap.size, _, rfl, by simp, by simp [go_sem], h _⟩⟩

set_option maxHeartbeats 4000000 in
theorem var72 {w : World} {b o : Nat} {x : NdH} {kv : Value} {n cb : Nat} {ks : List Tr} (h : NdAt w b o x kv) (hb : b < w.heap.size) (hK : Ks cb n w kv ks) (hf : x.flag = false) :
    Calls Tryz.prog 74 #[.pointer (some ⟨b, o, none⟩)] w fun e w' => e = .returned (.bool (areK [] ks || areK [isExpr] ks)) ∧ Below w.heap.size w w' := by
  have HC0 : Hid (Calls Tryz.prog 69 #[kv, .slice none 0 0] w fun e w' => e = .returned (.bool (areK [] ks)) ∧ Below w.heap.size w w') := are67 (Asks.none_ w) hK
  have HC1 : Hid (∀ W, Below w.heap.size w W → ∀ p, p = W.heap.size → Calls Tryz.prog 69 #[kv, .slice (some ⟨p, 0, none⟩) 1 1] (W.alloc (.cells #[.func (.func 44) #[] #[]] 77)) fun e w' => e = .returned (.bool (areK [isExpr] ks)) ∧ Below w.heap.size w w') := fun W hW p hp => by
    subst hp
    exact (are67 (asks1 W 44 isExpr ask35) (hK.below (below_on hW (below1 _ _)))).mono fun e w' q => ⟨q.1, below_on (below_on hW (below1 _ _)) q.2⟩
  have HD : Hid (∀ W, Below w.heap.size w W → NdAt W b o x kv ∧ b < W.heap.size) := fun W hW => ⟨h.below hW hb, Nat.lt_of_lt_of_le hb hW.size⟩
  obtain ⟨c0, _, _, c3, c4, _⟩ := h
  obtain ⟨hkl, ao, cap, rfl⟩ := hK.shape
  clear hK
  rw [hf] at c3
  generalize areK [isExpr] ks = q1 at *
  cases hq : areK [] ks with
  | true =>
    rw [hq] at HC0
    go_enter Tryz.func74, Tryz.ntmps74
    go_wp2_with (go_at_call 69; (with_reducible refine HC0.out.mono ?_); rintro e w2 ⟨rfl, hb2⟩; replace hb2 := hid' hb2)
    go_ret
    exact ⟨rfl, hb2.out⟩
  | false =>
    rw [hq] at HC0
    go_enter Tryz.func74, Tryz.ntmps74
    go_wp2_with (first
      | (go_at_call 69; (with_reducible refine HC0.out.mono ?_); rintro e w2 ⟨rfl, hb2⟩; obtain ⟨⟨_, _, _, _, d4, _⟩, hl2⟩ := HD.out w2 hb2; replace hb2 := hid' hb2)
      | (go_at_call 69; refine (HC1.out _ hb2.out _ rfl).mono ?_; rintro e w3 ⟨rfl, hb3⟩; replace hb3 := hid' hb3))
    go_ret
    exact ⟨rfl, hb3.out⟩

set_option maxHeartbeats 4000000 in
theorem var49 {w : World} {b o : Nat} {x : NdH} {kv : Value} {n cb : Nat} {ks : List Tr} (h : NdAt w b o x kv) (hb : b < w.heap.size) (hK : Ks cb n w kv ks) (hk : x.kind = 43) {q : Bool}
    (H : Hid (∀ W, Below w.heap.size w W → Calls Tryz.prog 74 #[.pointer (some ⟨b, o, none⟩)] W fun e w' => e = .returned (.bool q) ∧ Below W.heap.size W w')) :
    Calls Tryz.prog 48 #[.pointer (some ⟨b, o, none⟩)] w fun e w' => e = .returned (.bool q) ∧ Below w.heap.size w w' := by
  obtain ⟨c0, _, _, _, c4, _⟩ := h
  obtain ⟨hkl, ao, cap, rfl⟩ := hK.shape
  clear hK
  rw [hk] at c0
  go_enter Tryz.func48, Tryz.ntmps48
  go_wp2
  go_region_with (go_at_call 68; refine of66.mono ?_; rintro e w1 ⟨rfl, rfl⟩)
  all_goals
    obtain ⟨W, hW⟩ : ∃ W, W = ((w.alloc (.cells #[.int .i64 16] 3)).alloc (.cells #[.slice (some ⟨w.heap.size, 0, none⟩) 1 1] 93)).drew := ⟨_, rfl⟩
    have hB : Below w.heap.size w W := by rw [hW]; exact belA _ _ _
    have d0 := (hB.cell (p := ⟨b, o, none⟩) hb).trans c0
    have hbW := Nat.lt_of_lt_of_le hb hB.size
    have HB := hid' hB
    rw [← hW]
    clear hW hB c0 c4
    go_wp2_with (go_at_call 74; (with_reducible refine (H.out _ HB.out).mono ?_); rintro e w2 ⟨rfl, hb2⟩; replace hb2 := hid' hb2)
    go_ret
    exact ⟨rfl, below_on HB.out hb2.out⟩
end Go.Proofs.YtnnnfabpceapcaaGreatDoor
