/- Print, over may and split. -/
import Derived.Test.YtnnnfabpceapcaaDoorSpell2
import Derived.Test.YtnnnfabpceapcaaDoorCheckW
import Derived.Test.YtnnnfabpceapcaaDoorMay4
namespace Go.Proofs.YtnnnfabpceapcaaDoor
open Go.RowKit
set_option linter.unusedVariables false

/-- What Print tells. -/
def printV (c : Int) (L : List UInt8) : Value := if c = 0 then (if L.length ≤ 1048576 then .tuple #[.string ⟨L.toArray⟩, .int .i64 0] else .tuple #[.string ⟨#[]⟩, .int .i64 3]) else .tuple #[.string ⟨#[]⟩, .int .i64 80]

set_option maxHeartbeats 4000000 in
theorem print14 {gd ok G : NdH → List Tr → Bool} {qt : List UInt8 → List UInt8} {w : World} {x : NdH} {kv : Value} {n cb : Nat} {ks : List Tr} (hm : MayIs gd ok) (hS : SplitIs G qt) (hgd : allT gd (Tr.node x ks) = true) (hG : allT ok (Tr.node x ks) = true → allT G (Tr.node x ks) = true) (hK : Ks cb n w kv ks) :
    Calls Tryd.prog 14 #[ndV x kv] w fun e w' => e = .returned (printV (chkF ok x ks) (spellT qt (Tr.node x ks))) ∧ Below w.heap.size w w' := by
  obtain ⟨w0, hw0⟩ : ∃ w0, w0 = w.alloc (.cells #[.int .i64 x.kind, .string x.str, .int .u32 x.num, .bool x.flag, kv, .int .i64 x.pos] 25) := ⟨_, rfl⟩
  have hb0 : Below w.heap.size w w0 := by rw [hw0]; exact below1 _ _
  have hl0 : w.heap.size < w0.heap.size := by rw [hw0]; simp
  have hat : NdAt w0 w.heap.size 0 x kv := by rw [hw0]; refine ⟨?_, ?_, ?_, ?_, ?_, ?_⟩ <;> simp [go_sem]
  have hK0 := hK.below hb0
  have HC := hid' (check15 hm hgd hK0)
  have HP : Hid (∀ W, Below w0.heap.size w0 W → chkF ok x ks = 0 → Calls Tryd.prog 23 #[.pointer (some ⟨w.heap.size, 0, none⟩)] W fun e w' => e = .returned (spellV (spellT qt (Tr.node x ks))) ∧ Below W.heap.size W w') := fun W hW hc => by
    unfold chkF at hc
    split at hc
    · rename_i h
      exact spell23 hS (hat.below hW hl0) (Nat.lt_of_lt_of_le hl0 hW.size) (hK0.below hW) (hG h.2.2) h.2.1
    · cases hc
  have HB0 := hid' hb0
  have HX : Hid (chkF ok x ks = 0 ∨ chkF ok x ks = 80) := by
    unfold chkF
    show _ ∨ _
    split
    · exact .inl rfl
    · exact .inr rfl
  clear hK0 hat hb0 hK hgd hG hm hS
  generalize spellT qt (Tr.node x ks) = L at *
  unfold printV
  unfold ndV at HC ⊢
  rcases HX.out with e | e
  · rw [e] at HC HP ⊢
    rw [if_pos rfl]
    by_cases hl : L.length ≤ 1048576
    · rw [if_pos hl]
      unfold spellV at HP
      rw [if_pos hl] at HP
      replace HP := hid' (fun W hW => HP.out W hW rfl)
      go_enter Tryd.func14, Tryd.ntmps14
      go_wp2_with (first
        | (go_at_call 15; rw [← hw0]; (with_reducible refine HC.out.mono ?_); rintro e w1 ⟨rfl, hb1⟩; replace hb1 := hid' hb1)
        | (go_at_call 23; (with_reducible refine (HP.out _ hb1.out).mono ?_); rintro e w2 ⟨rfl, hb2⟩; replace hb2 := hid' hb2))
      go_ret2
      exact ⟨rfl, below_on HB0.out (below_on hb1.out hb2.out)⟩
    · rw [if_neg hl]
      unfold spellV at HP
      rw [if_neg hl] at HP
      replace HP := hid' (fun W hW => HP.out W hW rfl)
      go_enter Tryd.func14, Tryd.ntmps14
      go_wp2_with (first
        | (go_at_call 15; rw [← hw0]; (with_reducible refine HC.out.mono ?_); rintro e w1 ⟨rfl, hb1⟩; replace hb1 := hid' hb1)
        | (go_at_call 23; (with_reducible refine (HP.out _ hb1.out).mono ?_); rintro e w2 ⟨rfl, hb2⟩; replace hb2 := hid' hb2))
      go_ret2
      exact ⟨rfl, below_on HB0.out (below_on hb1.out hb2.out)⟩
  · rw [e] at HC ⊢
    rw [if_neg (by decide)]
    go_enter Tryd.func14, Tryd.ntmps14
    go_wp2_with (go_at_call 15; rw [← hw0]; (with_reducible refine HC.out.mono ?_); rintro e w1 ⟨rfl, hb1⟩; replace hb1 := hid' hb1)
    go_ret2
    exact ⟨rfl, below_on HB0.out hb1.out⟩
end Go.Proofs.YtnnnfabpceapcaaDoor
