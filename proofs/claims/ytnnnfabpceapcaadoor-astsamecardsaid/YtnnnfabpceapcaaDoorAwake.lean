/- The law's own tree: it may be, and its text. -/
import Derived.Test.YtnnnfabpceapcaaDoorKids3
import Derived.Test.YtnnnfabpceapcaaDoorKids4
import Derived.Test.YtnnnfabpceapcaaDoorSplit0
import Derived.Test.YtnnnfabpceapcaaDoorPrint
import Derived.Test.YtnnnfabpceapcaaDoorOwn
namespace Go.Proofs.YtnnnfabpceapcaaDoor
open Go.RowKit
set_option linter.unusedVariables false

def yesF (x : NdH) (ks : List Tr) : Bool := true
theorem own_kids : KidsIs ownG yesF := fun W b o x kv n ks cb hG h hb hK => by
  unfold ownG at hG
  by_cases k1 : x.kind = 1
  · rw [if_pos k1] at hG
    simp at hG
    refine kids34_expr h hb (.inl (by omega)) ?_
    have := expr47 h hb hK (.inl k1)
    rw [hG.2.2.1] at this
    exact this
  rw [if_neg k1] at hG
  by_cases k2 : x.kind = 16
  · rw [if_pos k2] at hG
    simp at hG
    refine kids34_expr h hb (.inr k2) ?_
    have := expr47 h hb hK (.inr k2)
    rw [hG.2.2.1] at this
    exact this
  rw [if_neg k2] at hG
  by_cases k3 : x.kind = 40
  · rw [if_pos k3] at hG
    simp only [Bool.and_eq_true] at hG
    refine kids34_decl h hb (by omega) (by omega) (by omega) ?_
    have := prog49 h hb hK k3
    rw [hG.2.2.2] at this
    exact this
  rw [if_neg k3] at hG
  by_cases k4 : x.kind = 42
  · rw [if_pos k4] at hG
    simp only [Bool.and_eq_true] at hG
    obtain ⟨_, _, _, hl, h0, h1⟩ := hG
    have hl' := of_decide_eq_true hl
    match ks, hK, hl', h0, h1 with
    | [], _, hl', _, _ => exact absurd hl' (by simp)
    | [t], _, hl', _, _ => exact absurd hl' (by simp)
    | t0 :: t1 :: r, hK, _, h0, h1 =>
      refine kids34_decl h hb (by omega) (by omega) (by omega) ?_
      have := vars49 h hb hK k4 h0
      rw [show allK (ofK [43]) (t1 :: r) = true from h1] at this
      exact this
  rw [if_neg k4] at hG
  by_cases k5 : x.kind = 43
  · rw [if_pos k5] at hG
    simp only [Bool.and_eq_true] at hG
    obtain ⟨_, hf, _, h1⟩ := hG
    have hf' : x.flag = false := by simpa using hf
    refine kids34_decl h hb (by omega) (by omega) (by omega) ?_
    refine var49 h hb hK k5 (fun W' hW => ?_)
    have := var72 (h.below hW hb) (Nat.lt_of_lt_of_le hb hW.size) (hK.below hW) hf'
    rw [h1] at this
    exact this
  · rw [if_neg k5] at hG
    cases hG

def ownOk : NdH → List Tr → Bool := mayF nameB typeB yesF
theorem own_may : MayIs (fun x ks => smallN x ks && ownG x ks) ownOk := may25 name41 type42 own_kids
theorem lst_mk (a : Array UInt8) : lst ⟨a⟩ = a.toList := rfl
theorem size_mk (a : Array UInt8) : (⟨a⟩ : ByteArray).size = a.size := rfl
theorem toL_mk (a : Array UInt8) : (⟨a⟩ : ByteArray).toList = a.toList := by rw [lst_eq]; rfl

theorem own_gd : allT (fun x ks => smallN x ks && ownG x ks) (Tr.node ndProg ownT) = true := by
  simp [ownT, allT_node, allL_cons, allL_nil, smallN, ownG, ndProg, ndVars, ndTyp, ndVar, ndNum, allK, onT_node, ofK, hasI, areK, isExpr, lst_mk, size_mk]
  rfl
theorem own_all : allT ownG (Tr.node ndProg ownT) = true := by
  simp [ownT, allT_node, allL_cons, allL_nil, ownG, ndProg, ndVars, ndTyp, ndVar, ndNum, allK, onT_node, ofK, hasI, areK, isExpr, lst_mk, size_mk]
theorem own_ok : allT ownOk (Tr.node ndProg ownT) = true := by
  have hx : nameB ⟨#[120]⟩ = true := by decide
  have hi : typeB ⟨#[105, 110, 116]⟩ = true := by unfold typeB; simp [toL_mk]
  simp [ownT, allT_node, allL_cons, allL_nil, ownOk, mayF, yesF, strF, numF, flagF, ndProg, ndVars, ndTyp, ndVar, ndNum, hx, hi, toL_mk]
theorem own_sz : szT (Tr.node ndProg ownT) = 5 := by
  simp [ownT, szT_node, szL_cons, szL_nil]
theorem own_chk : chkF ownOk ndProg ownT = 0 := by
  unfold chkF
  rw [if_pos ⟨rfl, by rw [own_sz]; decide, own_ok⟩]
theorem own_text (qt : List UInt8 → List UInt8) : spellT qt (Tr.node ndProg ownT) = [105, 110, 116, 32, 120, 32, 61, 32, 49, 59, 10] := by
  simp [ownT, spellT_node, spellN, ndProg, ndVars, ndTyp, ndVar, ndNum, joinL, numL, decF, digC, lst_mk]

set_option maxHeartbeats 4000000 in
theorem awake10 (w : World) : Calls Tryd.prog 10 #[] w fun e w' => e = .returned (.bool true) ∧ Below w.heap.size w w' := by
  have h21 : Hid (∀ W, Calls Tryd.prog 21 #[] W fun e w' => ∃ kv, e = .returned (ndV ndProg kv) ∧ Below W.heap.size W w' ∧ Ks w'.heap.size 3 w' kv ownT) := fun W => (own21 W).mono fun e w' h => ⟨_, h.1, h.2.1, h.2.2 _ (.inr (Nat.le_refl _))⟩
  have h14 : Hid (∀ W kv, Ks W.heap.size 3 W kv ownT → Calls Tryd.prog 14 #[ndV ndProg kv] W fun e w' => e = .returned (.tuple #[.string ⟨#[105, 110, 116, 32, 120, 32, 61, 32, 49, 59, 10]⟩, .int .i64 0]) ∧ Below W.heap.size W w') := fun W kv hK => by
    have := print14 (qt := id) own_may (own_split id) own_gd (fun _ => own_all) hK
    rw [own_chk, own_text] at this
    exact this
  have h6 : Hid (∀ W kv, Ks W.heap.size 3 W kv ownT → Calls Tryd.prog 6 #[ndV ndProg kv] W fun e w' => e = .returned (.int .i64 5) ∧ Below W.heap.size W w') := fun W kv hK => by
    have := size6 (x := ndProg) hK
    unfold szR at this
    rw [own_sz] at this
    exact this
  go_enter Tryd.func10, Tryd.ntmps10
  go_wp2_with (first
    | (go_at_call 6; refine (h6.out _ _ hK3.out).mono ?_; rintro e w4 ⟨rfl, hb4⟩; replace hb4 := hid' hb4)
    | (go_at_call 21; refine (h21.out w2).mono ?_; rintro e w3 ⟨kv3, rfl, hb3, hK3⟩; replace hb3 := hid' hb3; replace hK3 := hid' hK3)
    | (go_at_call 14; refine (h14.out _ _ hK1.out).mono ?_; rintro e w2 ⟨rfl, hb2⟩; replace hb2 := hid' hb2)
    | (go_at_call 21; refine (h21.out w).mono ?_; rintro e w1 ⟨kv1, rfl, hb1, hK1⟩; replace hb1 := hid' hb1; replace hK1 := hid' hK1))
  go_ret
  exact ⟨rfl, below_on hb1.out (below_on hb2.out (below_on hb3.out hb4.out))⟩
end Go.Proofs.YtnnnfabpceapcaaDoor
