/- The speller: functions. -/
import Derived.Test.YtnnnfabpceapcaaDoorSpA
import Derived.Test.YtnnnfabpceapcaaDoorKids9e
import Derived.Test.YtnnnfabpceapcaaDoorKids3
import Derived.Test.YtnnnfabpceapcaaDoorKids4
import Derived.Test.YtnnnfabpceapcaaDoorKidsE
import Derived.Test.YtnnnfabpceapcaaDoorKidsS1
import Derived.Test.YtnnnfabpceapcaaDoorKidsS2
import Derived.Test.YtnnnfabpceapcaaDoorKidsD1
import Derived.Test.YtnnnfabpceapcaaDoorKids9c
import Derived.Test.YtnnnfabpceapcaaDoorKids9f
import Derived.Test.YtnnnfabpceapcaaDoorFmtNum
import Derived.Test.YtnnnfabpceapcaaDoorSpellP
import Derived.Test.YtnnnfabpceapcaaDoorSpB
import Derived.Test.YtnnnfabpceapcaaDoorSpC
import Derived.Test.YtnnnfabpceapcaaDoorSpD
import Derived.Test.YtnnnfabpceapcaaDoorQuoteChr
import Derived.Test.YtnnnfabpceapcaaDoorSameL
namespace Go.Proofs.YtnnnfabpceapcaaDoor
set_option linter.unusedSimpArgs false
open Go.RowKit
set_option linter.unusedVariables false
section
variable {G : NdH → List Tr → Bool} {qt : List UInt8 → List UInt8} {A : Nat → Prop} {sb : Nat} {T : List Pc} {w w0 : World} {b o : Nat} {x : NdH} {kv : Value} {n cb : Nat} {ks : List Tr}
theorem allL_take {l : List Tr} (h : allL G l = true) (k : Nat) : allL G (l.take k) = true := by
  have := allL_append G (l.take k) (l.drop k)
  rw [List.take_append_drop, h] at this
  have h2 := this.symm
  rw [Bool.and_eq_true] at h2
  exact h2.1
theorem wtL_split (l : List Tr) (hl : 0 < l.length) : wtL (l.take (l.length - 1)) + wtT (l[l.length - 1]'(by omega)) + 1 = wtL l := by
  have h1 := take_next l (l.length - 1) (by omega)
  have e : l.length - 1 + 1 = l.length := by omega
  rw [e, List.take_length] at h1
  have h2 := congrArg wtL h1
  rw [wtL_append] at h2
  have h3 : wtL [l[l.length - 1]'(by omega)] = wtT (l[l.length - 1]'(by omega)) + 1 := by show wtT _ + 1 + 0 = _; omega
  omega
set_option maxHeartbeats 4000000 in
theorem func39 {t0 t1 : Tr} {r : List Tr} (hg : ∀ x ks, G x ks = true → x.str.size < 4611686018427387904) (J : Job G A sb T w0 w b o x kv n cb (t0 :: t1 :: r)) (hk : x.kind = 45) : Calls Tryd.prog 39 #[.pointer (some ⟨sb, 0, none⟩), .pointer (some ⟨b, o, none⟩)] w (Spelt G qt A sb T w0 w x (t0 :: t1 :: r)) := by
  have hL := wtL_le (t0 :: t1 :: r)
  rw [wtL_cons] at hL
  have hT := J.hT
  have hB : Hid (∀ {L n W}, St G (spellT qt) w0 A sb T w L n W → NdAt W b o x kv ∧ b < W.heap.size) := fun h => ⟨J.hat.below (h.bel J.hw J.hA) J.hb, Nat.lt_of_lt_of_le J.hb (h.bel J.hw J.hA).size⟩
  obtain ⟨c0, c1, _, _, c4, _⟩ := J.hat.below J.hw J.hb
  have hbw := Nat.lt_of_lt_of_le J.hb J.hw.size
  have s0 := St.start (G := G) (sp := spellT qt) (w0 := w0) J.sp
  have HK := hid' J.hK
  obtain ⟨hkl, ao, cap, rfl⟩ := J.hK.shape
  have hroom := HK.out.room (by simp)
  obtain ⟨m0, b0, off, x0, kv0, ks0, _, rfl, ⟨hb0, _⟩, e0, hat0, hK0⟩ := HK.out.kid 0 (by simp)
  simp at e0 hat0
  subst e0
  obtain ⟨ml, bl, offl, xl, kvl, ksl, _, eal, ⟨hbl, _⟩, el, hatl, hKl⟩ := HK.out.kid (r.length + 1) (by simp)
  injection eal with eal
  injection eal with eb ec
  subst eb ec
  have el' : (t1 :: r)[r.length]'(by simp) = Tr.node xl ksl := el
  have HKm := hid' (HK.out.tail.take r.length (by simp))
  have hGs := J.hG
  rw [allL_cons, Bool.and_eq_true] at hGs
  have gm := hid' (allL_take hGs.2 r.length)
  have gl : allT G (Tr.node xl ksl) = true := by rw [← el']; exact allL_get hGs.2 r.length (by simp)
  have zl : G xl ksl = true := by rw [allT_node, Bool.and_eq_true] at gl; exact gl.1
  have z0 : G x0 ks0 = true := by have := hGs.1; rw [allT_node, Bool.and_eq_true] at this; exact this.1
  have K0 : Hid (Kid G w0 b0 off x0 kv0 m0 cb ks0) := ⟨hat0, hb0, hK0, hGs.1, hg _ _ z0⟩
  have Kl : Hid (Kid G w0 b0 (off + (r.length + 1) * 6) xl kvl ml cb ksl) := ⟨hatl, hbl, hKl, gl, hg _ _ zl⟩
  have hsp := wtL_split (t1 :: r) (by simp)
  simp only [List.length_cons, Nat.add_sub_cancel] at hsp
  rw [el'] at hsp
  have hF : Hid ([] ++ spellT qt (Tr.node x0 ks0) ++ (List.map lst [⟨#[32]⟩, x.str, ⟨#[40]⟩]).flatten ++ joinL (lst ⟨#[44, 32]⟩) (((t1 :: r).take r.length).map (spellT qt)) ++ (List.map lst [⟨#[41, 32]⟩]).flatten ++ spellT qt (Tr.node xl ksl) = spellN qt x (Tr.node x0 ks0 :: t1 :: r) ((Tr.node x0 ks0 :: t1 :: r).map (spellT qt))) := by
    unfold Hid spellN
    have ez : ((Tr.node x0 ks0 :: t1 :: r).map (spellT qt)).getD (((Tr.node x0 ks0 :: t1 :: r).map (spellT qt)).length - 1) [] = spellT qt (Tr.node xl ksl) := by
      rw [← el']
      simp [List.getD_eq_getElem?_getD]
      exact List.getElem_map (spellT qt) (l := t1 :: r) (i := r.length) (h := by simp)
    simp only [hk]
    rw [ez]
    simp [lst, List.map_take]
  have hn : Hid (0 + wtT (Tr.node x0 ks0) + [(⟨#[32]⟩ : ByteArray), x.str, ⟨#[40]⟩].length + wtL ((t1 :: r).take r.length) + [(⟨#[41, 32]⟩ : ByteArray)].length + wtT (Tr.node xl ksl) ≤ 19 + 23 * szL (Tr.node x0 ks0 :: t1 :: r)) := by
    unfold Hid
    simp only [List.length_cons, List.length_nil]
    omega
  simp at hkl hroom
  rw [hk] at c0
  have hmid : wtL ((t1 :: r).take r.length) + wtT (Tr.node xl ksl) ≤ wtL (t1 :: r) := by omega
  clear el el' hsp
  go_enter Tryd.func39, Tryd.ntmps39
  go_wp2_with (first
    | (go_at_call 55; refine (Kl.out.put s4.out (by simp only [List.length_cons, List.length_nil]; omega)).mono ?_; rintro e w5 ⟨rfl, s5⟩)
    | (go_at_call 50; refine (say_st [⟨#[41, 32]⟩] s3.out (by simp only [List.length_cons, List.length_nil]; omega) _ _ rfl rfl).mono ?_; rintro e w4 ⟨rfl, s4⟩)
    | (go_at_call 56; refine (list_st ⟨#[44, 32]⟩ J.hw J.hA HKm.out gm.out s2.out (by simp only [List.length_cons, List.length_nil]; omega)).mono ?_; rintro e w3 ⟨rfl, s3⟩)
    | (go_at_call 50; refine (say_st [⟨#[32]⟩, x.str, ⟨#[40]⟩] s1.out (by simp; omega) _ _ rfl rfl).mono ?_; rintro e w2 ⟨rfl, s2⟩)
    | (go_at_call 55; refine (K0.out.put s0.out (by simp; omega)).mono ?_; rintro e w1 ⟨rfl, s1⟩; obtain ⟨⟨c0_0, c1_0, c2_0, c3_0, c4_0, c5_0⟩, l_0⟩ := hB.out s1.out))
  go_end0
  exact s5.out.laid hF.out hn.out
end
end Go.Proofs.YtnnnfabpceapcaaDoor

namespace Go.Proofs.YtnnnfabpceapcaaDoor
set_option linter.unusedSimpArgs false
open Go.RowKit
set_option linter.unusedVariables false

/-- What kids an expression, or a type, may have. -/
def exprF (x : NdH) (ks : List Tr) : Bool :=
  if x.kind = 1 ∨ x.kind = 2 ∨ x.kind = 3 ∨ x.kind = 4 ∨ x.kind = 16 then areK [] ks
  else if x.kind = 5 ∨ x.kind = 10 ∨ x.kind = 11 then areK [isExpr, isExpr] ks
  else if x.kind = 6 ∨ x.kind = 7 ∨ x.kind = 9 then areK [isExpr] ks
  else if x.kind = 8 then allK isExpr ks
  else if x.kind = 12 then areK [isExpr, isExpr, isExpr] ks
  else if x.kind = 13 then areK [ofK [4, 5, 6, 7], isExpr] ks
  else if x.kind = 14 then areK [ofK [16], isExpr] ks
  else areK [orK [ofK [16], isExpr]] ks
/-- What kids a statement may have. -/
def stmtF (x : NdH) (ks : List Tr) : Bool :=
  if x.kind = 47 then allK (orK [isStmt, ofK [42]]) ks
  else if x.kind = 48 then areK [isExpr] ks
  else if x.kind = 49 then areK [isExpr, isStmt] ks || areK [isExpr, closedK, isStmt] ks
  else if x.kind = 50 then areK [isExpr, isStmt] ks
  else if x.kind = 51 then areK [isStmt, isExpr] ks
  else if x.kind = 52 then areK [orK [isExpr, ofK [56]], orK [isExpr, ofK [56]], orK [isExpr, ofK [56]], isStmt] ks
  else if x.kind = 55 then areK [] ks || areK [isExpr] ks
  else areK [] ks
/-- The kids of a function, behind its type. -/
def funcF : List Tr → Bool
  | t0 :: t1 :: r => onT (ofK [16]) t0 && (allK (ofK [46]) ((t1 :: r).take r.length) && onT (ofK [47]) ((t1 :: r)[r.length]'(by simp)))
  | _ => false
def varsF : List Tr → Bool
  | t0 :: t1 :: r => onT (ofK [16]) t0 && allK (ofK [43]) (t1 :: r)
  | _ => false
/-- What kids a declaration may have. -/
def declF (x : NdH) (ks : List Tr) : Bool :=
  if x.kind = 40 then allK (ofK [41, 42, 45]) ks
  else if x.kind = 41 then allK bareK ks
  else if x.kind = 42 then varsF ks
  else if x.kind = 43 then (if x.flag then areK [orK [isExpr, ofK [56]]] ks || areK [orK [isExpr, ofK [56]], orK [isExpr, ofK [44]]] ks else areK [] ks || areK [isExpr] ks)
  else if x.kind = 44 then decide (1 ≤ ks.length) && allK isExpr ks
  else if x.kind = 45 then funcF ks
  else if x.kind = 46 then areK [ofK [16]] ks
  else false
def kidsF (x : NdH) (ks : List Tr) : Bool := if (1 ≤ x.kind ∧ x.kind ≤ 15) ∨ x.kind = 16 then exprF x ks else if 47 ≤ x.kind ∧ x.kind ≤ 56 then stmtF x ks else declF x ks

section
variable {w : World} {b o : Nat} {x : NdH} {kv : Value} {n cb : Nat} {ks : List Tr}
theorem expr47_all (h : NdAt w b o x kv) (hb : b < w.heap.size) (hK : Ks cb n w kv ks) (hk : (1 ≤ x.kind ∧ x.kind ≤ 15) ∨ x.kind = 16) :
    Calls Tryd.prog 47 #[.pointer (some ⟨b, o, none⟩)] w fun e w' => e = .returned (.bool (exprF x ks)) ∧ Below w.heap.size w w' := by
  unfold exprF
  have : x.kind = 1 ∨ x.kind = 2 ∨ x.kind = 3 ∨ x.kind = 4 ∨ x.kind = 5 ∨ x.kind = 6 ∨ x.kind = 7 ∨ x.kind = 8 ∨ x.kind = 9 ∨ x.kind = 10 ∨ x.kind = 11 ∨ x.kind = 12 ∨ x.kind = 13 ∨ x.kind = 14 ∨ x.kind = 15 ∨ x.kind = 16 := by omega
  rcases this with e | e | e | e | e | e | e | e | e | e | e | e | e | e | e | e
  · have q := expr47 h hb hK (.inl e); simp only [e] at *; exact q
  · have q := expr2 h hb hK e; simp only [e] at *; exact q
  · have q := expr3 h hb hK e; simp only [e] at *; exact q
  · have q := expr4 h hb hK e; simp only [e] at *; exact q
  · have q := expr5 h hb hK e; simp only [e] at *; exact q
  · have q := expr6 h hb hK e; simp only [e] at *; exact q
  · have q := expr7 h hb hK e; simp only [e] at *; exact q
  · have q := expr8 h hb hK e; simp only [e] at *; exact q
  · have q := expr9 h hb hK e; simp only [e] at *; exact q
  · have q := expr10 h hb hK e; simp only [e] at *; exact q
  · have q := expr11 h hb hK e; simp only [e] at *; exact q
  · have q := expr12 h hb hK e; simp only [e] at *; exact q
  · have q := expr13 h hb hK e; simp only [e] at *; exact q
  · have q := expr14 h hb hK e; simp only [e] at *; exact q
  · have q := expr15 h hb hK e; simp only [e] at *; exact q
  · have q := expr47 h hb hK (.inr e); simp only [e] at *; exact q
theorem stmt48_all (h : NdAt w b o x kv) (hb : b < w.heap.size) (hK : Ks cb n w kv ks) (hk : 47 ≤ x.kind ∧ x.kind ≤ 56) :
    Calls Tryd.prog 48 #[.pointer (some ⟨b, o, none⟩)] w fun e w' => e = .returned (.bool (stmtF x ks)) ∧ Below w.heap.size w w' := by
  unfold stmtF
  have : x.kind = 47 ∨ x.kind = 48 ∨ x.kind = 49 ∨ x.kind = 50 ∨ x.kind = 51 ∨ x.kind = 52 ∨ x.kind = 53 ∨ x.kind = 54 ∨ x.kind = 55 ∨ x.kind = 56 := by omega
  rcases this with e | e | e | e | e | e | e | e | e | e
  · have q := stmt47 h hb hK e; simp only [e] at *; exact q
  · have q := stmt48 h hb hK e; simp only [e] at *; exact q
  · cases hq : areK [isExpr, isStmt] ks with
    | true => have q := stmt49_y h hb hK e hq; simp only [e] at *; exact q
    | false => have q := stmt49_n h hb hK e hq; simp only [e] at *; exact q
  · have q := stmt50 h hb hK e; simp only [e] at *; exact q
  · have q := stmt51 h hb hK e; simp only [e] at *; exact q
  · have q := stmt52 h hb hK e; simp only [e] at *; exact q
  · have q := stmt53 h hb hK e; simp only [e] at *; exact q
  · have q := stmt54 h hb hK e; simp only [e] at *; exact q
  · cases hq : areK [] ks with
    | true => have q := stmt55_y h hb hK e hq; simp only [e] at *; exact q
    | false => have q := stmt55_n h hb hK e hq; simp only [e] at *; exact q
  · have q := stmt56 h hb hK e; simp only [e] at *; exact q
end
end Go.Proofs.YtnnnfabpceapcaaDoor

namespace Go.Proofs.YtnnnfabpceapcaaDoor
set_option linter.unusedSimpArgs false
open Go.RowKit
set_option linter.unusedVariables false
section
variable {w : World} {b o : Nat} {x : NdH} {kv : Value} {n cb : Nat} {ks : List Tr}
set_option maxHeartbeats 8000000 in
theorem decl_none (h : NdAt w b o x kv) (hb : b < w.heap.size) (hK : Ks cb n w kv ks) (hk : ¬ (40 ≤ x.kind ∧ x.kind ≤ 46)) :
    Calls Tryd.prog 49 #[.pointer (some ⟨b, o, none⟩)] w fun e w' => e = .returned (.bool false) ∧ Below w.heap.size w w' := by
  obtain ⟨c0, _, _, _, c4, _⟩ := h
  obtain ⟨hkl, ao, cap, rfl⟩ := hK.shape
  clear hK
  have e0 : (x.kind == 40) = false := by simp; omega
  have e1 : (x.kind == 41) = false := by simp; omega
  have e2 : (x.kind == 42) = false := by simp; omega
  have e3 : (x.kind == 43) = false := by simp; omega
  have e4 : (x.kind == 44) = false := by simp; omega
  have e5 : (x.kind == 45) = false := by simp; omega
  have e6 : (x.kind == 46) = false := by simp; omega
  generalize x.kind = k at *
  go_enter Tryd.func49, Tryd.ntmps49
  go_wp2
  go_region_with (go_at_call 66; refine of66.mono ?_; rintro e w1 ⟨rfl, rfl⟩)
  all_goals
    obtain ⟨W, hW⟩ : ∃ W, W = ((w.alloc (.cells #[.int .i64 16] 3)).alloc (.cells #[.slice (some ⟨w.heap.size, 0, none⟩) 1 1] 94)).drew := ⟨_, rfl⟩
    have hB : Below w.heap.size w W := by rw [hW]; exact belA _ _ _
    have d0 := (hB.cell (p := ⟨b, o, none⟩) hb).trans c0
    have hbW := Nat.lt_of_lt_of_le hb hB.size
    have HB := hid' hB
    rw [← hW]
    clear hW hB c0 c4
    go_wp2
    all_goals go_ret
    all_goals exact ⟨rfl, HB.out⟩
theorem decl49_all (h : NdAt w b o x kv) (hb : b < w.heap.size) (hK : Ks cb n w kv ks) :
    Calls Tryd.prog 49 #[.pointer (some ⟨b, o, none⟩)] w fun e w' => e = .returned (.bool (declF x ks)) ∧ Below w.heap.size w w' := by
  unfold declF
  by_cases hk : 40 ≤ x.kind ∧ x.kind ≤ 46
  rotate_left
  · rw [if_neg (by omega), if_neg (by omega), if_neg (by omega), if_neg (by omega), if_neg (by omega), if_neg (by omega), if_neg (by omega)]
    exact decl_none h hb hK hk
  have : x.kind = 40 ∨ x.kind = 41 ∨ x.kind = 42 ∨ x.kind = 43 ∨ x.kind = 44 ∨ x.kind = 45 ∨ x.kind = 46 := by omega
  rcases this with e | e | e | e | e | e | e
  · have q := prog49 h hb hK e; simp only [e] at *; exact q
  · have q := decl41 h hb hK e; simp only [e] at *; exact q
  · have goal : Calls Tryd.prog 49 #[.pointer (some ⟨b, o, none⟩)] w fun e w' => e = .returned (.bool (varsF ks)) ∧ Below w.heap.size w w' := by
      match ks, hK with
      | [], hK => exact decl42_0 h hb hK e
      | [t], hK => exact decl42_1 h hb hK e
      | t0 :: t1 :: r, hK =>
        show Calls Tryd.prog 49 _ w fun e w' => e = .returned (.bool (onT (ofK [16]) t0 && allK (ofK [43]) (t1 :: r))) ∧ Below w.heap.size w w'
        cases hq : onT (ofK [16]) t0 with
        | true => exact vars49 h hb hK e hq
        | false => exact decl42_n h hb hK e hq
    simp only [e] at *
    exact goal
  · have goal : Calls Tryd.prog 49 #[.pointer (some ⟨b, o, none⟩)] w fun e w' => e = .returned (.bool (if x.flag then areK [orK [isExpr, ofK [56]]] ks || areK [orK [isExpr, ofK [56]], orK [isExpr, ofK [44]]] ks else areK [] ks || areK [isExpr] ks)) ∧ Below w.heap.size w w' := by
      cases hf : x.flag with
      | true => exact var49 h hb hK e (fun W hW => var72f (h.below hW hb) (Nat.lt_of_lt_of_le hb hW.size) (hK.below hW) hf)
      | false => exact var49 h hb hK e (fun W hW => var72 (h.below hW hb) (Nat.lt_of_lt_of_le hb hW.size) (hK.below hW) hf)
    simp only [e] at *
    exact goal
  · have goal : Calls Tryd.prog 49 #[.pointer (some ⟨b, o, none⟩)] w fun e w' => e = .returned (.bool (decide (1 ≤ ks.length) && allK isExpr ks)) ∧ Below w.heap.size w w' := by
      by_cases hl : 1 ≤ ks.length
      · rw [decide_eq_true hl, Bool.true_and]
        exact decl44_y h hb hK e hl
      · rw [decide_eq_false hl, Bool.false_and]
        obtain rfl : ks = [] := List.eq_nil_of_length_eq_zero (by omega)
        exact decl44_n h hb hK e
    simp only [e] at *
    exact goal
  · have goal : Calls Tryd.prog 49 #[.pointer (some ⟨b, o, none⟩)] w fun e w' => e = .returned (.bool (funcF ks)) ∧ Below w.heap.size w w' := by
      match ks, hK with
      | [], hK => exact decl45_0 h hb hK e
      | [t], hK => exact decl45_1 h hb hK e
      | t0 :: t1 :: r, hK =>
        show Calls Tryd.prog 49 _ w fun e w' => e = .returned (.bool (onT (ofK [16]) t0 && (allK (ofK [46]) ((t1 :: r).take r.length) && onT (ofK [47]) ((t1 :: r)[r.length]'(by simp))))) ∧ Below w.heap.size w w'
        cases hq : onT (ofK [16]) t0 with
        | false => exact decl45_n h hb hK e hq
        | true =>
          cases hm : allK (ofK [46]) ((t1 :: r).take r.length) with
          | false => exact decl45_m h hb hK e hq hm
          | true => exact decl45_y h hb hK e hq hm
    simp only [e] at *
    exact goal
  · have q := decl46 h hb hK e; simp only [e] at *; exact q
def anyF (x : NdH) (ks : List Tr) : Bool := true
theorem kids_is : KidsIs anyF kidsF := fun W b o x kv n ks cb _ h hb hK => by
  unfold kidsF
  by_cases h1 : (1 ≤ x.kind ∧ x.kind ≤ 15) ∨ x.kind = 16
  · rw [if_pos h1]
    exact kids34_expr h hb h1 (expr47_all h hb hK h1)
  · rw [if_neg h1]
    by_cases h2 : 47 ≤ x.kind ∧ x.kind ≤ 56
    · rw [if_pos h2]
      exact kids34_stmt h hb h2 (stmt48_all h hb hK h2)
    · rw [if_neg h2]
      exact kids34_decl h hb (fun hq => h1 (.inl hq)) (fun hq => h1 (.inr hq)) h2 (decl49_all h hb hK)
/-- May a node be? -/
def mayN : NdH → List Tr → Bool := mayF nameB typeB kidsF
theorem may_is : MayIs (fun x ks => smallN x ks && anyF x ks) mayN := may25 name41 type42 kids_is
end
end Go.Proofs.YtnnnfabpceapcaaDoor

namespace Go.Proofs.YtnnnfabpceapcaaDoor
set_option linter.unusedSimpArgs false
open Go.RowKit
set_option linter.unusedVariables false

/-- A node that may be, of a text that a machine holds. -/
def typedN (x : NdH) (ks : List Tr) : Bool := smallN x ks && decide (0 ≤ x.num ∧ x.num < 4294967296)
def goodN (x : NdH) (ks : List Tr) : Bool := mayN x ks && typedN x ks
theorem are0 {ks : List Tr} (h : areK [] ks = true) : ks = [] := by
  cases ks with
  | nil => rfl
  | cons t r => cases h
theorem are1 {F : Ask} {ks : List Tr} (h : areK [F] ks = true) : ∃ t, ks = [t] := by
  cases ks with
  | nil => cases h
  | cons t r =>
    simp only [areK, Bool.and_eq_true] at h
    rw [are0 h.2]
    exact ⟨t, rfl⟩
theorem are2 {F1 F2 : Ask} {ks : List Tr} (h : areK [F1, F2] ks = true) : ∃ t u, ks = [t, u] := by
  cases ks with
  | nil => cases h
  | cons t r =>
    rw [areK, Bool.and_eq_true] at h
    obtain ⟨u, rfl⟩ := are1 h.2
    exact ⟨t, u, rfl⟩
theorem are3 {F1 F2 F3 : Ask} {ks : List Tr} (h : areK [F1, F2, F3] ks = true) : ∃ t u v, ks = [t, u, v] := by
  cases ks with
  | nil => cases h
  | cons t r =>
    rw [areK, Bool.and_eq_true] at h
    obtain ⟨u, v, rfl⟩ := are2 h.2
    exact ⟨t, u, v, rfl⟩
theorem are4 {F1 F2 F3 F4 : Ask} {ks : List Tr} (h : areK [F1, F2, F3, F4] ks = true) : ∃ t u v z, ks = [t, u, v, z] := by
  cases ks with
  | nil => cases h
  | cons t r =>
    rw [areK, Bool.and_eq_true] at h
    obtain ⟨u, v, z, rfl⟩ := are3 h.2
    exact ⟨t, u, v, z, rfl⟩
theorem good_small (x : NdH) (ks : List Tr) (h : goodN x ks = true) : x.str.size < 4611686018427387904 := by
  unfold goodN typedN smallN at h
  simp only [Bool.and_eq_true, decide_eq_true_eq] at h
  exact h.2.1
theorem lst_inj {s t : ByteArray} (h : lst s = lst t) : s = t := by
  cases s with | mk a => cases t with | mk c =>
  have : a = c := Array.toList_inj.mp h
  rw [this]
theorem split_all {w0 : World} (ht : TabOk w0) : SplitIs w0 goodN qtL := fun A sb T w b o x kv n cb ks J hG => by
  have hx := good_small x ks hG
  unfold goodN typedN mayN mayF at hG
  simp only [Bool.and_eq_true, decide_eq_true_eq] at hG
  obtain ⟨⟨_, hnum, hflag, hkid⟩, _, hn0, hn1⟩ := hG
  unfold kidsF at hkid
  by_cases hE : 1 ≤ x.kind ∧ x.kind ≤ 15
  · rw [if_pos (.inl hE)] at hkid
    refine split_expr J hE ?_
    unfold exprF at hkid
    have : x.kind = 1 ∨ x.kind = 2 ∨ x.kind = 3 ∨ x.kind = 4 ∨ x.kind = 5 ∨ x.kind = 6 ∨ x.kind = 7 ∨ x.kind = 8 ∨ x.kind = 9 ∨ x.kind = 10 ∨ x.kind = 11 ∨ x.kind = 12 ∨ x.kind = 13 ∨ x.kind = 14 ∨ x.kind = 15 := by omega
    rcases this with e | e | e | e | e | e | e | e | e | e | e | e | e | e | e
    · exact num36w (k := x.num.toNat) (fmt_at (ht.below J.hw) _ (by omega)) (by omega) (by omega) J e
    · have h2 : x.num ≤ 255 := by
        unfold numF at hnum
        rw [if_neg (by omega), if_pos e] at hnum
        exact of_decide_eq_true hnum
      exact char36 (v := x.num.toNat) (by omega) (by omega) J e
    · exact str36 J e
    · exact name36 good_small J e
    · rw [if_neg (by omega), if_pos (by omega)] at hkid
      obtain ⟨t, u, rfl⟩ := are2 hkid
      exact index36 good_small J e
    · rw [if_neg (by omega), if_neg (by omega), if_pos (by omega)] at hkid
      obtain ⟨t, rfl⟩ := are1 hkid
      exact field36 good_small J e
    · rw [if_neg (by omega), if_neg (by omega), if_pos (by omega)] at hkid
      obtain ⟨t, rfl⟩ := are1 hkid
      exact arrow36 good_small J e
    · exact call36 good_small J e
    · rw [if_neg (by omega), if_neg (by omega), if_pos (by omega)] at hkid
      obtain ⟨t, rfl⟩ := are1 hkid
      refine op36 J (by omega) ?_
      by_cases h9 : (hdT t).kind = 9
      · by_cases hs : (hdT t).str = x.str
        · exact unary57_y good_small J e (fun x0 ks0 q => by rw [q, hdT_node] at h9 hs; exact ⟨h9, hs⟩)
        · exact unary57_n2 good_small J e (fun x0 ks0 q => by
            rw [q, hdT_node] at h9 hs
            refine ⟨h9, ?_⟩
            rw [lst_eq, lst_eq]
            exact beq_false_of_ne (fun q => hs (lst_inj q)))
      · exact unary57_n1 good_small J e (fun x0 ks0 q => by rw [q, hdT_node] at h9; exact h9)
    · rw [if_neg (by omega), if_pos (by omega)] at hkid
      obtain ⟨t, u, rfl⟩ := are2 hkid
      exact op36 J (by omega) (bin57_10 good_small J hx e)
    · rw [if_neg (by omega), if_pos (by omega)] at hkid
      obtain ⟨t, u, rfl⟩ := are2 hkid
      exact op36 J (by omega) (bin57_11 good_small J hx e)
    · rw [if_neg (by omega), if_neg (by omega), if_neg (by omega), if_neg (by omega), if_pos e] at hkid
      obtain ⟨t, u, v, rfl⟩ := are3 hkid
      exact op36 J (by omega) (cond57 good_small J e)
    · rw [if_neg (by omega), if_neg (by omega), if_neg (by omega), if_neg (by omega), if_neg (by omega), if_pos e] at hkid
      obtain ⟨t, u, rfl⟩ := are2 hkid
      exact op36 J (by omega) (assign57 good_small J e)
    · rw [if_neg (by omega), if_neg (by omega), if_neg (by omega), if_neg (by omega), if_neg (by omega), if_neg (by omega), if_pos e] at hkid
      obtain ⟨t, u, rfl⟩ := are2 hkid
      exact op36 J (by omega) (cast57 good_small J e)
    · rw [if_neg (by omega), if_neg (by omega), if_neg (by omega), if_neg (by omega), if_neg (by omega), if_neg (by omega), if_neg (by omega)] at hkid
      obtain ⟨t, rfl⟩ := are1 hkid
      refine op36 J (by omega) ?_
      by_cases h16 : (hdT t).kind = 16
      · exact sizeof57_t good_small J e (fun x0 ks0 q => by rw [q, hdT_node] at h16; exact h16)
      · by_cases h14 : (hdT t).kind = 14
        · exact sizeof57_c good_small J e (fun x0 ks0 q => by rw [q, hdT_node] at h14; exact h14)
        · exact sizeof57_o good_small J e (fun x0 ks0 q => by rw [q, hdT_node] at h14 h16; exact ⟨h16, h14⟩)
  by_cases hS : 47 ≤ x.kind ∧ x.kind ≤ 56
  · rw [if_neg (by omega), if_pos hS] at hkid
    refine split_stmt J hS ?_
    unfold stmtF at hkid
    have : x.kind = 47 ∨ x.kind = 48 ∨ x.kind = 49 ∨ x.kind = 50 ∨ x.kind = 51 ∨ x.kind = 52 ∨ x.kind = 53 ∨ x.kind = 54 ∨ x.kind = 55 ∨ x.kind = 56 := by omega
    rcases this with e | e | e | e | e | e | e | e | e | e
    · exact block38 good_small J e
    · rw [if_neg (by omega), if_pos e] at hkid
      obtain ⟨t, rfl⟩ := are1 hkid
      exact eval38 good_small J e
    · rw [if_neg (by omega), if_neg (by omega), if_pos e, Bool.or_eq_true] at hkid
      rcases hkid with hkid | hkid
      · obtain ⟨t, u, rfl⟩ := are2 hkid
        exact if38_2 good_small J e
      · obtain ⟨t, u, v, rfl⟩ := are3 hkid
        exact if38_3 good_small J e
    · rw [if_neg (by omega), if_neg (by omega), if_neg (by omega), if_pos e] at hkid
      obtain ⟨t, u, rfl⟩ := are2 hkid
      exact while38 good_small J e
    · rw [if_neg (by omega), if_neg (by omega), if_neg (by omega), if_neg (by omega), if_pos e] at hkid
      obtain ⟨t, u, rfl⟩ := are2 hkid
      exact do38 good_small J e
    · rw [if_neg (by omega), if_neg (by omega), if_neg (by omega), if_neg (by omega), if_neg (by omega), if_pos e] at hkid
      obtain ⟨t, u, v, z, rfl⟩ := are4 hkid
      exact for38 J e (loop59 good_small J e)
    · exact break38 good_small J e
    · exact continue38 good_small J e
    · rw [if_neg (by omega), if_neg (by omega), if_neg (by omega), if_neg (by omega), if_neg (by omega), if_neg (by omega), if_pos e, Bool.or_eq_true] at hkid
      rcases hkid with hkid | hkid
      · exact return38_0 good_small J e (are0 hkid)
      · obtain ⟨t, rfl⟩ := are1 hkid
        exact return38_1 good_small J e
    · exact none38 good_small J e
  refine split_decl J hE hS ?_
  by_cases k16 : x.kind = 16
  · exact type39 J k16
  rw [if_neg (by omega), if_neg hS] at hkid
  unfold declF at hkid
  by_cases k40 : x.kind = 40
  · exact prog39 J k40
  rw [if_neg k40] at hkid
  by_cases k41 : x.kind = 41
  · exact struct39 good_small J k41
  rw [if_neg k41] at hkid
  by_cases k42 : x.kind = 42
  · rw [if_pos k42] at hkid
    match ks, J, hkid with
    | [], _, h => cases h
    | [t], _, h => cases h
    | t0 :: t1 :: r, J, _ => exact vars39 J (by simp) k42
  rw [if_neg k42] at hkid
  by_cases k43 : x.kind = 43
  · rw [if_pos k43] at hkid
    refine var39_any J k43 ?_
    by_cases hf : x.flag = true
    · rw [if_pos hf, Bool.or_eq_true] at hkid
      rcases hkid with hkid | hkid
      · obtain ⟨t, rfl⟩ := are1 hkid
        exact var60_f1 good_small J k43 hf
      · obtain ⟨t, u, rfl⟩ := are2 hkid
        exact var60_f2 good_small J k43 hf
    · exact var60 J k43 (by simpa using hf)
  rw [if_neg k43] at hkid
  by_cases k44 : x.kind = 44
  · exact list39 good_small J k44
  rw [if_neg k44] at hkid
  by_cases k45 : x.kind = 45
  · rw [if_pos k45] at hkid
    match ks, J, hkid with
    | [], _, h => cases h
    | [t], _, h => cases h
    | t0 :: t1 :: r, J, _ => exact func39 good_small J k45
  rw [if_neg k45] at hkid
  by_cases k46 : x.kind = 46
  · rw [if_pos k46] at hkid
    obtain ⟨t, rfl⟩ := are1 hkid
    refine param39 J k46 ?_
    by_cases h1 : x.num = 1
    · cases hf : x.flag with
      | true => exact param61_1_true good_small J k46 hf h1
      | false => exact param61_1_false good_small J k46 hf h1
    · have h1' : (x.num == 1) = false := beq_false_of_ne h1
      cases hf : x.flag with
      | true => exact param61_0_true good_small J k46 hf h1 h1'
      | false => exact param61_0_false good_small J k46 hf h1 h1'
  rw [if_neg k46] at hkid
  cases hkid
theorem allT_imp {F K : NdH → List Tr → Bool} (h : ∀ x ks, F x ks = true → K x ks = true) : ∀ (m : Nat) (t : Tr), szT t ≤ m → isT t = true → allT F t = true → allT K t = true
  | 0, t, hm, _, _ => by have := szT_pos t; omega
  | m + 1, t, hm, ht, ha => by
    obtain ⟨x, ks, rfl⟩ := isT_form ht
    rw [allT_node, Bool.and_eq_true] at ha ⊢
    rw [isT_node] at ht
    rw [szT_node] at hm
    refine ⟨h _ _ ha.1, ?_⟩
    unfold allL at ha ⊢
    simp only [List.all_map, List.all_eq_true] at ha ⊢
    exact fun u hu => allT_imp h m u (by have := sz_mem hu; omega) (isL_mem ht u hu) (ha.2 u hu)
theorem allT_both {F K : NdH → List Tr → Bool} : ∀ (m : Nat) (t : Tr), szT t ≤ m → isT t = true → allT F t = true → allT K t = true → allT (fun x ks => F x ks && K x ks) t = true
  | 0, t, hm, _, _, _ => by have := szT_pos t; omega
  | m + 1, t, hm, ht, ha, hb => by
    obtain ⟨x, ks, rfl⟩ := isT_form ht
    rw [allT_node, Bool.and_eq_true] at ha hb ⊢
    rw [isT_node] at ht
    rw [szT_node] at hm
    refine ⟨by rw [ha.1, hb.1]; rfl, ?_⟩
    unfold allL at ha hb ⊢
    simp only [List.all_map, List.all_eq_true] at ha hb ⊢
    exact fun u hu => allT_both m u (by have := sz_mem hu; omega) (isL_mem ht u hu) (ha.2 u hu) (hb.2 u hu)
/-- Print, of any tree. -/
theorem print_all {w : World} {x : NdH} {kv : Value} {n cb : Nat} {ks : List Tr} (ht : TabOk w) (hg : allT typedN (Tr.node x ks) = true) (hK : Ks cb n w kv ks) :
    Calls Tryd.prog 14 #[ndV x kv] w fun e w' => e = .returned (printV (chkF mayN x ks) (spellT qtL (Tr.node x ks))) ∧ Below w.heap.size w w' :=
  have hi : isT (Tr.node x ks) = true := by rw [isT_node]; exact hK.isL
  print14 may_is (fun W hb => split_all (ht.below hb)) (allT_imp (fun x ks h => by unfold typedN at h; rw [Bool.and_eq_true] at h; rw [h.1]; rfl) _ _ (Nat.le_refl _) hi hg) (fun hm => allT_both _ _ (Nat.le_refl _) hi hm hg) hK
end Go.Proofs.YtnnnfabpceapcaaDoor

namespace Go.Proofs.YtnnnfabpceapcaaDoor
set_option linter.unusedSimpArgs false
open Go.RowKit
set_option linter.unusedVariables false

/-- Rows alike but for places. -/
def Al (a b : List Tr) : Prop := isL a = true ∧ isL b = true ∧ sameL a b = true
/-- Trees alike but for places. -/
def Sm (t u : Tr) : Prop := isT t = true ∧ isT u = true ∧ sameT t u = true
theorem Al.length {a b : List Tr} (h : Al a b) : a.length = b.length := by
  cases Nat.decEq a.length b.length with
  | isTrue e => exact e
  | isFalse e => rw [Al, sameL_len a b e] at h; exact absurd h.2.2 (by simp)
theorem Al.cons {t u : Tr} {r s : List Tr} (h : Al (t :: r) (u :: s)) : Sm t u ∧ Al r s := by
  obtain ⟨h1, h2, h3⟩ := h
  rw [isL_cons, Bool.and_eq_true] at h1 h2
  rw [sameL_cons, Bool.and_eq_true] at h3
  exact ⟨⟨h1.1, h2.1, h3.1⟩, h1.2, h2.2, h3.2⟩
theorem Sm.parts {t u : Tr} (h : Sm t u) : ∃ k s m f p q ks ls, t = Tr.node ⟨k, s, m, f, p⟩ ks ∧ u = Tr.node ⟨k, s, m, f, q⟩ ls ∧ Al ks ls := by
  obtain ⟨h1, h2, h3⟩ := h
  obtain ⟨x, ks, rfl⟩ := isT_form h1
  obtain ⟨y, ls, rfl⟩ := isT_form h2
  rw [sameT_node, Bool.and_eq_true] at h3
  rw [isT_node] at h1 h2
  obtain ⟨k, s, m, f, p⟩ := x
  obtain ⟨k', s', m', f', q⟩ := y
  have he := h3.1
  unfold eqN at he
  simp only [Bool.and_eq_true, decide_eq_true_eq, beq_iff_eq] at he
  obtain ⟨rfl, e2, rfl, rfl⟩ := he
  rw [lst_eq, lst_eq] at e2
  obtain rfl := lst_inj e2
  exact ⟨k, s, m, f, p, q, ks, ls, rfl, rfl, h1, h2, h3.2⟩
theorem Al.rows {P : Tr → Tr → Prop} (Q : List Tr → List Tr → Prop) (h0 : Q [] []) (h1 : ∀ t u r s, Sm t u → P t u → Q r s → Q (t :: r) (u :: s)) : ∀ {a b : List Tr}, Al a b → (∀ t ∈ a, ∀ u, Sm t u → P t u) → Q a b
  | [], [], _, _ => h0
  | [], _ :: _, h, _ => by have := h.length; simp at this
  | _ :: _, [], h, _ => by have := h.length; simp at this
  | t :: r, u :: s, h, hp => h1 t u r s h.cons.1 (hp t (by simp) u h.cons.1) (Al.rows Q h0 h1 h.cons.2 fun t' ht' => hp t' (by simp [ht']))
/-- A function of trees that sees no place. -/
theorem blind_ind {α : Type} (f : Tr → α) (hf : ∀ k s m fl p q ks ls, Al ks ls → ks.map f = ls.map f → f (Tr.node ⟨k, s, m, fl, p⟩ ks) = f (Tr.node ⟨k, s, m, fl, q⟩ ls)) : ∀ (n : Nat) (t u : Tr), szT t ≤ n → Sm t u → f t = f u
  | 0, t, u, hn, _ => by have := szT_pos t; omega
  | n + 1, t, u, hn, h => by
    obtain ⟨k, s, m, fl, p, q, ks, ls, rfl, rfl, ha⟩ := h.parts
    rw [szT_node] at hn
    exact hf _ _ _ _ _ _ _ _ ha (ha.rows (P := fun t u => f t = f u) (fun a b => a.map f = b.map f) rfl (fun t u r s _ e1 e2 => by rw [List.map_cons, List.map_cons, e1, e2]) (fun t ht u hu => blind_ind f hf n t u (by have := sz_mem ht; omega) hu))
theorem sm_open {t u : Tr} (h : Sm t u) : openT t = openT u :=
  blind_ind openT (fun k s m fl p q ks ls ha e => by rw [openT_node, openT_node, e, ha.length]) _ _ _ (Nat.le_refl _) h
theorem sm_dp {t u : Tr} (h : Sm t u) : dpT t = dpT u :=
  blind_ind dpT (fun k s m fl p q ks ls ha e => by rw [dpT_node, dpT_node]; unfold dpL; rw [e]) _ _ _ (Nat.le_refl _) h
theorem sm_sz {t u : Tr} (h : Sm t u) : szT t = szT u := same_sz _ _ _ (Nat.le_refl _) h.1 h.2.1 h.2.2
/-- An ask that sees no place. -/
def BlindK (F : Ask) : Prop := ∀ k s m f p q ks ls, Al ks ls → F ⟨k, s, m, f, p⟩ ks = F ⟨k, s, m, f, q⟩ ls
theorem on_blind {F : Ask} (hF : BlindK F) {t u : Tr} (h : Sm t u) : onT F t = onT F u := by
  obtain ⟨k, s, m, f, p, q, ks, ls, rfl, rfl, ha⟩ := h.parts
  rw [onT_node, onT_node]
  exact hF _ _ _ _ _ _ _ _ ha
theorem all_blind {F : Ask} (hF : BlindK F) {a b : List Tr} (h : Al a b) : allK F a = allK F b :=
  h.rows (P := fun t u => onT F t = onT F u) (fun a b => allK F a = allK F b) rfl (fun t u r s _ e1 e2 => by
    show (onT F t && allK F r) = (onT F u && allK F s)
    rw [e1, e2]) (fun t _ u hu => on_blind hF hu)
theorem are_blind : ∀ {Fs : List Ask} {a b : List Tr}, (∀ F ∈ Fs, BlindK F) → Al a b → areK Fs a = areK Fs b
  | [], [], [], _, _ => rfl
  | [], [], _ :: _, _, h => by have := h.length; simp at this
  | [], _ :: _, [], _, h => by have := h.length; simp at this
  | [], _ :: _, _ :: _, _, _ => rfl
  | _ :: _, [], [], _, _ => rfl
  | _ :: _, [], _ :: _, _, h => by have := h.length; simp at this
  | _ :: _, _ :: _, [], _, h => by have := h.length; simp at this
  | F :: Fs, t :: r, u :: s, hF, h => by
    rw [areK, areK, on_blind (hF F (by simp)) h.cons.1, are_blind (fun G hG => hF G (by simp [hG])) h.cons.2]
theorem b_expr : BlindK isExpr := fun _ _ _ _ _ _ _ _ _ => rfl
theorem b_stmt : BlindK isStmt := fun _ _ _ _ _ _ _ _ _ => rfl
theorem b_of (l : List Int) : BlindK (ofK l) := fun _ _ _ _ _ _ _ _ _ => rfl
theorem b_or : ∀ {L : List Ask}, (∀ F ∈ L, BlindK F) → BlindK (orK L)
  | [], _ => fun _ _ _ _ _ _ _ _ _ => rfl
  | F :: L, h => fun k s m f p q ks ls ha => by
    rw [orK_cons, orK_cons, h F (by simp) k s m f p q ks ls ha, b_or (fun G hG => h G (by simp [hG])) k s m f p q ks ls ha]
theorem Al.sm {a b : List Tr} (h : Al a b) {k s m f p q} : Sm (Tr.node ⟨k, s, m, f, p⟩ a) (Tr.node ⟨k, s, m, f, q⟩ b) := by
  refine ⟨by rw [isT_node]; exact h.1, by rw [isT_node]; exact h.2.1, ?_⟩
  rw [sameT_node, h.2.2]
  unfold eqN
  simp
theorem b_closed : BlindK closedK := fun k s m f p q ks ls ha => by
  unfold closedK openK
  rw [sm_open (ha.sm (k := k) (s := s) (m := m) (f := f) (p := p) (q := q))]
  rfl
theorem b_bareV : BlindK bareV := fun k s m f p q ks ls ha => by
  have hE : ks.isEmpty = ls.isEmpty := by
    have := ha.length
    cases ks <;> cases ls <;> simp at this ⊢
  unfold bareV
  rw [ha.length, hE]
theorem b_bare : BlindK bareK := fun k s m f p q ks ls ha => by
  unfold bareK
  rw [all_blind b_bareV ha]
theorem Al.take : ∀ {a b : List Tr} (k : Nat), Al a b → Al (a.take k) (b.take k)
  | [], [], k, h => by simpa using h
  | [], _ :: _, _, h => by have := h.length; simp at this
  | _ :: _, [], _, h => by have := h.length; simp at this
  | t :: r, u :: s, 0, h => ⟨rfl, rfl, rfl⟩
  | t :: r, u :: s, k + 1, h => by
    have h1 := h.cons
    have h2 := Al.take k h1.2
    obtain ⟨⟨a1, a2, a3⟩, b1, b2, b3⟩ := (⟨h1.1, h2⟩ : Sm t u ∧ _)
    rw [List.take_succ_cons, List.take_succ_cons]
    exact ⟨by rw [isL_cons, a1, b1]; rfl, by rw [isL_cons, a2, b2]; rfl, by rw [sameL_cons, a3, b3]; rfl⟩
theorem Al.at : ∀ {a b : List Tr} (h : Al a b) (i : Nat) (hi : i < a.length) (hj : i < b.length), Sm a[i] b[i]
  | [], [], _, i, hi, _ => by simp at hi
  | [], _ :: _, h, _, _, _ => by have := h.length; simp at this
  | _ :: _, [], h, _, _, _ => by have := h.length; simp at this
  | t :: r, u :: s, h, 0, _, _ => h.cons.1
  | t :: r, u :: s, h, i + 1, hi, hj => Al.at h.cons.2 i (by simpa using hi) (by simpa using hj)
theorem mem2 {F1 F2 F : Ask} {P : Ask → Prop} (h1 : P F1) (h2 : P F2) (h : F ∈ [F1, F2]) : P F := by simp at h; rcases h with rfl | rfl <;> assumption
theorem b_kids : BlindK kidsF := fun k s m f p q ks ls ha => by
  have e := b_expr
  have st := b_stmt
  have o16 := b_of [16]
  have o56 := b_of [56]
  have ex56 : BlindK (orK [isExpr, ofK [56]]) := b_or fun F h => mem2 e o56 h
  have ex44 : BlindK (orK [isExpr, ofK [44]]) := b_or fun F h => mem2 e (b_of [44]) h
  have ty : BlindK (orK [ofK [16], isExpr]) := b_or fun F h => mem2 o16 e h
  have bl : BlindK (orK [isStmt, ofK [42]]) := b_or fun F h => mem2 st (b_of [42]) h
  have r0 : areK [] ks = areK [] ls := are_blind (fun F h => by simp at h) ha
  have r1 : ∀ {F : Ask}, BlindK F → areK [F] ks = areK [F] ls := fun h1 => are_blind (fun F h => by simp at h; subst h; exact h1) ha
  have r2 : ∀ {F G : Ask}, BlindK F → BlindK G → areK [F, G] ks = areK [F, G] ls := fun h1 h2 => are_blind (fun F h => mem2 h1 h2 h) ha
  have r3 : ∀ {F G H : Ask}, BlindK F → BlindK G → BlindK H → areK [F, G, H] ks = areK [F, G, H] ls := fun h1 h2 h3 => are_blind (fun F h => by simp at h; rcases h with rfl | rfl | rfl <;> assumption) ha
  have r4 : ∀ {F G H I : Ask}, BlindK F → BlindK G → BlindK H → BlindK I → areK [F, G, H, I] ks = areK [F, G, H, I] ls := fun h1 h2 h3 h4 => are_blind (fun F h => by simp at h; rcases h with rfl | rfl | rfl | rfl <;> assumption) ha
  have hvars : varsF ks = varsF ls := by
    have hl := ha.length
    match ks, ls, ha with
    | [], [], _ => rfl
    | [t], [u], _ => rfl
    | t0 :: t1 :: r, u0 :: u1 :: s, ha =>
      show (onT _ t0 && allK _ (t1 :: r)) = (onT _ u0 && allK _ (u1 :: s))
      rw [on_blind o16 ha.cons.1, all_blind (b_of [43]) ha.cons.2]
    | [], _ :: _, _ => simp at hl
    | _ :: _, [], _ => simp at hl
    | [_], _ :: _ :: _, _ => simp at hl
    | _ :: _ :: _, [_], _ => simp at hl
  have hfunc : funcF ks = funcF ls := by
    have hl := ha.length
    match ks, ls, ha with
    | [], [], _ => rfl
    | [t], [u], _ => rfl
    | t0 :: t1 :: r, u0 :: u1 :: s, ha =>
      have hrs : r.length = s.length := by simpa using hl
      simp only [funcF]
      rw [on_blind o16 ha.cons.1, all_blind (b_of [46]) (ha.cons.2.take r.length), on_blind (b_of [47]) (ha.cons.2.at r.length (by simp) (by simp [hrs]))]
      simp only [hrs]
    | [], _ :: _, _ => simp at hl
    | _ :: _, [], _ => simp at hl
    | [_], _ :: _ :: _, _ => simp at hl
    | _ :: _ :: _, [_], _ => simp at hl
  unfold kidsF exprF stmtF declF
  simp only
  rw [r0, r2 e e, r1 e, all_blind e ha, r3 e e e, r2 (b_of [4, 5, 6, 7]) e, r2 o16 e, r1 ty, all_blind bl ha, r2 e st, r3 e b_closed st, r2 st e, r4 ex56 ex56 ex56 st, all_blind (b_of [41, 42, 45]) ha, all_blind b_bare ha, hvars, r1 ex56, r2 ex56 ex44, ha.length, hfunc, r1 o16]
theorem b_may : BlindK mayN := fun k s m f p q ks ls ha => by
  unfold mayN mayF
  rw [b_kids k s m f p q ks ls ha]
  rfl
theorem sm_all {F : Ask} (hF : BlindK F) {t u : Tr} (h : Sm t u) : allT F t = allT F u :=
  blind_ind (allT F) (fun k s m fl p q ks ls ha e => by rw [allT_node, allT_node, hF k s m fl p q ks ls ha]; unfold allL; rw [e]) _ _ _ (Nat.le_refl _) h
theorem Al.hd : ∀ {a b : List Tr} (h : Al a b) (i : Nat), (hdT (a.getD i noT)).kind = (hdT (b.getD i noT)).kind ∧ (hdT (a.getD i noT)).str = (hdT (b.getD i noT)).str
  | [], [], _, i => by simp
  | [], _ :: _, h, _ => by have := h.length; simp at this
  | _ :: _, [], h, _ => by have := h.length; simp at this
  | t :: r, u :: s, h, 0 => by
    obtain ⟨k, s', m, f, p, q, ks, ls, rfl, rfl, ha⟩ := h.cons.1.parts
    exact ⟨rfl, rfl⟩
  | t :: r, u :: s, h, i + 1 => Al.hd h.cons.2 i
theorem lvl_eq {x y : NdH} (h1 : x.kind = y.kind) (h2 : x.str = y.str) : lvl x = lvl y := by unfold lvl; rw [h1, h2]
theorem sm_spell (qt : List UInt8 → List UInt8) {t u : Tr} (h : Sm t u) : spellT qt t = spellT qt u :=
  blind_ind (spellT qt) (fun k s m fl p q ks ls ha e => by
    rw [spellT_node, spellT_node, e]
    have hk := fun i => (ha.hd i).1
    have hs := fun i => (ha.hd i).2
    have hl := fun i => lvl_eq (hk i) (hs i)
    unfold spellN atL perL
    simp only [hk, hs, hl]
    rfl) _ _ _ (Nat.le_refl _) h
theorem sm_chk {k s m f p q} {ks ls : List Tr} (ha : Al ks ls) : chkF mayN ⟨k, s, m, f, p⟩ ks = chkF mayN ⟨k, s, m, f, q⟩ ls := by
  unfold chkF
  rw [sm_sz (ha.sm (k := k) (s := s) (m := m) (f := f) (p := p) (q := q)), sm_all b_may (ha.sm (k := k) (s := s) (m := m) (f := f) (p := p) (q := q))]
end Go.Proofs.YtnnnfabpceapcaaDoor
