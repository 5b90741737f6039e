/- The speller: functions. -/
import Derived.Test.YtnnnfabpceapcaaGreatDoorSpA
import Derived.Test.YtnnnfabpceapcaaGreatDoorKids9e
import Derived.Test.YtnnnfabpceapcaaGreatDoorKids3
import Derived.Test.YtnnnfabpceapcaaGreatDoorKids4
import Derived.Test.YtnnnfabpceapcaaGreatDoorKidsE
import Derived.Test.YtnnnfabpceapcaaGreatDoorKidsS1
import Derived.Test.YtnnnfabpceapcaaGreatDoorKidsS2
import Derived.Test.YtnnnfabpceapcaaGreatDoorKidsD1
import Derived.Test.YtnnnfabpceapcaaGreatDoorKids9c
import Derived.Test.YtnnnfabpceapcaaGreatDoorKids9f
import Derived.Test.YtnnnfabpceapcaaGreatDoorFmtNum
import Derived.Test.YtnnnfabpceapcaaGreatDoorSpellP
import Derived.Test.YtnnnfabpceapcaaGreatDoorSpBCD
import Derived.Test.YtnnnfabpceapcaaGreatDoorQuoteChr
import Derived.Test.YtnnnfabpceapcaaGreatDoorSameL
namespace Go.Proofs.YtnnnfabpceapcaaGreatDoor
set_option linter.unusedSimpArgs false
open Go.RowKit
set_option linter.unusedVariables false
section
variable {G : NdH → List Tr → Bool} {qt : List UInt8 → List UInt8} {A : Nat → Prop} {sb : Nat} {T : List Pc} {w w0 : World} {b o : Nat} {x : NdH} {kv : Value} {n cb : Nat} {ks : List Tr}
theorem allL_take {l : List Tr} (h : allL G l = true) (k : Nat) : allL G (l.take k) = true := by
  have := allL_append G (l.take k) (l.drop k)
  rw [List.take_append_drop, h] at this
  have h2 := this.symm
  rw [Bool.and_eq_true] at h2
  exact h2.1
theorem wtL_split (l : List Tr) (hl : 0 < l.length) : wtL (l.take (l.length - 1)) + wtT (l[l.length - 1]'(by omega)) + 1 = wtL l := by
  have h1 := take_next l (l.length - 1) (by omega)
  have e : l.length - 1 + 1 = l.length := by omega
  rw [e, List.take_length] at h1
  have h2 := congrArg wtL h1
  rw [wtL_append] at h2
  have h3 : wtL [l[l.length - 1]'(by omega)] = wtT (l[l.length - 1]'(by omega)) + 1 := by show wtT _ + 1 + 0 = _; omega
  omega
set_option maxHeartbeats 4000000 in
theorem func39 {t0 t1 : Tr} {r : List Tr} (hg : ∀ x ks, G x ks = true → x.str.size < 4611686018427387904) (J : Job G A sb T w0 w b o x kv n cb (t0 :: t1 :: r)) (hk : x.kind = 45) : Calls Tryz.prog 57 #[.pointer (some ⟨sb, 0, none⟩), .pointer (some ⟨b, o, none⟩)] w (Spelt G qt A sb T w0 w x (t0 :: t1 :: r)) := by
  have hL := wtL_le (t0 :: t1 :: r)
  rw [wtL_cons] at hL
  have hT := J.hT
  have hB : Hid (∀ {L n W}, St G (spellT qt) w0 A sb T w L n W → NdAt W b o x kv ∧ b < W.heap.size) := fun h => ⟨J.hat.below (h.bel J.hw J.hA) J.hb, Nat.lt_of_lt_of_le J.hb (h.bel J.hw J.hA).size⟩
  obtain ⟨c0, c1, _, _, c4, _⟩ := J.hat.below J.hw J.hb
  have hbw := Nat.lt_of_lt_of_le J.hb J.hw.size
  have s0 := St.start (G := G) (sp := spellT qt) (w0 := w0) J.sp
  have HK := hid' J.hK
  obtain ⟨hkl, ao, cap, rfl⟩ := J.hK.shape
  have hroom := HK.out.room (by simp)
  obtain ⟨m0, b0, off, x0, kv0, ks0, _, rfl, ⟨hb0, _⟩, e0, hat0, hK0⟩ := HK.out.kid 0 (by simp)
  simp at e0 hat0
  subst e0
  obtain ⟨ml, bl, offl, xl, kvl, ksl, _, eal, ⟨hbl, _⟩, el, hatl, hKl⟩ := HK.out.kid (r.length + 1) (by simp)
  injection eal with eal
  injection eal with eb ec
  subst eb ec
  have el' : (t1 :: r)[r.length]'(by simp) = Tr.node xl ksl := el
  have HKm := hid' (HK.out.tail.take r.length (by simp))
  have hGs := J.hG
  rw [allL_cons, Bool.and_eq_true] at hGs
  have gm := hid' (allL_take hGs.2 r.length)
  have gl : allT G (Tr.node xl ksl) = true := by rw [← el']; exact allL_get hGs.2 r.length (by simp)
  have zl : G xl ksl = true := by rw [allT_node, Bool.and_eq_true] at gl; exact gl.1
  have z0 : G x0 ks0 = true := by have := hGs.1; rw [allT_node, Bool.and_eq_true] at this; exact this.1
  have K0 : Hid (Kid G w0 b0 off x0 kv0 m0 cb ks0) := ⟨hat0, hb0, hK0, hGs.1, hg _ _ z0⟩
  have Kl : Hid (Kid G w0 b0 (off + (r.length + 1) * 6) xl kvl ml cb ksl) := ⟨hatl, hbl, hKl, gl, hg _ _ zl⟩
  have hsp := wtL_split (t1 :: r) (by simp)
  simp only [List.length_cons, Nat.add_sub_cancel] at hsp
  rw [el'] at hsp
  have hF : Hid ([] ++ spellT qt (Tr.node x0 ks0) ++ (List.map lst [⟨#[32]⟩, x.str, ⟨#[40]⟩]).flatten ++ joinL (lst ⟨#[44, 32]⟩) (((t1 :: r).take r.length).map (spellT qt)) ++ (List.map lst [⟨#[41, 32]⟩]).flatten ++ spellT qt (Tr.node xl ksl) = spellN qt x (Tr.node x0 ks0 :: t1 :: r) ((Tr.node x0 ks0 :: t1 :: r).map (spellT qt))) := by
    unfold Hid spellN
    have ez : ((Tr.node x0 ks0 :: t1 :: r).map (spellT qt)).getD (((Tr.node x0 ks0 :: t1 :: r).map (spellT qt)).length - 1) [] = spellT qt (Tr.node xl ksl) := by
      rw [← el']
      simp [List.getD_eq_getElem?_getD]
      exact List.getElem_map (spellT qt) (l := t1 :: r) (i := r.length) (h := by simp)
    simp only [hk]
    rw [ez]
    simp [lst, List.map_take]
  have hn : Hid (0 + wtT (Tr.node x0 ks0) + [(⟨#[32]⟩ : ByteArray), x.str, ⟨#[40]⟩].length + wtL ((t1 :: r).take r.length) + [(⟨#[41, 32]⟩ : ByteArray)].length + wtT (Tr.node xl ksl) ≤ 19 + 23 * szL (Tr.node x0 ks0 :: t1 :: r)) := by
    unfold Hid
    simp only [List.length_cons, List.length_nil]
    omega
  simp at hkl hroom
  rw [hk] at c0
  have hmid : wtL ((t1 :: r).take r.length) + wtT (Tr.node xl ksl) ≤ wtL (t1 :: r) := by omega
  clear el el' hsp
  go_enter Tryz.func57, Tryz.ntmps57
  go_wp2_with (first
    | (go_at_call 84; refine (Kl.out.put s4.out (by simp only [List.length_cons, List.length_nil]; omega)).mono ?_; rintro e w5 ⟨rfl, s5⟩)
    | (go_at_call 79; refine (say_st [⟨#[41, 32]⟩] s3.out (by simp only [List.length_cons, List.length_nil]; omega) _ _ rfl rfl).mono ?_; rintro e w4 ⟨rfl, s4⟩)
    | (go_at_call 85; refine (list_st ⟨#[44, 32]⟩ J.hw J.hA HKm.out gm.out s2.out (by simp only [List.length_cons, List.length_nil]; omega)).mono ?_; rintro e w3 ⟨rfl, s3⟩)
    | (go_at_call 79; refine (say_st [⟨#[32]⟩, x.str, ⟨#[40]⟩] s1.out (by simp; omega) _ _ rfl rfl).mono ?_; rintro e w2 ⟨rfl, s2⟩)
    | (go_at_call 84; refine (K0.out.put s0.out (by simp; omega)).mono ?_; rintro e w1 ⟨rfl, s1⟩; obtain ⟨⟨c0_0, c1_0, c2_0, c3_0, c4_0, c5_0⟩, l_0⟩ := hB.out s1.out))
  go_end0
  exact s5.out.laid hF.out hn.out
end
end Go.Proofs.YtnnnfabpceapcaaGreatDoor

namespace Go.Proofs.YtnnnfabpceapcaaGreatDoor
set_option linter.unusedSimpArgs false
open Go.RowKit
set_option linter.unusedVariables false

/-- What kids an expression, or a type, may have. -/
def exprF (x : NdH) (ks : List Tr) : Bool :=
  if x.kind = 1 ∨ x.kind = 2 ∨ x.kind = 3 ∨ x.kind = 4 ∨ x.kind = 16 then areK [] ks
  else if x.kind = 5 ∨ x.kind = 10 ∨ x.kind = 11 then areK [isExpr, isExpr] ks
  else if x.kind = 6 ∨ x.kind = 7 ∨ x.kind = 9 then areK [isExpr] ks
  else if x.kind = 8 then allK isExpr ks
  else if x.kind = 12 then areK [isExpr, isExpr, isExpr] ks
  else if x.kind = 13 then areK [ofK [4, 5, 6, 7], isExpr] ks
  else if x.kind = 14 then areK [ofK [16], isExpr] ks
  else areK [orK [ofK [16], isExpr]] ks
/-- What kids a statement may have. -/
def stmtF (x : NdH) (ks : List Tr) : Bool :=
  if x.kind = 47 then allK (orK [isStmt, ofK [42]]) ks
  else if x.kind = 48 then areK [isExpr] ks
  else if x.kind = 49 then areK [isExpr, isStmt] ks || areK [isExpr, closedK, isStmt] ks
  else if x.kind = 50 then areK [isExpr, isStmt] ks
  else if x.kind = 51 then areK [isStmt, isExpr] ks
  else if x.kind = 52 then areK [orK [isExpr, ofK [56]], orK [isExpr, ofK [56]], orK [isExpr, ofK [56]], isStmt] ks
  else if x.kind = 55 then areK [] ks || areK [isExpr] ks
  else areK [] ks
/-- The kids of a function, behind its type. -/
def funcF : List Tr → Bool
  | t0 :: t1 :: r => onT (ofK [16]) t0 && (allK (ofK [46]) ((t1 :: r).take r.length) && onT (ofK [47]) ((t1 :: r)[r.length]'(by simp)))
  | _ => false
def varsF : List Tr → Bool
  | t0 :: t1 :: r => onT (ofK [16]) t0 && allK (ofK [43]) (t1 :: r)
  | _ => false
/-- What kids a declaration may have. -/
def declF (x : NdH) (ks : List Tr) : Bool :=
  if x.kind = 40 then allK (ofK [41, 42, 45]) ks
  else if x.kind = 41 then allK bareK ks
  else if x.kind = 42 then varsF ks
  else if x.kind = 43 then (if x.flag then areK [orK [isExpr, ofK [56]]] ks || areK [orK [isExpr, ofK [56]], orK [isExpr, ofK [44]]] ks else areK [] ks || areK [isExpr] ks)
  else if x.kind = 44 then decide (1 ≤ ks.length) && allK isExpr ks
  else if x.kind = 45 then funcF ks
  else if x.kind = 46 then areK [ofK [16]] ks
  else false
def kidsF (x : NdH) (ks : List Tr) : Bool := if (1 ≤ x.kind ∧ x.kind ≤ 15) ∨ x.kind = 16 then exprF x ks else if 47 ≤ x.kind ∧ x.kind ≤ 56 then stmtF x ks else declF x ks

section
variable {w : World} {b o : Nat} {x : NdH} {kv : Value} {n cb : Nat} {ks : List Tr}
theorem expr47_all (h : NdAt w b o x kv) (hb : b < w.heap.size) (hK : Ks cb n w kv ks) (hk : (1 ≤ x.kind ∧ x.kind ≤ 15) ∨ x.kind = 16) :
    Calls Tryz.prog 45 #[.pointer (some ⟨b, o, none⟩)] w fun e w' => e = .returned (.bool (exprF x ks)) ∧ Below w.heap.size w w' := by
  unfold exprF
  have : x.kind = 1 ∨ x.kind = 2 ∨ x.kind = 3 ∨ x.kind = 4 ∨ x.kind = 5 ∨ x.kind = 6 ∨ x.kind = 7 ∨ x.kind = 8 ∨ x.kind = 9 ∨ x.kind = 10 ∨ x.kind = 11 ∨ x.kind = 12 ∨ x.kind = 13 ∨ x.kind = 14 ∨ x.kind = 15 ∨ x.kind = 16 := by omega
  rcases this with e | e | e | e | e | e | e | e | e | e | e | e | e | e | e | e
  · have q := expr47 h hb hK (.inl e); simp only [e] at *; exact q
  · have q := expr2 h hb hK e; simp only [e] at *; exact q
  · have q := expr3 h hb hK e; simp only [e] at *; exact q
  · have q := expr4 h hb hK e; simp only [e] at *; exact q
  · have q := expr5 h hb hK e; simp only [e] at *; exact q
  · have q := expr6 h hb hK e; simp only [e] at *; exact q
  · have q := expr7 h hb hK e; simp only [e] at *; exact q
  · have q := expr8 h hb hK e; simp only [e] at *; exact q
  · have q := expr9 h hb hK e; simp only [e] at *; exact q
  · have q := expr10 h hb hK e; simp only [e] at *; exact q
  · have q := expr11 h hb hK e; simp only [e] at *; exact q
  · have q := expr12 h hb hK e; simp only [e] at *; exact q
  · have q := expr13 h hb hK e; simp only [e] at *; exact q
  · have q := expr14 h hb hK e; simp only [e] at *; exact q
  · have q := expr15 h hb hK e; simp only [e] at *; exact q
  · have q := expr47 h hb hK (.inr e); simp only [e] at *; exact q
theorem stmt48_all (h : NdAt w b o x kv) (hb : b < w.heap.size) (hK : Ks cb n w kv ks) (hk : 47 ≤ x.kind ∧ x.kind ≤ 56) :
    Calls Tryz.prog 47 #[.pointer (some ⟨b, o, none⟩)] w fun e w' => e = .returned (.bool (stmtF x ks)) ∧ Below w.heap.size w w' := by
  unfold stmtF
  have : x.kind = 47 ∨ x.kind = 48 ∨ x.kind = 49 ∨ x.kind = 50 ∨ x.kind = 51 ∨ x.kind = 52 ∨ x.kind = 53 ∨ x.kind = 54 ∨ x.kind = 55 ∨ x.kind = 56 := by omega
  rcases this with e | e | e | e | e | e | e | e | e | e
  · have q := stmt47 h hb hK e; simp only [e] at *; exact q
  · have q := stmt48 h hb hK e; simp only [e] at *; exact q
  · cases hq : areK [isExpr, isStmt] ks with
    | true => have q := stmt49_y h hb hK e hq; simp only [e] at *; exact q
    | false => have q := stmt49_n h hb hK e hq; simp only [e] at *; exact q
  · have q := stmt50 h hb hK e; simp only [e] at *; exact q
  · have q := stmt51 h hb hK e; simp only [e] at *; exact q
  · have q := stmt52 h hb hK e; simp only [e] at *; exact q
  · have q := stmt53 h hb hK e; simp only [e] at *; exact q
  · have q := stmt54 h hb hK e; simp only [e] at *; exact q
  · cases hq : areK [] ks with
    | true => have q := stmt55_y h hb hK e hq; simp only [e] at *; exact q
    | false => have q := stmt55_n h hb hK e hq; simp only [e] at *; exact q
  · have q := stmt56 h hb hK e; simp only [e] at *; exact q
end
end Go.Proofs.YtnnnfabpceapcaaGreatDoor

namespace Go.Proofs.YtnnnfabpceapcaaGreatDoor
set_option linter.unusedSimpArgs false
open Go.RowKit
set_option linter.unusedVariables false
section
variable {w : World} {b o : Nat} {x : NdH} {kv : Value} {n cb : Nat} {ks : List Tr}
set_option maxHeartbeats 8000000 in
theorem decl_none (h : NdAt w b o x kv) (hb : b < w.heap.size) (hK : Ks cb n w kv ks) (hk : ¬ (40 ≤ x.kind ∧ x.kind ≤ 46)) :
    Calls Tryz.prog 48 #[.pointer (some ⟨b, o, none⟩)] w fun e w' => e = .returned (.bool false) ∧ Below w.heap.size w w' := by
  obtain ⟨c0, _, _, _, c4, _⟩ := h
  obtain ⟨hkl, ao, cap, rfl⟩ := hK.shape
  clear hK
  have e0 : (x.kind == 40) = false := by simp; omega
  have e1 : (x.kind == 41) = false := by simp; omega
  have e2 : (x.kind == 42) = false := by simp; omega
  have e3 : (x.kind == 43) = false := by simp; omega
  have e4 : (x.kind == 44) = false := by simp; omega
  have e5 : (x.kind == 45) = false := by simp; omega
  have e6 : (x.kind == 46) = false := by simp; omega
  generalize x.kind = k at *
  go_enter Tryz.func48, Tryz.ntmps48
  go_wp2
  go_region_with (go_at_call 68; refine of66.mono ?_; rintro e w1 ⟨rfl, rfl⟩)
  all_goals
    obtain ⟨W, hW⟩ : ∃ W, W = ((w.alloc (.cells #[.int .i64 16] 3)).alloc (.cells #[.slice (some ⟨w.heap.size, 0, none⟩) 1 1] 93)).drew := ⟨_, rfl⟩
    have hB : Below w.heap.size w W := by rw [hW]; exact belA _ _ _
    have d0 := (hB.cell (p := ⟨b, o, none⟩) hb).trans c0
    have hbW := Nat.lt_of_lt_of_le hb hB.size
    have HB := hid' hB
    rw [← hW]
    clear hW hB c0 c4
    go_wp2
    all_goals go_ret
    all_goals exact ⟨rfl, HB.out⟩
theorem decl49_all (h : NdAt w b o x kv) (hb : b < w.heap.size) (hK : Ks cb n w kv ks) :
    Calls Tryz.prog 48 #[.pointer (some ⟨b, o, none⟩)] w fun e w' => e = .returned (.bool (declF x ks)) ∧ Below w.heap.size w w' := by
  unfold declF
  by_cases hk : 40 ≤ x.kind ∧ x.kind ≤ 46
  rotate_left
  · rw [if_neg (by omega), if_neg (by omega), if_neg (by omega), if_neg (by omega), if_neg (by omega), if_neg (by omega), if_neg (by omega)]
    exact decl_none h hb hK hk
  have : x.kind = 40 ∨ x.kind = 41 ∨ x.kind = 42 ∨ x.kind = 43 ∨ x.kind = 44 ∨ x.kind = 45 ∨ x.kind = 46 := by omega
  rcases this with e | e | e | e | e | e | e
  · have q := prog49 h hb hK e; simp only [e] at *; exact q
  · have q := decl41 h hb hK e; simp only [e] at *; exact q
  · have goal : Calls Tryz.prog 48 #[.pointer (some ⟨b, o, none⟩)] w fun e w' => e = .returned (.bool (varsF ks)) ∧ Below w.heap.size w w' := by
      match ks, hK with
      | [], hK => exact decl42_0 h hb hK e
      | [t], hK => exact decl42_1 h hb hK e
      | t0 :: t1 :: r, hK =>
        show Calls Tryz.prog 48 _ w fun e w' => e = .returned (.bool (onT (ofK [16]) t0 && allK (ofK [43]) (t1 :: r))) ∧ Below w.heap.size w w'
        cases hq : onT (ofK [16]) t0 with
        | true => exact vars49 h hb hK e hq
        | false => exact decl42_n h hb hK e hq
    simp only [e] at *
    exact goal
  · have goal : Calls Tryz.prog 48 #[.pointer (some ⟨b, o, none⟩)] w fun e w' => e = .returned (.bool (if x.flag then areK [orK [isExpr, ofK [56]]] ks || areK [orK [isExpr, ofK [56]], orK [isExpr, ofK [44]]] ks else areK [] ks || areK [isExpr] ks)) ∧ Below w.heap.size w w' := by
      cases hf : x.flag with
      | true => exact var49 h hb hK e (fun W hW => var72f (h.below hW hb) (Nat.lt_of_lt_of_le hb hW.size) (hK.below hW) hf)
      | false => exact var49 h hb hK e (fun W hW => var72 (h.below hW hb) (Nat.lt_of_lt_of_le hb hW.size) (hK.below hW) hf)
    simp only [e] at *
    exact goal
  · have goal : Calls Tryz.prog 48 #[.pointer (some ⟨b, o, none⟩)] w fun e w' => e = .returned (.bool (decide (1 ≤ ks.length) && allK isExpr ks)) ∧ Below w.heap.size w w' := by
      by_cases hl : 1 ≤ ks.length
      · rw [decide_eq_true hl, Bool.true_and]
        exact decl44_y h hb hK e hl
      · rw [decide_eq_false hl, Bool.false_and]
        obtain rfl : ks = [] := List.eq_nil_of_length_eq_zero (by omega)
        exact decl44_n h hb hK e
    simp only [e] at *
    exact goal
  · have goal : Calls Tryz.prog 48 #[.pointer (some ⟨b, o, none⟩)] w fun e w' => e = .returned (.bool (funcF ks)) ∧ Below w.heap.size w w' := by
      match ks, hK with
      | [], hK => exact decl45_0 h hb hK e
      | [t], hK => exact decl45_1 h hb hK e
      | t0 :: t1 :: r, hK =>
        show Calls Tryz.prog 48 _ w fun e w' => e = .returned (.bool (onT (ofK [16]) t0 && (allK (ofK [46]) ((t1 :: r).take r.length) && onT (ofK [47]) ((t1 :: r)[r.length]'(by simp))))) ∧ Below w.heap.size w w'
        cases hq : onT (ofK [16]) t0 with
        | false => exact decl45_n h hb hK e hq
        | true =>
          cases hm : allK (ofK [46]) ((t1 :: r).take r.length) with
          | false => exact decl45_m h hb hK e hq hm
          | true => exact decl45_y h hb hK e hq hm
    simp only [e] at *
    exact goal
  · have q := decl46 h hb hK e; simp only [e] at *; exact q
def anyF (x : NdH) (ks : List Tr) : Bool := true
theorem kids_is : KidsIs anyF kidsF := fun W b o x kv n ks cb _ h hb hK => by
  unfold kidsF
  by_cases h1 : (1 ≤ x.kind ∧ x.kind ≤ 15) ∨ x.kind = 16
  · rw [if_pos h1]
    exact kids34_expr h hb h1 (expr47_all h hb hK h1)
  · rw [if_neg h1]
    by_cases h2 : 47 ≤ x.kind ∧ x.kind ≤ 56
    · rw [if_pos h2]
      exact kids34_stmt h hb h2 (stmt48_all h hb hK h2)
    · rw [if_neg h2]
      exact kids34_decl h hb (fun hq => h1 (.inl hq)) (fun hq => h1 (.inr hq)) h2 (decl49_all h hb hK)
/-- May a node be? -/
def mayN : NdH → List Tr → Bool := mayF nameB typeB kidsF
theorem may_is : MayIs (fun x ks => smallN x ks && anyF x ks) mayN := may25 name41 type42 kids_is
end
end Go.Proofs.YtnnnfabpceapcaaGreatDoor

namespace Go.Proofs.YtnnnfabpceapcaaGreatDoor
set_option linter.unusedSimpArgs false
open Go.RowKit
set_option linter.unusedVariables false

/-- A node that may be, of a text that a machine holds. -/
def typedN (x : NdH) (ks : List Tr) : Bool := smallN x ks && decide (0 ≤ x.num ∧ x.num < 4294967296)
def goodN (x : NdH) (ks : List Tr) : Bool := mayN x ks && typedN x ks
theorem are0 {ks : List Tr} (h : areK [] ks = true) : ks = [] := by
  cases ks with
  | nil => rfl
  | cons t r => cases h
theorem are1 {F : Ask} {ks : List Tr} (h : areK [F] ks = true) : ∃ t, ks = [t] := by
  cases ks with
  | nil => cases h
  | cons t r =>
    simp only [areK, Bool.and_eq_true] at h
    rw [are0 h.2]
    exact ⟨t, rfl⟩
theorem are2 {F1 F2 : Ask} {ks : List Tr} (h : areK [F1, F2] ks = true) : ∃ t u, ks = [t, u] := by
  cases ks with
  | nil => cases h
  | cons t r =>
    rw [areK, Bool.and_eq_true] at h
    obtain ⟨u, rfl⟩ := are1 h.2
    exact ⟨t, u, rfl⟩
theorem are3 {F1 F2 F3 : Ask} {ks : List Tr} (h : areK [F1, F2, F3] ks = true) : ∃ t u v, ks = [t, u, v] := by
  cases ks with
  | nil => cases h
  | cons t r =>
    rw [areK, Bool.and_eq_true] at h
    obtain ⟨u, v, rfl⟩ := are2 h.2
    exact ⟨t, u, v, rfl⟩
theorem are4 {F1 F2 F3 F4 : Ask} {ks : List Tr} (h : areK [F1, F2, F3, F4] ks = true) : ∃ t u v z, ks = [t, u, v, z] := by
  cases ks with
  | nil => cases h
  | cons t r =>
    rw [areK, Bool.and_eq_true] at h
    obtain ⟨u, v, z, rfl⟩ := are3 h.2
    exact ⟨t, u, v, z, rfl⟩
theorem good_small (x : NdH) (ks : List Tr) (h : goodN x ks = true) : x.str.size < 4611686018427387904 := by
  unfold goodN typedN smallN at h
  simp only [Bool.and_eq_true, decide_eq_true_eq] at h
  exact h.2.1
theorem lst_inj {s t : ByteArray} (h : lst s = lst t) : s = t := by
  cases s with | mk a => cases t with | mk c =>
  have : a = c := Array.toList_inj.mp h
  rw [this]
theorem split_all {w0 : World} (ht : TabOk w0) : SplitIs w0 goodN qtL := fun A sb T w b o x kv n cb ks J hG => by
  have hx := good_small x ks hG
  unfold goodN typedN mayN mayF at hG
  simp only [Bool.and_eq_true, decide_eq_true_eq] at hG
  obtain ⟨⟨_, hnum, hflag, hkid⟩, _, hn0, hn1⟩ := hG
  unfold kidsF at hkid
  by_cases hE : 1 ≤ x.kind ∧ x.kind ≤ 15
  · rw [if_pos (.inl hE)] at hkid
    refine split_expr J hE ?_
    unfold exprF at hkid
    have : x.kind = 1 ∨ x.kind = 2 ∨ x.kind = 3 ∨ x.kind = 4 ∨ x.kind = 5 ∨ x.kind = 6 ∨ x.kind = 7 ∨ x.kind = 8 ∨ x.kind = 9 ∨ x.kind = 10 ∨ x.kind = 11 ∨ x.kind = 12 ∨ x.kind = 13 ∨ x.kind = 14 ∨ x.kind = 15 := by omega
    rcases this with e | e | e | e | e | e | e | e | e | e | e | e | e | e | e
    · exact num36w (k := x.num.toNat) (fmt_at (ht.below J.hw) _ (by omega)) (by omega) (by omega) J e
    · have h2 : x.num ≤ 255 := by
        unfold numF at hnum
        rw [if_neg (by omega), if_pos e] at hnum
        exact of_decide_eq_true hnum
      exact char36 (v := x.num.toNat) (by omega) (by omega) J e
    · exact str36 J e
    · exact name36 good_small J e
    · rw [if_neg (by omega), if_pos (by omega)] at hkid
      obtain ⟨t, u, rfl⟩ := are2 hkid
      exact index36 good_small J e
    · rw [if_neg (by omega), if_neg (by omega), if_pos (by omega)] at hkid
      obtain ⟨t, rfl⟩ := are1 hkid
      exact field36 good_small J e
    · rw [if_neg (by omega), if_neg (by omega), if_pos (by omega)] at hkid
      obtain ⟨t, rfl⟩ := are1 hkid
      exact arrow36 good_small J e
    · exact call36 good_small J e
    · rw [if_neg (by omega), if_neg (by omega), if_pos (by omega)] at hkid
      obtain ⟨t, rfl⟩ := are1 hkid
      refine op36 J (by omega) ?_
      by_cases h9 : (hdT t).kind = 9
      · by_cases hs : (hdT t).str = x.str
        · exact unary57_y good_small J e (fun x0 ks0 q => by rw [q, hdT_node] at h9 hs; exact ⟨h9, hs⟩)
        · exact unary57_n2 good_small J e (fun x0 ks0 q => by
            rw [q, hdT_node] at h9 hs
            refine ⟨h9, ?_⟩
            rw [lst_eq, lst_eq]
            exact beq_false_of_ne (fun q => hs (lst_inj q)))
      · exact unary57_n1 good_small J e (fun x0 ks0 q => by rw [q, hdT_node] at h9; exact h9)
    · rw [if_neg (by omega), if_pos (by omega)] at hkid
      obtain ⟨t, u, rfl⟩ := are2 hkid
      exact op36 J (by omega) (bin57_10 good_small J hx e)
    · rw [if_neg (by omega), if_pos (by omega)] at hkid
      obtain ⟨t, u, rfl⟩ := are2 hkid
      exact op36 J (by omega) (bin57_11 good_small J hx e)
    · rw [if_neg (by omega), if_neg (by omega), if_neg (by omega), if_neg (by omega), if_pos e] at hkid
      obtain ⟨t, u, v, rfl⟩ := are3 hkid
      exact op36 J (by omega) (cond57 good_small J e)
    · rw [if_neg (by omega), if_neg (by omega), if_neg (by omega), if_neg (by omega), if_neg (by omega), if_pos e] at hkid
      obtain ⟨t, u, rfl⟩ := are2 hkid
      exact op36 J (by omega) (assign57 good_small J e)
    · rw [if_neg (by omega), if_neg (by omega), if_neg (by omega), if_neg (by omega), if_neg (by omega), if_neg (by omega), if_pos e] at hkid
      obtain ⟨t, u, rfl⟩ := are2 hkid
      exact op36 J (by omega) (cast57 good_small J e)
    · rw [if_neg (by omega), if_neg (by omega), if_neg (by omega), if_neg (by omega), if_neg (by omega), if_neg (by omega), if_neg (by omega)] at hkid
      obtain ⟨t, rfl⟩ := are1 hkid
      refine op36 J (by omega) ?_
      by_cases h16 : (hdT t).kind = 16
      · exact sizeof57_t good_small J e (fun x0 ks0 q => by rw [q, hdT_node] at h16; exact h16)
      · by_cases h14 : (hdT t).kind = 14
        · exact sizeof57_c good_small J e (fun x0 ks0 q => by rw [q, hdT_node] at h14; exact h14)
        · exact sizeof57_o good_small J e (fun x0 ks0 q => by rw [q, hdT_node] at h14 h16; exact ⟨h16, h14⟩)
  by_cases hS : 47 ≤ x.kind ∧ x.kind ≤ 56
  · rw [if_neg (by omega), if_pos hS] at hkid
    refine split_stmt J hS ?_
    unfold stmtF at hkid
    have : x.kind = 47 ∨ x.kind = 48 ∨ x.kind = 49 ∨ x.kind = 50 ∨ x.kind = 51 ∨ x.kind = 52 ∨ x.kind = 53 ∨ x.kind = 54 ∨ x.kind = 55 ∨ x.kind = 56 := by omega
    rcases this with e | e | e | e | e | e | e | e | e | e
    · exact block38 good_small J e
    · rw [if_neg (by omega), if_pos e] at hkid
      obtain ⟨t, rfl⟩ := are1 hkid
      exact eval38 good_small J e
    · rw [if_neg (by omega), if_neg (by omega), if_pos e, Bool.or_eq_true] at hkid
      rcases hkid with hkid | hkid
      · obtain ⟨t, u, rfl⟩ := are2 hkid
        exact if38_2 good_small J e
      · obtain ⟨t, u, v, rfl⟩ := are3 hkid
        exact if38_3 good_small J e
    · rw [if_neg (by omega), if_neg (by omega), if_neg (by omega), if_pos e] at hkid
      obtain ⟨t, u, rfl⟩ := are2 hkid
      exact while38 good_small J e
    · rw [if_neg (by omega), if_neg (by omega), if_neg (by omega), if_neg (by omega), if_pos e] at hkid
      obtain ⟨t, u, rfl⟩ := are2 hkid
      exact do38 good_small J e
    · rw [if_neg (by omega), if_neg (by omega), if_neg (by omega), if_neg (by omega), if_neg (by omega), if_pos e] at hkid
      obtain ⟨t, u, v, z, rfl⟩ := are4 hkid
      exact for38 J e (loop59 good_small J e)
    · exact break38 good_small J e
    · exact continue38 good_small J e
    · rw [if_neg (by omega), if_neg (by omega), if_neg (by omega), if_neg (by omega), if_neg (by omega), if_neg (by omega), if_pos e, Bool.or_eq_true] at hkid
      rcases hkid with hkid | hkid
      · exact return38_0 good_small J e (are0 hkid)
      · obtain ⟨t, rfl⟩ := are1 hkid
        exact return38_1 good_small J e
    · exact none38 good_small J e
  refine split_decl J hE hS ?_
  by_cases k16 : x.kind = 16
  · exact type39 J k16
  rw [if_neg (by omega), if_neg hS] at hkid
  unfold declF at hkid
  by_cases k40 : x.kind = 40
  · exact prog39 J k40
  rw [if_neg k40] at hkid
  by_cases k41 : x.kind = 41
  · exact struct39 good_small J k41
  rw [if_neg k41] at hkid
  by_cases k42 : x.kind = 42
  · rw [if_pos k42] at hkid
    match ks, J, hkid with
    | [], _, h => cases h
    | [t], _, h => cases h
    | t0 :: t1 :: r, J, _ => exact vars39 J (by simp) k42
  rw [if_neg k42] at hkid
  by_cases k43 : x.kind = 43
  · rw [if_pos k43] at hkid
    refine var39_any J k43 ?_
    by_cases hf : x.flag = true
    · rw [if_pos hf, Bool.or_eq_true] at hkid
      rcases hkid with hkid | hkid
      · obtain ⟨t, rfl⟩ := are1 hkid
        exact var60_f1 good_small J k43 hf
      · obtain ⟨t, u, rfl⟩ := are2 hkid
        exact var60_f2 good_small J k43 hf
    · exact var60 J k43 (by simpa using hf)
  rw [if_neg k43] at hkid
  by_cases k44 : x.kind = 44
  · exact list39 good_small J k44
  rw [if_neg k44] at hkid
  by_cases k45 : x.kind = 45
  · rw [if_pos k45] at hkid
    match ks, J, hkid with
    | [], _, h => cases h
    | [t], _, h => cases h
    | t0 :: t1 :: r, J, _ => exact func39 good_small J k45
  rw [if_neg k45] at hkid
  by_cases k46 : x.kind = 46
  · rw [if_pos k46] at hkid
    obtain ⟨t, rfl⟩ := are1 hkid
    refine param39 J k46 ?_
    by_cases h1 : x.num = 1
    · cases hf : x.flag with
      | true => exact param61_1_true good_small J k46 hf h1
      | false => exact param61_1_false good_small J k46 hf h1
    · have h1' : (x.num == 1) = false := beq_false_of_ne h1
      cases hf : x.flag with
      | true => exact param61_0_true good_small J k46 hf h1 h1'
      | false => exact param61_0_false good_small J k46 hf h1 h1'
  rw [if_neg k46] at hkid
  cases hkid
theorem allT_imp {F K : NdH → List Tr → Bool} (h : ∀ x ks, F x ks = true → K x ks = true) : ∀ (m : Nat) (t : Tr), szT t ≤ m → isT t = true → allT F t = true → allT K t = true
  | 0, t, hm, _, _ => by have := szT_pos t; omega
  | m + 1, t, hm, ht, ha => by
    obtain ⟨x, ks, rfl⟩ := isT_form ht
    rw [allT_node, Bool.and_eq_true] at ha ⊢
    rw [isT_node] at ht
    rw [szT_node] at hm
    refine ⟨h _ _ ha.1, ?_⟩
    unfold allL at ha ⊢
    simp only [List.all_map, List.all_eq_true] at ha ⊢
    exact fun u hu => allT_imp h m u (by have := sz_mem hu; omega) (isL_mem ht u hu) (ha.2 u hu)
theorem allT_both {F K : NdH → List Tr → Bool} : ∀ (m : Nat) (t : Tr), szT t ≤ m → isT t = true → allT F t = true → allT K t = true → allT (fun x ks => F x ks && K x ks) t = true
  | 0, t, hm, _, _, _ => by have := szT_pos t; omega
  | m + 1, t, hm, ht, ha, hb => by
    obtain ⟨x, ks, rfl⟩ := isT_form ht
    rw [allT_node, Bool.and_eq_true] at ha hb ⊢
    rw [isT_node] at ht
    rw [szT_node] at hm
    refine ⟨by rw [ha.1, hb.1]; rfl, ?_⟩
    unfold allL at ha hb ⊢
    simp only [List.all_map, List.all_eq_true] at ha hb ⊢
    exact fun u hu => allT_both m u (by have := sz_mem hu; omega) (isL_mem ht u hu) (ha.2 u hu) (hb.2 u hu)
/-- Print, of any tree. -/
theorem print_all {w : World} {x : NdH} {kv : Value} {n cb : Nat} {ks : List Tr} (ht : TabOk w) (hg : allT typedN (Tr.node x ks) = true) (hK : Ks cb n w kv ks) :
    Calls Tryz.prog 8 #[ndV x kv] w fun e w' => e = .returned (printV (chkF mayN x ks) (spellT qtL (Tr.node x ks))) ∧ Below w.heap.size w w' :=
  have hi : isT (Tr.node x ks) = true := by rw [isT_node]; exact hK.isL
  print14 may_is (fun W hb => split_all (ht.below hb)) (allT_imp (fun x ks h => by unfold typedN at h; rw [Bool.and_eq_true] at h; rw [h.1]; rfl) _ _ (Nat.le_refl _) hi hg) (fun hm => allT_both _ _ (Nat.le_refl _) hi hm hg) hK
end Go.Proofs.YtnnnfabpceapcaaGreatDoor
