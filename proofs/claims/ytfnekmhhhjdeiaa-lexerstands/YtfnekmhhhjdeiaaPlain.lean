/- The lexer: plain mathematics over lists of bytes. -/
import Derived.WalkKit
import Derived.Lib.Index
import Derived.Lib.IndexMore
import Derived.Lib.Bytealg
import Derived.Lib.Strings
namespace Go.Proofs.Ytfnekmhhhjdeiaa
open Go.RowKit
set_option linter.unusedVariables false

def strL (l : List UInt8) : ByteArray := ⟨l.toArray⟩
theorem strL_size (l : List UInt8) : (strL l).size = l.length := List.size_toArray
theorem strL_list (l : List UInt8) : (strL l).data.toList = l := by simp [strL]
theorem size_list (s : ByteArray) : s.data.toList.length = s.size := Array.length_toList
theorem strL_data (s : ByteArray) : strL s.data.toList = s := by simp [strL]
theorem ext_list {s t : ByteArray} (h : s.data.toList = t.data.toList) : s = t := by rw [← strL_data s, h, strL_data]
theorem ext_data (s : ByteArray) (a b : Nat) : (s.extract a b).data.toList = (s.data.toList.drop a).take (b - a) := by
  simp [ByteArray.data_extract, List.take_drop]
theorem ext_drop (s : ByteArray) (a : Nat) : (s.extract a s.size).data.toList = s.data.toList.drop a := by
  rw [ext_data, List.take_of_length_le (by simp)]
theorem ext_take (s : ByteArray) (b : Nat) : (s.extract 0 b).data.toList = s.data.toList.take b := by
  rw [ext_data, List.drop_zero, Nat.sub_zero]
theorem ext_strL (s : ByteArray) (a : Nat) : s.extract a s.size = strL (s.data.toList.drop a) := ext_list (by rw [ext_drop, strL_list])
theorem ext_strL0 (s : ByteArray) (b : Nat) : s.extract 0 b = strL (s.data.toList.take b) := ext_list (by rw [ext_take, strL_list])
theorem drop_cons (s : ByteArray) (k : Nat) (h : k < s.size) : s.data.toList.drop k = s[k] :: s.data.toList.drop (k + 1) :=
  List.drop_eq_getElem_cons (by rw [size_list]; exact h)
theorem drop_nil (s : ByteArray) (k : Nat) (h : s.size ≤ k) : s.data.toList.drop k = [] := List.drop_eq_nil_of_le (by rw [size_list]; exact h)

def dig (c : UInt8) : Bool := decide (48 ≤ c.toNat) && decide (c.toNat ≤ 57)
def letr (c : UInt8) : Bool := (decide (97 ≤ c.toNat) && decide (c.toNat ≤ 122)) || (decide (65 ≤ c.toNat) && decide (c.toNat ≤ 90)) || decide (c.toNat = 95)
def nm (c : UInt8) : Bool := letr c || dig c
def blank (c : UInt8) : Bool := decide (c.toNat = 32) || decide (c.toNat = 9) || decide (c.toNat = 10) || decide (c.toNat = 13)
def plainB (c : UInt8) : Bool := decide (32 ≤ c.toNat) && decide (c.toNat ≤ 126)
/-- A hexadecimal digit's value; 16: it is none. -/
def hexv (c : UInt8) : Nat := if dig c then c.toNat - 48 else if 97 ≤ c.toNat ∧ c.toNat ≤ 102 then c.toNat - 87 else if 65 ≤ c.toNat ∧ c.toNat ≤ 70 then c.toNat - 55 else 16
theorem hexv_le (c : UInt8) : hexv c ≤ 16 := by
  unfold hexv dig
  split
  · rename_i h; simp at h; omega
  · split
    · omega
    · split <;> omega

/-- A token, without its place. -/
structure Tok where
  kind : Nat
  text : List UInt8
  num : Nat
  uns : Bool

/-- Digits: the number that they make (2^32: too great), and how many. -/
def digG (base : Nat) : Nat → List UInt8 → Nat × Nat
  | v, [] => (v, 0)
  | v, c :: r => if hexv c < base then ((digG base (min (v * base + hexv c) 4294967296) r).1, (digG base (min (v * base + hexv c) 4294967296) r).2 + 1) else (v, 0)
theorem digG_le (base : Nat) : ∀ (v : Nat) (l : List UInt8), (digG base v l).2 ≤ l.length
  | v, [] => Nat.le_refl _
  | v, c :: r => by
    unfold digG
    split
    · have := digG_le base (min (v * base + hexv c) 4294967296) r
      simpa using this
    · simp
theorem digG_bound (base : Nat) : ∀ (v : Nat) (l : List UInt8), v ≤ 4294967296 → (digG base v l).1 ≤ 4294967296
  | v, [], h => h
  | v, c :: r, h => by
    unfold digG
    split
    · exact digG_bound base _ r (Nat.min_le_right _ _)
    · exact h

def isX (l : List UInt8) : Bool := [48, 120].isPrefixOf l || [48, 88].isPrefixOf l
def headIs (p : UInt8 → Bool) : List UInt8 → Bool
  | [] => false
  | c :: _ => p c
def isU (c : UInt8) : Bool := decide (c.toNat = 117) || decide (c.toNat = 85)
/-- Behind a number: is 'u' there, and may it stand there? The whole's length. -/
def numEnd (v n : Nat) (l : List UInt8) : Option (Tok × Nat) :=
  let n' := if headIs isU (l.drop n) then n + 1 else n
  if headIs nm (l.drop n') then none else some (⟨5, [], v, decide (2147483648 ≤ v) || headIs isU (l.drop n)⟩, n')
/-- A number's token, of a text that begins with a digit, and how many bytes it has. -/
def numAt (base from_ : Nat) (l : List UInt8) : Option (Tok × Nat) :=
  let p := digG base 0 (l.drop from_)
  if p.2 = 0 ∨ (base = 10 ∧ headIs (fun c => decide (c.toNat = 48)) l = true ∧ 1 < from_ + p.2) ∨ 4294967296 ≤ p.1 then none else numEnd p.1 (from_ + p.2) l
def numF (l : List UInt8) : Option (Tok × Nat) := if isX l then numAt 16 2 l else numAt 10 0 l

/-- A unit's byte, and how many bytes it has. -/
def escF : List UInt8 → Option (UInt8 × Nat)
  | [] => none
  | d :: q => if d.toNat = 110 then some (10, 2) else if d.toNat = 116 then some (9, 2) else if d.toNat = 114 then some (13, 2) else if d.toNat = 48 then some (0, 2)
    else if d.toNat = 92 ∨ d.toNat = 39 ∨ d.toNat = 34 then some (d, 2)
    else if d.toNat = 120 then
      match q with
      | h :: g :: _ => if hexv h < 16 ∧ hexv g < 16 then some ((hexv h * 16 + hexv g).toUInt8, 4) else none
      | _ => none
    else none
def unitF (mark : UInt8) : List UInt8 → Option (UInt8 × Nat)
  | [] => none
  | c :: r => if c.toNat = mark.toNat ∨ plainB c = false then none else if c.toNat = 92 then escF r else some (c, 1)
theorem escF_len {l : List UInt8} {b : UInt8} {n : Nat} (h : escF l = some (b, n)) : 1 ≤ n ∧ n ≤ l.length + 1 := by
  match l with
  | [] => simp [escF] at h
  | [d] =>
    simp only [escF] at h
    repeat' split at h
    all_goals simp at h
    all_goals (simp; omega)
  | [d, e] =>
    simp only [escF] at h
    repeat' split at h
    all_goals simp at h
    all_goals (simp; omega)
  | d :: e :: f :: q =>
    simp only [escF] at h
    repeat' split at h
    all_goals simp at h
    all_goals (simp; omega)
theorem unitF_len {mark : UInt8} {l : List UInt8} {b : UInt8} {n : Nat} (h : unitF mark l = some (b, n)) : 1 ≤ n ∧ n ≤ l.length := by
  match l with
  | [] => simp [unitF] at h
  | c :: r =>
    simp only [unitF] at h
    repeat' split at h
    · simp at h
    · have := escF_len h
      simp; omega
    · simp at h
      simp; omega

/-- Units, as many as there are: their bytes, and how many bytes they have. -/
def unitsG (mark : UInt8) : Nat → List UInt8 → List UInt8 × Nat
  | 0, _ => ([], 0)
  | f + 1, l =>
    match unitF mark l with
    | none => ([], 0)
    | some (b, n) => (b :: (unitsG mark f (l.drop n)).1, n + (unitsG mark f (l.drop n)).2)
theorem unitsG_fuel (mark : UInt8) : ∀ (f g : Nat) (l : List UInt8), l.length ≤ f → l.length ≤ g → unitsG mark f l = unitsG mark g l
  | 0, 0, l, _, _ => rfl
  | 0, g + 1, l, hf, hg => by
    obtain rfl : l = [] := List.eq_nil_of_length_eq_zero (by omega)
    rfl
  | f + 1, 0, l, hf, hg => by
    obtain rfl : l = [] := List.eq_nil_of_length_eq_zero (by omega)
    rfl
  | f + 1, g + 1, l, hf, hg => by
    unfold unitsG
    cases h : unitF mark l with
    | none => rfl
    | some p =>
      obtain ⟨b, n⟩ := p
      have := unitF_len h
      have e := unitsG_fuel mark f g (l.drop n) (by simp; omega) (by simp; omega)
      simp only [e]
def units (mark : UInt8) (l : List UInt8) : List UInt8 × Nat := unitsG mark l.length l
theorem units_none {mark : UInt8} {l : List UInt8} (h : unitF mark l = none) : units mark l = ([], 0) := by
  unfold units
  cases hl : l.length with
  | zero => rfl
  | succ f => unfold unitsG; rw [h]
theorem units_some {mark : UInt8} {l : List UInt8} {b : UInt8} {n : Nat} (h : unitF mark l = some (b, n)) : units mark l = (b :: (units mark (l.drop n)).1, n + (units mark (l.drop n)).2) := by
  have hn := unitF_len h
  have e : units mark l = unitsG mark (l.length - 1 + 1) l := by unfold units; rw [show l.length - 1 + 1 = l.length by omega]
  rw [e]
  unfold unitsG
  rw [h]
  have e2 := unitsG_fuel mark (l.length - 1) (l.drop n).length (l.drop n) (by simp; omega) (Nat.le_refl _)
  simp only [e2]
  rfl
theorem unitsG_len (mark : UInt8) : ∀ (f : Nat) (l : List UInt8), (unitsG mark f l).2 ≤ l.length ∧ (unitsG mark f l).1.length ≤ (unitsG mark f l).2
  | 0, l => by simp [unitsG]
  | f + 1, l => by
    unfold unitsG
    cases h : unitF mark l with
    | none => simp
    | some p =>
      obtain ⟨b, n⟩ := p
      have h1 := unitF_len h
      have h2 := unitsG_len mark f (l.drop n)
      simp at h2 ⊢
      omega
theorem units_len (mark : UInt8) (l : List UInt8) : (units mark l).2 ≤ l.length ∧ (units mark l).1.length ≤ (units mark l).2 := unitsG_len mark _ l
/-- Behind the units stands none. -/
theorem unitsG_end (mark : UInt8) : ∀ (f : Nat) (l : List UInt8), l.length ≤ f → unitF mark (l.drop (unitsG mark f l).2) = none
  | 0, l, h => by
    obtain rfl : l = [] := List.eq_nil_of_length_eq_zero (by omega)
    rfl
  | f + 1, l, hf => by
    unfold unitsG
    cases h : unitF mark l with
    | none => simpa using h
    | some p =>
      obtain ⟨b, n⟩ := p
      have h1 := unitF_len h
      have h2 := unitsG_end mark f (l.drop n) (by simp; omega)
      simpa [List.drop_drop, Nat.add_comm] using h2
theorem units_end (mark : UInt8) (l : List UInt8) : unitF mark (l.drop (units mark l).2) = none := unitsG_end mark _ l (Nat.le_refl _)

/-- A character's token, of a text that begins with its mark. -/
def charF (l : List UInt8) : Option (Tok × Nat) :=
  match unitF 39 (l.drop 1) with
  | none => none
  | some (b, n) => if [39].isPrefixOf (l.drop (1 + n)) then some (⟨6, [], b.toNat, false⟩, n + 2) else none
/-- A string's. -/
def textF (l : List UInt8) : Option (Tok × Nat) :=
  if [34].isPrefixOf (l.drop (1 + (units 34 (l.drop 1)).2)) then some (⟨7, (units 34 (l.drop 1)).1, 0, false⟩, (units 34 (l.drop 1)).2 + 2) else none

def words : List (List UInt8) := [[98,114,101,97,107], [99,104,97,114], [99,111,110,116,105,110,117,101], [100,111], [101,108,115,101], [102,111,114], [103,101,116,98,121,116,101], [105,102], [105,110,116], [112,117,116,98,121,116,101], [114,101,116,117,114,110], [115,105,122,101,111,102], [115,116,114,117,99,116], [117,105,110,116], [118,111,105,100], [119,104,105,108,101]]
def resv (l : List UInt8) : Bool := words.contains l
def nameF (l : List UInt8) : Option (Tok × Nat) :=
  some (⟨if resv (l.takeWhile nm) then 3 else 2, l.takeWhile nm, 0, false⟩, (l.takeWhile nm).length)

def marks3 : List (List UInt8) := [[60,60,61], [62,62,61]]
def marks2 : List (List UInt8) := [[45,62], [43,61], [45,61], [42,61], [47,61], [37,61], [38,61], [124,61], [94,61], [61,61], [33,61], [60,61], [62,61], [60,60], [62,62], [38,38], [124,124]]
def marks1 : List (List UInt8) := [[40], [41], [123], [125], [91], [93], [59], [44], [46], [61], [60], [62], [43], [45], [42], [47], [37], [38], [124], [94], [126], [33], [63], [58]]
def marksL : List (List UInt8) := marks3 ++ marks2 ++ marks1
def isM (l : List UInt8) : Bool := marksL.contains l
def markF (l : List UInt8) : Option (Tok × Nat) :=
  if isM (l.take 3) then some (⟨4, l.take 3, 0, false⟩, (l.take 3).length)
  else if isM (l.take 2) then some (⟨4, l.take 2, 0, false⟩, (l.take 2).length)
  else if isM (l.take 1) then some (⟨4, l.take 1, 0, false⟩, (l.take 1).length)
  else none

/-- The token that a text begins with. -/
def readF : List UInt8 → Option (Tok × Nat)
  | [] => some (⟨1, [], 0, false⟩, 0)
  | c :: r => if dig c then numF (c :: r) else if nm c then nameF (c :: r) else if c.toNat = 39 then charF (c :: r) else if c.toNat = 34 then textF (c :: r) else markF (c :: r)

/-- A comment's line: how many bytes come ahead of the next newline, or of the end. -/
def lineN (l : List UInt8) : Nat := (l.takeWhile fun c => decide (¬ c.toNat = 10)).length
theorem lineN_le (l : List UInt8) : lineN l ≤ l.length := (List.takeWhile_prefix _).length_le
/-- One step of the way to the next token: how many bytes, or that it is there, or that a comment does not end. -/
def gapStep (l : List UInt8) : Option (Option Nat) :=
  match l with
  | [] => some none
  | c :: r => if blank c then some (some 1) else if [47, 47].isPrefixOf l then some (some (lineN l)) else if [47, 42].isPrefixOf l then
      (if Lib.index (l.drop 2) [42, 47] < 0 then none else some (some (2 + (Lib.index (l.drop 2) [42, 47]).toNat + 2))) else some none
theorem gapStep_len {l : List UInt8} {n : Nat} (h : gapStep l = some (some n)) : 1 ≤ n ∧ n ≤ l.length := by
  unfold gapStep at h
  split at h
  · simp at h
  · rename_i c r
    split at h
    · simp at h; simp; omega
    · split at h
      · rename_i h2
        simp only [Option.some.injEq] at h
        subst h
        refine ⟨?_, lineN_le _⟩
        have : (47 : UInt8) = c := by simp at h2; exact h2.1
        subst this
        simp [lineN]
      · split at h
        · split at h
          · simp at h
          · rename_i h3
            simp only [Option.some.injEq] at h
            have hr := Lib.index_room ((c :: r).drop 2) [42, 47] (by omega)
            generalize Lib.index (List.drop 2 (c :: r)) [42, 47] = x at *
            rw [List.length_drop] at hr
            simp only [List.length_cons, List.length_nil] at hr ⊢
            omega
        · simp at h
def gapG : Nat → List UInt8 → Nat × Bool
  | 0, _ => (0, true)
  | f + 1, l =>
    match gapStep l with
    | none => (0, false)
    | some none => (0, true)
    | some (some n) => (n + (gapG f (l.drop n)).1, (gapG f (l.drop n)).2)
theorem gapG_fuel : ∀ (f g : Nat) (l : List UInt8), l.length ≤ f → l.length ≤ g → gapG f l = gapG g l
  | 0, 0, l, _, _ => rfl
  | 0, g + 1, l, hf, hg => by
    obtain rfl : l = [] := List.eq_nil_of_length_eq_zero (by omega)
    rfl
  | f + 1, 0, l, hf, hg => by
    obtain rfl : l = [] := List.eq_nil_of_length_eq_zero (by omega)
    rfl
  | f + 1, g + 1, l, hf, hg => by
    unfold gapG
    match h : gapStep l with
    | none => rfl
    | some none => rfl
    | some (some n) =>
      have := gapStep_len h
      have e := gapG_fuel f g (l.drop n) (by simp; omega) (by simp; omega)
      simp only [e]
def gap (l : List UInt8) : Nat × Bool := gapG l.length l
theorem gap_bad {l : List UInt8} (h : gapStep l = none) : gap l = (0, false) := by
  unfold gap
  match l, h with
  | c :: r, h => simp only [List.length_cons]; unfold gapG; rw [h]
theorem gap_here {l : List UInt8} (h : gapStep l = some none) : gap l = (0, true) := by
  unfold gap
  cases hl : l.length with
  | zero => rfl
  | succ f => unfold gapG; rw [h]
theorem gap_more {l : List UInt8} {n : Nat} (h : gapStep l = some (some n)) : gap l = (n + (gap (l.drop n)).1, (gap (l.drop n)).2) := by
  have hn := gapStep_len h
  have e : gap l = gapG (l.length - 1 + 1) l := by unfold gap; rw [show l.length - 1 + 1 = l.length by omega]
  rw [e]
  unfold gapG
  rw [h]
  have e2 := gapG_fuel (l.length - 1) (l.drop n).length (l.drop n) (by simp; omega) (Nat.le_refl _)
  simp only [e2]
  rfl
theorem gapG_len : ∀ (f : Nat) (l : List UInt8), (gapG f l).1 ≤ l.length
  | 0, l => Nat.zero_le _
  | f + 1, l => by
    unfold gapG
    match h : gapStep l with
    | none => exact Nat.zero_le _
    | some none => exact Nat.zero_le _
    | some (some n) =>
      have h1 := gapStep_len h
      have h2 := gapG_len f (l.drop n)
      simp at h2 ⊢
      omega
theorem gap_len (l : List UInt8) : (gap l).1 ≤ l.length := gapG_len _ l

/-- Next, of the rest of a text: a token, where it begins and ends; or the place of what can't be read. -/
def nextF (l : List UInt8) : Except Nat (Tok × Nat × Nat) :=
  if (gap l).2 then
    match readF (l.drop (gap l).1) with
    | none => .error (gap l).1
    | some (t, n) => .ok (t, (gap l).1, (gap l).1 + n)
  else .error (gap l).1
end Go.Proofs.Ytfnekmhhhjdeiaa
