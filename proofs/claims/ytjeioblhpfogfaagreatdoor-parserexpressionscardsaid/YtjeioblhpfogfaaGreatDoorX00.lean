/- The lexer: plain mathematics over lists of bytes. -/
import Derived.WalkKit
import Derived.Lib.Index
import Derived.Lib.IndexMore
import Derived.Lib.Bytealg
import Derived.Lib.Strings
import Derived.Shelf.Strings.Builder1
import Derived.Shelf.Strings.Builder2
import Derived.Shelf.Small.Strs
import Derived.Shelf.Strconv.Itoa0
import Derived.Shelf.Strconv.Itoa1
import Derived.Shelf.LaysM
import Derived.Shelf.Strconv.Itoa2
import Derived.Shelf.Strconv.Clone
import Derived.Shelf.Strings.Search1
import Derived.Shelf.Strings.Search2
import Derived.Shelf.Strings.Search3
import Derived.Shelf.Strings.Shaped
import Derived.Shelf.Strings.Prefix
import Derived.Test.YtjeioblhpfogfaaGreatDoorProg
import Derived.Deep.QuietTactic
import Derived.BigQuiet
set_option linter.unusedVariables false
set_option linter.unusedSimpArgs false
set_option maxRecDepth 20000
set_option maxHeartbeats 8000000
namespace Go.Proofs.YtjeioblhpfogfaaGreatDoorLx
open Go.RowKit

def strL (l : List UInt8) : ByteArray := ⟨l.toArray⟩
theorem strL_size (l : List UInt8) : (strL l).size = l.length := List.size_toArray
theorem strL_list (l : List UInt8) : (strL l).data.toList = l := by simp [strL]
theorem size_list (s : ByteArray) : s.data.toList.length = s.size := Array.length_toList
theorem strL_data (s : ByteArray) : strL s.data.toList = s := by simp [strL]
theorem ext_list {s t : ByteArray} (h : s.data.toList = t.data.toList) : s = t := by rw [← strL_data s, h, strL_data]
theorem ext_data (s : ByteArray) (a b : Nat) : (s.extract a b).data.toList = (s.data.toList.drop a).take (b - a) := by
  simp [ByteArray.data_extract, List.take_drop]
theorem ext_drop (s : ByteArray) (a : Nat) : (s.extract a s.size).data.toList = s.data.toList.drop a := by
  rw [ext_data, List.take_of_length_le (by simp)]
theorem ext_take (s : ByteArray) (b : Nat) : (s.extract 0 b).data.toList = s.data.toList.take b := by
  rw [ext_data, List.drop_zero, Nat.sub_zero]
theorem ext_strL0 (s : ByteArray) (b : Nat) : s.extract 0 b = strL (s.data.toList.take b) := ext_list (by rw [ext_take, strL_list])
theorem drop_cons (s : ByteArray) (k : Nat) (h : k < s.size) : s.data.toList.drop k = s[k] :: s.data.toList.drop (k + 1) :=
  List.drop_eq_getElem_cons (by rw [size_list]; exact h)
theorem drop_nil (s : ByteArray) (k : Nat) (h : s.size ≤ k) : s.data.toList.drop k = [] := List.drop_eq_nil_of_le (by rw [size_list]; exact h)

def dig (c : UInt8) : Bool := decide (48 ≤ c.toNat) && decide (c.toNat ≤ 57)
def letr (c : UInt8) : Bool := (decide (97 ≤ c.toNat) && decide (c.toNat ≤ 122)) || (decide (65 ≤ c.toNat) && decide (c.toNat ≤ 90)) || decide (c.toNat = 95)
def nm (c : UInt8) : Bool := letr c || dig c
def blank (c : UInt8) : Bool := decide (c.toNat = 32) || decide (c.toNat = 9) || decide (c.toNat = 10) || decide (c.toNat = 13)
def plainB (c : UInt8) : Bool := decide (32 ≤ c.toNat) && decide (c.toNat ≤ 126)
/-- A hexadecimal digit's value; 16: it is none. -/
def hexv (c : UInt8) : Nat := if dig c then c.toNat - 48 else if 97 ≤ c.toNat ∧ c.toNat ≤ 102 then c.toNat - 87 else if 65 ≤ c.toNat ∧ c.toNat ≤ 70 then c.toNat - 55 else 16
theorem hexv_le (c : UInt8) : hexv c ≤ 16 := by
  unfold hexv dig
  split
  · rename_i h; simp at h; omega
  · split
    · omega
    · split <;> omega

/-- A token, without its place. -/
structure Tok where
  kind : Nat
  text : List UInt8
  num : Nat
  uns : Bool

/-- Digits: the number that they make (2^32: too great), and how many. -/
def digG (base : Nat) : Nat → List UInt8 → Nat × Nat
  | v, [] => (v, 0)
  | v, c :: r => if hexv c < base then ((digG base (min (v * base + hexv c) 4294967296) r).1, (digG base (min (v * base + hexv c) 4294967296) r).2 + 1) else (v, 0)
theorem digG_le (base : Nat) : ∀ (v : Nat) (l : List UInt8), (digG base v l).2 ≤ l.length
  | v, [] => Nat.le_refl _
  | v, c :: r => by
    unfold digG
    split
    · have := digG_le base (min (v * base + hexv c) 4294967296) r
      simpa using this
    · simp
theorem digG_bound (base : Nat) : ∀ (v : Nat) (l : List UInt8), v ≤ 4294967296 → (digG base v l).1 ≤ 4294967296
  | v, [], h => h
  | v, c :: r, h => by
    unfold digG
    split
    · exact digG_bound base _ r (Nat.min_le_right _ _)
    · exact h

def isX (l : List UInt8) : Bool := [48, 120].isPrefixOf l || [48, 88].isPrefixOf l
def headIs (p : UInt8 → Bool) : List UInt8 → Bool
  | [] => false
  | c :: _ => p c
def isU (c : UInt8) : Bool := decide (c.toNat = 117) || decide (c.toNat = 85)
/-- Behind a number: is 'u' there, and may it stand there? The whole's length. -/
def numEnd (v n : Nat) (l : List UInt8) : Option (Tok × Nat) :=
  let n' := if headIs isU (l.drop n) then n + 1 else n
  if headIs nm (l.drop n') then none else some (⟨5, [], v, decide (2147483648 ≤ v) || headIs isU (l.drop n)⟩, n')
/-- A number's token, of a text that begins with a digit, and how many bytes it has. -/
def numAt (base from_ : Nat) (l : List UInt8) : Option (Tok × Nat) :=
  let p := digG base 0 (l.drop from_)
  if p.2 = 0 ∨ (base = 10 ∧ headIs (fun c => decide (c.toNat = 48)) l = true ∧ 1 < from_ + p.2) ∨ 4294967296 ≤ p.1 then none else numEnd p.1 (from_ + p.2) l
def numF (l : List UInt8) : Option (Tok × Nat) := if isX l then numAt 16 2 l else numAt 10 0 l

/-- A unit's byte, and how many bytes it has. -/
def escF : List UInt8 → Option (UInt8 × Nat)
  | [] => none
  | d :: q => if d.toNat = 110 then some (10, 2) else if d.toNat = 116 then some (9, 2) else if d.toNat = 114 then some (13, 2) else if d.toNat = 48 then some (0, 2)
    else if d.toNat = 92 ∨ d.toNat = 39 ∨ d.toNat = 34 then some (d, 2)
    else if d.toNat = 120 then
      match q with
      | h :: g :: _ => if hexv h < 16 ∧ hexv g < 16 then some ((hexv h * 16 + hexv g).toUInt8, 4) else none
      | _ => none
    else none
def unitF (mark : UInt8) : List UInt8 → Option (UInt8 × Nat)
  | [] => none
  | c :: r => if c.toNat = mark.toNat ∨ plainB c = false then none else if c.toNat = 92 then escF r else some (c, 1)
theorem escF_len {l : List UInt8} {b : UInt8} {n : Nat} (h : escF l = some (b, n)) : 1 ≤ n ∧ n ≤ l.length + 1 := by
  match l with
  | [] => simp [escF] at h
  | [d] =>
    simp only [escF] at h
    repeat' split at h
    all_goals simp at h
    all_goals (simp; omega)
  | [d, e] =>
    simp only [escF] at h
    repeat' split at h
    all_goals simp at h
    all_goals (simp; omega)
  | d :: e :: f :: q =>
    simp only [escF] at h
    repeat' split at h
    all_goals simp at h
    all_goals (simp; omega)
theorem unitF_len {mark : UInt8} {l : List UInt8} {b : UInt8} {n : Nat} (h : unitF mark l = some (b, n)) : 1 ≤ n ∧ n ≤ l.length := by
  match l with
  | [] => simp [unitF] at h
  | c :: r =>
    simp only [unitF] at h
    repeat' split at h
    · simp at h
    · have := escF_len h
      simp; omega
    · simp at h
      simp; omega

/-- Units, as many as there are: their bytes, and how many bytes they have. -/
def unitsG (mark : UInt8) : Nat → List UInt8 → List UInt8 × Nat
  | 0, _ => ([], 0)
  | f + 1, l =>
    match unitF mark l with
    | none => ([], 0)
    | some (b, n) => (b :: (unitsG mark f (l.drop n)).1, n + (unitsG mark f (l.drop n)).2)
theorem unitsG_fuel (mark : UInt8) : ∀ (f g : Nat) (l : List UInt8), l.length ≤ f → l.length ≤ g → unitsG mark f l = unitsG mark g l
  | 0, 0, l, _, _ => rfl
  | 0, g + 1, l, hf, hg => by
    obtain rfl : l = [] := List.eq_nil_of_length_eq_zero (by omega)
    rfl
  | f + 1, 0, l, hf, hg => by
    obtain rfl : l = [] := List.eq_nil_of_length_eq_zero (by omega)
    rfl
  | f + 1, g + 1, l, hf, hg => by
    unfold unitsG
    cases h : unitF mark l with
    | none => rfl
    | some p =>
      obtain ⟨b, n⟩ := p
      have := unitF_len h
      have e := unitsG_fuel mark f g (l.drop n) (by simp; omega) (by simp; omega)
      simp only [e]
def units (mark : UInt8) (l : List UInt8) : List UInt8 × Nat := unitsG mark l.length l
theorem units_none {mark : UInt8} {l : List UInt8} (h : unitF mark l = none) : units mark l = ([], 0) := by
  unfold units
  cases hl : l.length with
  | zero => rfl
  | succ f => unfold unitsG; rw [h]
theorem units_some {mark : UInt8} {l : List UInt8} {b : UInt8} {n : Nat} (h : unitF mark l = some (b, n)) : units mark l = (b :: (units mark (l.drop n)).1, n + (units mark (l.drop n)).2) := by
  have hn := unitF_len h
  have e : units mark l = unitsG mark (l.length - 1 + 1) l := by unfold units; rw [show l.length - 1 + 1 = l.length by omega]
  rw [e]
  unfold unitsG
  rw [h]
  have e2 := unitsG_fuel mark (l.length - 1) (l.drop n).length (l.drop n) (by simp; omega) (Nat.le_refl _)
  simp only [e2]
  rfl
theorem unitsG_len (mark : UInt8) : ∀ (f : Nat) (l : List UInt8), (unitsG mark f l).2 ≤ l.length ∧ (unitsG mark f l).1.length ≤ (unitsG mark f l).2
  | 0, l => by simp [unitsG]
  | f + 1, l => by
    unfold unitsG
    cases h : unitF mark l with
    | none => simp
    | some p =>
      obtain ⟨b, n⟩ := p
      have h1 := unitF_len h
      have h2 := unitsG_len mark f (l.drop n)
      simp at h2 ⊢
      omega
theorem units_len (mark : UInt8) (l : List UInt8) : (units mark l).2 ≤ l.length ∧ (units mark l).1.length ≤ (units mark l).2 := unitsG_len mark _ l
/-- A character's token, of a text that begins with its mark. -/
def charF (l : List UInt8) : Option (Tok × Nat) :=
  match unitF 39 (l.drop 1) with
  | none => none
  | some (b, n) => if [39].isPrefixOf (l.drop (1 + n)) then some (⟨6, [], b.toNat, false⟩, n + 2) else none
/-- A string's. -/
def textF (l : List UInt8) : Option (Tok × Nat) :=
  if [34].isPrefixOf (l.drop (1 + (units 34 (l.drop 1)).2)) then some (⟨7, (units 34 (l.drop 1)).1, 0, false⟩, (units 34 (l.drop 1)).2 + 2) else none

def words : List (List UInt8) := [[98,114,101,97,107], [99,104,97,114], [99,111,110,116,105,110,117,101], [100,111], [101,108,115,101], [102,111,114], [103,101,116,98,121,116,101], [105,102], [105,110,116], [112,117,116,98,121,116,101], [114,101,116,117,114,110], [115,105,122,101,111,102], [115,116,114,117,99,116], [117,105,110,116], [118,111,105,100], [119,104,105,108,101]]
def resv (l : List UInt8) : Bool := words.contains l
def nameF (l : List UInt8) : Option (Tok × Nat) :=
  some (⟨if resv (l.takeWhile nm) then 3 else 2, l.takeWhile nm, 0, false⟩, (l.takeWhile nm).length)

def marks3 : List (List UInt8) := [[60,60,61], [62,62,61]]
def marks2 : List (List UInt8) := [[45,62], [43,61], [45,61], [42,61], [47,61], [37,61], [38,61], [124,61], [94,61], [61,61], [33,61], [60,61], [62,61], [60,60], [62,62], [38,38], [124,124]]
def marks1 : List (List UInt8) := [[40], [41], [123], [125], [91], [93], [59], [44], [46], [61], [60], [62], [43], [45], [42], [47], [37], [38], [124], [94], [126], [33], [63], [58]]
def marksL : List (List UInt8) := marks3 ++ marks2 ++ marks1
def isM (l : List UInt8) : Bool := marksL.contains l
def markF (l : List UInt8) : Option (Tok × Nat) :=
  if isM (l.take 3) then some (⟨4, l.take 3, 0, false⟩, (l.take 3).length)
  else if isM (l.take 2) then some (⟨4, l.take 2, 0, false⟩, (l.take 2).length)
  else if isM (l.take 1) then some (⟨4, l.take 1, 0, false⟩, (l.take 1).length)
  else none

/-- The token that a text begins with. -/
def readF : List UInt8 → Option (Tok × Nat)
  | [] => some (⟨1, [], 0, false⟩, 0)
  | c :: r => if dig c then numF (c :: r) else if nm c then nameF (c :: r) else if c.toNat = 39 then charF (c :: r) else if c.toNat = 34 then textF (c :: r) else markF (c :: r)

/-- A comment's line: how many bytes come ahead of the next newline, or of the end. -/
def lineN (l : List UInt8) : Nat := (l.takeWhile fun c => decide (¬ c.toNat = 10)).length
theorem lineN_le (l : List UInt8) : lineN l ≤ l.length := (List.takeWhile_prefix _).length_le
/-- One step of the way to the next token: how many bytes, or that it is there, or that a comment does not end. -/
def gapStep (l : List UInt8) : Option (Option Nat) :=
  match l with
  | [] => some none
  | c :: r => if blank c then some (some 1) else if [47, 47].isPrefixOf l then some (some (lineN l)) else if [47, 42].isPrefixOf l then
      (if Lib.index (l.drop 2) [42, 47] < 0 then none else some (some (2 + (Lib.index (l.drop 2) [42, 47]).toNat + 2))) else some none
theorem gapStep_len {l : List UInt8} {n : Nat} (h : gapStep l = some (some n)) : 1 ≤ n ∧ n ≤ l.length := by
  unfold gapStep at h
  split at h
  · simp at h
  · rename_i c r
    split at h
    · simp at h; simp; omega
    · split at h
      · rename_i h2
        simp only [Option.some.injEq] at h
        subst h
        refine ⟨?_, lineN_le _⟩
        have : (47 : UInt8) = c := by simp at h2; exact h2.1
        subst this
        simp [lineN]
      · split at h
        · split at h
          · simp at h
          · rename_i h3
            simp only [Option.some.injEq] at h
            have hr := Lib.index_room ((c :: r).drop 2) [42, 47] (by omega)
            generalize Lib.index (List.drop 2 (c :: r)) [42, 47] = x at *
            rw [List.length_drop] at hr
            simp only [List.length_cons, List.length_nil] at hr ⊢
            omega
        · simp at h
def gapG : Nat → List UInt8 → Nat × Bool
  | 0, _ => (0, true)
  | f + 1, l =>
    match gapStep l with
    | none => (0, false)
    | some none => (0, true)
    | some (some n) => (n + (gapG f (l.drop n)).1, (gapG f (l.drop n)).2)
theorem gapG_fuel : ∀ (f g : Nat) (l : List UInt8), l.length ≤ f → l.length ≤ g → gapG f l = gapG g l
  | 0, 0, l, _, _ => rfl
  | 0, g + 1, l, hf, hg => by
    obtain rfl : l = [] := List.eq_nil_of_length_eq_zero (by omega)
    rfl
  | f + 1, 0, l, hf, hg => by
    obtain rfl : l = [] := List.eq_nil_of_length_eq_zero (by omega)
    rfl
  | f + 1, g + 1, l, hf, hg => by
    unfold gapG
    match h : gapStep l with
    | none => rfl
    | some none => rfl
    | some (some n) =>
      have := gapStep_len h
      have e := gapG_fuel f g (l.drop n) (by simp; omega) (by simp; omega)
      simp only [e]
def gap (l : List UInt8) : Nat × Bool := gapG l.length l
theorem gap_bad {l : List UInt8} (h : gapStep l = none) : gap l = (0, false) := by
  unfold gap
  match l, h with
  | c :: r, h => simp only [List.length_cons]; unfold gapG; rw [h]
theorem gap_here {l : List UInt8} (h : gapStep l = some none) : gap l = (0, true) := by
  unfold gap
  cases hl : l.length with
  | zero => rfl
  | succ f => unfold gapG; rw [h]
theorem gap_more {l : List UInt8} {n : Nat} (h : gapStep l = some (some n)) : gap l = (n + (gap (l.drop n)).1, (gap (l.drop n)).2) := by
  have hn := gapStep_len h
  have e : gap l = gapG (l.length - 1 + 1) l := by unfold gap; rw [show l.length - 1 + 1 = l.length by omega]
  rw [e]
  unfold gapG
  rw [h]
  have e2 := gapG_fuel (l.length - 1) (l.drop n).length (l.drop n) (by simp; omega) (Nat.le_refl _)
  simp only [e2]
  rfl
theorem gapG_len : ∀ (f : Nat) (l : List UInt8), (gapG f l).1 ≤ l.length
  | 0, l => Nat.zero_le _
  | f + 1, l => by
    unfold gapG
    match h : gapStep l with
    | none => exact Nat.zero_le _
    | some none => exact Nat.zero_le _
    | some (some n) =>
      have h1 := gapStep_len h
      have h2 := gapG_len f (l.drop n)
      simp at h2 ⊢
      omega
theorem gap_len (l : List UInt8) : (gap l).1 ≤ l.length := gapG_len _ l

/-- Next, of the rest of a text: a token, where it begins and ends; or the place of what can't be read. -/
def nextF (l : List UInt8) : Except Nat (Tok × Nat × Nat) :=
  if (gap l).2 then
    match readF (l.drop (gap l).1) with
    | none => .error (gap l).1
    | some (t, n) => .ok (t, (gap l).1, (gap l).1 + n)
  else .error (gap l).1
end Go.Proofs.YtjeioblhpfogfaaGreatDoorLx
namespace Go.Proofs
open Go.Shelf
open Go.RowKit in
open Go.RowKit in
open Go.RowKit in
open Go.RowKit in
open Go.RowKit in
open Go.RowKit in
def Tryz.lays137_ren : Go.Shelf.Ren := ⟨fun | 137 => 215 | 217 => 243 | 266 => 260 | n => n, fun | 9 => 9 | 5 => 5 | 3 => 3 | n => n, fun | n => n⟩
theorem Tryz.lays137 : Go.Proofs.Lays.n137 Tryz.prog Tryz.lays137_ren := {
  mixed := by kernel_rfl
  f137 := Tryz.func215.trans (congrArg some (by kernel_rfl))
  f217 := Tryz.func243.trans (congrArg some (by kernel_rfl))
  f266 := Tryz.func260.trans (congrArg some (by kernel_rfl))
  t3 := Tryz.underlying3
  a3 := Tryz.isAgg3
  z3 := Tryz.sizeOf3
  v3 := Tryz.zeroValue3
  t5 := Tryz.underlying5
  a5 := Tryz.isAgg5
  z5 := Tryz.sizeOf5
  v5 := Tryz.zeroValue5
  t9 := Tryz.underlying9
  a9 := Tryz.isAgg9
  z9 := Tryz.sizeOf9
  v9 := Tryz.zeroValue9 }
open Go.RowKit in
/-- strings.IndexByte: "IndexByte returns the index of the first instance of c in s, or -1 if c is not present in s.": IT RETURNS 'Lib.indexByte s c'; the world is as it was. (LAID: no walk: one application.) -/
theorem Tryz.strings_IndexByte (s : ByteArray) (c : Int) (w : World) :
    Calls Tryz.prog 215 #[.string s, .int .u8 c] w fun e w' => e = .returned (.int .i64 (Lib.indexByte s.data.toList c.toNat.toUInt8)) ∧ w' = w := Any.strings_IndexByte Tryz.lays137 s c w
open Go.Lib in
open Go.Lib in
open Go.Lib in
open Go.Lib in
open Go.RowKit Go.Sort Go.Lib in
def Tryz.laysM316_ren : Go.Shelf.Ren := ⟨fun | 316 => 248 | n => n, fun | 9 => 9 | 3 => 3 | 4 => 4 | 37 => 40 | 0 => 0 | 127 => 122 | 5 => 5 | n => n, fun | n => n⟩
theorem Tryz.laysM316 : Go.Proofs.LaysM.n316 Tryz.prog Tryz.laysM316_ren := {
  mixed := by kernel_rfl
  f316 := Tryz.func248.trans (congrArg some (by kernel_rfl))
  t0 := Tryz.underlying0
  a0 := Tryz.isAgg0
  z0 := Tryz.sizeOf0
  v0 := Tryz.zeroValue0
  t3 := Tryz.underlying3
  a3 := Tryz.isAgg3
  z3 := Tryz.sizeOf3
  v3 := Tryz.zeroValue3
  t4 := Tryz.underlying4
  a4 := Tryz.isAgg4
  z4 := Tryz.sizeOf4
  v4 := Tryz.zeroValue4
  t9 := Tryz.underlying9
  a9 := Tryz.isAgg9
  z9 := Tryz.sizeOf9
  v9 := Tryz.zeroValue9
  t37 := Tryz.underlying40
  a37 := Tryz.isAgg40
  z37 := Tryz.sizeOf40
  v37 := Tryz.zeroValue40
  t127 := Tryz.underlying122
  a127 := Tryz.isAgg122
  z127 := Tryz.sizeOf122
  v127 := Tryz.zeroValue122
  t5 := Tryz.underlying5
  a5 := Tryz.isAgg5
  z5 := Tryz.sizeOf5
  v5 := Tryz.zeroValue5
  i0 := by kernel_rfl
  i3 := by kernel_rfl
  i4 := by kernel_rfl
  i5 := by kernel_rfl
  i9 := by kernel_rfl
  i37 := by kernel_rfl
  i127 := by kernel_rfl }
open Go.RowKit in
/-- internal/stringslite.Clone (what strings.Clone calls): "Clone returns a fresh copy of s.": THE SAME BYTES. Of what was there nothing has turned (a new row is laid, and frozen, where s is not empty). (LAID: no walk: one application.) -/
theorem Tryz.stringslite_Clone (s : ByteArray) (w : World) (hlim : s.size ≤ 281474976710656) :
    Calls Tryz.prog 248 #[.string s] w fun e w' => e = .returned (.string s) ∧ Below w.heap.size w w' := Any.stringslite_Clone Tryz.laysM316 s w hlim
open Go.RowKit Go.Lib in
open Go.RowKit Go.Lib in
open Go.RowKit Go.Lib in
open Go.RowKit Go.Lib in
open Go.RowKit Go.Lib in
open Go.RowKit Go.Lib in
def Tryz.lays143_ren : Go.Shelf.Ren := ⟨fun | 143 => 171 | 219 => 216 | 217 => 243 | 225 => 244 | 224 => 245 | 267 => 246 | 266 => 260 | 314 => 261 | n => n, fun | 9 => 9 | 3 => 3 | 4 => 4 | 5 => 5 | 46 => 165 | 146 => 188 | 51 => 22 | n => n, fun | 1 => 1 | n => n⟩
theorem Tryz.lays143 : Go.Proofs.Lays.n143 Tryz.prog Tryz.lays143_ren := {
  mixed := by kernel_rfl
  f143 := Tryz.func171.trans (congrArg some (by kernel_rfl))
  f217 := Tryz.func243.trans (congrArg some (by kernel_rfl))
  f219 := Tryz.func216.trans (congrArg some (by kernel_rfl))
  f224 := Tryz.func245.trans (congrArg some (by kernel_rfl))
  f225 := Tryz.func244.trans (congrArg some (by kernel_rfl))
  f266 := Tryz.func260.trans (congrArg some (by kernel_rfl))
  f267 := Tryz.func246.trans (congrArg some (by kernel_rfl))
  f314 := Tryz.func261.trans (congrArg some (by kernel_rfl))
  t3 := Tryz.underlying3
  a3 := Tryz.isAgg3
  z3 := Tryz.sizeOf3
  v3 := Tryz.zeroValue3
  t4 := Tryz.underlying4
  a4 := Tryz.isAgg4
  z4 := Tryz.sizeOf4
  v4 := Tryz.zeroValue4
  t5 := Tryz.underlying5
  a5 := Tryz.isAgg5
  z5 := Tryz.sizeOf5
  v5 := Tryz.zeroValue5
  t9 := Tryz.underlying9
  a9 := Tryz.isAgg9
  z9 := Tryz.sizeOf9
  v9 := Tryz.zeroValue9
  t46 := Tryz.underlying165
  a46 := Tryz.isAgg165
  z46 := Tryz.sizeOf165
  v46 := Tryz.zeroValue165
  t51 := Tryz.underlying22
  a51 := Tryz.isAgg22
  z51 := Tryz.sizeOf22
  v51 := Tryz.zeroValue22
  t146 := Tryz.underlying188
  a146 := Tryz.isAgg188
  z146 := Tryz.sizeOf188
  v146 := Tryz.zeroValue188
  g1 := by kernel_rfl }
open Go.RowKit Go.Lib in
open Go.RowKit Go.Lib in
/-- strings.Index: "Index returns the index of the first instance of substr in s, or -1 if substr is not present in s.": IT RETURNS 'Lib.index s substr'; the world is as it was. (LAID: no walk: one application.) -/
theorem Tryz.strings_Index (s sub : ByteArray) (m : Int) (w : World) (hs : s.size < 4294967281) (hm : w.cell? ⟨1, 0, none⟩ = some (.int .i64 m)) :
    Calls Tryz.prog 171 #[.string s, .string sub] w fun e w' => e = .returned (.int .i64 (Lib.index s.data.toList sub.data.toList)) ∧ w' = w := Any.strings_Index Tryz.lays143 s sub m w hs hm
open Go.RowKit Go.Lib in
def Tryz.laysM143_ren : Go.Shelf.Ren := ⟨fun | 143 => 171 | 219 => 216 | 217 => 243 | 225 => 244 | 224 => 245 | 267 => 246 | 266 => 260 | 314 => 261 | n => n, fun | 9 => 9 | 3 => 3 | 4 => 4 | 5 => 5 | 46 => 165 | 146 => 188 | 51 => 22 | n => n, fun | 1 => 1 | n => n⟩
theorem Tryz.laysM143 : Go.Proofs.LaysM.n143 Tryz.prog Tryz.laysM143_ren := {
  mixed := by kernel_rfl
  f143 := Tryz.func171.trans (congrArg some (by kernel_rfl))
  f217 := Tryz.func243.trans (congrArg some (by kernel_rfl))
  f219 := Tryz.func216.trans (congrArg some (by kernel_rfl))
  f224 := Tryz.func245.trans (congrArg some (by kernel_rfl))
  f225 := Tryz.func244.trans (congrArg some (by kernel_rfl))
  f266 := Tryz.func260.trans (congrArg some (by kernel_rfl))
  f267 := Tryz.func246.trans (congrArg some (by kernel_rfl))
  f314 := Tryz.func261.trans (congrArg some (by kernel_rfl))
  t3 := Tryz.underlying3
  a3 := Tryz.isAgg3
  z3 := Tryz.sizeOf3
  v3 := Tryz.zeroValue3
  t4 := Tryz.underlying4
  a4 := Tryz.isAgg4
  z4 := Tryz.sizeOf4
  v4 := Tryz.zeroValue4
  t5 := Tryz.underlying5
  a5 := Tryz.isAgg5
  z5 := Tryz.sizeOf5
  v5 := Tryz.zeroValue5
  t9 := Tryz.underlying9
  a9 := Tryz.isAgg9
  z9 := Tryz.sizeOf9
  v9 := Tryz.zeroValue9
  t46 := Tryz.underlying165
  a46 := Tryz.isAgg165
  z46 := Tryz.sizeOf165
  v46 := Tryz.zeroValue165
  t51 := Tryz.underlying22
  a51 := Tryz.isAgg22
  z51 := Tryz.sizeOf22
  v51 := Tryz.zeroValue22
  t146 := Tryz.underlying188
  a146 := Tryz.isAgg188
  z146 := Tryz.sizeOf188
  v146 := Tryz.zeroValue188
  g1 := by kernel_rfl
  i3 := by kernel_rfl
  i4 := by kernel_rfl
  i5 := by kernel_rfl
  i9 := by kernel_rfl
  i46 := by kernel_rfl
  i51 := by kernel_rfl
  i146 := by kernel_rfl
  m1 := by kernel_rfl
  s1_3 := fun w h => Go.Proofs.cell_of_shapedOpen_int (zero := #[.int .i64 0]) (t := 3) h (of_decide_eq_true (by kernel_rfl)) (by kernel_rfl) rfl (by kernel_rfl) (by kernel_rfl) Tryz.underlying3 }
open Go.RowKit Go.Lib in
open Go.RowKit Go.Lib in
def Tryz.lays99_ren : Go.Shelf.Ren := ⟨fun | 99 => 169 | 206 => 214 | n => n, fun | 9 => 9 | 4 => 4 | 3 => 3 | n => n, fun | n => n⟩
theorem Tryz.lays99 : Go.Proofs.Lays.n99 Tryz.prog Tryz.lays99_ren := {
  mixed := by kernel_rfl
  f99 := Tryz.func169.trans (congrArg some (by kernel_rfl))
  f206 := Tryz.func214.trans (congrArg some (by kernel_rfl))
  t3 := Tryz.underlying3
  a3 := Tryz.isAgg3
  z3 := Tryz.sizeOf3
  v3 := Tryz.zeroValue3
  t4 := Tryz.underlying4
  a4 := Tryz.isAgg4
  z4 := Tryz.sizeOf4
  v4 := Tryz.zeroValue4
  t9 := Tryz.underlying9
  a9 := Tryz.isAgg9
  z9 := Tryz.sizeOf9
  v9 := Tryz.zeroValue9 }
open Go.RowKit Go.Lib in
/-- strings.HasPrefix: "HasPrefix reports whether the string s begins with prefix.": IT RETURNS 'Lib.hasPrefix s prefix'; the world is as it was. (LAID: no walk: one application.) -/
theorem Tryz.strings_HasPrefix (s p : ByteArray) (w : World) :
    Calls Tryz.prog 169 #[.string s, .string p] w fun e w' => e = .returned (.bool (Lib.hasPrefix s.data.toList p.data.toList)) ∧ w' = w := Any.strings_HasPrefix Tryz.lays99 s p w
end Go.Proofs
namespace Go.Proofs.YtjeioblhpfogfaaGreatDoorLx
open Go.RowKit

theorem mixed : Tryz.prog.follows .mixedOrders = true := by kernel_rfl
theorem hid {x : Prop} (h : x) : Hid x := h
theorem ret_b {a b : Bool} (h : a = b) : Ending.returned (.bool a) = .returned (.bool b) := by rw [h]
theorem ret_int {k : IntKind} {a b : Int} (h : a = b) : Ending.returned (.int k a) = .returned (.int k b) := by rw [h]
theorem bcell {W w1 : World} (hb : Below W.heap.size W w1) : (∀ b o, b < W.heap.size → w1.cell? ⟨b, o, none⟩ = W.cell? ⟨b, o, none⟩) ∧ (∀ b o, b < W.heap.size → w1.frozen? ⟨b, o, none⟩ = W.frozen? ⟨b, o, none⟩) :=
  ⟨fun b o h => hb.cell (p := ⟨b, o, none⟩) h, fun b o h => hb.frozen (p := ⟨b, o, none⟩) h⟩
theorem below_box (w : World) (o : Obj) : Below w.heap.size w (w.alloc o) := (Below.refl _ _).alloc (Nat.le_refl _) _
theorem below_box2 {w w1 : World} {o : Obj} (h : Below (w.alloc o).heap.size (w.alloc o) w1) : Below w.heap.size w w1 := (below_box w o).trans (h.mono (by simp))
theorem below_drewN (w : World) (n : Nat) : Below w.heap.size w (w.drewN n) := ⟨rfl, rfl, rfl, Nat.le_refl _, fun _ _ => rfl⟩
/-- A text's bytes (a name of its own, so that the walk leaves it alone). -/
def lst (s : ByteArray) : List UInt8 := s.data.toList
theorem lst_len (s : ByteArray) : (lst s).length = s.size := size_list s
theorem lst_cons (s : ByteArray) (k : Nat) (h : k < s.size) : (lst s).drop k = s[k] :: (lst s).drop (k + 1) := drop_cons s k h
theorem lst_cons0 (s : ByteArray) (h : 0 < s.size) : lst s = s[0] :: (lst s).drop 1 := drop_cons s 0 h
theorem lst_nil (s : ByteArray) (k : Nat) (h : s.size ≤ k) : (lst s).drop k = [] := drop_nil s k h
theorem lst_ext (s : ByteArray) (k : Nat) : lst (s.extract k s.size) = (lst s).drop k := ext_drop s k
theorem lst_ext0 (s : ByteArray) (k : Nat) : lst (s.extract 0 k) = (lst s).take k := ext_take s k
theorem lst_strL (l : List UInt8) : lst (strL l) = l := strL_list l
theorem ext_size (s : ByteArray) (k : Nat) : (s.extract k s.size).size = s.size - k := by rw [ByteArray.size_extract]; omega
theorem lst_strL_ext0 (s : ByteArray) (k : Nat) : s.extract 0 k = strL ((lst s).take k) := ext_strL0 s k

theorem hasPrefix34 (s t : ByteArray) (p : List UInt8) (hp : t.data.toList = p) (w : World) : Calls Tryz.prog 169 #[.string s, .string t] w fun e w' => e = .returned (.bool (p.isPrefixOf (lst s))) ∧ w' = w := by
  subst hp
  exact Tryz.strings_HasPrefix s t w
theorem index36 (s t : ByteArray) (p : List UInt8) (hp : t.data.toList = p) (m : Int) (w : World) (hs : s.size < 4294967281) (hm : w.cell? ⟨1, 0, none⟩ = some (.int .i64 m)) :
    Calls Tryz.prog 171 #[.string s, .string t] w fun e w' => e = .returned (.int .i64 (Lib.index (lst s) p)) ∧ w' = w := by
  subst hp
  exact Tryz.strings_Index s t m w hs hm

abbrev byteV (c : UInt8) : Value := .int .u8 (c.toNat : Int)

theorem int_dec {a b : Bool} (h : a = true ↔ b = true) : a = b := Bool.eq_iff_iff.2 h
theorem isDigit25 (c : UInt8) (w : World) : Calls Tryz.prog 172 #[byteV c] w fun e w' => e = .returned (.bool (dig c)) ∧ w' = w := by
  go_enter Tryz.func172, Tryz.ntmps172
  go_wp2
  all_goals go_ret
  all_goals (refine ⟨ret_b (int_dec ?_), rfl⟩; simp only [dig, Bool.and_eq_true, decide_eq_true_eq, Bool.false_eq_true, false_iff]; omega)
theorem digit28 (c : UInt8) (w : World) : Calls Tryz.prog 115 #[byteV c] w fun e w' => e = .returned (.bool (dig c)) ∧ w' = w := by
  go_enter Tryz.func115, Tryz.ntmps115
  go_wp2
  all_goals go_ret
  all_goals (refine ⟨ret_b (int_dec ?_), rfl⟩; simp only [dig, Bool.and_eq_true, decide_eq_true_eq, Bool.false_eq_true, false_iff]; omega)
theorem isInName26 (c : UInt8) (w : World) : Calls Tryz.prog 174 #[byteV c] w fun e w' => e = .returned (.bool (nm c)) ∧ w' = w := by
  go_enter Tryz.func174, Tryz.ntmps174
  go_wp2_with (go_at_call 172; refine (isDigit25 _ _).mono ?_; rintro e w1 ⟨rfl, rfl⟩)
  all_goals go_ret
  all_goals (refine ⟨ret_b (int_dec ?_), rfl⟩; simp only [nm, letr, Bool.and_eq_true, Bool.or_eq_true, decide_eq_true_eq]; by_cases hd : dig c = true <;> first | (simp [hd]; done) | (simp [hd]; omega))
theorem letter27 (c : UInt8) (w : World) : Calls Tryz.prog 114 #[byteV c] w fun e w' => e = .returned (.bool (letr c)) ∧ w' = w := by
  go_enter Tryz.func114, Tryz.ntmps114
  go_wp2
  all_goals go_ret
  all_goals (refine ⟨ret_b (int_dec ?_), rfl⟩; simp only [letr, Bool.and_eq_true, Bool.or_eq_true, decide_eq_true_eq, beq_iff_eq, eq_self, true_iff]; omega)
theorem isBlank33 (c : UInt8) (w : World) : Calls Tryz.prog 168 #[byteV c] w fun e w' => e = .returned (.bool (blank c)) ∧ w' = w := by
  go_enter Tryz.func168, Tryz.ntmps168
  go_wp2
  all_goals go_ret
  all_goals (refine ⟨ret_b (int_dec ?_), rfl⟩; simp only [blank, Bool.or_eq_true, decide_eq_true_eq, beq_iff_eq, eq_self, true_iff]; omega)
theorem isPlain49 (c : UInt8) (w : World) : Calls Tryz.prog 249 #[byteV c] w fun e w' => e = .returned (.bool (plainB c)) ∧ w' = w := by
  go_enter Tryz.func249, Tryz.ntmps249
  go_wp2
  all_goals go_ret
  all_goals (refine ⟨ret_b (int_dec ?_), rfl⟩; simp only [plainB, Bool.and_eq_true, decide_eq_true_eq, Bool.false_eq_true, false_iff]; omega)

theorem hexv_spec (c : UInt8) : (dig c = true ∧ 48 ≤ c.toNat ∧ c.toNat ≤ 57 ∧ hexv c = c.toNat - 48) ∨ (dig c = false ∧ 97 ≤ c.toNat ∧ c.toNat ≤ 102 ∧ hexv c = c.toNat - 87) ∨ (dig c = false ∧ 65 ≤ c.toNat ∧ c.toNat ≤ 70 ∧ hexv c = c.toNat - 55) ∨
    (dig c = false ∧ ¬ (48 ≤ c.toNat ∧ c.toNat ≤ 57) ∧ ¬ (97 ≤ c.toNat ∧ c.toNat ≤ 102) ∧ ¬ (65 ≤ c.toNat ∧ c.toNat ≤ 70) ∧ hexv c = 16) := by
  have hd : dig c = true ↔ (48 ≤ c.toNat ∧ c.toNat ≤ 57) := by simp [dig]
  by_cases h1 : 48 ≤ c.toNat ∧ c.toNat ≤ 57
  · have e := hd.2 h1
    exact .inl ⟨e, h1.1, h1.2, by unfold hexv; rw [if_pos e]⟩
  · have e : dig c = false := by
      cases h : dig c
      · rfl
      · exact absurd (hd.1 h) h1
    have e' : ¬ dig c = true := by rw [e]; simp
    by_cases h2 : 97 ≤ c.toNat ∧ c.toNat ≤ 102
    · exact .inr (.inl ⟨e, h2.1, h2.2, by unfold hexv; rw [if_neg e', if_pos h2]⟩)
    · by_cases h3 : 65 ≤ c.toNat ∧ c.toNat ≤ 70
      · exact .inr (.inr (.inl ⟨e, h3.1, h3.2, by unfold hexv; rw [if_neg e', if_neg h2, if_pos h3]⟩))
      · exact .inr (.inr (.inr ⟨e, h1, h2, h3, by unfold hexv; rw [if_neg e', if_neg h2, if_neg h3]⟩))
theorem digit66 (c : UInt8) (w : World) : Calls Tryz.prog 247 #[byteV c] w fun e w' => e = .returned (.int .u64 (hexv c : Nat)) ∧ w' = w := by
  have hs := hid (hexv_spec c)
  generalize hexv c = x at hs ⊢
  go_enter Tryz.func247, Tryz.ntmps247
  go_wp2_with (go_at_call 172; refine (isDigit25 _ _).mono ?_; rintro e w1 ⟨rfl, rfl⟩)
  all_goals go_ret
  all_goals (refine ⟨ret_int ?_, rfl⟩; rcases hs.out with ⟨e, h1, h2, h3⟩ | ⟨e, h1, h2, h3⟩ | ⟨e, h1, h2, h3⟩ | ⟨e, h1, h2, h3, h4⟩)
  all_goals first
    | omega
    | (exfalso; simp_all; done)
/-- As the document has it: 99: it is none. -/
def hex9 (c : UInt8) : Nat := if hexv c = 16 then 99 else hexv c
theorem hex9_spec (c : UInt8) : (dig c = true ∧ 48 ≤ c.toNat ∧ c.toNat ≤ 57 ∧ hex9 c = c.toNat - 48) ∨ (dig c = false ∧ 97 ≤ c.toNat ∧ c.toNat ≤ 102 ∧ hex9 c = c.toNat - 87) ∨ (dig c = false ∧ 65 ≤ c.toNat ∧ c.toNat ≤ 70 ∧ hex9 c = c.toNat - 55) ∨
    (dig c = false ∧ ¬ (48 ≤ c.toNat ∧ c.toNat ≤ 57) ∧ ¬ (97 ≤ c.toNat ∧ c.toNat ≤ 102) ∧ ¬ (65 ≤ c.toNat ∧ c.toNat ≤ 70) ∧ hex9 c = 99) := by
  unfold hex9
  rcases hexv_spec c with ⟨e, h1, h2, h3⟩ | ⟨e, h1, h2, h3⟩ | ⟨e, h1, h2, h3⟩ | ⟨e, h1, h2, h3, h4⟩
  · exact .inl ⟨e, h1, h2, by rw [if_neg (by omega), h3]⟩
  · exact .inr (.inl ⟨e, h1, h2, by rw [if_neg (by omega), h3]⟩)
  · exact .inr (.inr (.inl ⟨e, h1, h2, by rw [if_neg (by omega), h3]⟩))
  · exact .inr (.inr (.inr ⟨e, h1, h2, h3, by rw [if_pos h4]⟩))
theorem hex9_lt (c : UInt8) (b : Nat) (hb : b ≤ 16) : hex9 c < b ↔ hexv c < b := by
  unfold hex9
  have := hexv_le c
  split <;> omega
theorem hex9_eq {c : UInt8} (h : hexv c < 16) : hex9 c = hexv c := by unfold hex9; rw [if_neg (by omega)]
theorem hex57 (c : UInt8) (w : World) : Calls Tryz.prog 165 #[byteV c] w fun e w' => e = .returned (.int .i64 (hex9 c : Nat)) ∧ w' = w := by
  have hs := hid (hex9_spec c)
  generalize hex9 c = x at hs ⊢
  go_enter Tryz.func165, Tryz.ntmps165
  go_wp2_with (go_at_call 115; refine (digit28 _ _).mono ?_; rintro e w1 ⟨rfl, rfl⟩)
  all_goals go_ret
  all_goals (refine ⟨ret_int ?_, rfl⟩; rcases hs.out with ⟨e, h1, h2, h3⟩ | ⟨e, h1, h2, h3⟩ | ⟨e, h1, h2, h3⟩ | ⟨e, h1, h2, h3, h4⟩)
  all_goals first
    | omega
    | (exfalso; simp_all; done)

/-- A byte of a text; 0: there is none. -/
def byteAt (l : List UInt8) : UInt8 := l.headD 0
theorem at58_in (s : ByteArray) (k : Nat) (hk : k < s.size) (w : World) : Calls Tryz.prog 166 #[.string s, .int .i64 (k : Int)] w fun e w' => e = .returned (byteV s[k]) ∧ w' = w := by
  have h' : (k : Int) < s.size := by omega
  go_enter Tryz.func166, Tryz.ntmps166
  go_wp2
  go_ret
  exact ⟨rfl, rfl⟩
theorem at58_out (s : ByteArray) (k : Int) (hk : k < 0 ∨ (s.size : Int) ≤ k) (w : World) : Calls Tryz.prog 166 #[.string s, .int .i64 k] w fun e w' => e = .returned (byteV 0) ∧ w' = w := by
  go_enter Tryz.func166, Tryz.ntmps166
  go_wp2
  all_goals first
    | (go_ret; exact ⟨rfl, rfl⟩)
    | (exfalso; omega)
theorem at58 (s : ByteArray) (k : Nat) (w : World) : Calls Tryz.prog 166 #[.string s, .int .i64 (k : Int)] w fun e w' => e = .returned (byteV (byteAt ((lst s).drop k))) ∧ w' = w := by
  by_cases hk : k < s.size
  · rw [lst_cons s k hk]; exact at58_in s k hk w
  · rw [lst_nil s k (by omega)]; exact at58_out s k (.inr (by omega)) w

theorem pre_dec (s t : ByteArray) (k : Nat) : ((s.extract k (k + t.size)).toList == t.toList) = t.data.toList.isPrefixOf (s.data.toList.drop k) := by
  rw [ByteArray.toList_eq, ByteArray.toList_eq, ext_data, Nat.add_sub_cancel_left]
  refine int_dec ?_
  rw [beq_iff_eq, List.isPrefixOf_iff_prefix, List.prefix_iff_eq_take, size_list]
  exact ⟨Eq.symm, Eq.symm⟩
/-- Does a text stand at a place? -/
theorem is42 (s t : ByteArray) (p : List UInt8) (hp : t.data.toList = p) (k : Nat) (hk : k ≤ s.size) (hs : s.size < 4611686018427387904) (w : World) : Calls Tryz.prog 113 #[.string s, .int .i64 (k : Int), .string t] w fun e w' => e = .returned (.bool (p.isPrefixOf ((lst s).drop k))) ∧ w' = w := by
  subst hp
  by_cases hle : k + t.size ≤ s.size
  · have h1 : (k : Int) + t.size ≤ s.size := by omega
    have h2 : (k : Int) ≤ (k : Int) + t.size := by omega
    go_enter Tryz.func113, Tryz.ntmps113
    go_wp2
    go_ret
    exact ⟨ret_b (pre_dec s t k), rfl⟩
  · have h1 : (s.size : Int) - k < t.size := by omega
    go_enter Tryz.func113, Tryz.ntmps113
    go_wp2
    go_ret
    refine ⟨ret_b ?_, rfl⟩
    symm
    rw [Bool.eq_false_iff]
    intro h
    have := (List.isPrefixOf_iff_prefix.1 h).length_le
    rw [List.length_drop, size_list, lst_len] at this
    omega
end Go.Proofs.YtjeioblhpfogfaaGreatDoorLx
namespace Go.Proofs.YtjeioblhpfogfaaGreatDoorLx
open Go.RowKit

theorem index_line : ∀ l : List UInt8, (Lib.indexByte l 10 = -1 ∧ lineN l = l.length) ∨ (Lib.indexByte l 10 = (lineN l : Nat) ∧ lineN l < l.length)
  | [] => .inl ⟨rfl, rfl⟩
  | b :: l => by
    unfold Lib.indexByte
    by_cases h : b = 10
    · subst h
      exact .inr ⟨by simp [lineN], by simp [lineN]⟩
    · have hb : ¬ b.toNat = 10 := fun e => h (UInt8.toNat_inj.1 e)
      have e : lineN (b :: l) = lineN l + 1 := by
        unfold lineN
        rw [List.takeWhile_cons_of_pos (by simpa using hb)]
        rfl
      rw [if_neg (by simpa using h), e]
      rcases index_line l with ⟨h1, h2⟩ | ⟨h1, h2⟩
      · exact .inl ⟨by rw [h1]; rfl, by simp [h2]⟩
      · refine .inr ⟨?_, by simp; omega⟩
        rw [h1, if_neg (by simp)]
        omega

theorem line35 (s : ByteArray) (w : World) : Calls Tryz.prog 170 #[.string s] w fun e w' => e = .returned (.int .i64 (lineN (lst s) : Nat)) ∧ w' = w := by
  have hl := lst_len s
  rcases index_line (lst s) with ⟨h1, h2⟩ | ⟨h1, h2⟩
  · generalize lineN (lst s) = x at *
    have hc := fun w => Tryz.strings_IndexByte s 10 w
    have e : (10 : Int).toNat.toUInt8 = 10 := rfl
    rw [e] at hc
    unfold lst at h1
    rw [h1] at hc
    go_enter Tryz.func170, Tryz.ntmps170
    go_wp2_with (go_at_call 215; refine (hc _).mono ?_; rintro e w1 ⟨rfl, rfl⟩)
    go_ret
    exact ⟨ret_int (by rw [h2, hl]), rfl⟩
  · generalize lineN (lst s) = x at *
    have hc := fun w => Tryz.strings_IndexByte s 10 w
    have e : (10 : Int).toNat.toUInt8 = 10 := rfl
    rw [e] at hc
    unfold lst at h1
    rw [h1] at hc
    go_enter Tryz.func170, Tryz.ntmps170
    go_wp2_with (go_at_call 215; refine (hc _).mono ?_; rintro e w1 ⟨rfl, rfl⟩)
    go_ret
    exact ⟨rfl, rfl⟩

theorem step_blank {l r : List UInt8} {c : UInt8} (hl : l = c :: r) (h : blank c = true) : gapStep l = some (some 1) := by subst hl; simp [gapStep, h]
theorem step_line {l r : List UInt8} {c : UInt8} (hl : l = c :: r) (h : blank c = false) (h1 : [47, 47].isPrefixOf l = true) : gapStep l = some (some (lineN l)) := by
  subst hl; simp only [gapStep, h, h1]; rfl
theorem step_open {l r : List UInt8} {c : UInt8} (hl : l = c :: r) (h : blank c = false) (h1 : [47, 47].isPrefixOf l = false) (h2 : [47, 42].isPrefixOf l = true) (h3 : Lib.index (l.drop 2) [42, 47] < 0) : gapStep l = none := by
  subst hl; simp only [gapStep, h, h1, h2, if_pos h3]; rfl
theorem step_shut {l r : List UInt8} {c : UInt8} (hl : l = c :: r) (h : blank c = false) (h1 : [47, 47].isPrefixOf l = false) (h2 : [47, 42].isPrefixOf l = true) (h3 : ¬ Lib.index (l.drop 2) [42, 47] < 0) : gapStep l = some (some (2 + (Lib.index (l.drop 2) [42, 47]).toNat + 2)) := by
  subst hl; simp only [gapStep, h, h1, h2, if_neg h3]; rfl
theorem step_here {l r : List UInt8} {c : UInt8} (hl : l = c :: r) (h : blank c = false) (h1 : [47, 47].isPrefixOf l = false) (h2 : [47, 42].isPrefixOf l = false) : gapStep l = some none := by
  subst hl; simp only [gapStep, h, h1, h2]; rfl

/-- One step on the way. -/
theorem gap_next {l : List UInt8} {k0 k n : Nat} (hk : k0 ≤ k) (hg : gap (l.drop k0) = ((k - k0) + (gap (l.drop k)).1, (gap (l.drop k)).2)) (hn : gapStep (l.drop k) = some (some n)) :
    gap (l.drop k0) = ((k + n - k0) + (gap (l.drop (k + n))).1, (gap (l.drop (k + n))).2) := by
  rw [hg, gap_more hn, List.drop_drop]
  simp only [Prod.mk.injEq, and_true]
  omega
theorem gap_stop {l : List UInt8} {k0 k : Nat} {b : Bool} (hk : k0 ≤ k) (hg : gap (l.drop k0) = ((k - k0) + (gap (l.drop k)).1, (gap (l.drop k)).2)) (hn : gap (l.drop k) = (0, b)) :
    k0 + (gap (l.drop k0)).1 = k ∧ (gap (l.drop k0)).2 = b := by
  rw [hg, hn]
  simp only [and_true]
  omega

theorem vi {a b : Int} (h : a = b) : Value.int .i64 a = Value.int .i64 b := by rw [h]
theorem lst_ext2 (s : ByteArray) (k : Nat) : lst ((s.extract k s.size).extract 2 (s.size - k)) = ((lst s).drop k).drop 2 := by
  have h := lst_ext (s.extract k s.size) 2
  rw [ext_size, lst_ext] at h
  exact h
theorem ret_ib {a b : Int} {c d : Bool} (h : a = b) (h2 : c = d) : Ending.returned (.tuple #[.int .i64 a, .bool c]) = .returned (.tuple #[.int .i64 b, .bool d]) := by rw [h, h2]
theorem w64 {x : Int} (h0 : 0 ≤ x) (h1 : x < 9223372036854775808) : wrap64 x = x := by unfold wrap64; omega

theorem skip21 (s : ByteArray) (k0 : Nat) (h0 : k0 ≤ s.size) (hs : s.size < 4294967281) (m : Int) (w : World) (hm : w.cell? ⟨1, 0, none⟩ = some (.int .i64 m)) :
    Calls Tryz.prog 119 #[.string s, .int .i64 (k0 : Int)] w fun e w' => e = .returned (.tuple #[.int .i64 ((k0 + (gap ((lst s).drop k0)).1 : Nat) : Int), .bool (gap ((lst s).drop k0)).2]) ∧ w' = w := by
  obtain ⟨A, hA⟩ : ∃ A, A = k0 + (gap ((lst s).drop k0)).1 := ⟨_, rfl⟩
  obtain ⟨B, hB⟩ : ∃ B, B = (gap ((lst s).drop k0)).2 := ⟨_, rfl⟩
  rw [← hA, ← hB]
  replace hA := hid hA
  replace hB := hid hB
  go_enter Tryz.func119, Tryz.ntmps119
  go_wp2
  go_loop [1] (fun i => ∃ k : Nat, k0 ≤ k ∧ k ≤ s.size ∧ i = .int .i64 k ∧ gap ((lst s).drop k0) = ((k - k0) + (gap ((lst s).drop k)).1, (gap ((lst s).drop k)).2)) (fun i => s.size - (intOf i).toNat)
  case atStart => exact ⟨k0, Nat.le_refl _, h0, rfl, by simp⟩
  case round =>
    obtain ⟨k, hk0, hk, rfl, hg⟩ := hrel
    have hgH := hid hg
    clear hg
    have hsz := lst_len s
    by_cases hlt : k < s.size
    · have hT : (s.extract k s.size).size = s.size - k := ext_size s k
      have hT0 : 0 < (s.extract k s.size).size := by omega
      have hl := hid (lst_cons0 (s.extract k s.size) hT0)
      rw [lst_ext] at hl
      have hl2 := hid (lst_ext s k)
      have hl3 := hid (lst_ext2 s k)
      go_wp2_with (first
        | (go_at_call 168; refine (isBlank33 _ _).mono ?_; rintro e w1 ⟨rfl, rfl⟩)
        | (go_at_call 169; (with_reducible refine (hasPrefix34 _ _ [47, 47] rfl _).mono ?_); rintro e w1 ⟨rfl, rfl⟩)
        | (go_at_call 169; refine (hasPrefix34 _ _ [47, 42] rfl _).mono ?_; rintro e w1 ⟨rfl, rfl⟩)
        | (go_at_call 170; refine (line35 _ _).mono ?_; rintro e w1 ⟨rfl, rfl⟩)
        | (go_at_call 171; refine (index36 _ _ [42, 47] rfl m _ (by (rw [ByteArray.size_extract]; omega)) hm).mono ?_; rintro e w1 ⟨rfl, rfl⟩))
      · have hst := step_blank hl.out ‹blank (s.extract k s.size)[0] = true›
        have hg' := gap_next hk0 hgH.out hst
        exact ⟨⟨k + 1, by omega, by omega, vi (by omega), hg'⟩, by simp [intOf]; omega⟩
      · have hst := step_line hl.out ‹blank (s.extract k s.size)[0] = false› (by rw [← hl2.out]; assumption)
        have hg' := gap_next hk0 hgH.out hst
        have hn := gapStep_len hst
        rw [hl2.out]
        generalize lineN (List.drop k (lst s)) = x at *
        rw [List.length_drop] at hn
        rw [w64 (by omega) (by omega)]
        exact ⟨⟨k + x, by omega, by omega, vi (by omega), hg'⟩, by simp [intOf]; omega⟩
      · have hi : Lib.index (lst ((s.extract k s.size).extract 2 (s.size - k))) [42, 47] < 0 := by assumption
        rw [hl3.out] at hi
        have hst := step_open hl.out ‹blank (s.extract k s.size)[0] = false› (by rw [← hl2.out]; assumption) (by rw [← hl2.out]; assumption) hi
        obtain ⟨e1, e2⟩ := gap_stop hk0 hgH.out (gap_bad hst)
        refine bodyPost_ret (v := .tuple #[.int .i64 (k : Int), .bool false]) (by simp [results, Tryz.results119, go_sem]) rfl ⟨?_, rfl⟩
        exact ret_ib (by rw [hA.out, e1]) (by rw [hB.out, e2])
      · have hi : 0 ≤ Lib.index (lst ((s.extract k s.size).extract 2 (s.size - k))) [42, 47] := by assumption
        rw [hl3.out] at hi
        have hst := step_shut hl.out ‹blank (s.extract k s.size)[0] = false› (by rw [← hl2.out]; assumption) (by rw [← hl2.out]; assumption) (by omega)
        have hg' := gap_next hk0 hgH.out hst
        have hn := gapStep_len hst
        rw [hl3.out]
        generalize Lib.index (List.drop 2 (List.drop k (lst s))) [42, 47] = x at *
        rw [List.length_drop] at hn
        rw [w64 (x := 2 + x) (by omega) (by omega), w64 (x := 2 + x + 2) (by omega) (by omega), w64 (by omega) (by omega)]
        exact ⟨⟨k + (2 + x.toNat + 2), by omega, by omega, vi (by omega), hg'⟩, by simp [intOf]; omega⟩
      · exfalso
        have h2 : [47, 42].isPrefixOf (lst (s.extract k s.size)) = true := by assumption
        have h3 := (List.isPrefixOf_iff_prefix.1 h2).length_le
        rw [hl2.out, List.length_drop] at h3
        simp only [List.length_cons, List.length_nil] at h3
        omega
      · have hst := step_here hl.out ‹blank (s.extract k s.size)[0] = false› (by rw [← hl2.out]; assumption) (by rw [← hl2.out]; assumption)
        obtain ⟨e1, e2⟩ := gap_stop hk0 hgH.out (gap_here hst)
        refine bodyPost_ret (v := .tuple #[.int .i64 (k : Int), .bool true]) (by simp [results, Tryz.results119, go_sem]) rfl ⟨?_, rfl⟩
        exact ret_ib (by rw [hA.out, e1]) (by rw [hB.out, e2])
    · go_wp2
      obtain ⟨e1, e2⟩ := gap_stop hk0 hgH.out (gap_here (by rw [lst_nil s k (by omega)]; rfl))
      refine bodyPost_ret (v := .tuple #[.int .i64 (k : Int), .bool true]) (by simp [results, Tryz.results119, go_sem]) rfl ⟨?_, rfl⟩
      exact ret_ib (by rw [hA.out, e1]) (by rw [hB.out, e2])
end Go.Proofs.YtjeioblhpfogfaaGreatDoorLx
