/- Images as bytes: plain mathematics. -/
import Derived.WalkKit
namespace Go.Proofs.Ytlgeajcncmlngaa
open Go.RowKit
set_option linter.unusedVariables false

/-- An image. -/
structure Im where
  code : ByteArray
  data : ByteArray
  global : Int
  entry : Int
  frame : Int

/-- May an instruction begin there? -/
def placeB (c : ByteArray) (k : Int) : Bool := decide (0 ≤ k) && decide (k < c.size) && decide (k % 4 = 0)
theorem place_bounds {c : ByteArray} {k : Int} (h : placeB c k = true) : 0 ≤ k ∧ k < c.size ∧ k % 4 = 0 := by
  unfold placeB at h
  simp at h
  omega

/-- May it be? -/
def Im.may (m : Im) : Bool :=
  decide (m.code.size ≤ 1048576) && decide (m.code.size % 4 = 0) && placeB m.code m.entry && decide (0 ≤ m.global) && decide (m.global ≤ 65536) && decide ((m.data.size : Int) ≤ m.global) && decide (0 ≤ m.frame) && decide (m.frame ≤ 65536)

theorem Im.may_true {m : Im} (h : m.may = true) : m.code.size ≤ 1048576 ∧ m.code.size % 4 = 0 ∧ placeB m.code m.entry = true ∧ 0 ≤ m.global ∧ m.global ≤ 65536 ∧ (m.data.size : Int) ≤ m.global ∧ 0 ≤ m.frame ∧ m.frame ≤ 65536 := by
  unfold Im.may at h
  simp only [Bool.and_eq_true, decide_eq_true_eq] at h
  obtain ⟨⟨⟨⟨⟨⟨⟨h1, h2⟩, h3⟩, h4⟩, h5⟩, h6⟩, h7⟩, h8⟩ := h
  exact ⟨h1, h2, h3, h4, h5, h6, h7, h8⟩
theorem Im.may_false {m : Im} (h : m.may = false) : ¬ m.code.size ≤ 1048576 ∨ ¬ m.code.size % 4 = 0 ∨ placeB m.code m.entry = false ∨ ¬ 0 ≤ m.global ∨ ¬ m.global ≤ 65536 ∨ ¬ (m.data.size : Int) ≤ m.global ∨ ¬ 0 ≤ m.frame ∨ ¬ m.frame ≤ 65536 := by
  unfold Im.may at h
  simp only [Bool.and_eq_false_iff, decide_eq_false_iff_not] at h
  cases hp : placeB m.code m.entry
  · exact .inr (.inr (.inl rfl))
  · rw [hp] at h
    simp at h
    omega
theorem Im.may_false2 {m : Im} (h : m.may = false) : ¬ m.code.size ≤ 1048576 ∨ ¬ m.code.size % 4 = 0 ∨ ¬ 0 ≤ m.entry ∨ ¬ m.entry < m.code.size ∨ ¬ m.entry % 4 = 0 ∨ ¬ 0 ≤ m.global ∨ ¬ m.global ≤ 65536 ∨ ¬ (m.data.size : Int) ≤ m.global ∨ ¬ 0 ≤ m.frame ∨ ¬ m.frame ≤ 65536 := by
  rcases Im.may_false h with h | h | h | h | h | h | h | h
  · exact .inl h
  · exact .inr (.inl h)
  · unfold placeB at h
    simp only [Bool.and_eq_false_iff, decide_eq_false_iff_not] at h
    omega
  all_goals omega

/-- A word's bytes, the lowest first. -/
def wdL (n : Nat) : List UInt8 := [n.toUInt8, (n / 256).toUInt8, (n / 65536).toUInt8, (n / 16777216).toUInt8]
theorem wdL_length (n : Nat) : (wdL n).length = 4 := rfl
theorem wdL_two (n k : Nat) : (wdL n).length = (wdL k).length := rfl
/-- The word of four bytes. -/
def num4 : List UInt8 → Nat
  | a :: b :: c :: d :: _ => a.toNat + b.toNat * 256 + c.toNat * 65536 + d.toNat * 16777216
  | _ => 0
theorem num4_lt (l : List UInt8) : num4 l < 4294967296 := by
  unfold num4
  split
  · rename_i a b c d _
    have := a.toNat_lt
    have := b.toNat_lt
    have := c.toNat_lt
    have := d.toNat_lt
    omega
  · omega
theorem num4_wdL (n : Nat) (h : n < 4294967296) (l : List UInt8) : num4 (wdL n ++ l) = n := by
  simp only [wdL, num4, List.cons_append, List.nil_append, Nat.toUInt8_eq, UInt8.toNat_ofNat']
  omega
theorem toUInt8_eq {n : Nat} {a : UInt8} (h : n % 256 = a.toNat) : n.toUInt8 = a := by
  apply UInt8.toNat_inj.1
  simp only [Nat.toUInt8_eq, UInt8.toNat_ofNat']
  omega
theorem wdL_num4 {l : List UInt8} (h : 4 ≤ l.length) : wdL (num4 l) = l.take 4 := by
  match l, h with
  | a :: b :: c :: d :: r, _ =>
    have ha := a.toNat_lt
    have hb := b.toNat_lt
    have hc := c.toNat_lt
    have hd := d.toNat_lt
    simp only [num4, wdL, List.take_succ_cons, List.take_zero]
    rw [toUInt8_eq (a := a) (by omega), toUInt8_eq (a := b) (by omega), toUInt8_eq (a := c) (by omega), toUInt8_eq (a := d) (by omega)]
theorem wdL_inj {a b : Nat} (ha : a < 4294967296) (hb : b < 4294967296) (h : wdL a = wdL b) : a = b := by
  have := congrArg (fun l => num4 (l ++ [])) h
  simp only [num4_wdL _ ha, num4_wdL _ hb] at this
  exact this

/-- All bytes added, modulo 2^32. -/
def sumL (l : List UInt8) : Nat := l.foldl (fun n c => (n + c.toNat) % 4294967296) 0
theorem sumL_snoc (l : List UInt8) (c : UInt8) : sumL (l ++ [c]) = (sumL l + c.toNat) % 4294967296 := by simp [sumL]
theorem sumL_lt (l : List UInt8) : sumL l < 4294967296 := by
  rcases List.eq_nil_or_concat l with rfl | ⟨r, c, rfl⟩
  · decide
  · rw [List.concat_eq_append, sumL_snoc]; omega

/-- The mark. -/
def markL : List UInt8 := [82, 51, 50, 10]
/-- The sum of an image. -/
def Im.sum (m : Im) : Nat := (sumL m.code.data.toList + sumL m.data.data.toList) % 4294967296
theorem Im.sum_lt (m : Im) : m.sum < 4294967296 := by unfold Im.sum; omega
/-- The head of an image's bytes. -/
def headL (m : Im) : List UInt8 := markL ++ wdL m.code.size ++ wdL m.data.size ++ wdL m.global.toNat ++ wdL m.entry.toNat ++ wdL m.frame.toNat ++ wdL m.sum
/-- An image's bytes. -/
def writeL (m : Im) : List UInt8 := headL m ++ m.code.data.toList ++ m.data.data.toList
def strL (l : List UInt8) : ByteArray := ⟨l.toArray⟩
def writeS (m : Im) : ByteArray := strL (writeL m)
theorem headL_length (m : Im) : (headL m).length = 28 := rfl
theorem strL_size (l : List UInt8) : (strL l).size = l.length := List.size_toArray
theorem strL_list (l : List UInt8) : (strL l).data.toList = l := by simp [strL]
theorem size_list (s : ByteArray) : s.data.toList.length = s.size := Array.length_toList
theorem strL_data (s : ByteArray) : strL s.data.toList = s := by simp [strL]
theorem ext_list {s t : ByteArray} (h : s.data.toList = t.data.toList) : s = t := by rw [← strL_data s, h, strL_data]
theorem writeL_length (m : Im) : (writeL m).length = 28 + m.code.size + m.data.size := by
  rw [writeL, List.length_append, List.length_append, headL_length, size_list, size_list]
theorem writeS_size (m : Im) : (writeS m).size = 28 + m.code.size + m.data.size := by rw [writeS, strL_size, writeL_length]

/-- Is it small enough to be written? -/
def Im.fits (m : Im) : Bool := decide (28 + m.code.size + m.data.size ≤ 1048576)
/-- What Write tells. -/
def Im.err (m : Im) : Int := if m.may then (if m.fits then 0 else 3) else 1
def Im.text (m : Im) : ByteArray := if m.may && m.fits then writeS m else ⟨#[]⟩

/-- The word at a place of a text. -/
def numAt (s : ByteArray) (k : Nat) : Nat := num4 (s.data.toList.drop k)
theorem numAt_lt (s : ByteArray) (k : Nat) : numAt s k < 4294967296 := num4_lt _
/-- The image that a text would be of. -/
def imOf (s : ByteArray) : Im :=
  { code := s.extract 28 (28 + numAt s 4), data := s.extract (28 + numAt s 4) s.size, global := (numAt s 12 : Nat), entry := (numAt s 16 : Nat), frame := (numAt s 20 : Nat) }

theorem ext_data (s : ByteArray) (a b : Nat) : (s.extract a b).data.toList = (s.data.toList.drop a).take (b - a) := by
  simp [ByteArray.data_extract, List.take_drop]

/-- Is a text of at least 28 bytes the bytes of an image that may be? (Its length is right; the document's way to ask.) -/
def readB (s : ByteArray) : Bool := decide (28 ≤ s.size) && decide (28 + numAt s 4 ≤ s.size) && (imOf s).may && decide (writeS (imOf s) = s)

theorem parts_of (l : List UInt8) (c : Nat) :
    l = l.take 4 ++ (l.drop 4).take 4 ++ (l.drop 8).take 4 ++ (l.drop 12).take 4 ++ (l.drop 16).take 4 ++ (l.drop 20).take 4 ++ (l.drop 24).take 4 ++ (l.drop 28).take c ++ l.drop (28 + c) := by
  have e : ∀ a b : Nat, l.take a ++ (l.drop a).take b = l.take (a + b) := fun a b => (List.take_add).symm
  rw [e 4 4, e 8 4, e 12 4, e 16 4, e 20 4, e 24 4, e 28 c, List.take_append_drop]

theorem take4 {l : List UInt8} {k : Nat} (h : k + 4 ≤ l.length) : wdL (num4 (l.drop k)) = (l.drop k).take 4 := wdL_num4 (by simp; omega)

theorem write_iff {s : ByteArray} (h : 28 + numAt s 4 ≤ s.size) (hs : s.size ≤ 1048576) :
    writeS (imOf s) = s ↔ s.data.toList.take 4 = markL ∧ numAt s 4 + numAt s 8 = s.size - 28 ∧ (imOf s).sum = numAt s 24 := by
  have hl := size_list s
  have h' : 28 + numAt s 4 ≤ s.data.toList.length := by omega
  have hp := parts_of s.data.toList (numAt s 4)
  have c1 : (imOf s).code.size = numAt s 4 := by show (s.extract _ _).size = _; rw [ByteArray.size_extract]; omega
  have c2 : (imOf s).data.size = s.size - 28 - numAt s 4 := by show (s.extract _ _).size = _; rw [ByteArray.size_extract]; omega
  have d1 : (imOf s).code.data.toList = (s.data.toList.drop 28).take (numAt s 4) := by
    show (s.extract _ _).data.toList = _
    rw [ext_data]
    congr 1
    omega
  have d2 : (imOf s).data.data.toList = s.data.toList.drop (28 + numAt s 4) := by
    show (s.extract _ _).data.toList = _
    rw [ext_data, List.take_of_length_le (by rw [List.length_drop]; omega)]
  have g1 : (imOf s).global.toNat = numAt s 12 := rfl
  have g2 : (imOf s).entry.toNat = numAt s 16 := rfl
  have g3 : (imOf s).frame.toNat = numAt s 20 := rfl
  have t4 : wdL (numAt s 4) = (s.data.toList.drop 4).take 4 := take4 (by omega)
  have t8 : wdL (numAt s 8) = (s.data.toList.drop 8).take 4 := take4 (by omega)
  have t12 : wdL (numAt s 12) = (s.data.toList.drop 12).take 4 := take4 (by omega)
  have t16 : wdL (numAt s 16) = (s.data.toList.drop 16).take 4 := take4 (by omega)
  have t20 : wdL (numAt s 20) = (s.data.toList.drop 20).take 4 := take4 (by omega)
  have t24 : wdL (numAt s 24) = (s.data.toList.drop 24).take 4 := take4 (by omega)
  have hw : writeL (imOf s) = markL ++ wdL (numAt s 4) ++ wdL (s.size - 28 - numAt s 4) ++ wdL (numAt s 12) ++ wdL (numAt s 16) ++ wdL (numAt s 20) ++ wdL (imOf s).sum ++ (s.data.toList.drop 28).take (numAt s 4) ++ s.data.toList.drop (28 + numAt s 4) := by
    rw [writeL, headL, c1, c2, d1, d2, g1, g2, g3]
  have hv : s.data.toList = s.data.toList.take 4 ++ wdL (numAt s 4) ++ wdL (numAt s 8) ++ wdL (numAt s 12) ++ wdL (numAt s 16) ++ wdL (numAt s 20) ++ wdL (numAt s 24) ++ (s.data.toList.drop 28).take (numAt s 4) ++ s.data.toList.drop (28 + numAt s 4) := by
    rw [t4, t8, t12, t16, t20, t24]; exact hp
  have e : writeS (imOf s) = s ↔ writeL (imOf s) = s.data.toList := by
    constructor
    · intro e; have := congrArg (fun t : ByteArray => t.data.toList) e; simpa [writeS, strL_list] using this
    · intro e; rw [writeS, e, strL_data]
  have n8 := numAt_lt s 8
  have n24 := numAt_lt s 24
  have ns := (imOf s).sum_lt
  rw [e]
  constructor
  · intro e
    rw [hw] at e
    have e' := e.trans hv
    simp only [List.append_assoc] at e'
    have hm : markL.length = (s.data.toList.take 4).length := by rw [List.length_take]; show 4 = _; omega
    obtain ⟨e0, e'⟩ := List.append_inj e' hm
    obtain ⟨_, e'⟩ := List.append_inj e' (wdL_two _ _)
    obtain ⟨e8, e'⟩ := List.append_inj e' (wdL_two _ _)
    obtain ⟨_, e'⟩ := List.append_inj e' (wdL_two _ _)
    obtain ⟨_, e'⟩ := List.append_inj e' (wdL_two _ _)
    obtain ⟨_, e'⟩ := List.append_inj e' (wdL_two _ _)
    obtain ⟨e24, e'⟩ := List.append_inj e' (wdL_two _ _)
    have k8 := wdL_inj (by omega) n8 e8
    have k24 := wdL_inj ns n24 e24
    exact ⟨e0.symm, by omega, k24⟩
  · rintro ⟨e0, e8, e24⟩
    have k8 : s.size - 28 - numAt s 4 = numAt s 8 := by omega
    rw [hw, ← e0, k8, e24]
    exact hv.symm

/-- Read of Write is the image. -/
theorem read_write {m : Im} (h : m.may = true) (hf : m.fits = true) : imOf (writeS m) = m ∧ readB (writeS m) = true := by
  obtain ⟨h1, h2, h3, h4, h5, h6, h7, h8⟩ := Im.may_true h
  obtain ⟨b0, b1, _⟩ := place_bounds h3
  have hf' : 28 + m.code.size + m.data.size ≤ 1048576 := by unfold Im.fits at hf; exact of_decide_eq_true hf
  have hl : (writeS m).data.toList = writeL m := strL_list _
  have n : ∀ k, numAt (writeS m) k = num4 ((writeL m).drop k) := fun k => by rw [numAt, hl]
  have n4 : numAt (writeS m) 4 = m.code.size := by
    rw [n]; exact num4_wdL m.code.size (by omega) _
  have n12 : numAt (writeS m) 12 = m.global.toNat := by
    rw [n]; exact num4_wdL m.global.toNat (by omega) _
  have n16 : numAt (writeS m) 16 = m.entry.toNat := by
    rw [n]; exact num4_wdL m.entry.toNat (by omega) _
  have n20 : numAt (writeS m) 20 = m.frame.toNat := by
    rw [n]; exact num4_wdL m.frame.toNat (by omega) _
  have hsz := writeS_size m
  have hd : (writeL m).drop 28 = m.code.data.toList ++ m.data.data.toList := rfl
  have i : imOf (writeS m) = m := by
    obtain ⟨code, data, global, entry, frame⟩ := m
    simp only at *
    have x1 : (writeS ⟨code, data, global, entry, frame⟩).extract 28 (28 + code.size) = code := by
      apply ext_list
      rw [ext_data, hl, hd, show 28 + code.size - 28 = code.data.toList.length by rw [size_list]; omega]
      exact List.take_left
    have x2 : (writeS ⟨code, data, global, entry, frame⟩).extract (28 + code.size) (writeS ⟨code, data, global, entry, frame⟩).size = data := by
      apply ext_list
      rw [ext_data, hl, ← List.drop_drop, hd, ← size_list code, List.drop_left]
      exact List.take_of_length_le (by rw [hsz, size_list, size_list]; omega)
    have y1 : ((global.toNat : Nat) : Int) = global := by omega
    have y2 : ((entry.toNat : Nat) : Int) = entry := by omega
    have y3 : ((frame.toNat : Nat) : Int) = frame := by omega
    rw [imOf, n4, n12, n16, n20, x1, x2, y1, y2, y3]
  refine ⟨i, ?_⟩
  unfold readB
  rw [i, h, n4, decide_eq_true (rfl : writeS m = writeS m), decide_eq_true (by omega), decide_eq_true (by omega)]
  rfl

theorem readB_true {s : ByteArray} (h : readB s = true) : 28 ≤ s.size ∧ 28 + numAt s 4 ≤ s.size ∧ (imOf s).may = true ∧ writeS (imOf s) = s := by
  unfold readB at h
  simp only [Bool.and_eq_true, decide_eq_true_eq] at h
  obtain ⟨⟨⟨h1, h2⟩, h3⟩, h4⟩ := h
  exact ⟨h1, h2, h3, h4⟩
theorem fits_of {s : ByteArray} (h : readB s = true) (hs : s.size ≤ 1048576) : (imOf s).fits = true := by
  obtain ⟨_, _, _, h4⟩ := readB_true h
  have := writeS_size (imOf s)
  rw [h4] at this
  unfold Im.fits
  exact decide_eq_true (by omega)
end Go.Proofs.Ytlgeajcncmlngaa
