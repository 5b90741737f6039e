/- Names and types, as texts. -/
import Derived.Test.YtnnnfabpceapcaaGreatDoorMay2
namespace Go.Proofs.YtnnnfabpceapcaaGreatDoor
open Go.RowKit
set_option linter.unusedVariables false

def strL (l : List UInt8) : ByteArray := ⟨l.toArray⟩
theorem strL_data (s : ByteArray) : strL s.data.toList = s := by simp [strL]
theorem size_list (s : ByteArray) : s.data.toList.length = s.size := Array.length_toList
theorem ext_list {s t : ByteArray} (h : s.data.toList = t.data.toList) : s = t := by rw [← strL_data s, h, strL_data]
theorem drop_cons (s : ByteArray) (k : Nat) (h : k < s.size) : s.data.toList.drop k = s[k] :: s.data.toList.drop (k + 1) :=
  List.drop_eq_getElem_cons (by rw [size_list]; exact h)
theorem drop_nil (s : ByteArray) (k : Nat) (h : s.size ≤ k) : s.data.toList.drop k = [] := List.drop_eq_nil_of_le (by rw [size_list]; exact h)
def dig (c : UInt8) : Bool := decide (48 ≤ c.toNat) && decide (c.toNat ≤ 57)
def letr (c : UInt8) : Bool := (decide (97 ≤ c.toNat) && decide (c.toNat ≤ 122)) || (decide (65 ≤ c.toNat) && decide (c.toNat ≤ 90)) || decide (c.toNat = 95)
def nm (c : UInt8) : Bool := letr c || dig c
def words : List (List UInt8) := [[98,114,101,97,107], [99,104,97,114], [99,111,110,116,105,110,117,101], [100,111], [101,108,115,101], [102,111,114], [103,101,116,98,121,116,101], [105,102], [105,110,116], [112,117,116,98,121,116,101], [114,101,116,117,114,110], [115,105,122,101,111,102], [115,116,114,117,99,116], [117,105,110,116], [118,111,105,100], [119,104,105,108,101]]
def resv (l : List UInt8) : Bool := words.contains l
theorem ret_b {a b : Bool} (h : a = b) : Ending.returned (.bool a) = .returned (.bool b) := by rw [h]
theorem ret_int {k : IntKind} {a b : Int} (h : a = b) : Ending.returned (.int k a) = .returned (.int k b) := by rw [h]
theorem ret_str {a b : ByteArray} (h : a = b) : Ending.returned (.string a) = .returned (.string b) := by rw [h]
def lst (s : ByteArray) : List UInt8 := s.data.toList
theorem lst_len (s : ByteArray) : (lst s).length = s.size := size_list s
theorem lst_cons (s : ByteArray) (k : Nat) (h : k < s.size) : (lst s).drop k = s[k] :: (lst s).drop (k + 1) := drop_cons s k h
theorem lst_cons0 (s : ByteArray) (h : 0 < s.size) : lst s = s[0] :: (lst s).drop 1 := drop_cons s 0 h
theorem lst_nil (s : ByteArray) (k : Nat) (h : s.size ≤ k) : (lst s).drop k = [] := drop_nil s k h
abbrev byteV (c : UInt8) : Value := .int .u8 (c.toNat : Int)
theorem int_dec {a b : Bool} (h : a = true ↔ b = true) : a = b := Bool.eq_iff_iff.2 h
theorem isDigit79 (c : UInt8) (w : World) : Calls Tryz.prog 95 #[byteV c] w fun e w' => e = .returned (.bool (dig c)) ∧ w' = w := by
  go_enter Tryz.func95, Tryz.ntmps95
  go_wp2
  all_goals go_ret
  all_goals (refine ⟨ret_b (int_dec ?_), rfl⟩; simp only [dig, Bool.and_eq_true, decide_eq_true_eq, Bool.false_eq_true, false_iff]; omega)
theorem isInName80 (c : UInt8) (w : World) : Calls Tryz.prog 96 #[byteV c] w fun e w' => e = .returned (.bool (nm c)) ∧ w' = w := by
  go_enter Tryz.func96, Tryz.ntmps96
  go_wp2_with (go_at_call 95; refine (isDigit79 _ _).mono ?_; rintro e w1 ⟨rfl, rfl⟩)
  all_goals go_ret
  all_goals (refine ⟨ret_b (int_dec ?_), rfl⟩; simp only [nm, letr, Bool.and_eq_true, Bool.or_eq_true, decide_eq_true_eq]; by_cases hd : dig c = true <;> first | (simp [hd]; done) | (simp [hd]; omega))
theorem nonempty {s : ByteArray} (h : 0 < s.size) : (s.toList == []) = false := by
  rw [ByteArray.toList_eq, Bool.eq_false_iff]
  intro e
  have e2 : s.data.toList.length = 0 := by rw [eq_of_beq e]; rfl
  rw [size_list] at e2
  omega
theorem empty_eq {s : ByteArray} (h : ¬ 0 < s.size) : s = ⟨#[]⟩ := ext_list (List.eq_nil_of_length_eq_zero (by rw [size_list]; omega))
def namedB : List UInt8 → Bool
  | [] => false
  | c :: r => letr c && r.all nm
theorem letr_dig {c : UInt8} (h : letr c = true) : dig c = false := by
  simp only [letr, dig, Bool.or_eq_true, Bool.and_eq_true, decide_eq_true_eq, Bool.and_eq_false_iff, decide_eq_false_iff_not] at h ⊢
  omega
theorem all_cons {p : UInt8 → Bool} {c : UInt8} {r : List UInt8} : (c :: r).all p = (p c && r.all p) := rfl
set_option maxHeartbeats 2000000 in
theorem vi {a b : Int} (h : a = b) : Value.int .i64 a = Value.int .i64 b := by rw [h]
set_option maxHeartbeats 2000000 in
theorem named63 (s : ByteArray) (hs : s.size < 4611686018427387904) (w : World) : Calls Tryz.prog 65 #[.string s] w fun e w' => e = .returned (.bool (namedB (lst s))) ∧ w' = w := by
  by_cases h0 : 0 < s.size
  · have hl := lst_cons0 s h0
    have hne := nonempty h0
    have h0' : (0 : Int) < s.size := by omega
    cases hd : dig s[0]
    · have hX : Hid (namedB (lst s) = (lst s).all nm) := by
        show namedB (lst s) = (lst s).all nm
        rw [hl]
        show (letr s[0] && _) = (nm s[0] && _)
        unfold nm
        rw [hd, Bool.or_false]
      generalize namedB (lst s) = X at hX ⊢
      go_enter Tryz.func65, Tryz.ntmps65
      go_wp2_with (go_at_call 95; refine (isDigit79 _ _).mono ?_; rintro e w1 ⟨rfl, rfl⟩)
      go_loop [13] (fun i => ∃ k : Nat, k ≤ s.size ∧ i = .int .i64 k ∧ X = ((lst s).drop k).all nm) (fun i => s.size - (intOf i).toNat)
      case atStart => exact ⟨0, Nat.zero_le _, rfl, hX.out⟩
      case round =>
        obtain ⟨k, hk, rfl, hx⟩ := hrel
        have HX := hid' hx
        clear hx
        by_cases hlt : k < s.size
        · have e := HX.out
          rw [lst_cons s k hlt, all_cons] at e
          cases hn : nm s[k]
          · rw [hn] at e
            have e' : Hid (X = false) := e
            go_wp2_with (go_at_call 96; refine (isInName80 _ _).mono ?_; rintro e w1 ⟨rfl, rfl⟩)
            go_ret
            exact ⟨ret_b e'.out.symm, rfl⟩
          · rw [hn] at e
            have e' : Hid (X = ((lst s).drop (k + 1)).all nm) := e
            clear e
            go_wp2_with (go_at_call 96; refine (isInName80 _ _).mono ?_; rintro e w1 ⟨rfl, rfl⟩)
            exact ⟨⟨k + 1, by omega, vi (by omega), e'.out⟩, by simp [intOf]; omega⟩
        · have e := HX.out
          rw [lst_nil s k (by omega)] at e
          have e' : Hid (X = true) := e
          clear e
          go_wp2
          go_ret
          exact ⟨ret_b e'.out.symm, rfl⟩
    · have hX : Hid (namedB (lst s) = false) := by
        show namedB (lst s) = false
        rw [hl]
        show (letr s[0] && _) = false
        cases hq : letr s[0]
        · rfl
        · rw [letr_dig hq] at hd; cases hd
      go_enter Tryz.func65, Tryz.ntmps65
      go_wp2_with (go_at_call 95; refine (isDigit79 _ _).mono ?_; rintro e w1 ⟨rfl, rfl⟩)
      go_ret
      exact ⟨ret_b hX.out.symm, rfl⟩
  · obtain rfl := empty_eq h0
    go_enter Tryz.func65, Tryz.ntmps65
    go_wp2
    go_ret
    exact ⟨rfl, rfl⟩
theorem lst_eq (s : ByteArray) : s.toList = lst s := ByteArray.toList_eq s
theorem beq_lst (s : ByteArray) (l : List UInt8) : (s.toList == l) = (lst s == l) := by rw [lst_eq]
set_option maxHeartbeats 4000000 in
theorem reserved64 (s : ByteArray) (w : World) : Calls Tryz.prog 66 #[.string s] w fun e w' => e = .returned (.bool (resv (lst s))) ∧ w' = w := by
  obtain ⟨l, hl⟩ : ∃ l, l = s.toList := ⟨_, rfl⟩
  have hr : resv (lst s) = words.contains l := by rw [hl, lst_eq]; rfl
  obtain ⟨X, hX⟩ : ∃ X, X = resv (lst s) := ⟨_, rfl⟩
  rw [← hX]
  rw [hr, hl] at hX
  replace hX := hid' hX
  clear hr hl
  go_enter Tryz.func66, Tryz.ntmps66
  go_wp2
  all_goals go_ret
  all_goals (simp only [beq_iff_eq, beq_eq_false_iff_ne, ne_eq] at *)
  all_goals first
    | contradiction
    | (refine ⟨ret_b ?_, by trivial⟩; rw [hX.out]; simp [words, *]; done)

/-- Is a text a name that is no word? -/
def nameB (s : ByteArray) : Bool := namedB (lst s) && !resv (lst s)
theorem name41 : AskS 38 fun s => .bool (nameB s) := fun s w hz => by
  have h1 := hid' (named63 s hz w)
  have h2 := hid' (reserved64 s w)
  show Calls Tryz.prog 38 #[.string s] w fun e w' => e = .returned (.bool (nameB s)) ∧ Below w.heap.size w w'
  unfold nameB
  generalize namedB (lst s) = a at *
  generalize resv (lst s) = b at *
  go_enter Tryz.func38, Tryz.ntmps38
  cases a with
  | false =>
    go_wp2_with (go_at_call 65; (with_reducible refine h1.out.mono ?_); rintro e w1 ⟨rfl, rfl⟩)
    go_ret
    exact ⟨rfl, Below.refl _ _⟩
  | true =>
    go_wp2_with (first
      | (go_at_call 65; (with_reducible refine h1.out.mono ?_); rintro e w1 ⟨rfl, rfl⟩)
      | (go_at_call 66; (with_reducible refine h2.out.mono ?_); rintro e w1 ⟨rfl, rfl⟩))
    go_ret
    exact ⟨rfl, Below.refl _ _⟩

def structP : List UInt8 := [115, 116, 114, 117, 99, 116, 32]
/-- Does a text begin with struct and a blank? -/
def preB (s : ByteArray) : Bool := decide (7 ≤ s.size) && ((s.extract 0 7).toList == [115, 116, 114, 117, 99, 116, 32])
theorem hasPrefix91 (s : ByteArray) (w : World) (hz : s.size < 4611686018427387904) : Calls Tryz.prog 114 #[.string s, .string ⟨#[115, 116, 114, 117, 99, 116, 32]⟩] w fun e w' => e = .returned (.bool (preB s)) ∧ w' = w := by
  unfold preB
  by_cases h : 7 ≤ s.size
  · rw [decide_eq_true h, Bool.true_and]
    cases he : (s.extract 0 7).toList == [115, 116, 114, 117, 99, 116, 32] with
    | true =>
      go_enter Tryz.func114, Tryz.ntmps114
      go_wp2
      go_ret
      exact ⟨rfl, rfl⟩
    | false =>
      go_enter Tryz.func114, Tryz.ntmps114
      go_wp2
      go_ret
      exact ⟨rfl, rfl⟩
  · rw [decide_eq_false h, Bool.false_and]
    go_enter Tryz.func114, Tryz.ntmps114
    go_wp2
    go_ret
    exact ⟨rfl, rfl⟩
theorem cut81 (s : ByteArray) (w : World) (hz : s.size < 4611686018427387904) : Calls Tryz.prog 97 #[.string s, .string ⟨#[115, 116, 114, 117, 99, 116, 32]⟩] w fun e w' => e = .returned (.tuple #[.string (if preB s then s.extract 7 s.size else s), .bool (preB s)]) ∧ w' = w := by
  have h1 := hid' (hasPrefix91 s w hz)
  have h7 : preB s = true → 7 ≤ s.size := fun h => by unfold preB at h; simp at h; exact h.1
  generalize preB s = a at *
  cases a with
  | false =>
    clear h7
    go_enter Tryz.func97, Tryz.ntmps97
    go_wp2_with (go_at_call 114; (with_reducible refine h1.out.mono ?_); rintro e w1 ⟨rfl, rfl⟩)
    go_ret2
    exact ⟨rfl, rfl⟩
  | true =>
    replace h7 := h7 rfl
    go_enter Tryz.func97, Tryz.ntmps97
    go_wp2_with (go_at_call 114; (with_reducible refine h1.out.mono ?_); rintro e w1 ⟨rfl, rfl⟩)
    go_ret2
    exact ⟨rfl, rfl⟩
theorem cut65 (s : ByteArray) (w : World) (hz : s.size < 4611686018427387904) : Calls Tryz.prog 67 #[.string s, .string ⟨#[115, 116, 114, 117, 99, 116, 32]⟩] w fun e w' => e = .returned (.tuple #[.string (if preB s then s.extract 7 s.size else s), .bool (preB s)]) ∧ w' = w := by
  have h1 := hid' (cut81 s w hz)
  generalize (if preB s then s.extract 7 s.size else s) = t at *
  generalize preB s = a at *
  go_enter Tryz.func67, Tryz.ntmps67
  go_wp2_with (go_at_call 97; (with_reducible refine h1.out.mono ?_); rintro e w1 ⟨rfl, rfl⟩)
  go_ret2
  exact ⟨rfl, rfl⟩
/-- Is a text a type? -/
def typeB (s : ByteArray) : Bool := if s.toList == [105, 110, 116] then true else if s.toList == [117, 105, 110, 116] then true else if s.toList == [99, 104, 97, 114] then true else if s.toList == [118, 111, 105, 100] then true else preB s && nameB (if preB s then s.extract 7 s.size else s)
theorem type42 : AskS 39 fun s => .bool (typeB s) := fun s w hz => by
  have h1 := hid' (cut65 s w hz)
  have h2 : Hid (Calls Tryz.prog 38 #[.string (if preB s then s.extract 7 s.size else s)] w fun e w' => e = .returned (.bool (nameB (if preB s then s.extract 7 s.size else s))) ∧ Below w.heap.size w w') := by
    refine name41 _ w ?_
    split
    · rw [ByteArray.size_extract]; omega
    · exact hz
  show Calls Tryz.prog 39 #[.string s] w fun e w' => e = .returned (.bool (typeB s)) ∧ Below w.heap.size w w'
  unfold typeB
  generalize (if preB s then s.extract 7 s.size else s) = t at *
  generalize preB s = a at *
  generalize nameB t = q at *
  go_enter Tryz.func39, Tryz.ntmps39
  cases e1 : s.toList == [105, 110, 116] with
  | true =>
    go_wp2
    go_ret
    exact ⟨rfl, Below.refl _ _⟩
  | false =>
  cases e2 : s.toList == [117, 105, 110, 116] with
  | true =>
    go_wp2
    go_ret
    exact ⟨rfl, Below.refl _ _⟩
  | false =>
  cases e3 : s.toList == [99, 104, 97, 114] with
  | true =>
    go_wp2
    go_ret
    exact ⟨rfl, Below.refl _ _⟩
  | false =>
  cases e4 : s.toList == [118, 111, 105, 100] with
  | true =>
    go_wp2
    go_ret
    exact ⟨rfl, Below.refl _ _⟩
  | false =>
  cases a with
  | false =>
    go_wp2_with (go_at_call 67; (with_reducible refine h1.out.mono ?_); rintro e w1 ⟨rfl, rfl⟩)
    go_ret
    exact ⟨rfl, Below.refl _ _⟩
  | true =>
    go_wp2_with (first
      | (go_at_call 67; (with_reducible refine h1.out.mono ?_); rintro e w1 ⟨rfl, rfl⟩)
      | (go_at_call 38; (with_reducible refine h2.out.mono ?_); rintro e w2 ⟨rfl, hb2⟩; replace hb2 := hid' hb2))
    go_ret
    exact ⟨rfl, hb2.out⟩
end Go.Proofs.YtnnnfabpceapcaaGreatDoor
