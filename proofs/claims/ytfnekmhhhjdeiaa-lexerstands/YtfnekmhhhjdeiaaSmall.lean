/- Bytes: blanks, digits, letters, by the program and by the document. -/
import Derived.Test.YtfnekmhhhjdeiaaRows
import Derived.Test.YtfnekmhhhjdeiaaPlain
import Derived.Test.YtfnekmhhhjdeiaaShelf
import Derived.WalkKit
import Derived.Deep.QuietTactic
import Derived.BigQuiet
namespace Go.Proofs.Ytfnekmhhhjdeiaa
open Go.RowKit
set_option linter.unusedVariables false

theorem mixed : Try.prog.follows .mixedOrders = true := by kernel_rfl
theorem hid {x : Prop} (h : x) : Hid x := h
theorem ret_b {a b : Bool} (h : a = b) : Ending.returned (.bool a) = .returned (.bool b) := by rw [h]
theorem ret_int {k : IntKind} {a b : Int} (h : a = b) : Ending.returned (.int k a) = .returned (.int k b) := by rw [h]
theorem ret_str {a b : ByteArray} (h : a = b) : Ending.returned (.string a) = .returned (.string b) := by rw [h]
theorem bcell {W w1 : World} (hb : Below W.heap.size W w1) : (∀ b o, b < W.heap.size → w1.cell? ⟨b, o, none⟩ = W.cell? ⟨b, o, none⟩) ∧ (∀ b o, b < W.heap.size → w1.frozen? ⟨b, o, none⟩ = W.frozen? ⟨b, o, none⟩) :=
  ⟨fun b o h => hb.cell (p := ⟨b, o, none⟩) h, fun b o h => hb.frozen (p := ⟨b, o, none⟩) h⟩
theorem below_box (w : World) (o : Obj) : Below w.heap.size w (w.alloc o) := (Below.refl _ _).alloc (Nat.le_refl _) _
theorem below_box2 {w w1 : World} {o : Obj} (h : Below (w.alloc o).heap.size (w.alloc o) w1) : Below w.heap.size w w1 := (below_box w o).trans (h.mono (by simp))
theorem below_drewN (w : World) (n : Nat) : Below w.heap.size w (w.drewN n) := ⟨rfl, rfl, rfl, Nat.le_refl _, fun _ _ => rfl⟩
theorem below_then {w w1 w2 : World} (h1 : Below w.heap.size w w1) (h2 : Below w1.heap.size w1 w2) : Below w.heap.size w w2 := h1.trans (h2.mono h1.size)

/-- A text's bytes (a name of its own, so that the walk leaves it alone). -/
def lst (s : ByteArray) : List UInt8 := s.data.toList
theorem lst_len (s : ByteArray) : (lst s).length = s.size := size_list s
theorem lst_cons (s : ByteArray) (k : Nat) (h : k < s.size) : (lst s).drop k = s[k] :: (lst s).drop (k + 1) := drop_cons s k h
theorem lst_cons0 (s : ByteArray) (h : 0 < s.size) : lst s = s[0] :: (lst s).drop 1 := drop_cons s 0 h
theorem lst_nil (s : ByteArray) (k : Nat) (h : s.size ≤ k) : (lst s).drop k = [] := drop_nil s k h
theorem lst_ext (s : ByteArray) (k : Nat) : lst (s.extract k s.size) = (lst s).drop k := ext_drop s k
theorem lst_ext0 (s : ByteArray) (k : Nat) : lst (s.extract 0 k) = (lst s).take k := ext_take s k
theorem lst_strL (l : List UInt8) : lst (strL l) = l := strL_list l
theorem strL_lst (s : ByteArray) : strL (lst s) = s := strL_data s
theorem ext_size (s : ByteArray) (k : Nat) : (s.extract k s.size).size = s.size - k := by rw [ByteArray.size_extract]; omega
theorem lst_strL_ext (s : ByteArray) (k : Nat) : s.extract k s.size = strL ((lst s).drop k) := ext_strL s k
theorem lst_strL_ext0 (s : ByteArray) (k : Nat) : s.extract 0 k = strL ((lst s).take k) := ext_strL0 s k

theorem hasPrefix34 (s t : ByteArray) (p : List UInt8) (hp : t.data.toList = p) (w : World) : Calls Try.prog 34 #[.string s, .string t] w fun e w' => e = .returned (.bool (p.isPrefixOf (lst s))) ∧ w' = w := by
  subst hp
  exact Try.strings_HasPrefix s t w
theorem index36 (s t : ByteArray) (p : List UInt8) (hp : t.data.toList = p) (m : Int) (w : World) (hs : s.size < 4294967281) (hm : w.cell? ⟨0, 0, none⟩ = some (.int .i64 m)) :
    Calls Try.prog 36 #[.string s, .string t] w fun e w' => e = .returned (.int .i64 (Lib.index (lst s) p)) ∧ w' = w := by
  subst hp
  exact Try.strings_Index s t m w hs hm

abbrev byteV (c : UInt8) : Value := .int .u8 (c.toNat : Int)

theorem int_dec {a b : Bool} (h : a = true ↔ b = true) : a = b := Bool.eq_iff_iff.2 h
theorem isDigit25 (c : UInt8) (w : World) : Calls Try.prog 25 #[byteV c] w fun e w' => e = .returned (.bool (dig c)) ∧ w' = w := by
  go_enter Try.func25, Try.ntmps25
  go_wp2
  all_goals go_ret
  all_goals (refine ⟨ret_b (int_dec ?_), rfl⟩; simp only [dig, Bool.and_eq_true, decide_eq_true_eq, Bool.false_eq_true, false_iff]; omega)
theorem digit28 (c : UInt8) (w : World) : Calls Try.prog 28 #[byteV c] w fun e w' => e = .returned (.bool (dig c)) ∧ w' = w := by
  go_enter Try.func28, Try.ntmps28
  go_wp2
  all_goals go_ret
  all_goals (refine ⟨ret_b (int_dec ?_), rfl⟩; simp only [dig, Bool.and_eq_true, decide_eq_true_eq, Bool.false_eq_true, false_iff]; omega)
theorem isInName26 (c : UInt8) (w : World) : Calls Try.prog 26 #[byteV c] w fun e w' => e = .returned (.bool (nm c)) ∧ w' = w := by
  go_enter Try.func26, Try.ntmps26
  go_wp2_with (go_at_call 25; refine (isDigit25 _ _).mono ?_; rintro e w1 ⟨rfl, rfl⟩)
  all_goals go_ret
  all_goals (refine ⟨ret_b (int_dec ?_), rfl⟩; simp only [nm, letr, Bool.and_eq_true, Bool.or_eq_true, decide_eq_true_eq]; by_cases hd : dig c = true <;> first | (simp [hd]; done) | (simp [hd]; omega))
theorem letter27 (c : UInt8) (w : World) : Calls Try.prog 27 #[byteV c] w fun e w' => e = .returned (.bool (letr c)) ∧ w' = w := by
  go_enter Try.func27, Try.ntmps27
  go_wp2
  all_goals go_ret
  all_goals (refine ⟨ret_b (int_dec ?_), rfl⟩; simp only [letr, Bool.and_eq_true, Bool.or_eq_true, decide_eq_true_eq, beq_iff_eq, eq_self, true_iff]; omega)
theorem isBlank33 (c : UInt8) (w : World) : Calls Try.prog 33 #[byteV c] w fun e w' => e = .returned (.bool (blank c)) ∧ w' = w := by
  go_enter Try.func33, Try.ntmps33
  go_wp2
  all_goals go_ret
  all_goals (refine ⟨ret_b (int_dec ?_), rfl⟩; simp only [blank, Bool.or_eq_true, decide_eq_true_eq, beq_iff_eq, eq_self, true_iff]; omega)
theorem isPlain49 (c : UInt8) (w : World) : Calls Try.prog 49 #[byteV c] w fun e w' => e = .returned (.bool (plainB c)) ∧ w' = w := by
  go_enter Try.func49, Try.ntmps49
  go_wp2
  all_goals go_ret
  all_goals (refine ⟨ret_b (int_dec ?_), rfl⟩; simp only [plainB, Bool.and_eq_true, decide_eq_true_eq, Bool.false_eq_true, false_iff]; omega)

theorem hexv_spec (c : UInt8) : (dig c = true ∧ 48 ≤ c.toNat ∧ c.toNat ≤ 57 ∧ hexv c = c.toNat - 48) ∨ (dig c = false ∧ 97 ≤ c.toNat ∧ c.toNat ≤ 102 ∧ hexv c = c.toNat - 87) ∨ (dig c = false ∧ 65 ≤ c.toNat ∧ c.toNat ≤ 70 ∧ hexv c = c.toNat - 55) ∨
    (dig c = false ∧ ¬ (48 ≤ c.toNat ∧ c.toNat ≤ 57) ∧ ¬ (97 ≤ c.toNat ∧ c.toNat ≤ 102) ∧ ¬ (65 ≤ c.toNat ∧ c.toNat ≤ 70) ∧ hexv c = 16) := by
  have hd : dig c = true ↔ (48 ≤ c.toNat ∧ c.toNat ≤ 57) := by simp [dig]
  by_cases h1 : 48 ≤ c.toNat ∧ c.toNat ≤ 57
  · have e := hd.2 h1
    exact .inl ⟨e, h1.1, h1.2, by unfold hexv; rw [if_pos e]⟩
  · have e : dig c = false := by
      cases h : dig c
      · rfl
      · exact absurd (hd.1 h) h1
    have e' : ¬ dig c = true := by rw [e]; simp
    by_cases h2 : 97 ≤ c.toNat ∧ c.toNat ≤ 102
    · exact .inr (.inl ⟨e, h2.1, h2.2, by unfold hexv; rw [if_neg e', if_pos h2]⟩)
    · by_cases h3 : 65 ≤ c.toNat ∧ c.toNat ≤ 70
      · exact .inr (.inr (.inl ⟨e, h3.1, h3.2, by unfold hexv; rw [if_neg e', if_neg h2, if_pos h3]⟩))
      · exact .inr (.inr (.inr ⟨e, h1, h2, h3, by unfold hexv; rw [if_neg e', if_neg h2, if_neg h3]⟩))
theorem digit66 (c : UInt8) (w : World) : Calls Try.prog 66 #[byteV c] w fun e w' => e = .returned (.int .u64 (hexv c : Nat)) ∧ w' = w := by
  have hs := hid (hexv_spec c)
  generalize hexv c = x at hs ⊢
  go_enter Try.func66, Try.ntmps66
  go_wp2_with (go_at_call 25; refine (isDigit25 _ _).mono ?_; rintro e w1 ⟨rfl, rfl⟩)
  all_goals go_ret
  all_goals (refine ⟨ret_int ?_, rfl⟩; rcases hs.out with ⟨e, h1, h2, h3⟩ | ⟨e, h1, h2, h3⟩ | ⟨e, h1, h2, h3⟩ | ⟨e, h1, h2, h3, h4⟩)
  all_goals first
    | omega
    | (exfalso; simp_all; done)
/-- As the document has it: 99: it is none. -/
def hex9 (c : UInt8) : Nat := if hexv c = 16 then 99 else hexv c
theorem hex9_spec (c : UInt8) : (dig c = true ∧ 48 ≤ c.toNat ∧ c.toNat ≤ 57 ∧ hex9 c = c.toNat - 48) ∨ (dig c = false ∧ 97 ≤ c.toNat ∧ c.toNat ≤ 102 ∧ hex9 c = c.toNat - 87) ∨ (dig c = false ∧ 65 ≤ c.toNat ∧ c.toNat ≤ 70 ∧ hex9 c = c.toNat - 55) ∨
    (dig c = false ∧ ¬ (48 ≤ c.toNat ∧ c.toNat ≤ 57) ∧ ¬ (97 ≤ c.toNat ∧ c.toNat ≤ 102) ∧ ¬ (65 ≤ c.toNat ∧ c.toNat ≤ 70) ∧ hex9 c = 99) := by
  unfold hex9
  rcases hexv_spec c with ⟨e, h1, h2, h3⟩ | ⟨e, h1, h2, h3⟩ | ⟨e, h1, h2, h3⟩ | ⟨e, h1, h2, h3, h4⟩
  · exact .inl ⟨e, h1, h2, by rw [if_neg (by omega), h3]⟩
  · exact .inr (.inl ⟨e, h1, h2, by rw [if_neg (by omega), h3]⟩)
  · exact .inr (.inr (.inl ⟨e, h1, h2, by rw [if_neg (by omega), h3]⟩))
  · exact .inr (.inr (.inr ⟨e, h1, h2, h3, by rw [if_pos h4]⟩))
theorem hex9_lt (c : UInt8) (b : Nat) (hb : b ≤ 16) : hex9 c < b ↔ hexv c < b := by
  unfold hex9
  have := hexv_le c
  split <;> omega
theorem hex9_eq {c : UInt8} (h : hexv c < 16) : hex9 c = hexv c := by unfold hex9; rw [if_neg (by omega)]
theorem hex57 (c : UInt8) (w : World) : Calls Try.prog 57 #[byteV c] w fun e w' => e = .returned (.int .i64 (hex9 c : Nat)) ∧ w' = w := by
  have hs := hid (hex9_spec c)
  generalize hex9 c = x at hs ⊢
  go_enter Try.func57, Try.ntmps57
  go_wp2_with (go_at_call 28; refine (digit28 _ _).mono ?_; rintro e w1 ⟨rfl, rfl⟩)
  all_goals go_ret
  all_goals (refine ⟨ret_int ?_, rfl⟩; rcases hs.out with ⟨e, h1, h2, h3⟩ | ⟨e, h1, h2, h3⟩ | ⟨e, h1, h2, h3⟩ | ⟨e, h1, h2, h3, h4⟩)
  all_goals first
    | omega
    | (exfalso; simp_all; done)

/-- A byte of a text; 0: there is none. -/
def byteAt (l : List UInt8) : UInt8 := l.headD 0
theorem at58_in (s : ByteArray) (k : Nat) (hk : k < s.size) (w : World) : Calls Try.prog 58 #[.string s, .int .i64 (k : Int)] w fun e w' => e = .returned (byteV s[k]) ∧ w' = w := by
  have h' : (k : Int) < s.size := by omega
  go_enter Try.func58, Try.ntmps58
  go_wp2
  go_ret
  exact ⟨rfl, rfl⟩
theorem at58_out (s : ByteArray) (k : Int) (hk : k < 0 ∨ (s.size : Int) ≤ k) (w : World) : Calls Try.prog 58 #[.string s, .int .i64 k] w fun e w' => e = .returned (byteV 0) ∧ w' = w := by
  go_enter Try.func58, Try.ntmps58
  go_wp2
  all_goals first
    | (go_ret; exact ⟨rfl, rfl⟩)
    | (exfalso; omega)
theorem at58 (s : ByteArray) (k : Nat) (w : World) : Calls Try.prog 58 #[.string s, .int .i64 (k : Int)] w fun e w' => e = .returned (byteV (byteAt ((lst s).drop k))) ∧ w' = w := by
  by_cases hk : k < s.size
  · rw [lst_cons s k hk]; exact at58_in s k hk w
  · rw [lst_nil s k (by omega)]; exact at58_out s k (.inr (by omega)) w

theorem pre_dec (s t : ByteArray) (k : Nat) : ((s.extract k (k + t.size)).toList == t.toList) = t.data.toList.isPrefixOf (s.data.toList.drop k) := by
  rw [ByteArray.toList_eq, ByteArray.toList_eq, ext_data, Nat.add_sub_cancel_left]
  refine int_dec ?_
  rw [beq_iff_eq, List.isPrefixOf_iff_prefix, List.prefix_iff_eq_take, size_list]
  exact ⟨Eq.symm, Eq.symm⟩
/-- Does a text stand at a place? -/
theorem is42 (s t : ByteArray) (p : List UInt8) (hp : t.data.toList = p) (k : Nat) (hk : k ≤ s.size) (hs : s.size < 4611686018427387904) (w : World) : Calls Try.prog 42 #[.string s, .int .i64 (k : Int), .string t] w fun e w' => e = .returned (.bool (p.isPrefixOf ((lst s).drop k))) ∧ w' = w := by
  subst hp
  by_cases hle : k + t.size ≤ s.size
  · have h1 : (k : Int) + t.size ≤ s.size := by omega
    have h2 : (k : Int) ≤ (k : Int) + t.size := by omega
    go_enter Try.func42, Try.ntmps42
    go_wp2
    go_ret
    exact ⟨ret_b (pre_dec s t k), rfl⟩
  · have h1 : (s.size : Int) - k < t.size := by omega
    go_enter Try.func42, Try.ntmps42
    go_wp2
    go_ret
    refine ⟨ret_b ?_, rfl⟩
    symm
    rw [Bool.eq_false_iff]
    intro h
    have := (List.isPrefixOf_iff_prefix.1 h).length_le
    rw [List.length_drop, size_list, lst_len] at this
    omega
end Go.Proofs.Ytfnekmhhhjdeiaa
