/- Images are told back by their bytes; one byte that is another one makes another image, or none. -/
import Derived.Test.YtlgeajcncmlngaaReads
import Derived.Lib.ConvBytes
namespace Go.Proofs.Ytlgeajcncmlngaa
open Go.RowKit
set_option linter.unusedVariables false

set_option maxHeartbeats 1000000 in
/-- An image that is not written. -/
theorem back5_no (m : Im) (at_ b : Int) (x : Int) (hx : ¬ x = 0) (h6 : ∀ w, Calls Try.prog 6 #[m.val] w fun e w' => e = .returned (.tuple #[.string ⟨#[]⟩, .int .i64 x]) ∧ Below w.heap.size w w') (w : World) :
    Calls Try.prog 5 #[m.val, .int .i64 at_, .int .u8 b] w fun e w' => e = .returned (.bool true) ∧ Below w.heap.size w w' := by
  go_enter Try.func5, Try.ntmps5
  go_wp2_with (first
    | (go_at_call 6; refine (h6 _).mono ?_; rintro e w1 ⟨rfl, hb1⟩)
    | (go_at_call 8; refine (awake8 _).mono ?_; rintro e w3 ⟨rfl, hb3⟩))
  go_ret
  exact ⟨rfl, below_then (below_box2 hb1) hb3⟩

set_option maxRecDepth 20000 in
set_option maxHeartbeats 2000000 in
theorem back5_low (m : Im) (at_ b : Int) (s : ByteArray) (hs : s.size ≤ 1048576) (hq : at_ < 0) (h6 : ∀ w, Calls Try.prog 6 #[m.val] w fun e w' => e = .returned (.tuple #[.string s, .int .i64 0]) ∧ Below w.heap.size w w')
    (h9 : ∀ w, Calls Try.prog 9 #[.string s] w fun e w' => e = .returned (.tuple #[m.val, .int .i64 0]) ∧ Below w.heap.size w w') (w : World) :
    Calls Try.prog 5 #[m.val, .int .i64 at_, .int .u8 b] w fun e w' => e = .returned (.bool true) ∧ Below w.heap.size w w' := by
  go_enter Try.func5, Try.ntmps5
  go_wp2_with (first
    | (go_at_call 6; with_reducible refine (h6 _).mono ?_; rintro e w1 ⟨rfl, hb1⟩; obtain ⟨hc1, hf1⟩ := bcell hb1; have hl1 : w.heap.size < w1.heap.size := by (have hz := hb1.size; simp at hz; omega))
    | (go_at_call 9; with_reducible refine (h9 _).mono ?_; rintro e w2 ⟨rfl, hb2⟩; obtain ⟨hc2, hf2⟩ := bcell hb2; have hl2 : w.heap.size < w2.heap.size := Nat.lt_of_lt_of_le hl1 hb2.size)
    | (go_at_call 8; refine (awake8 _).mono ?_; rintro e w3 ⟨rfl, hb3⟩))
  go_ret
  exact ⟨rfl, below_then (below_then (below_box2 hb1) hb2) (below_box2 hb3)⟩

set_option maxRecDepth 20000 in
set_option maxHeartbeats 2000000 in
theorem back5_high (m : Im) (at_ b : Int) (s : ByteArray) (hs : s.size ≤ 1048576) (h0 : 0 ≤ at_) (hq : (s.size : Int) ≤ at_) (h6 : ∀ w, Calls Try.prog 6 #[m.val] w fun e w' => e = .returned (.tuple #[.string s, .int .i64 0]) ∧ Below w.heap.size w w')
    (h9 : ∀ w, Calls Try.prog 9 #[.string s] w fun e w' => e = .returned (.tuple #[m.val, .int .i64 0]) ∧ Below w.heap.size w w') (w : World) :
    Calls Try.prog 5 #[m.val, .int .i64 at_, .int .u8 b] w fun e w' => e = .returned (.bool true) ∧ Below w.heap.size w w' := by
  go_enter Try.func5, Try.ntmps5
  go_wp2_with (first
    | (go_at_call 6; with_reducible refine (h6 _).mono ?_; rintro e w1 ⟨rfl, hb1⟩; obtain ⟨hc1, hf1⟩ := bcell hb1; have hl1 : w.heap.size < w1.heap.size := by (have hz := hb1.size; simp at hz; omega))
    | (go_at_call 9; with_reducible refine (h9 _).mono ?_; rintro e w2 ⟨rfl, hb2⟩; obtain ⟨hc2, hf2⟩ := bcell hb2; have hl2 : w.heap.size < w2.heap.size := Nat.lt_of_lt_of_le hl1 hb2.size)
    | (go_at_call 8; refine (awake8 _).mono ?_; rintro e w3 ⟨rfl, hb3⟩))
  go_ret
  exact ⟨rfl, below_then (below_then (below_box2 hb1) hb2) (below_box2 hb3)⟩

set_option maxRecDepth 20000 in
set_option maxHeartbeats 2000000 in
theorem back5_zero (m : Im) (at_ b : Int) (s : ByteArray) (hs : s.size ≤ 1048576) (h0 : 0 ≤ at_) (h1 : at_ < s.size) (hb : b = 0) (h6 : ∀ w, Calls Try.prog 6 #[m.val] w fun e w' => e = .returned (.tuple #[.string s, .int .i64 0]) ∧ Below w.heap.size w w')
    (h9 : ∀ w, Calls Try.prog 9 #[.string s] w fun e w' => e = .returned (.tuple #[m.val, .int .i64 0]) ∧ Below w.heap.size w w') (w : World) :
    Calls Try.prog 5 #[m.val, .int .i64 at_, .int .u8 b] w fun e w' => e = .returned (.bool true) ∧ Below w.heap.size w w' := by
  subst hb
  go_enter Try.func5, Try.ntmps5
  go_wp2_with (first
    | (go_at_call 6; with_reducible refine (h6 _).mono ?_; rintro e w1 ⟨rfl, hb1⟩; obtain ⟨hc1, hf1⟩ := bcell hb1; have hl1 : w.heap.size < w1.heap.size := by (have hz := hb1.size; simp at hz; omega))
    | (go_at_call 9; with_reducible refine (h9 _).mono ?_; rintro e w2 ⟨rfl, hb2⟩; obtain ⟨hc2, hf2⟩ := bcell hb2; have hl2 : w.heap.size < w2.heap.size := Nat.lt_of_lt_of_le hl1 hb2.size)
    | (go_at_call 8; refine (awake8 _).mono ?_; rintro e w3 ⟨rfl, hb3⟩))
  go_ret
  exact ⟨rfl, below_then (below_then (below_box2 hb1) hb2) (below_box2 hb3)⟩

/-- A text with one byte turned. -/
def turn (s : ByteArray) (k : Nat) (y : UInt8) : ByteArray := strL (s.data.toList.set k y)

theorem getD_at {s : ByteArray} {k : Nat} (h : k < s.size) : s.data.toList.getD k 0 = s[k] := by
  rw [List.getD_eq_getElem?_getD, List.getElem?_eq_getElem (by rw [size_list]; exact h)]
  rfl

/-- A text as bytes, one of them turned, as a text again. -/
theorem turned (s : ByteArray) (k : Nat) (hk : k < s.size) (W : World) :
    ∃ cap W1, (convert 9 32 (.string s)).run Try.prog W = .ok (.slice (some ⟨W.heap.size, 0, none⟩) s.size cap) W1 ∧ W1.cell? ⟨W.heap.size, k, none⟩ = some (.int .u8 (s[k].toNat : Int)) ∧ W1.frozen? ⟨W.heap.size, k, none⟩ = false ∧ Below W.heap.size W W1 ∧ W1.heap.size = W.heap.size + 1 ∧
      ∀ (y : UInt8) (W' : World), Below (W1.setCell ⟨W.heap.size, k, none⟩ (.int .u8 (y.toNat : Int))).heap.size (W1.setCell ⟨W.heap.size, k, none⟩ (.int .u8 (y.toNat : Int))) W' → (convert 32 9 (.slice (some ⟨W.heap.size, 0, none⟩) s.size cap)).run Try.prog W' = .ok (.string (turn s k y)) W' := by
  refine ⟨_, _, Lib.run_convert_string_bytes W 9 32 5 s Try.underlying9 Try.underlying32 Try.underlying5, ?_, ?_, ?_, Lib.bytesWorld_size W 5 s, fun y W' hW' => ?_⟩
  · rw [Lib.bytesWorld_cell W 5 s k hk, getD_at hk]
  · have hsz : s.size ≤ (Lib.bytesCells W 5 s).size := by
      unfold Lib.bytesCells
      rw [Array.size_append, Array.size_map]
      exact Nat.le_add_right _ _
    simp only [World.frozen?, Lib.bytesWorld_at_new]
    rw [decide_eq_false (show ¬ (Lib.bytesCells W 5 s).size ≤ k by omega)]
    rfl
  · exact ⟨rfl, rfl, rfl, by rw [Lib.bytesWorld_size]; omega, fun j hj => Lib.bytesWorld_at_old W 5 s j hj⟩
  · refine conv_cells (by rw [List.length_set, size_list]) (fun j u hj => ?_)
    rw [Addr.add_lit, hW'.cell (p := ⟨W.heap.size, 0 + j, none⟩) (by show W.heap.size < _; simp [World.setCell, Lib.bytesWorld_size])]
    unfold vals at hj
    rw [List.getElem?_map, List.getElem?_set] at hj
    have hc := Lib.bytesWorld_cell W 5 s k hk
    rw [Nat.zero_add]
    by_cases e : k = j
    · subst e
      rw [if_pos rfl, if_pos (by rw [size_list]; exact hk)] at hj
      rw [World.cell?_setCell_same _ _ _ hc]
      exact hj
    · rw [if_neg e] at hj
      have hjl : j < s.size := by
        rcases Nat.lt_or_ge j s.size with h | h
        · exact h
        · rw [List.getElem?_eq_none (by rw [size_list]; exact h)] at hj
          cases hj
      rw [World.cell?_setCell_other _ _ _ _ (fun e2 => e (congrArg Addr.off e2)), Lib.bytesWorld_cell W 5 s j hjl]
      rw [List.getD_eq_getElem?_getD]
      rw [List.getElem?_eq_getElem (by rw [size_list]; exact hjl)] at hj ⊢
      exact hj

theorem set_below {w W : World} {k : Nat} {v : Value} (h : Below w.heap.size w W) : Below w.heap.size w (W.setCell ⟨w.heap.size + 1, k, none⟩ v) := h.setCell (Nat.le_succ _) v

/-- The byte that is turned. -/
theorem xor_u8 (a : UInt8) (b : Int) (hb : (Lit.int .u8 b).wf = true) (h0 : ¬ b = 0) : ∃ y : UInt8, bits .xor .u8 (a.toNat : Int) b = (y.toNat : Int) ∧ y ≠ a := by
  have hbb : 0 ≤ b ∧ b < 256 := by
    simp [Lit.wf, IntKind.min, IntKind.max, IntKind.signed, IntKind.bits] at hb
    omega
  obtain ⟨n, rfl⟩ : ∃ n : Nat, b = n := ⟨b.toNat, by omega⟩
  have hn : n < 256 := by omega
  have ha := a.toNat_lt
  refine ⟨UInt8.ofNat (a.toNat ^^^ n), ?_, ?_⟩
  · have hlt : a.toNat ^^^ n < 256 := Nat.xor_lt_two_pow (n := 8) ha hn
    have e : (BitVec.ofInt 8 (a.toNat : Int) ^^^ BitVec.ofInt 8 (n : Int)).toNat = a.toNat ^^^ n := by
      rw [BitVec.toNat_xor, BitVec.ofInt_natCast, BitVec.ofInt_natCast, BitVec.toNat_ofNat, BitVec.toNat_ofNat, Nat.mod_eq_of_lt ha, Nat.mod_eq_of_lt hn]
    show IntKind.u8.wrap ((BitVec.ofInt 8 (a.toNat : Int) ^^^ BitVec.ofInt 8 (n : Int)).toNat : Int) = _
    rw [e, UInt8.toNat_ofNat', Nat.mod_eq_of_lt hlt]
    simp [IntKind.wrap, IntKind.bits, IntKind.signed]
    omega
  · intro e
    have e2 := congrArg UInt8.toNat e
    have hlt : a.toNat ^^^ n < 256 := Nat.xor_lt_two_pow (n := 8) ha hn
    simp only [UInt8.toNat_ofNat'] at e2
    rw [Nat.mod_eq_of_lt hlt] at e2
    have : a.toNat ^^^ (a.toNat ^^^ n) = a.toNat ^^^ a.toNat := by rw [e2]
    rw [← Nat.xor_assoc, Nat.xor_self, Nat.zero_xor] at this
    omega

theorem im_eq {c d : ByteArray} {g n f : Int} {m : Im} (h1 : c.toList = m.code.toList) (h2 : d.toList = m.data.toList) (h3 : g = m.global) (h4 : n = m.entry) (h5 : f = m.frame) : Im.mk c d g n f = m := by
  rw [ByteArray.toList_eq, ByteArray.toList_eq] at h1 h2
  obtain ⟨code, data, global, entry, frame⟩ := m
  rw [ext_list h1, ext_list h2, h3, h4, h5]
theorem turn_ne {s : ByteArray} {k : Nat} (hk : k < s.size) {y : UInt8} (hy : y ≠ s[k]) : turn s k y ≠ s := by
  intro e
  have e1 := congrArg (fun t : ByteArray => t.data.toList) e
  simp only [turn, strL_list] at e1
  have e2 := congrArg (fun l : List UInt8 => l[k]?) e1
  simp only [List.getElem?_set, List.getElem?_eq_getElem (show k < s.data.toList.length by rw [size_list]; exact hk)] at e2
  rw [if_pos True.intro, if_pos (by rw [size_list]; exact hk)] at e2
  exact hy (Option.some.inj e2)
theorem turn_size (s : ByteArray) (k : Nat) (y : UInt8) : (turn s k y).size = s.size := by
  rw [turn, strL_size, List.length_set, size_list]

set_option maxRecDepth 20000 in
set_option maxHeartbeats 2000000 in
theorem back5_gone (m : Im) (k : Nat) (b : Int) (s t : ByteArray) (hs : s.size ≤ 1048576) (hk : k < s.size) (hb : ¬ b = 0) (y : UInt8) (hy : bits .xor .u8 (s[k].toNat : Int) b = (y.toNat : Int)) (ht : turn s k y = t)
    (h6 : ∀ w, Calls Try.prog 6 #[m.val] w fun e w' => e = .returned (.tuple #[.string s, .int .i64 0]) ∧ Below w.heap.size w w')
    (h9 : ∀ w, Calls Try.prog 9 #[.string s] w fun e w' => e = .returned (.tuple #[m.val, .int .i64 0]) ∧ Below w.heap.size w w')
    (h9' : ∀ w, Calls Try.prog 9 #[.string t] w fun e w' => e = .returned (.tuple #[zeroV, .int .i64 5]) ∧ Below w.heap.size w w') (w : World) :
    Calls Try.prog 5 #[m.val, .int .i64 (k : Int), .int .u8 b] w fun e w' => e = .returned (.bool true) ∧ Below w.heap.size w w' := by
  have hk' : (k : Int) < s.size := by omega
  have hk0 : ¬ ((k : Int) < 0) := by omega
  have hk2 : ¬ s.size ≤ k := by omega
  have hk3 : ¬ ((s.size : Int) ≤ k) := by omega
  have hbf : (b == 0) = false := by simpa using hb
  go_enter Try.func5, Try.ntmps5
  go_wp2_with (first
    | (go_at_call 6; with_reducible refine (h6 _).mono ?_; rintro e w1 ⟨rfl, hb1⟩; obtain ⟨hc1, hf1⟩ := bcell hb1; have hl1 : w.heap.size < w1.heap.size := by (have hz := hb1.size; simp at hz; omega))
    | (go_at_call 9; with_reducible refine (h9 _).mono ?_; rintro e w2 ⟨rfl, hb2⟩; obtain ⟨hc2, hf2⟩ := bcell hb2; have hl2 : w.heap.size < w2.heap.size := Nat.lt_of_lt_of_le hl1 hb2.size; obtain ⟨cap, W1, v1, v2, v3, v4, v5, v6⟩ := turned s k hk (w2.alloc (.cells #[.string m.code, .string m.data, .int .i64 m.global, .int .i64 m.entry, .int .i64 m.frame] 23)); have v7 := v6 y _ (Below.refl _ _); rw [ht] at v7; simp at v1 v2 v3 v5 v7)
    | (go_at_call 9; with_reducible refine (h9' _).mono ?_; rintro e w4 ⟨rfl, hb4⟩)
    | (go_at_call 8; refine (awake8 _).mono ?_; rintro e w3 ⟨rfl, hb3⟩))
  go_ret
  have hA : Below w.heap.size w w2 := below_then (below_box2 hb1) hb2
  have hS := set_below (k := k) (v := .int .u8 (y.toNat : Int)) (below_box2 v4)
  exact ⟨rfl, below_then (below_then (below_then hA hS) hb4) (below_box2 hb3)⟩

set_option maxRecDepth 20000 in
set_option maxHeartbeats 2000000 in
theorem back5_other (m : Im) (k : Nat) (b : Int) (s t c d : ByteArray) (g n f : Int) (hne : Im.mk c d g n f ≠ m) (hs : s.size ≤ 1048576) (hk : k < s.size) (hb : ¬ b = 0) (y : UInt8) (hy : bits .xor .u8 (s[k].toNat : Int) b = (y.toNat : Int)) (ht : turn s k y = t)
    (h6 : ∀ w, Calls Try.prog 6 #[m.val] w fun e w' => e = .returned (.tuple #[.string s, .int .i64 0]) ∧ Below w.heap.size w w')
    (h9 : ∀ w, Calls Try.prog 9 #[.string s] w fun e w' => e = .returned (.tuple #[m.val, .int .i64 0]) ∧ Below w.heap.size w w')
    (h9' : ∀ w, Calls Try.prog 9 #[.string t] w fun e w' => e = .returned (.tuple #[.agg #[.string c, .string d, .int .i64 g, .int .i64 n, .int .i64 f], .int .i64 0]) ∧ Below w.heap.size w w')
    (h6' : ∀ w, Calls Try.prog 6 #[.agg #[.string c, .string d, .int .i64 g, .int .i64 n, .int .i64 f]] w fun e w' => e = .returned (.tuple #[.string t, .int .i64 0]) ∧ Below w.heap.size w w') (w : World) :
    Calls Try.prog 5 #[m.val, .int .i64 (k : Int), .int .u8 b] w fun e w' => e = .returned (.bool true) ∧ Below w.heap.size w w' := by
  have hk' : (k : Int) < s.size := by omega
  have hk0 : ¬ ((k : Int) < 0) := by omega
  have hk2 : ¬ s.size ≤ k := by omega
  have hk3 : ¬ ((s.size : Int) ≤ k) := by omega
  have hbf : (b == 0) = false := by simpa using hb
  go_enter Try.func5, Try.ntmps5
  go_wp2_with (first
    | (go_at_call 6; with_reducible refine (h6 _).mono ?_; rintro e w1 ⟨rfl, hb1⟩; obtain ⟨hc1, hf1⟩ := bcell hb1; have hl1 : w.heap.size < w1.heap.size := by (have hz := hb1.size; simp at hz; omega))
    | (go_at_call 9; with_reducible refine (h9 _).mono ?_; rintro e w2 ⟨rfl, hb2⟩; obtain ⟨hc2, hf2⟩ := bcell hb2; have hl2 : w.heap.size < w2.heap.size := Nat.lt_of_lt_of_le hl1 hb2.size; obtain ⟨cap, W1, v1, v2, v3, v4, v5, v6⟩ := turned s k hk (w2.alloc (.cells #[.string m.code, .string m.data, .int .i64 m.global, .int .i64 m.entry, .int .i64 m.frame] 23)); have v7 := v6 y _ (Below.refl _ _); rw [ht] at v7; simp at v1 v2 v3 v5 v7)
    | (go_at_call 9; with_reducible refine (h9' _).mono ?_; rintro e w4 ⟨rfl, hb4⟩)
    | (go_at_call 6; with_reducible refine (h6' _).mono ?_; rintro e w5 ⟨rfl, hb5⟩; obtain ⟨⟨j0, j1, j2, j3, j4⟩, hB5, hl5⟩ := boxed5 hb5; have hS := set_below (k := k) (v := .int .u8 (y.toNat : Int)) (below_box2 v4); have hb45 := below_then hb4 hB5; have v8 := v6 y _ (by simpa using hb45); rw [ht] at v8; simp at v8; have hW5 := below_then hb1 (below_then hb2 (below_then hS hb45)); obtain ⟨⟨i0, i1, i2, i3, i4⟩, hA5, hlw⟩ := boxed5 hW5; clear hS hb45)
    | (go_at_call 8; refine (awake8 _).mono ?_; rintro e w3 ⟨rfl, hb3⟩))
  all_goals first
    | (exfalso; exact hne (im_eq ‹c.toList = m.code.toList› ‹d.toList = m.data.toList› ‹g = m.global› ‹n = m.entry› ‹f = m.frame›))
    | (go_ret; exact ⟨rfl, below_then hA5 hb3⟩)

theorem back5 (m : Im) (at_ b : Int) (hb : (Lit.int .u8 b).wf = true) (w : World) : Calls Try.prog 5 #[m.val, .int .i64 at_, .int .u8 b] w fun e w' => e = .returned (.bool true) ∧ Below w.heap.size w w' := by
  cases h : m.may
  · exact back5_no m at_ b 1 (by decide) (fun w => write6_no m h w) w
  · cases hf : m.fits
    · exact back5_no m at_ b 3 (by decide) (fun w => write6_long m h hf w) w
    · have hs : (writeS m).size ≤ 1048576 := by rw [writeS_size]; exact fits_true hf
      obtain ⟨e1, e2⟩ := read_write h hf
      have h6 := write6_ok m h hf
      have h9 : Tells 9 (writeS m) (imOf (writeS m)).val 0 := read9_yes hs e2
      rw [e1] at h9
      unfold Tells at h9
      generalize hS : writeS m = s at *
      by_cases q1 : at_ < 0
      · exact back5_low m at_ b s hs q1 h6 h9 w
      · by_cases q2 : (s.size : Int) ≤ at_
        · exact back5_high m at_ b s hs (by omega) q2 h6 h9 w
        · by_cases q3 : b = 0
          · exact back5_zero m at_ b s hs (by omega) (by omega) q3 h6 h9 w
          · obtain ⟨k, rfl⟩ : ∃ k : Nat, at_ = k := ⟨at_.toNat, by omega⟩
            have hk : k < s.size := by omega
            obtain ⟨y, hy, hn⟩ := xor_u8 s[k] b hb q3
            have ht : (turn s k y).size ≤ 1048576 := by rw [turn_size]; exact hs
            cases hr : readB (turn s k y)
            · exact back5_gone m k b s _ hs hk q3 y hy rfl h6 h9 (read9_no ht hr) w
            · obtain ⟨_, _, r3, r4⟩ := readB_true hr
              have h9' : Tells 9 (turn s k y) (imOf (turn s k y)).val 0 := read9_yes ht hr
              have h6' := write6_ok (imOf (turn s k y)) r3 (fits_of hr ht)
              rw [r4] at h6'
              refine back5_other m k b s _ _ _ _ _ _ (fun e => ?_) hs hk q3 y hy rfl h6 h9 h9' h6' w
              apply turn_ne hk hn
              rw [← r4]
              have e' : imOf (turn s k y) = m := e
              rw [e', hS]
end Go.Proofs.Ytlgeajcncmlngaa
