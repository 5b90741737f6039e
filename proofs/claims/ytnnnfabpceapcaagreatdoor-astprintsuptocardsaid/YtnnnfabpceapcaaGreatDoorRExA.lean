/- Names, by the document. -/
import Derived.Test.YtnnnfabpceapcaaGreatDoorName
import Derived.Test.YtnnnfabpceapcaaGreatDoorRevBuild
import Derived.WalkKit
import Derived.Lib.Index
import Derived.Lib.IndexMore
import Derived.Lib.Bytealg
import Derived.Lib.Strings
import Derived.Lib.UnsafeStr
import Derived.Laws.MakeOwn
import Derived.Laws.DeepStrings4
import Derived.Deep.QuietTactic
import Derived.BigQuiet
import Derived.Test.YtnnnfabpceapcaaGreatDoorAllK
import Derived.Deep.DeepCutAuto
import Derived.Deep.CutBlock
namespace Go.Proofs.YtnnnfabpceapcaaGreatDoor
set_option linter.unusedSimpArgs false
open Go.RowKit
set_option linter.unusedVariables false
set_option linter.unusedSimpArgs false

theorem hid {p : Prop} (h : p) : Hid p := h
theorem ext_data (s : ByteArray) (a b : Nat) : (s.extract a b).data.toList = (s.data.toList.drop a).take (b - a) := by
  simp [ByteArray.data_extract, List.take_drop]
theorem digit76 (c : UInt8) (w : World) : Calls Tryz.prog 76 #[byteV c] w fun e w' => e = .returned (.bool (dig c)) ∧ w' = w := by
  go_enter Tryz.func76, Tryz.ntmps76
  go_wp2
  all_goals go_ret
  all_goals (refine ⟨ret_b (int_dec ?_), rfl⟩; simp only [dig, Bool.and_eq_true, decide_eq_true_eq, Bool.false_eq_true, false_iff]; omega)
theorem letter75 (c : UInt8) (w : World) : Calls Tryz.prog 75 #[byteV c] w fun e w' => e = .returned (.bool (letr c)) ∧ w' = w := by
  go_enter Tryz.func75, Tryz.ntmps75
  go_wp2
  all_goals go_ret
  all_goals (refine ⟨ret_b (int_dec ?_), rfl⟩; simp only [letr, Bool.and_eq_true, Bool.or_eq_true, decide_eq_true_eq, beq_iff_eq, eq_self, true_iff]; omega)
def okAt (k : Nat) (c : UInt8) : Bool := letr c || (decide (0 < k) && dig c)
set_option maxHeartbeats 2000000 in
theorem named49 (s : ByteArray) (hs : s.size < 4611686018427387904) (w : World) : Calls Tryz.prog 49 #[.string s] w fun e w' => e = .returned (.bool (namedB (lst s))) ∧ w' = w := by
  by_cases h0 : 0 < s.size
  · have hl := lst_cons0 s h0
    have hne := nonempty h0
    have hX : Hid (namedB (lst s) = (letr s[0] && ((lst s).drop 1).all nm)) := by
      show namedB (lst s) = _
      conv => lhs; rw [hl]
      rfl
    generalize namedB (lst s) = X at hX ⊢
    go_enter Tryz.func49, Tryz.ntmps49
    go_wp2
    go_loop [3] (fun i => ∃ k : Nat, k ≤ s.size ∧ i = .int .i64 k ∧ ((k = 0) ∨ (0 < k ∧ X = ((lst s).drop k).all nm))) (fun i => s.size - (intOf i).toNat)
    case atStart => exact ⟨0, Nat.zero_le _, rfl, .inl rfl⟩
    case round =>
      obtain ⟨k, hk, rfl, hx⟩ := hrel
      rcases hx with rfl | ⟨hk0, hx⟩
      · cases hq : letr s[0]
        · have e' : Hid (X = false) := by show X = false; rw [hX.out, hq]; rfl
          go_wp2_with (first | (go_at_call 75; refine (letter75 _ _).mono ?_; rintro e w1 ⟨rfl, rfl⟩) | (go_at_call 76; refine (digit76 _ _).mono ?_; rintro e w1 ⟨rfl, rfl⟩))
          go_ret
          exact ⟨ret_b e'.out.symm, rfl⟩
        · have e' : Hid (X = ((lst s).drop 1).all nm) := by show X = _; rw [hX.out, hq]; rfl
          go_wp2_with (first | (go_at_call 75; refine (letter75 _ _).mono ?_; rintro e w1 ⟨rfl, rfl⟩) | (go_at_call 76; refine (digit76 _ _).mono ?_; rintro e w1 ⟨rfl, rfl⟩))
          exact ⟨⟨1, by omega, rfl, .inr ⟨by omega, e'.out⟩⟩, by simp [intOf]; omega⟩
      · have HX := hid hx
        clear hx
        have hk0' : ((k : Int) == 0) = false := by simp; omega
        by_cases hlt : k < s.size
        · have e := HX.out
          rw [lst_cons s k hlt, all_cons] at e
          unfold nm at e
          cases hq : letr s[k]
          · cases hd : dig s[k]
            · rw [hq, hd] at e
              have e' : Hid (X = false) := e
              clear e
              go_wp2_with (first | (go_at_call 75; refine (letter75 _ _).mono ?_; rintro e w1 ⟨rfl, rfl⟩) | (go_at_call 76; refine (digit76 _ _).mono ?_; rintro e w1 ⟨rfl, rfl⟩))
              all_goals first
                | (go_ret; exact ⟨ret_b e'.out.symm, rfl⟩)
                | (exfalso; simp_all)
            · rw [hq, hd] at e
              have e' : Hid (X = ((lst s).drop (k + 1)).all nm) := e
              clear e
              go_wp2_with (first | (go_at_call 75; refine (letter75 _ _).mono ?_; rintro e w1 ⟨rfl, rfl⟩) | (go_at_call 76; refine (digit76 _ _).mono ?_; rintro e w1 ⟨rfl, rfl⟩))
              all_goals first
                | exact ⟨⟨k + 1, by omega, vi (by omega), .inr ⟨by omega, e'.out⟩⟩, by simp [intOf]; omega⟩
                | (exfalso; simp_all)
          · rw [hq] at e
            have e' : Hid (X = ((lst s).drop (k + 1)).all nm) := e
            clear e
            go_wp2_with (first | (go_at_call 75; refine (letter75 _ _).mono ?_; rintro e w1 ⟨rfl, rfl⟩) | (go_at_call 76; refine (digit76 _ _).mono ?_; rintro e w1 ⟨rfl, rfl⟩))
            exact ⟨⟨k + 1, by omega, vi (by omega), .inr ⟨by omega, e'.out⟩⟩, by simp [intOf]; omega⟩
        · have e := HX.out
          rw [lst_nil s k (by omega)] at e
          have e' : Hid (X = true) := e
          clear e
          go_wp2
          go_ret
          exact ⟨ret_b (by rw [e'.out]), rfl⟩
  · obtain rfl := empty_eq h0
    go_enter Tryz.func49, Tryz.ntmps49
    go_wp2
    go_loop [3] (fun i => i = .int .i64 0) (fun _ => 0)
    case atStart => rfl
    case round =>
      subst hrel
      go_wp2
      go_ret
      exact ⟨rfl, rfl⟩
set_option maxHeartbeats 2000000 in
theorem reserved50_no (s : ByteArray) (hs : s.size < 4611686018427387904) (h : namedB (lst s) = false) (w : World) : Calls Tryz.prog 50 #[.string s] w fun e w' => e = .returned (.bool false) ∧ w' = w := by
  have hn := named49 s hs
  rw [h] at hn
  go_enter Tryz.func50, Tryz.ntmps50
  go_wp2_with (go_at_call 49; (with_reducible refine (hn _).mono ?_); rintro e w1 ⟨rfl, rfl⟩)
  go_ret
  exact ⟨rfl, rfl⟩
/-- All words, a blank about each. -/
abbrev WS : ByteArray := ⟨#[32, 98, 114, 101, 97, 107, 32, 99, 104, 97, 114, 32, 99, 111, 110, 116, 105, 110, 117, 101, 32, 100, 111, 32, 101, 108, 115, 101, 32, 102, 111, 114, 32, 103, 101, 116, 98, 121, 116, 101, 32, 105, 102, 32, 105, 110, 116, 32, 112, 117, 116, 98, 121, 116, 101, 32, 114, 101, 116, 117, 114, 110, 32, 115, 105, 122, 101, 111, 102, 32, 115, 116, 114, 117, 99, 116, 32, 117, 105, 110, 116, 32, 118, 111, 105, 100, 32, 119, 104, 105, 108, 101, 32]⟩
def WL : List UInt8 := WS.data.toList
/-- Does a text stand at a place of it, between blanks? -/
def matB (l : List UInt8) (j : Nat) : Bool := (WL[j]? == some 32) && ((WL.drop (j + 1)).take l.length == l) && (WL[j + 1 + l.length]? == some 32)
theorem hit_word : ∀ k n : Fin 93, (WL[k.val]? == some 32 && WL[k.val + 1 + n.val]? == some 32 && namedB ((WL.drop (k.val + 1)).take n.val)) = true → words.contains ((WL.drop (k.val + 1)).take n.val) = true := by decide +kernel
theorem word_hit : (words.all fun x => (List.range 93).any fun j => decide (j + x.length + 2 ≤ 93) && matB x j) = true := by decide +kernel
theorem resv_hit {l : List UInt8} {k : Nat} (hn : namedB l = true) (hr : k + l.length + 2 ≤ 93) (h : matB l k = true) : resv l = true := by
  unfold matB at h
  simp only [Bool.and_eq_true, beq_iff_eq] at h
  obtain ⟨⟨h1, h2⟩, h3⟩ := h
  have := hit_word ⟨k, by omega⟩ ⟨l.length, by omega⟩
  simp only [Bool.and_eq_true, beq_iff_eq] at this
  rw [h2] at this
  exact this ⟨⟨h1, h3⟩, hn⟩
theorem resv_none {l : List UInt8} (h : ∀ j, j + l.length + 2 ≤ 93 → matB l j = false) : resv l = false := by
  rw [Bool.eq_false_iff]
  intro hw
  have hm : l ∈ words := List.contains_iff_mem.1 hw
  have h1 := List.all_eq_true.1 word_hit l hm
  obtain ⟨j, hj, h2⟩ := List.any_eq_true.1 h1
  simp only [Bool.and_eq_true, decide_eq_true_eq] at h2
  rw [h j h2.1] at h2
  cases h2.2
theorem ws_size : WS.size = 93 := rfl
theorem ws_get (k : Nat) (h : k < WS.size) : WL[k]? = some WS[k] := List.getElem?_eq_getElem (l := WL) h
section
variable {s : ByteArray} {k : Nat}
theorem mat_ext (hr : k + s.size + 2 ≤ 93) : ((WS.extract (k + 1) (k + 1 + s.size)).toList = s.toList) ↔ ((WL.drop (k + 1)).take (lst s).length = lst s) := by
  rw [ByteArray.toList_eq, ByteArray.toList_eq, ext_data, lst_len, Nat.add_sub_cancel_left]
  exact Iff.rfl
theorem mat_yes (hr : k + s.size + 2 ≤ 93) (h1' : ((WS[k]'(by rw [ws_size]; omega)).toNat : Int) = 32) (h2 : (WS.extract (k + 1) (k + 1 + s.size)).toList = s.toList) (h3' : ((WS[k + 1 + s.size]'(by rw [ws_size]; omega)).toNat : Int) = 32) : matB (lst s) k = true := by
  have h1 : (WS[k]'(by rw [ws_size]; omega)).toNat = 32 := by omega
  have h3 : (WS[k + 1 + s.size]'(by rw [ws_size]; omega)).toNat = 32 := by omega
  unfold matB
  rw [ws_get k (by rw [ws_size]; omega), lst_len, ws_get (k + 1 + s.size) (by rw [ws_size]; omega), UInt8.toNat_inj.1 (h1.trans (show (32 : Nat) = (32 : UInt8).toNat from rfl)), UInt8.toNat_inj.1 (h3.trans (show (32 : Nat) = (32 : UInt8).toNat from rfl))]
  have := (mat_ext hr).1 h2
  rw [lst_len] at this
  simp [this]
theorem mat_no1 (hr : k + s.size + 2 ≤ 93) (h1' : ¬ ((WS[k]'(by rw [ws_size]; omega)).toNat : Int) = 32) : matB (lst s) k = false := by
  have h1 : ¬ (WS[k]'(by rw [ws_size]; omega)).toNat = 32 := by omega
  unfold matB
  rw [ws_get k (by rw [ws_size]; omega)]
  have : (some (WS[k]'(by rw [ws_size]; omega)) == some (32 : UInt8)) = false := by
    rw [Bool.eq_false_iff]; intro e; exact h1 (by rw [Option.some.inj (eq_of_beq e)]; rfl)
  rw [this]; rfl
theorem mat_no2 (hr : k + s.size + 2 ≤ 93) (h2 : ¬ (WS.extract (k + 1) (k + 1 + s.size)).toList = s.toList) : matB (lst s) k = false := by
  unfold matB
  have : ((WL.drop (k + 1)).take (lst s).length == lst s) = false := by
    rw [Bool.eq_false_iff]; intro e; exact h2 ((mat_ext hr).2 (eq_of_beq e))
  rw [this]; simp
theorem mat_no3 (hr : k + s.size + 2 ≤ 93) (h3' : ¬ ((WS[k + 1 + s.size]'(by rw [ws_size]; omega)).toNat : Int) = 32) : matB (lst s) k = false := by
  have h3 : ¬ (WS[k + 1 + s.size]'(by rw [ws_size]; omega)).toNat = 32 := by omega
  unfold matB
  rw [lst_len, ws_get (k + 1 + s.size) (by rw [ws_size]; omega)]
  have : (some (WS[k + 1 + s.size]'(by rw [ws_size]; omega)) == some (32 : UInt8)) = false := by
    rw [Bool.eq_false_iff]; intro e; exact h3 (by rw [Option.some.inj (eq_of_beq e)]; rfl)
  rw [this]; simp
end

set_option maxRecDepth 100000 in
set_option maxHeartbeats 4000000 in
theorem reserved50_yes (s : ByteArray) (hs : s.size < 4611686018427387904) (h : namedB (lst s) = true) (w : World) : Calls Tryz.prog 50 #[.string s] w fun e w' => e = .returned (.bool (resv (lst s))) ∧ w' = w := by
  have hn := named49 s hs
  rw [h] at hn
  have hlen := lst_len s
  obtain ⟨X, hX⟩ : ∃ X, X = resv (lst s) := ⟨_, rfl⟩
  rw [← hX]
  replace hX := hid hX
  replace h := hid h
  go_enter Tryz.func50, Tryz.ntmps50
  go_wp2_with (go_at_call 49; (with_reducible refine (hn _).mono ?_); rintro e w1 ⟨rfl, rfl⟩)
  clear hn
  go_loop [3] (fun i => ∃ k : Nat, k ≤ 93 ∧ i = .int .i64 k ∧ ∀ j, j < k → j + (lst s).length + 2 ≤ 93 → matB (lst s) j = false) (fun i => 94 - (intOf i).toNat)
  case atStart => exact ⟨0, by omega, rfl, fun j hj => by omega⟩
  case round =>
    obtain ⟨k, hk, rfl, hno⟩ := hrel
    have HN := hid hno
    clear hno
    by_cases hr : k + s.size + 2 ≤ 93
    · have h1 : (k : Int) < 93 := by omega
      have h2 : (k : Int) + 1 + s.size ≤ 93 := by omega
      have h3 : (k : Int) + 1 + s.size < 93 := by omega
      have h4 : (k : Int) + s.size + 2 ≤ 93 := by omega
      have h5 : (k : Int) + 1 ≤ (k : Int) + 1 + s.size := by omega
      have step : Hid (matB (lst s) k = false → ∀ j, j < k + 1 → j + (lst s).length + 2 ≤ 93 → matB (lst s) j = false) := fun hf j hj hj2 => by
        by_cases e : j = k
        · subst e; exact hf
        · exact HN.out j (by omega) hj2
      go_wp2
      all_goals (try simp only [beq_iff_eq, beq_eq_false_iff_ne, ne_eq] at *)
      · have hf := resv_hit h.out (by omega) (mat_yes hr (by assumption) (by assumption) (by assumption))
        go_ret
        exact ⟨ret_b (by rw [hX.out, hf]), by trivial⟩
      · exact ⟨⟨k + 1, by omega, vi (by omega), step.out (mat_no3 hr (by assumption))⟩, by simp [intOf]; omega⟩
      all_goals first
        | exact ⟨⟨k + 1, by omega, vi (by omega), step.out (mat_no2 hr (by assumption))⟩, by simp [intOf]; omega⟩
        | exact ⟨⟨k + 1, by omega, vi (by omega), step.out (mat_no1 hr (by assumption))⟩, by simp [intOf]; omega⟩
        | trace_state
    · have hf := resv_none (l := lst s) (fun j hj => HN.out j (by omega) hj)
      have h4 : ¬ (k : Int) + s.size + 2 ≤ 93 := by omega
      replace hf := hid hf
      go_wp2
      go_ret
      exact ⟨ret_b (by rw [hX.out, hf.out]), rfl⟩
theorem resv_named {l : List UInt8} (h : namedB l = false) : resv l = false := by
  rw [Bool.eq_false_iff]
  intro hw
  have hm : l ∈ words := List.contains_iff_mem.1 hw
  have : ∀ x ∈ words, namedB x = true := by decide +kernel
  rw [this l hm] at h
  cases h
theorem reserved50 (s : ByteArray) (hs : s.size < 4611686018427387904) (w : World) : Calls Tryz.prog 50 #[.string s] w fun e w' => e = .returned (.bool (resv (lst s))) ∧ w' = w := by
  cases h : namedB (lst s)
  · rw [resv_named h]; exact reserved50_no s hs h w
  · exact reserved50_yes s hs h w
end Go.Proofs.YtnnnfabpceapcaaGreatDoor

namespace Go.Proofs.YtnnnfabpceapcaaGreatDoor
set_option linter.unusedSimpArgs false
open Go.RowKit
set_option linter.unusedVariables false
set_option linter.unusedSimpArgs false

theorem bcell {W w1 : World} (hb : Below W.heap.size W w1) : (∀ b o, b < W.heap.size → w1.cell? ⟨b, o, none⟩ = W.cell? ⟨b, o, none⟩) ∧ (∀ b o, b < W.heap.size → w1.frozen? ⟨b, o, none⟩ = W.frozen? ⟨b, o, none⟩) :=
  ⟨fun b o h => hb.cell (p := ⟨b, o, none⟩) h, fun b o h => hb.frozen (p := ⟨b, o, none⟩) h⟩
def emptyB (s : ByteArray) : Bool := s.toList == []
def partsF (x : NdH) (a b c : Bool) : Bool := (a || emptyB x.str) && ((b || x.num == 0) && (c || !x.flag))

set_option maxRecDepth 20000 in
set_option maxHeartbeats 4000000 in
theorem parts15 (x : NdH) (ka : Option Addr) (kn kc : Nat) (a b c : Bool) (w : World) :
    Calls Tryz.prog 15 #[ndV x (.slice ka kn kc), .bool a, .bool b, .bool c] w fun e w' => e = .returned (.bool (partsF x a b c)) ∧ Below w.heap.size w w' := by
  obtain ⟨kind, str, num, flag, pos⟩ := x
  unfold ndV partsF emptyB
  dsimp only
  generalize hE : (str.toList == []) = E
  by_cases hn : num = 0
  · subst hn
    cases a <;> cases b <;> cases c <;> cases E <;> cases flag
    all_goals
      go_enter Tryz.func15, Tryz.ntmps15
      go_wp2
      go_ret
      exact ⟨rfl, below1 _ _⟩
  · have hd : (num == 0) = false := by simp [hn]
    rw [hd]
    cases a <;> cases b <;> cases c <;> cases E <;> cases flag
    all_goals
      go_enter Tryz.func15, Tryz.ntmps15
      go_wp2
      go_ret
      exact ⟨rfl, below1 _ _⟩

theorem name28 (s : ByteArray) (hs : s.size < 4611686018427387904) (w : World) : Calls Tryz.prog 28 #[.string s] w fun e w' => e = .returned (.bool (nameB s)) ∧ w' = w := by
  unfold nameB
  have h1 := fun W => named49 s hs W
  have h2 := fun W => reserved50 s hs W
  generalize namedB (lst s) = p at *
  generalize resv (lst s) = q at *
  cases p <;> cases q
  all_goals
    go_enter Tryz.func28, Tryz.ntmps28
    go_wp2_with (first
      | (go_at_call 49; refine (h1 _).mono ?_; rintro e w1 ⟨rfl, rfl⟩)
      | (go_at_call 50; refine (h2 _).mono ?_; rintro e w1 ⟨rfl, rfl⟩))
    go_ret
    exact ⟨rfl, rfl⟩

def placeF (x : NdH) : Bool := x.kind == 4 || (x.kind == 5 || (x.kind == 6 || x.kind == 7))
set_option maxHeartbeats 1000000 in
theorem place104 (x : NdH) (ka : Option Addr) (kn kc : Nat) (w : World) : Calls Tryz.prog 104 #[ndV x (.slice ka kn kc)] w fun e w' => e = .returned (.bool (placeF x)) ∧ Below w.heap.size w w' := by
  obtain ⟨kind, str, num, flag, pos⟩ := x
  unfold ndV placeF
  dsimp only
  by_cases h4 : kind = 4
  · subst h4
    go_enter Tryz.func104, Tryz.ntmps104
    go_wp2
    go_ret
    exact ⟨rfl, below1 _ _⟩
  by_cases h5 : kind = 5
  · subst h5
    go_enter Tryz.func104, Tryz.ntmps104
    go_wp2
    go_ret
    exact ⟨rfl, below1 _ _⟩
  by_cases h6 : kind = 6
  · subst h6
    go_enter Tryz.func104, Tryz.ntmps104
    go_wp2
    go_ret
    exact ⟨rfl, below1 _ _⟩
  have d4 : (kind == 4) = false := by simp [h4]
  have d5 : (kind == 5) = false := by simp [h5]
  have d6 : (kind == 6) = false := by simp [h6]
  rw [d4, d5, d6]
  go_enter Tryz.func104, Tryz.ntmps104
  go_wp2
  go_ret
  exact ⟨by simp, below1 _ _⟩

def noneF (x : NdH) (kn : Nat) : Bool := x.kind == 56 && (partsF x false false false && kn == 0)
set_option maxHeartbeats 1000000 in
theorem none51 (x : NdH) (ka : Option Addr) (kn kc : Nat) (w : World) : Calls Tryz.prog 51 #[ndV x (.slice ka kn kc)] w fun e w' => e = .returned (.bool (noneF x kn)) ∧ Below w.heap.size w w' := by
  have hP := fun W => parts15 x ka kn kc false false false W
  unfold noneF
  generalize partsF x false false false = P at *
  obtain ⟨kind, str, num, flag, pos⟩ := x
  unfold ndV at *
  dsimp only at *
  by_cases h : kind = 56
  · subst h
    by_cases hk : kn = 0
    · subst hk
      cases P
      all_goals
        go_enter Tryz.func51, Tryz.ntmps51
        go_wp2_with (go_at_call 15; refine (hP _).mono ?_; rintro e1 w1 ⟨rfl, hb1⟩; obtain ⟨hc1, hf1⟩ := bcell hb1)
        go_ret
        exact ⟨rfl, below_on (below1 _ _) hb1⟩
    · have hk' : ¬ (kn : Int) = 0 := by omega
      have hd : (kn == 0) = false := by simp [hk]
      rw [hd]
      cases P
      all_goals
        go_enter Tryz.func51, Tryz.ntmps51
        go_wp2_with (go_at_call 15; refine (hP _).mono ?_; rintro e1 w1 ⟨rfl, hb1⟩; obtain ⟨hc1, hf1⟩ := bcell hb1)
        go_ret
        exact ⟨by simp [hk], below_on (below1 _ _) hb1⟩
  · have hd : (kind == 56) = false := by simp [h]
    rw [hd]
    go_enter Tryz.func51, Tryz.ntmps51
    go_wp2_with fail
    go_ret
    exact ⟨by simp, below1 _ _⟩

/-- Is this a type, as the document has it? -/
def typedF (x : NdH) (kn : Nat) : Bool := x.kind == 16 && (partsF x true false false && (kn == 0 && typeB x.str))
end Go.Proofs.YtnnnfabpceapcaaGreatDoor

namespace Go.Proofs.YtnnnfabpceapcaaGreatDoor
set_option linter.unusedSimpArgs false
open Go.RowKit
set_option linter.unusedVariables false
set_option linter.unusedSimpArgs false

theorem toList_len {s : ByteArray} {l : List UInt8} (h : (s.toList == l) = true) : s.size = l.length := by
  have e := eq_of_beq h
  rw [ByteArray.toList_eq] at e
  rw [← e, size_list]
theorem typeB_pre {s : ByteArray} (h : 7 < s.size) (hp : ((s.extract 0 7).toList == [115, 116, 114, 117, 99, 116, 32]) = true) : typeB s = nameB (s.extract 7 s.size) := by
  have hpre : preB s = true := by unfold preB; rw [hp, Bool.and_true]; exact decide_eq_true (by omega)
  have n : ∀ l : List UInt8, l.length ≤ 4 → (s.toList == l) = false := fun l hl => by
    cases e : s.toList == l with
    | false => rfl
    | true => have := toList_len e; omega
  unfold typeB
  rw [n _ (by decide), n _ (by decide), n _ (by decide), n _ (by decide), hpre]
  simp
theorem typeB_no {s : ByteArray} (h : ¬ (7 < s.size ∧ ((s.extract 0 7).toList == [115, 116, 114, 117, 99, 116, 32]) = true)) :
    typeB s = (s.toList == [105, 110, 116] || (s.toList == [117, 105, 110, 116] || (s.toList == [99, 104, 97, 114] || s.toList == [118, 111, 105, 100]))) := by
  have hq : (preB s && nameB (if preB s then s.extract 7 s.size else s)) = false := by
    cases hp : preB s with
    | false => rfl
    | true =>
      unfold preB at hp
      rw [Bool.and_eq_true] at hp
      have h7 : s.size = 7 := by
        have := of_decide_eq_true hp.1
        by_cases h8 : 7 < s.size
        · exact absurd ⟨h8, hp.2⟩ h
        · omega
      have e : s.extract 7 s.size = ⟨#[]⟩ := empty_eq (by rw [ByteArray.size_extract]; omega)
      rw [if_pos rfl, e]
      rfl
  unfold typeB
  rw [hq]
  cases s.toList == [105, 110, 116] <;> cases s.toList == [117, 105, 110, 116] <;> cases s.toList == [99, 104, 97, 114] <;> cases s.toList == [118, 111, 105, 100] <;> rfl

set_option maxHeartbeats 4000000 in
set_option maxRecDepth 20000 in
theorem typed29 (x : NdH) (ka : Option Addr) (kn kc : Nat) (hs : x.str.size < 4611686018427387904) (w : World) : Calls Tryz.prog 29 #[ndV x (.slice ka kn kc)] w fun e w' => e = .returned (.bool (typedF x kn)) ∧ Below w.heap.size w w' := by
  have hP := fun W => parts15 x ka kn kc true false false W
  have hN := fun W => name28 (x.str.extract 7 x.str.size) (by rw [ByteArray.size_extract]; omega) W
  have hTy := fun h hp => typeB_pre (s := x.str) h hp
  have hTn := fun h => typeB_no (s := x.str) h
  unfold typedF
  generalize partsF x true false false = P at *
  generalize typeB x.str = T at *
  generalize nameB (x.str.extract 7 x.str.size) = N at *
  obtain ⟨kind, str, num, flag, pos⟩ := x
  unfold ndV at *
  dsimp only at *
  by_cases h : ¬ kind = 16
  · have hd : (kind == 16) = false := by simp [h]
    rw [hd]
    go_enter Tryz.func29, Tryz.ntmps29
    go_wp2_with fail
    go_ret
    exact ⟨by simp, below1 _ _⟩
  obtain rfl : kind = 16 := Classical.not_not.1 h
  clear h
  cases P
  · go_enter Tryz.func29, Tryz.ntmps29
    go_wp2_with (go_at_call 15; refine (hP _).mono ?_; rintro e1 w1 ⟨rfl, hb1⟩; obtain ⟨hc1, hf1⟩ := bcell hb1)
    go_ret
    exact ⟨by simp, below_on (below1 _ _) hb1⟩
  by_cases hk : ¬ kn = 0
  · have hk' : (0 : Int) < kn := by omega
    have hd : (kn == 0) = false := by simp [hk]
    rw [hd]
    go_enter Tryz.func29, Tryz.ntmps29
    go_wp2_with (go_at_call 15; refine (hP _).mono ?_; rintro e1 w1 ⟨rfl, hb1⟩; obtain ⟨hc1, hf1⟩ := bcell hb1)
    go_ret
    exact ⟨by simp, below_on (below1 _ _) hb1⟩
  obtain rfl : kn = 0 := Classical.not_not.1 hk
  clear hk
  by_cases h7 : 7 < str.size
  · have h7' : (7 : Int) < str.size := by omega
    have h7'' : (7 : Int) ≤ str.size := by omega
    cases h5 : (str.extract 0 7).toList == [115, 116, 114, 117, 99, 116, 32] with
    | true =>
      have HT := hid' (hTy h7 h5)
      clear hTy hTn
      go_enter Tryz.func29, Tryz.ntmps29
      go_wp2_with (first
        | (go_at_call 15; refine (hP _).mono ?_; rintro e1 w1 ⟨rfl, hb1⟩; obtain ⟨hc1, hf1⟩ := bcell hb1)
        | (go_at_call 28; refine (hN _).mono ?_; rintro e2 w2 ⟨rfl, rfl⟩))
      go_ret
      exact ⟨by rw [HT.out]; simp, below_on (below1 _ _) hb1⟩
    | false =>
      have HT := hid' (hTn (fun h => by have := h.2; rw [h5] at this; cases this))
      clear hTy hTn
      generalize hE1 : (str.toList == [105, 110, 116]) = E1 at *
      generalize hE2 : (str.toList == [117, 105, 110, 116]) = E2 at *
      generalize hE3 : (str.toList == [99, 104, 97, 114]) = E3 at *
      cases E1 <;> cases E2 <;> cases E3
      all_goals
        go_enter Tryz.func29, Tryz.ntmps29
        go_wp2_with (go_at_call 15; refine (hP _).mono ?_; rintro e1 w1 ⟨rfl, hb1⟩; obtain ⟨hc1, hf1⟩ := bcell hb1)
        go_ret
        exact ⟨by rw [HT.out]; simp, below_on (below1 _ _) hb1⟩
  · have h7' : ¬ (7 : Int) < str.size := by omega
    have HT := hid' (hTn (fun h => h7 h.1))
    clear hTy hTn
    generalize hE1 : (str.toList == [105, 110, 116]) = E1 at *
    generalize hE2 : (str.toList == [117, 105, 110, 116]) = E2 at *
    generalize hE3 : (str.toList == [99, 104, 97, 114]) = E3 at *
    cases E1 <;> cases E2 <;> cases E3
    all_goals
      go_enter Tryz.func29, Tryz.ntmps29
      go_wp2_with (go_at_call 15; refine (hP _).mono ?_; rintro e1 w1 ⟨rfl, hb1⟩; obtain ⟨hc1, hf1⟩ := bcell hb1)
      go_ret
      exact ⟨by rw [HT.out]; simp, below_on (below1 _ _) hb1⟩
end Go.Proofs.YtnnnfabpceapcaaGreatDoor

namespace Go.Proofs.YtnnnfabpceapcaaGreatDoor
set_option linter.unusedSimpArgs false
open Go.RowKit
set_option linter.unusedVariables false
set_option linter.unusedSimpArgs false

/-- It stands at place j, a blank about it. -/
def matS (L l : List UInt8) (j : Nat) : Bool := (L[j]? == some 32) && ((L.drop (j + 1)).take l.length == l) && (L[j + 1 + l.length]? == some 32)
def signB (L l : List UInt8) : Bool := !l.isEmpty && l.all (fun c => !(c == 32)) && (List.range L.length).any (fun j => decide (j + l.length + 2 ≤ L.length) && matS L l j)

theorem s_get (S : ByteArray) (k : Nat) (h : k < S.size) : (lst S)[k]? = some S[k] := List.getElem?_eq_getElem (l := lst S) (by rw [lst_len]; exact h)
section
variable {S s : ByteArray} {k : Nat}
theorem matS_ext (hr : k + s.size + 2 ≤ S.size) : ((S.extract (k + 1) (k + 1 + s.size)).toList = s.toList) ↔ (((lst S).drop (k + 1)).take (lst s).length = lst s) := by
  rw [ByteArray.toList_eq, ByteArray.toList_eq, ext_data, lst_len, Nat.add_sub_cancel_left]
  exact Iff.rfl
theorem matS_yes (hr : k + s.size + 2 ≤ S.size) (h1' : ((S[k]'(by omega)).toNat : Int) = 32) (h2 : (S.extract (k + 1) (k + 1 + s.size)).toList = s.toList) (h3' : ((S[k + 1 + s.size]'(by omega)).toNat : Int) = 32) : matS (lst S) (lst s) k = true := by
  have h1 : (S[k]'(by omega)).toNat = 32 := by omega
  have h3 : (S[k + 1 + s.size]'(by omega)).toNat = 32 := by omega
  unfold matS
  rw [s_get S k (by omega), lst_len, s_get S (k + 1 + s.size) (by omega), UInt8.toNat_inj.1 (h1.trans (show (32 : Nat) = (32 : UInt8).toNat from rfl)), UInt8.toNat_inj.1 (h3.trans (show (32 : Nat) = (32 : UInt8).toNat from rfl))]
  have := (matS_ext hr).1 h2
  rw [lst_len] at this
  simp [this]
theorem matS_no1 (hr : k + s.size + 2 ≤ S.size) (h1' : ¬ ((S[k]'(by omega)).toNat : Int) = 32) : matS (lst S) (lst s) k = false := by
  have h1 : ¬ (S[k]'(by omega)).toNat = 32 := by omega
  unfold matS
  rw [s_get S k (by omega)]
  have : (some (S[k]'(by omega)) == some (32 : UInt8)) = false := by
    rw [Bool.eq_false_iff]; intro e; exact h1 (by rw [Option.some.inj (eq_of_beq e)]; rfl)
  rw [this]; rfl
theorem matS_no2 (hr : k + s.size + 2 ≤ S.size) (h2 : ¬ (S.extract (k + 1) (k + 1 + s.size)).toList = s.toList) : matS (lst S) (lst s) k = false := by
  unfold matS
  have : (((lst S).drop (k + 1)).take (lst s).length == lst s) = false := by
    rw [Bool.eq_false_iff]; intro e; exact h2 ((matS_ext hr).2 (eq_of_beq e))
  rw [this]; simp
theorem matS_no3 (hr : k + s.size + 2 ≤ S.size) (h3' : ¬ ((S[k + 1 + s.size]'(by omega)).toNat : Int) = 32) : matS (lst S) (lst s) k = false := by
  have h3 : ¬ (S[k + 1 + s.size]'(by omega)).toNat = 32 := by omega
  unfold matS
  rw [lst_len, s_get S (k + 1 + s.size) (by omega)]
  have : (some (S[k + 1 + s.size]'(by omega)) == some (32 : UInt8)) = false := by
    rw [Bool.eq_false_iff]; intro e; exact h3 (by rw [Option.some.inj (eq_of_beq e)]; rfl)
  rw [this]; simp
end

theorem sign_empty (S : ByteArray) : signB (lst S) (lst ⟨#[]⟩) = false := rfl
theorem sign_blank {S s : ByteArray} {k : Nat} (hk : k < s.size) (h : ((s[k]'hk).toNat : Int) = 32) : signB (lst S) (lst s) = false := by
  have h0 : (lst s).all (fun c => !(c == 32)) = false := by
    rw [Bool.eq_false_iff]
    intro e
    have := List.all_eq_true.1 e s[k] (List.mem_of_getElem? (s_get s k hk))
    have e2 : s[k] = (32 : UInt8) := UInt8.toNat_inj.1 (by have : (s[k]).toNat = 32 := by omega
                                                           rw [this]; rfl)
    rw [e2] at this
    simp at this
  unfold signB
  rw [h0]
  simp

theorem sign_yes {S s : ByteArray} {k : Nat} (h0 : 0 < s.size) (hb : ∀ j (hj : j < s.size), ¬ ((s[j]'hj).toNat : Int) = 32) (hr : k + s.size + 2 ≤ S.size) (hm : matS (lst S) (lst s) k = true) : signB (lst S) (lst s) = true := by
  have h1 : (lst s).isEmpty = false := by
    cases h : lst s with
    | nil => have := lst_len s; rw [h] at this; simp at this; omega
    | cons c r => rfl
  have h2 : (lst s).all (fun c => !(c == 32)) = true := List.all_eq_true.2 fun c hc => by
    obtain ⟨j, hj, rfl⟩ := List.getElem_of_mem hc
    have hj' : j < s.size := by rw [lst_len] at hj; exact hj
    have := hb j hj'
    have e : (lst s)[j] = s[j] := Option.some.inj ((List.getElem?_eq_getElem hj).symm.trans (s_get s j hj'))
    rw [Bool.not_eq_true', beq_eq_false_iff_ne]
    intro e2
    have e3 : s[j] = (32 : UInt8) := e.symm.trans e2
    rw [e3] at this
    exact this rfl
  unfold signB
  rw [h1, h2]
  simp only [Bool.not_false, Bool.true_and]
  rw [List.any_eq_true]
  exact ⟨k, List.mem_range.2 (by rw [lst_len]; omega), by rw [hm, lst_len, lst_len]; simp; omega⟩
theorem sign_no {S s : ByteArray} (h : ∀ j, j + s.size + 2 ≤ S.size → matS (lst S) (lst s) j = false) : signB (lst S) (lst s) = false := by
  unfold signB
  have : (List.range (lst S).length).any (fun j => decide (j + (lst s).length + 2 ≤ (lst S).length) && matS (lst S) (lst s) j) = false := by
    rw [List.any_eq_false]
    intro j _ e
    rw [Bool.and_eq_true, decide_eq_true_iff, lst_len, lst_len] at e
    rw [h j e.1] at e
    exact Bool.noConfusion e.2
  rw [this]
  simp

set_option maxHeartbeats 4000000 in
set_option maxRecDepth 20000 in
theorem sign103 (S s : ByteArray) (hS : S.size ≤ 1000) (hs : s.size < 4611686018427387904) (w : World) : Calls Tryz.prog 103 #[.string S, .string s] w fun e w' => e = .returned (.bool (signB (lst S) (lst s))) ∧ w' = w := by
  by_cases h0 : ¬ 0 < s.size
  · obtain rfl := empty_eq h0
    rw [sign_empty]
    go_enter Tryz.func103, Tryz.ntmps103
    go_wp2
    go_ret
    exact ⟨rfl, rfl⟩
  have h0 : 0 < s.size := Classical.not_not.1 h0
  have hne := nonempty h0
  obtain ⟨X, hX⟩ : ∃ X, X = signB (lst S) (lst s) := ⟨_, rfl⟩
  rw [← hX]
  have HX := hid' hX
  clear hX
  go_enter Tryz.func103, Tryz.ntmps103
  go_wp2
  go_loop [5] (fun i => ∃ k : Nat, k ≤ s.size ∧ i = .int .i64 k ∧ ∀ j (hj : j < s.size), j < k → ¬ ((s[j]'hj).toNat : Int) = 32) (fun i => s.size - (intOf i).toNat)
  case atStart => exact ⟨0, by omega, rfl, fun j _ hj => by omega⟩
  case round =>
    obtain ⟨k, hk, rfl, hno⟩ := hrel
    have HN := hid' hno
    clear hno
    by_cases hlt : k < s.size
    · have h1 : (k : Int) < s.size := by omega
      by_cases hc : ((s[k]'hlt).toNat : Int) = 32
      · have HB : Hid (X = false) := HX.out.trans (sign_blank hlt hc)
        go_wp2
        go_ret
        exact ⟨by rw [HB.out]; rfl, rfl⟩
      · have HN2 : Hid (∀ j (hj : j < s.size), j < k + 1 → ¬ ((s[j]'hj).toNat : Int) = 32) := fun j hj hjk => by
          by_cases e : j = k
          · subst e; exact hc
          · exact HN.out j hj (by omega)
        go_wp2
        go_round
        case rel => exact ⟨k + 1, by omega, by go_num, HN2.out⟩
        case measure => simp [intOf]; omega
    · have e : k = s.size := by omega
      subst e
      have HA : Hid (∀ j (hj : j < s.size), ¬ ((s[j]'hj).toNat : Int) = 32) := fun j hj => HN.out j hj hj
      clear HN
      go_wp2
      go_loop [6] (fun i => ∃ k : Nat, k ≤ S.size ∧ i = .int .i64 k ∧ ∀ j, j < k → j + s.size + 2 ≤ S.size → matS (lst S) (lst s) j = false) (fun i => S.size + 1 - (intOf i).toNat)
      case atStart => exact ⟨0, by omega, rfl, fun j hj => by omega⟩
      case round =>
        obtain ⟨k, hk', rfl, hno⟩ := hrel
        have HN := hid' hno
        clear hno
        by_cases hr : k + s.size + 2 ≤ S.size
        · have h1 : (k : Int) < S.size := by omega
          have h2 : (k : Int) + 1 + s.size ≤ S.size := by omega
          have h3 : (k : Int) + 1 + s.size < S.size := by omega
          have h4 : (k : Int) + s.size + 2 ≤ S.size := by omega
          have h5 : (k : Int) + 1 ≤ (k : Int) + 1 + s.size := by omega
          have step : Hid (matS (lst S) (lst s) k = false → ∀ j, j < k + 1 → j + s.size + 2 ≤ S.size → matS (lst S) (lst s) j = false) := fun hf j hj hj2 => by
            by_cases e : j = k
            · subst e; exact hf
            · exact HN.out j (by omega) hj2
          go_wp2
          all_goals (try simp only [beq_iff_eq, beq_eq_false_iff_ne, ne_eq] at *)
          · have hf := sign_yes h0 HA.out hr (matS_yes hr (by assumption) (by assumption) (by assumption))
            go_ret
            exact ⟨ret_b (by rw [HX.out, hf]), by trivial⟩
          · exact ⟨⟨k + 1, by omega, vi (by omega), step.out (matS_no3 hr (by assumption))⟩, by simp [intOf]; omega⟩
          all_goals first
            | exact ⟨⟨k + 1, by omega, vi (by omega), step.out (matS_no2 hr (by assumption))⟩, by simp [intOf]; omega⟩
            | exact ⟨⟨k + 1, by omega, vi (by omega), step.out (matS_no1 hr (by assumption))⟩, by simp [intOf]; omega⟩
        · have HB : Hid (X = false) := HX.out.trans (sign_no (fun j hj => HN.out j (by omega) hj))
          have h4 : ¬ (k : Int) + s.size + 2 ≤ S.size := by omega
          go_wp2
          go_ret
          exact ⟨by rw [HB.out]; rfl, rfl⟩
end Go.Proofs.YtnnnfabpceapcaaGreatDoor

namespace Go.Proofs.YtnnnfabpceapcaaGreatDoor
set_option linter.unusedSimpArgs false
open Go.RowKit
set_option linter.unusedVariables false
set_option linter.unusedSimpArgs false

/-- Every piece of L between blanks is one of W, and each of W is such a piece. -/
def hitB (L : List UInt8) (W : List (List UInt8)) : Bool :=
  ((List.range L.length).all fun k => (List.range L.length).all fun n => !(L[k]? == some 32 && (L[k + 1 + n]? == some 32 && (decide (0 < n) && ((L.drop (k + 1)).take n).all (fun c => !(c == 32))))) || W.contains ((L.drop (k + 1)).take n)) && W.all fun x => signB L x
theorem signB_is {L : List UInt8} {W : List (List UInt8)} (h : hitB L W = true) (l : List UInt8) : signB L l = W.contains l := by
  unfold hitB at h
  rw [Bool.and_eq_true] at h
  obtain ⟨ha, hb⟩ := h
  cases hs : signB L l with
  | false =>
    cases hc : W.contains l with
    | false => rfl
    | true =>
      have := List.all_eq_true.1 hb l (by simpa using hc)
      rw [this] at hs
      cases hs
  | true =>
    symm
    unfold signB at hs
    rw [Bool.and_eq_true, Bool.and_eq_true] at hs
    obtain ⟨⟨h0, h1⟩, h2⟩ := hs
    obtain ⟨j, hj, h3⟩ := List.any_eq_true.1 h2
    rw [Bool.and_eq_true, decide_eq_true_iff] at h3
    obtain ⟨h4, h5⟩ := h3
    unfold matS at h5
    rw [Bool.and_eq_true, Bool.and_eq_true] at h5
    obtain ⟨⟨m1, m2⟩, m3⟩ := h5
    have e := eq_of_beq m2
    have hl : 0 < l.length := by cases l with
      | nil => simp at h0
      | cons c r => simp
    have := List.all_eq_true.1 (List.all_eq_true.1 ha j hj) l.length (List.mem_range.2 (by omega))
    rw [e, m1, m3, h1] at this
    simpa [hl] using this

def L9 : ByteArray := ⟨#[32, 45, 32, 126, 32, 33, 32, 38, 32]⟩
def L10 : ByteArray := ⟨#[32, 42, 32, 47, 32, 37, 32, 43, 32, 45, 32, 60, 60, 32, 62, 62, 32, 60, 32, 62, 32, 60, 61, 32, 62, 61, 32, 61, 61, 32, 33, 61, 32, 38, 32, 94, 32, 124, 32]⟩
def L11 : ByteArray := ⟨#[32, 38, 38, 32, 124, 124, 32]⟩
def L13 : ByteArray := ⟨#[32, 61, 32, 43, 61, 32, 45, 61, 32, 42, 61, 32, 47, 61, 32, 37, 61, 32, 38, 61, 32, 124, 61, 32, 94, 61, 32, 60, 60, 61, 32, 62, 62, 61, 32]⟩
theorem hit9 : hitB (lst L9) [[45], [126], [33], [38]] = true := by decide +kernel
theorem hit10 : hitB (lst L10) [[42], [47], [37], [43], [45], [60, 60], [62, 62], [60], [62], [60, 61], [62, 61], [61, 61], [33, 61], [38], [94], [124]] = true := by decide +kernel
theorem hit11 : hitB (lst L11) [[38, 38], [124, 124]] = true := by decide +kernel
theorem hit13 : hitB (lst L13) [[61], [43, 61], [45, 61], [42, 61], [47, 61], [37, 61], [38, 61], [124, 61], [94, 61], [60, 60, 61], [62, 62, 61]] = true := by decide +kernel
theorem sign9 (s : ByteArray) : signB (lst L9) (lst s) = signF s := by
  rw [signB_is hit9]
  unfold signF
  rw [ByteArray.toList_eq]
  simp only [List.contains, List.elem, Bool.or_false]
  show _ = _
  unfold lst
  cases s.data.toList == [45] <;> cases s.data.toList == [126] <;> cases s.data.toList == [33] <;> cases s.data.toList == [38] <;> rfl
theorem sign11 (s : ByteArray) : signB (lst L11) (lst s) = (logF s != 0) := by
  rw [signB_is hit11]
  unfold logF
  rw [ByteArray.toList_eq]
  simp only [List.contains, List.elem]
  unfold lst
  cases s.data.toList == [124, 124] <;> cases s.data.toList == [38, 38] <;> rfl
theorem sign13 (s : ByteArray) : signB (lst L13) (lst s) = asgF s := by
  rw [signB_is hit13]
  unfold asgF
  rw [ByteArray.toList_eq]
  simp only [List.contains, List.elem]
  unfold lst
  cases s.data.toList == [61] <;> cases s.data.toList == [43, 61] <;> cases s.data.toList == [45, 61] <;> cases s.data.toList == [42, 61] <;> cases s.data.toList == [47, 61] <;> cases s.data.toList == [37, 61] <;> cases s.data.toList == [38, 61] <;> cases s.data.toList == [124, 61] <;> cases s.data.toList == [94, 61] <;> cases s.data.toList == [60, 60, 61] <;> cases s.data.toList == [62, 62, 61] <;> rfl
theorem sign10 (s : ByteArray) : signB (lst L10) (lst s) = (binF s != 0) := by
  rw [signB_is hit10]
  unfold binF
  rw [ByteArray.toList_eq]
  unfold lst
  generalize s.data.toList = l
  cases e0 : l == [124] with
  | true =>
    obtain rfl := eq_of_beq e0
    decide
  | false =>
  cases e1 : l == [94] with
  | true =>
    obtain rfl := eq_of_beq e1
    decide
  | false =>
  cases e2 : l == [38] with
  | true =>
    obtain rfl := eq_of_beq e2
    decide
  | false =>
  cases e3 : l == [61, 61] with
  | true =>
    obtain rfl := eq_of_beq e3
    decide
  | false =>
  cases e4 : l == [33, 61] with
  | true =>
    obtain rfl := eq_of_beq e4
    decide
  | false =>
  cases e5 : l == [60] with
  | true =>
    obtain rfl := eq_of_beq e5
    decide
  | false =>
  cases e6 : l == [62] with
  | true =>
    obtain rfl := eq_of_beq e6
    decide
  | false =>
  cases e7 : l == [60, 61] with
  | true =>
    obtain rfl := eq_of_beq e7
    decide
  | false =>
  cases e8 : l == [62, 61] with
  | true =>
    obtain rfl := eq_of_beq e8
    decide
  | false =>
  cases e9 : l == [60, 60] with
  | true =>
    obtain rfl := eq_of_beq e9
    decide
  | false =>
  cases e10 : l == [62, 62] with
  | true =>
    obtain rfl := eq_of_beq e10
    decide
  | false =>
  cases e11 : l == [43] with
  | true =>
    obtain rfl := eq_of_beq e11
    decide
  | false =>
  cases e12 : l == [45] with
  | true =>
    obtain rfl := eq_of_beq e12
    decide
  | false =>
  cases e13 : l == [42] with
  | true =>
    obtain rfl := eq_of_beq e13
    decide
  | false =>
  cases e14 : l == [47] with
  | true =>
    obtain rfl := eq_of_beq e14
    decide
  | false =>
  cases e15 : l == [37] with
  | true =>
    obtain rfl := eq_of_beq e15
    decide
  | false =>
  simp only [List.contains, List.elem, e0, e1, e2, e3, e4, e5, e6, e7, e8, e9, e10, e11, e12, e13, e14, e15, Bool.false_eq_true, if_false]
  rfl
end Go.Proofs.YtnnnfabpceapcaaGreatDoor

namespace Go.Proofs.YtnnnfabpceapcaaGreatDoor
set_option linter.unusedSimpArgs false
open Go.RowKit
set_option linter.unusedVariables false
set_option linter.unusedSimpArgs false

/-- A kid's question, met in every later world. -/
def KidQ (w : World) (ao : Option Addr) (ks : List Tr) (g : FuncId) (F : Tr → Bool) : Prop :=
  ∀ (W : World), Below w.heap.size w W → ∀ i (h : i < ks.length), ∃ b off x kv, ao = some ⟨b, off, none⟩ ∧ b < W.heap.size ∧ NdAt W b (off + i * 6) x kv ∧ Calls Tryz.prog g #[ndV x kv] W fun e w' => e = .returned (.bool (F ks[i])) ∧ Below W.heap.size W w'

def exprsF (F : Tr → Bool) (ks : List Tr) (k : Int) : Bool := (decide (k < 0) || decide ((ks.length : Int) = k)) && ks.all F

set_option maxHeartbeats 4000000 in
set_option maxRecDepth 20000 in
theorem exprs53 {w : World} {ao : Option Addr} {cap : Nat} {ks : List Tr} {F : Tr → Bool} (hl : ks.length ≤ 9223372036854775807) (H : KidQ w ao ks 52 F) (x : NdH) (k : Int) :
    Calls Tryz.prog 53 #[ndV x (.slice ao ks.length cap), .int .i64 k] w fun e w' => e = .returned (.bool (exprsF F ks k)) ∧ Below w.heap.size w w' := by
  have HH := hid' H
  clear H
  obtain ⟨kind, str, num, flag, pos⟩ := x
  unfold ndV
  dsimp only
  obtain ⟨X, hX⟩ : ∃ X, X = exprsF F ks k := ⟨_, rfl⟩
  rw [← hX]
  have HX := hid' hX
  clear hX
  by_cases hk : 0 ≤ k ∧ ¬ (ks.length : Int) = k
  · have HN : Hid (X = false) := HX.out.trans (by
      have h1 : decide (k < 0) = false := decide_eq_false (by omega)
      have h2 : decide ((ks.length : Int) = k) = false := decide_eq_false hk.2
      unfold exprsF
      rw [h1, h2]
      rfl)
    obtain ⟨k0, k1⟩ := hk
    go_enter Tryz.func53, Tryz.ntmps53
    go_wp2
    go_ret
    exact ⟨by rw [HN.out]; rfl, below1 _ _⟩
  have HA : Hid (X = ks.all F) := HX.out.trans (by
    unfold exprsF
    have : (decide (k < 0) || decide ((ks.length : Int) = k)) = true := by
      by_cases h : k < 0
      · rw [decide_eq_true h]; rfl
      · rw [decide_eq_true (p := (ks.length : Int) = k) (Classical.byContradiction fun h2 => hk ⟨by omega, h2⟩)]; simp
    rw [this]
    rfl)
  clear HX
  obtain ⟨w0, hw0⟩ : ∃ w0, w0 = w.alloc (.cells #[.int .i64 kind, .string str, .int .u32 num, .bool flag, .slice ao ks.length cap, .int .i64 pos] 25) := ⟨_, rfl⟩
  have hb0 : Below w.heap.size w w0 := by rw [hw0]; exact below1 _ _
  have c4 : w0.cell? ⟨w.heap.size, 4, none⟩ = some (.slice ao ks.length cap) := by rw [hw0]; simp [go_sem]
  have hl0 : w.heap.size < w0.heap.size := by rw [hw0]; simp
  have HB0 := hid' hb0
  have HW0 := hid' hw0
  clear hb0 hw0
  by_cases hk0 : 0 ≤ k
  · have hkl : (ks.length : Int) = k := Classical.byContradiction fun h2 => hk ⟨hk0, h2⟩
    clear hk
    subst hkl
    go_enter Tryz.func53, Tryz.ntmps53
    go_wp2_with fail
    rw [← HW0.out]
    clear HW0
    go_loopw [5] (fun i wr => ∃ j : Nat, j ≤ ks.length ∧ i = .int .i64 (j : Nat) ∧ (∀ m (hm : m < ks.length), m < j → F ks[m] = true) ∧ Below w0.heap.size w0 wr) (fun i _ => ks.length - (intOf i).toNat)
    case atStart => exact ⟨0, Nat.zero_le _, rfl, fun m _ hm => by omega, Below.refl _ _⟩
    case round =>
      obtain ⟨j, hj, rfl, hok, hBw⟩ := hrel
      have HOK := hid' hok
      have HBW := hid' hBw
      have d4 := (hBw.cell (p := ⟨w.heap.size, 4, none⟩) hl0).trans c4
      have hl' : w.heap.size < wr.heap.size := Nat.lt_of_lt_of_le hl0 hBw.size
      clear hok hBw
      by_cases hlt : j < ks.length
      · obtain ⟨b, off, x', kv', rfl, hlb, ⟨c0, c1, c2, c3, c5, c6⟩, hC⟩ := HH.out wr (below_on HB0.out HBW.out) j hlt
        have hlt' : (j : Int) < ks.length := by omega
        cases hF : F ks[j] with
        | true =>
          rw [hF] at hC
          have HN : Hid (∀ m (hm : m < ks.length), m < j + 1 → F ks[m] = true) := fun m hm hmj => by
            by_cases e : m = j
            · subst e; exact hF
            · exact HOK.out m hm (by omega)
          have hc := hid' hC
          clear hC hF
          unfold ndV at hc
          go_wp2_with (go_at_call 52; (with_reducible refine hc.out.mono ?_); rintro e w3 ⟨rfl, hb3⟩; replace hb3 := hid' hb3)
          go_roundw
          case rel => exact ⟨j + 1, by omega, by go_num, HN.out, below_on HBW.out hb3.out⟩
          case measure => simp [intOf]; omega
        | false =>
          rw [hF] at hC
          have HN : Hid (X = false) := HA.out.trans (by
            rw [List.all_eq_false]
            exact ⟨ks[j], List.getElem_mem hlt, by rw [hF]; exact Bool.noConfusion⟩)
          have hc := hid' hC
          clear hC hF
          unfold ndV at hc
          go_wp2_with (go_at_call 52; (with_reducible refine hc.out.mono ?_); rintro e w3 ⟨rfl, hb3⟩; replace hb3 := hid' hb3)
          go_ret
          exact ⟨by rw [HN.out]; rfl, below_on HB0.out (below_on HBW.out hb3.out)⟩
      · have e : j = ks.length := by omega
        subst e
        have HN : Hid (X = true) := HA.out.trans (List.all_eq_true.2 fun t ht => by
          obtain ⟨m, hm, rfl⟩ := List.getElem_of_mem ht
          exact HOK.out m hm hm)
        go_wp2_with fail
        go_ret
        exact ⟨by rw [HN.out]; rfl, below_on HB0.out HBW.out⟩
  · have hk1 : k < 0 := by omega
    clear hk
    go_enter Tryz.func53, Tryz.ntmps53
    go_wp2_with fail
    rw [← HW0.out]
    clear HW0
    go_loopw [5] (fun i wr => ∃ j : Nat, j ≤ ks.length ∧ i = .int .i64 (j : Nat) ∧ (∀ m (hm : m < ks.length), m < j → F ks[m] = true) ∧ Below w0.heap.size w0 wr) (fun i _ => ks.length - (intOf i).toNat)
    case atStart => exact ⟨0, Nat.zero_le _, rfl, fun m _ hm => by omega, Below.refl _ _⟩
    case round =>
      obtain ⟨j, hj, rfl, hok, hBw⟩ := hrel
      have HOK := hid' hok
      have HBW := hid' hBw
      have d4 := (hBw.cell (p := ⟨w.heap.size, 4, none⟩) hl0).trans c4
      have hl' : w.heap.size < wr.heap.size := Nat.lt_of_lt_of_le hl0 hBw.size
      clear hok hBw
      by_cases hlt : j < ks.length
      · obtain ⟨b, off, x', kv', rfl, hlb, ⟨c0, c1, c2, c3, c5, c6⟩, hC⟩ := HH.out wr (below_on HB0.out HBW.out) j hlt
        have hlt' : (j : Int) < ks.length := by omega
        cases hF : F ks[j] with
        | true =>
          rw [hF] at hC
          have HN : Hid (∀ m (hm : m < ks.length), m < j + 1 → F ks[m] = true) := fun m hm hmj => by
            by_cases e : m = j
            · subst e; exact hF
            · exact HOK.out m hm (by omega)
          have hc := hid' hC
          clear hC hF
          unfold ndV at hc
          go_wp2_with (go_at_call 52; (with_reducible refine hc.out.mono ?_); rintro e w3 ⟨rfl, hb3⟩; replace hb3 := hid' hb3)
          go_roundw
          case rel => exact ⟨j + 1, by omega, by go_num, HN.out, below_on HBW.out hb3.out⟩
          case measure => simp [intOf]; omega
        | false =>
          rw [hF] at hC
          have HN : Hid (X = false) := HA.out.trans (by
            rw [List.all_eq_false]
            exact ⟨ks[j], List.getElem_mem hlt, by rw [hF]; exact Bool.noConfusion⟩)
          have hc := hid' hC
          clear hC hF
          unfold ndV at hc
          go_wp2_with (go_at_call 52; (with_reducible refine hc.out.mono ?_); rintro e w3 ⟨rfl, hb3⟩; replace hb3 := hid' hb3)
          go_ret
          exact ⟨by rw [HN.out]; rfl, below_on HB0.out (below_on HBW.out hb3.out)⟩
      · have e : j = ks.length := by omega
        subst e
        have HN : Hid (X = true) := HA.out.trans (List.all_eq_true.2 fun t ht => by
          obtain ⟨m, hm, rfl⟩ := List.getElem_of_mem ht
          exact HOK.out m hm hm)
        go_wp2_with fail
        go_ret
        exact ⟨by rw [HN.out]; rfl, below_on HB0.out HBW.out⟩

/-- An expression that may be. -/
def exR (t : Tr) : Bool := onT isExpr t && allT mayN t
set_option maxHeartbeats 1000000 in
theorem expr52 {w : World} {x : NdH} {ka : Option Addr} {kn kc : Nat} {M : Bool} (h : ∀ W, Below w.heap.size w W → Calls Tryz.prog 77 #[ndV x (.slice ka kn kc)] W fun e w' => e = .returned (.bool M) ∧ Below W.heap.size W w') :
    Calls Tryz.prog 52 #[ndV x (.slice ka kn kc)] w fun e w' => e = .returned (.bool (decide (1 ≤ x.kind ∧ x.kind ≤ 15) && M)) ∧ Below w.heap.size w w' := by
  have HM := hid' h
  clear h
  obtain ⟨kind, str, num, flag, pos⟩ := x
  unfold ndV at *
  dsimp only at *
  by_cases h1 : 1 ≤ kind
  · by_cases h2 : kind ≤ 15
    · rw [decide_eq_true (p := 1 ≤ kind ∧ kind ≤ 15) ⟨h1, h2⟩]
      go_enter Tryz.func52, Tryz.ntmps52
      go_wp2_with (go_at_call 77; refine (HM.out _ (below1 _ _)).mono ?_; rintro e1 w1 ⟨rfl, hb1⟩)
      go_ret
      exact ⟨by simp, below_on (below1 _ _) hb1⟩
    · rw [decide_eq_false (p := 1 ≤ kind ∧ kind ≤ 15) (fun h => h2 h.2)]
      go_enter Tryz.func52, Tryz.ntmps52
      go_wp2_with fail
      go_ret
      exact ⟨rfl, below1 _ _⟩
  · rw [decide_eq_false (p := 1 ≤ kind ∧ kind ≤ 15) (fun h => h1 h.1)]
    go_enter Tryz.func52, Tryz.ntmps52
    go_wp2_with fail
    go_ret
    exact ⟨rfl, below1 _ _⟩
end Go.Proofs.YtnnnfabpceapcaaGreatDoor
