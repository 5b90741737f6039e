/- The way to the next token, by the program and by the document. -/
import Derived.Test.YtfnekmhhhjdeiaaSmall
namespace Go.Proofs.Ytfnekmhhhjdeiaa
open Go.RowKit
set_option linter.unusedVariables false

theorem index_line : ∀ l : List UInt8, (Lib.indexByte l 10 = -1 ∧ lineN l = l.length) ∨ (Lib.indexByte l 10 = (lineN l : Nat) ∧ lineN l < l.length)
  | [] => .inl ⟨rfl, rfl⟩
  | b :: l => by
    unfold Lib.indexByte
    by_cases h : b = 10
    · subst h
      exact .inr ⟨by simp [lineN], by simp [lineN]⟩
    · have hb : ¬ b.toNat = 10 := fun e => h (UInt8.toNat_inj.1 e)
      have e : lineN (b :: l) = lineN l + 1 := by
        unfold lineN
        rw [List.takeWhile_cons_of_pos (by simpa using hb)]
        rfl
      rw [if_neg (by simpa using h), e]
      rcases index_line l with ⟨h1, h2⟩ | ⟨h1, h2⟩
      · exact .inl ⟨by rw [h1]; rfl, by simp [h2]⟩
      · refine .inr ⟨?_, by simp; omega⟩
        rw [h1, if_neg (by simp)]
        omega

theorem line35 (s : ByteArray) (w : World) : Calls Try.prog 35 #[.string s] w fun e w' => e = .returned (.int .i64 (lineN (lst s) : Nat)) ∧ w' = w := by
  have hl := lst_len s
  rcases index_line (lst s) with ⟨h1, h2⟩ | ⟨h1, h2⟩
  · generalize lineN (lst s) = x at *
    have hc := fun w => Try.strings_IndexByte s 10 w
    have e : (10 : Int).toNat.toUInt8 = 10 := rfl
    rw [e] at hc
    unfold lst at h1
    rw [h1] at hc
    go_enter Try.func35, Try.ntmps35
    go_wp2_with (go_at_call 51; refine (hc _).mono ?_; rintro e w1 ⟨rfl, rfl⟩)
    go_ret
    exact ⟨ret_int (by rw [h2, hl]), rfl⟩
  · generalize lineN (lst s) = x at *
    have hc := fun w => Try.strings_IndexByte s 10 w
    have e : (10 : Int).toNat.toUInt8 = 10 := rfl
    rw [e] at hc
    unfold lst at h1
    rw [h1] at hc
    go_enter Try.func35, Try.ntmps35
    go_wp2_with (go_at_call 51; refine (hc _).mono ?_; rintro e w1 ⟨rfl, rfl⟩)
    go_ret
    exact ⟨rfl, rfl⟩

theorem step_blank {l r : List UInt8} {c : UInt8} (hl : l = c :: r) (h : blank c = true) : gapStep l = some (some 1) := by subst hl; simp [gapStep, h]
theorem step_line {l r : List UInt8} {c : UInt8} (hl : l = c :: r) (h : blank c = false) (h1 : [47, 47].isPrefixOf l = true) : gapStep l = some (some (lineN l)) := by
  subst hl; simp only [gapStep, h, h1]; rfl
theorem step_open {l r : List UInt8} {c : UInt8} (hl : l = c :: r) (h : blank c = false) (h1 : [47, 47].isPrefixOf l = false) (h2 : [47, 42].isPrefixOf l = true) (h3 : Lib.index (l.drop 2) [42, 47] < 0) : gapStep l = none := by
  subst hl; simp only [gapStep, h, h1, h2, if_pos h3]; rfl
theorem step_shut {l r : List UInt8} {c : UInt8} (hl : l = c :: r) (h : blank c = false) (h1 : [47, 47].isPrefixOf l = false) (h2 : [47, 42].isPrefixOf l = true) (h3 : ¬ Lib.index (l.drop 2) [42, 47] < 0) : gapStep l = some (some (2 + (Lib.index (l.drop 2) [42, 47]).toNat + 2)) := by
  subst hl; simp only [gapStep, h, h1, h2, if_neg h3]; rfl
theorem step_here {l r : List UInt8} {c : UInt8} (hl : l = c :: r) (h : blank c = false) (h1 : [47, 47].isPrefixOf l = false) (h2 : [47, 42].isPrefixOf l = false) : gapStep l = some none := by
  subst hl; simp only [gapStep, h, h1, h2]; rfl

/-- One step on the way. -/
theorem gap_next {l : List UInt8} {k0 k n : Nat} (hk : k0 ≤ k) (hg : gap (l.drop k0) = ((k - k0) + (gap (l.drop k)).1, (gap (l.drop k)).2)) (hn : gapStep (l.drop k) = some (some n)) :
    gap (l.drop k0) = ((k + n - k0) + (gap (l.drop (k + n))).1, (gap (l.drop (k + n))).2) := by
  rw [hg, gap_more hn, List.drop_drop]
  simp only [Prod.mk.injEq, and_true]
  omega
theorem gap_stop {l : List UInt8} {k0 k : Nat} {b : Bool} (hk : k0 ≤ k) (hg : gap (l.drop k0) = ((k - k0) + (gap (l.drop k)).1, (gap (l.drop k)).2)) (hn : gap (l.drop k) = (0, b)) :
    k0 + (gap (l.drop k0)).1 = k ∧ (gap (l.drop k0)).2 = b := by
  rw [hg, hn]
  simp only [and_true]
  omega

theorem vi {a b : Int} (h : a = b) : Value.int .i64 a = Value.int .i64 b := by rw [h]
theorem lst_ext2 (s : ByteArray) (k : Nat) : lst ((s.extract k s.size).extract 2 (s.size - k)) = ((lst s).drop k).drop 2 := by
  have h := lst_ext (s.extract k s.size) 2
  rw [ext_size, lst_ext] at h
  exact h
theorem ret_ib {a b : Int} {c d : Bool} (h : a = b) (h2 : c = d) : Ending.returned (.tuple #[.int .i64 a, .bool c]) = .returned (.tuple #[.int .i64 b, .bool d]) := by rw [h, h2]
theorem w64 {x : Int} (h0 : 0 ≤ x) (h1 : x < 9223372036854775808) : wrap64 x = x := by unfold wrap64; omega

set_option maxHeartbeats 1000000 in
theorem skip21 (s : ByteArray) (k0 : Nat) (h0 : k0 ≤ s.size) (hs : s.size < 4294967281) (m : Int) (w : World) (hm : w.cell? ⟨0, 0, none⟩ = some (.int .i64 m)) :
    Calls Try.prog 21 #[.string s, .int .i64 (k0 : Int)] w fun e w' => e = .returned (.tuple #[.int .i64 ((k0 + (gap ((lst s).drop k0)).1 : Nat) : Int), .bool (gap ((lst s).drop k0)).2]) ∧ w' = w := by
  obtain ⟨A, hA⟩ : ∃ A, A = k0 + (gap ((lst s).drop k0)).1 := ⟨_, rfl⟩
  obtain ⟨B, hB⟩ : ∃ B, B = (gap ((lst s).drop k0)).2 := ⟨_, rfl⟩
  rw [← hA, ← hB]
  replace hA := hid hA
  replace hB := hid hB
  go_enter Try.func21, Try.ntmps21
  go_wp2
  go_loop [1] (fun i => ∃ k : Nat, k0 ≤ k ∧ k ≤ s.size ∧ i = .int .i64 k ∧ gap ((lst s).drop k0) = ((k - k0) + (gap ((lst s).drop k)).1, (gap ((lst s).drop k)).2)) (fun i => s.size - (intOf i).toNat)
  case atStart => exact ⟨k0, Nat.le_refl _, h0, rfl, by simp⟩
  case round =>
    obtain ⟨k, hk0, hk, rfl, hg⟩ := hrel
    have hgH := hid hg
    clear hg
    have hsz := lst_len s
    by_cases hlt : k < s.size
    · have hT : (s.extract k s.size).size = s.size - k := ext_size s k
      have hT0 : 0 < (s.extract k s.size).size := by omega
      have hl := hid (lst_cons0 (s.extract k s.size) hT0)
      rw [lst_ext] at hl
      have hl2 := hid (lst_ext s k)
      have hl3 := hid (lst_ext2 s k)
      go_wp2_with (first
        | (go_at_call 33; refine (isBlank33 _ _).mono ?_; rintro e w1 ⟨rfl, rfl⟩)
        | (go_at_call 34; (with_reducible refine (hasPrefix34 _ _ [47, 47] rfl _).mono ?_); rintro e w1 ⟨rfl, rfl⟩)
        | (go_at_call 34; refine (hasPrefix34 _ _ [47, 42] rfl _).mono ?_; rintro e w1 ⟨rfl, rfl⟩)
        | (go_at_call 35; refine (line35 _ _).mono ?_; rintro e w1 ⟨rfl, rfl⟩)
        | (go_at_call 36; refine (index36 _ _ [42, 47] rfl m _ (by (rw [ByteArray.size_extract]; omega)) hm).mono ?_; rintro e w1 ⟨rfl, rfl⟩))
      · have hst := step_blank hl.out ‹blank (s.extract k s.size)[0] = true›
        have hg' := gap_next hk0 hgH.out hst
        exact ⟨⟨k + 1, by omega, by omega, vi (by omega), hg'⟩, by simp [intOf]; omega⟩
      · have hst := step_line hl.out ‹blank (s.extract k s.size)[0] = false› (by rw [← hl2.out]; assumption)
        have hg' := gap_next hk0 hgH.out hst
        have hn := gapStep_len hst
        rw [hl2.out]
        generalize lineN (List.drop k (lst s)) = x at *
        rw [List.length_drop] at hn
        rw [w64 (by omega) (by omega)]
        exact ⟨⟨k + x, by omega, by omega, vi (by omega), hg'⟩, by simp [intOf]; omega⟩
      · have hi : Lib.index (lst ((s.extract k s.size).extract 2 (s.size - k))) [42, 47] < 0 := by assumption
        rw [hl3.out] at hi
        have hst := step_open hl.out ‹blank (s.extract k s.size)[0] = false› (by rw [← hl2.out]; assumption) (by rw [← hl2.out]; assumption) hi
        obtain ⟨e1, e2⟩ := gap_stop hk0 hgH.out (gap_bad hst)
        refine bodyPost_ret (v := .tuple #[.int .i64 (k : Int), .bool false]) (by simp [results, Try.results21, go_sem]) rfl ⟨?_, rfl⟩
        exact ret_ib (by rw [hA.out, e1]) (by rw [hB.out, e2])
      · have hi : 0 ≤ Lib.index (lst ((s.extract k s.size).extract 2 (s.size - k))) [42, 47] := by assumption
        rw [hl3.out] at hi
        have hst := step_shut hl.out ‹blank (s.extract k s.size)[0] = false› (by rw [← hl2.out]; assumption) (by rw [← hl2.out]; assumption) (by omega)
        have hg' := gap_next hk0 hgH.out hst
        have hn := gapStep_len hst
        rw [hl3.out]
        generalize Lib.index (List.drop 2 (List.drop k (lst s))) [42, 47] = x at *
        rw [List.length_drop] at hn
        rw [w64 (x := 2 + x) (by omega) (by omega), w64 (x := 2 + x + 2) (by omega) (by omega), w64 (by omega) (by omega)]
        exact ⟨⟨k + (2 + x.toNat + 2), by omega, by omega, vi (by omega), hg'⟩, by simp [intOf]; omega⟩
      · exfalso
        have h2 : [47, 42].isPrefixOf (lst (s.extract k s.size)) = true := by assumption
        have h3 := (List.isPrefixOf_iff_prefix.1 h2).length_le
        rw [hl2.out, List.length_drop] at h3
        simp only [List.length_cons, List.length_nil] at h3
        omega
      · have hst := step_here hl.out ‹blank (s.extract k s.size)[0] = false› (by rw [← hl2.out]; assumption) (by rw [← hl2.out]; assumption)
        obtain ⟨e1, e2⟩ := gap_stop hk0 hgH.out (gap_here hst)
        refine bodyPost_ret (v := .tuple #[.int .i64 (k : Int), .bool true]) (by simp [results, Try.results21, go_sem]) rfl ⟨?_, rfl⟩
        exact ret_ib (by rw [hA.out, e1]) (by rw [hB.out, e2])
    · go_wp2
      obtain ⟨e1, e2⟩ := gap_stop hk0 hgH.out (gap_here (by rw [lst_nil s k (by omega)]; rfl))
      refine bodyPost_ret (v := .tuple #[.int .i64 (k : Int), .bool true]) (by simp [results, Try.results21, go_sem]) rfl ⟨?_, rfl⟩
      exact ret_ib (by rw [hA.out, e1]) (by rw [hB.out, e2])
end Go.Proofs.Ytfnekmhhhjdeiaa
