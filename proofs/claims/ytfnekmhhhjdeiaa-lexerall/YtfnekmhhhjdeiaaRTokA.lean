/- Every token, by the document. -/
import Derived.Test.YtfnekmhhhjdeiaaRTokM
namespace Go.Proofs.Ytfnekmhhhjdeiaa
open Go.RowKit
set_option linter.unusedVariables false

theorem letr_nm (c : UInt8) (hd : dig c = false) : nm c = letr c := by unfold nm; rw [hd, Bool.or_false]
theorem token24 (s : ByteArray) (p : Nat) (hp : p < s.size) (hs : s.size < 4294967281) (w : World) :
    Calls Try.prog 24 #[.string s, .int .i64 (p : Int)] w fun e w' => TokP p (readF ((lst s).drop p)) e ∧ Below w.heap.size w w' := by
  have hl := lst_cons s p hp
  have hr : readF ((lst s).drop p) = if dig s[p] then numF ((lst s).drop p) else if nm s[p] then nameF ((lst s).drop p) else if s[p].toNat = 39 then charF ((lst s).drop p) else if s[p].toNat = 34 then textF ((lst s).drop p) else markF ((lst s).drop p) := by
    rw [hl]; rfl
  cases hd : dig s[p]
  · have hn := letr_nm s[p] hd
    cases hle : letr s[p]
    · rw [hle] at hn
      by_cases h39 : s[p].toNat = 39
      · rw [hr, hd, hn, if_neg (by simp), if_neg (by simp), if_pos h39, char_quot]
        have hq : s[p] = 39 := UInt8.toNat_inj.1 h39
        have := quoted44 s p hp hs (.inr h39)
        rw [hq] at this
        exact token24_quot s p hp hle hd (.inr h39) _ this w
      · by_cases h34 : s[p].toNat = 34
        · rw [hr, hd, hn, if_neg (by simp), if_neg (by simp), if_neg h39, if_pos h34, text_quot]
          have hq : s[p] = 34 := UInt8.toNat_inj.1 h34
          have := quoted44 s p hp hs (.inl h34)
          rw [hq] at this
          exact token24_quot s p hp hle hd (.inl h34) _ this w
        · rw [hr, hd, hn, if_neg (by simp), if_neg (by simp), if_neg h39, if_neg h34]
          exact token24_mark s p hp hs hle hd h34 h39 w
    · rw [hle] at hn
      rw [hr, hd, hn, if_neg (by simp), if_pos rfl]
      exact token24_name s p hp hs hle w
  · have hle : letr s[p] = false := by
      cases h : letr s[p]
      · rfl
      · rw [letr_dig h] at hd; cases hd
    rw [hr, hd, if_pos rfl]
    exact token24_num s p hp hle hd _ (fun w => number43 s p hp hs w) w

end Go.Proofs.Ytfnekmhhhjdeiaa
