/- A number's token, by the program. -/
import Derived.Test.YtfnekmhhhjdeiaaNum
namespace Go.Proofs.Ytfnekmhhhjdeiaa
open Go.RowKit
set_option linter.unusedVariables false

/-- A token as a value. -/
def tokV (t : Tok) (p e : Int) : Value := .agg #[.int .i64 (t.kind : Nat), .string (strL t.text), .int .u32 (t.num : Nat), .bool t.uns, .int .i64 p, .int .i64 e]
def zeroV : Value := .agg #[.int .i64 0, .string ⟨#[]⟩, .int .u32 0, .bool false, .int .i64 0, .int .i64 0]
/-- What read, number and the like tell. -/
def readV : Option (Tok × Nat) → Value
  | none => .tuple #[zeroV, .int .i64 0]
  | some (t, n) => .tuple #[tokV t 0 0, .int .i64 (n : Nat)]

theorem isU_yes {c : UInt8} (h : (c.toNat : Int) = 117 ∨ (c.toNat : Int) = 85) : isU c = true := by simp [isU]; omega
theorem isU_no {c : UInt8} (h1 : ¬ (c.toNat : Int) = 117) (h2 : ¬ (c.toNat : Int) = 85) : isU c = false := by simp [isU]; omega
section
variable {s : ByteArray} {v n : Nat}
theorem E1 (h : s.size ≤ n) : numEnd v n (lst s) = some (⟨5, [], v, decide ((2147483648 : Int) ≤ v)⟩, n) := by
  simp [numEnd, lst_nil s n h, headIs]
  omega
theorem E2 (h : n < s.size) (h1 : isU s[n] = false) (h2 : nm s[n] = false) : numEnd v n (lst s) = some (⟨5, [], v, decide ((2147483648 : Int) ≤ v)⟩, n) := by
  simp [numEnd, lst_cons s n h, headIs, h1, h2]
  omega
theorem E3 (h : n < s.size) (h1 : isU s[n] = false) (h2 : nm s[n] = true) : numEnd v n (lst s) = none := by
  simp [numEnd, lst_cons s n h, headIs, h1, h2]
theorem E4 (h : n < s.size) (h1 : isU s[n] = true) (h2 : s.size ≤ n + 1) : numEnd v n (lst s) = some (⟨5, [], v, true⟩, n + 1) := by
  simp only [numEnd, lst_cons s n h, headIs, h1, if_pos, lst_nil s (n + 1) h2, Bool.or_true]
  simp
theorem E5 (h : n < s.size) (h1 : isU s[n] = true) (h2 : n + 1 < s.size) (h3 : nm s[n + 1] = true) : numEnd v n (lst s) = none := by
  simp only [numEnd, lst_cons s n h, headIs, h1, if_pos, lst_cons s (n + 1) h2]
  simp [h3]
theorem E6 (h : n < s.size) (h1 : isU s[n] = true) (h2 : n + 1 < s.size) (h3 : nm s[n + 1] = false) : numEnd v n (lst s) = some (⟨5, [], v, true⟩, n + 1) := by
  simp only [numEnd, lst_cons s n h, headIs, h1, if_pos, lst_cons s (n + 1) h2, Bool.or_true]
  simp [h3]
end

end Go.Proofs.Ytfnekmhhhjdeiaa
