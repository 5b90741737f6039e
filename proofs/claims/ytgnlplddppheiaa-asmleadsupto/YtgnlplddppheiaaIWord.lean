/- The contracts of Encode and of the document's answer to it: an instruction's word as a sum, or none. -/
import Derived.Test.YtgnlplddppheiaaICheck
import Derived.Test.YtgnlplddppheiaaIMay
import Derived.Laws.BitsLemmas
import Derived.WalkKit
namespace Go.Proofs.Ytgnlplddppheiaa
open Go.RowKit
set_option linter.unusedVariables false

theorem wraps_u32 (n : Int) (h₀ : 0 ≤ n) (h₁ : n < 2 ^ 32) : IntKind.u32.wrap n = n := by rw [IntKind.wrap_u32]; omega
theorem mask16 (x : Int) (h0 : 0 ≤ x) (h1 : x < 4294967296) : bits BinOp.and IntKind.u32 x 65535 = x % 65536 :=
  bits_mask .u32 32 (by decide) wraps_u32 16 (by decide) x h0 h1
theorem mask24 (x : Int) (h0 : 0 ≤ x) (h1 : x < 4294967296) : bits BinOp.and IntKind.u32 x 16777215 = x % 16777216 :=
  bits_mask .u32 32 (by decide) wraps_u32 24 (by decide) x h0 h1
theorem mask4 (x : Int) (h0 : 0 ≤ x) (h1 : x < 4294967296) : bits BinOp.and IntKind.u32 x 15 = x % 16 :=
  bits_mask .u32 32 (by decide) wraps_u32 4 (by decide) x h0 h1
theorem or24 (x y : Int) (h0 : 0 ≤ x) (h1 : x < 4294967296) (h2 : x % 16777216 = 0) (h3 : 0 ≤ y) (h4 : y < 16777216) : bits BinOp.or IntKind.u32 x y = x + y :=
  bits_join .u32 32 (by decide) wraps_u32 24 x y h0 h2 h1 h3 h4 (by omega)
theorem or20 (x y : Int) (h0 : 0 ≤ x) (h1 : x < 4294967296) (h2 : x % 1048576 = 0) (h3 : 0 ≤ y) (h4 : y < 1048576) : bits BinOp.or IntKind.u32 x y = x + y :=
  bits_join .u32 32 (by decide) wraps_u32 20 x y h0 h2 h1 h3 h4 (by omega)
theorem or16 (x y : Int) (h0 : 0 ≤ x) (h1 : x < 4294967296) (h2 : x % 65536 = 0) (h3 : 0 ≤ y) (h4 : y < 65536) : bits BinOp.or IntKind.u32 x y = x + y :=
  bits_join .u32 32 (by decide) wraps_u32 16 x y h0 h2 h1 h3 h4 (by omega)

/-- The word without its Imm. -/
def baseF (op d a b : Int) : Int := op * 16777216 + d * 1048576 + a * 65536 + b * 4096
/-- An instruction's word. -/
def wordF (n op d a b i : Int) : Int := if n = 24 then baseF op d a b + i % 16777216 else baseF op d a b + i % 65536

theorem base_or (op d a b : Int) (o1 : 1 ≤ op) (o2 : op ≤ 47) (d0 : 0 ≤ d) (d1 : d < 16) (a0 : 0 ≤ a) (a1 : a < 16) (b0 : 0 ≤ b) (b1 : b < 16) :
    bits BinOp.or IntKind.u32 (bits BinOp.or IntKind.u32 (bits BinOp.or IntKind.u32 (op * 16777216) (d * 1048576)) (a * 65536)) (b * 4096) = baseF op d a b := by
  rw [or24 (op * 16777216) (d * 1048576) (by omega) (by omega) (by omega) (by omega) (by omega)]
  rw [or20 (op * 16777216 + d * 1048576) (a * 65536) (by omega) (by omega) (by omega) (by omega) (by omega)]
  rw [or16 (op * 16777216 + d * 1048576 + a * 65536) (b * 4096) (by omega) (by omega) (by omega) (by omega) (by omega)]
  rfl

/-- What is known of an instruction that may be. -/
theorem may_bounds {op p lo hi n d a b i : Int} {D A B sg is : Bool} (R : Row p lo hi D A B n sg is) (hp : partsF op = p) (hm : mayR is D A B lo hi d a b i = true) :
    1 ≤ op ∧ op ≤ 47 ∧ 0 ≤ d ∧ d < 16 ∧ 0 ≤ a ∧ a < 16 ∧ 0 ≤ b ∧ b < 16 ∧ -8388608 ≤ i ∧ i ≤ 8388607 ∧ (n = 0 ∧ i = 0 ∨ n = 16 ∧ b = 0 ∨ n = 24 ∧ d = 0 ∧ a = 0 ∧ b = 0) := by
  obtain ⟨h1, h2, h3, h4, h5, h6⟩ := mayR_true hm
  have ho := parts_bounds op (by rw [hp]; exact some_of R h1)
  refine ⟨ho.1, ho.2, ?_⟩
  clear hm hp ho
  rcases R.out with ⟨rfl, rfl, rfl, rfl, rfl, rfl, rfl, rfl, rfl⟩ | ⟨rfl, rfl, rfl, rfl, rfl, rfl, rfl, rfl, rfl⟩ | ⟨rfl, rfl, rfl, rfl, rfl, rfl, rfl, rfl, rfl⟩ | ⟨rfl, rfl, rfl, rfl, rfl, rfl, rfl, rfl, rfl⟩ | ⟨rfl, rfl, rfl, rfl, rfl, rfl, rfl, rfl, rfl⟩ | ⟨rfl, rfl, rfl, rfl, rfl, rfl, rfl, rfl, rfl⟩ | ⟨rfl, rfl, rfl, rfl, rfl, rfl, rfl, rfl, rfl⟩ | ⟨rfl, rfl, rfl, rfl, rfl, rfl, rfl, rfl, rfl⟩ | ⟨rfl, rfl, rfl, rfl, rfl, rfl, rfl, rfl, rfl⟩ | ⟨rfl, rfl, rfl, rfl, rfl, rfl, rfl, rfl, rfl⟩ | ⟨rfl, rfl, rfl, rfl, rfl, rfl, rfl, rfl, rfl⟩
  all_goals (simp [fitsB] at h2 h3 h4; omega)

theorem word_long (op d a b i : Int) (o1 : 1 ≤ op) (o2 : op ≤ 47) (d0 : d = 0) (a0 : a = 0) (b0 : b = 0) :
    bits BinOp.or IntKind.u32 (baseF op d a b) (bits BinOp.and IntKind.u32 (i % 4294967296) 16777215) = wordF 24 op d a b i := by
  subst d0 a0 b0
  unfold wordF baseF
  rw [if_pos rfl, mask24 _ (by omega) (by omega), or24 _ _ (by omega) (by omega) (by omega) (by omega) (by omega)]
  omega
theorem word_short (n op d a b i : Int) (hn : ¬ n = 24) (o1 : 1 ≤ op) (o2 : op ≤ 47) (d0 : 0 ≤ d) (d1 : d < 16) (a0 : 0 ≤ a) (a1 : a < 16) (b0 : 0 ≤ b) (b1 : b < 16) (h : i = 0 ∨ b = 0) :
    bits BinOp.or IntKind.u32 (baseF op d a b) (bits BinOp.and IntKind.u32 (i % 4294967296) 65535) = wordF n op d a b i := by
  unfold wordF baseF
  rw [if_neg hn, mask16 _ (by omega) (by omega)]
  rcases h with rfl | rfl
  · rw [bits_join .u32 32 (by decide) wraps_u32 0 _ _ (by omega) (by omega) (by omega) (by omega) (by omega) (by omega)]
    omega
  · rw [or16 _ _ (by omega) (by omega) (by omega) (by omega) (by omega)]
    omega
end Go.Proofs.Ytgnlplddppheiaa
