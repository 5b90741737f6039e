/- The contracts of Decode's small functions. -/
import Derived.Test.YtimbnlcegcmfiaaIEncode
import Derived.WalkKit
namespace Go.Proofs.Ytimbnlcegcmfiaa
open Go.RowKit

/-- The register at a word's lower end, if there is such a part. -/
def regF (u : Int) (has : Bool) : Int := if has then u % 16 else 0
/-- A word's Imm, by its bits and its sign. -/
def immF (n : Int) (sg : Bool) (u : Int) : Int :=
  if n = 16 then (if sg then (if u % 65536 < 32768 then u % 65536 else u % 65536 - 65536) else u % 65536)
  else if n = 24 then (if u % 16777216 < 8388608 then u % 16777216 else u % 16777216 - 16777216)
  else 0

set_option maxHeartbeats 1000000 in
theorem reg23 (u h : Int) (u0 : 0 ≤ u) (u1 : u < 4294967296) (w : World) :
    Calls Try.prog 64 #[.int .u32 u, .int .i64 h] w fun e w' => e = .returned (.int .i64 (regF u (h != 0))) ∧ w' = w := by
  go_enter Try.func64, Try.ntmps64
  go_wp2
  all_goals go_ret
  all_goals (refine ⟨?_, rfl⟩; exact ret_i (b := regF u (h != 0)) (by simp_all [regF]))

set_option maxHeartbeats 4000000 in
theorem imm24 {p lo hi n u : Int} {D A B sg is : Bool} (R : Row p lo hi D A B n sg is) (u0 : 0 ≤ u) (u1 : u < 4294967296) (w : World) :
    Calls Try.prog 65 #[.int .u32 u, .int .i64 p] w fun e w' => e = .returned (.int .i32 (immF n sg u)) ∧ w' = w := by
  have m16 := mask16 u u0 u1
  rcases R.out with ⟨rfl, rfl, rfl, rfl, rfl, rfl, rfl, rfl, rfl⟩ | ⟨rfl, rfl, rfl, rfl, rfl, rfl, rfl, rfl, rfl⟩ | ⟨rfl, rfl, rfl, rfl, rfl, rfl, rfl, rfl, rfl⟩ | ⟨rfl, rfl, rfl, rfl, rfl, rfl, rfl, rfl, rfl⟩ | ⟨rfl, rfl, rfl, rfl, rfl, rfl, rfl, rfl, rfl⟩ | ⟨rfl, rfl, rfl, rfl, rfl, rfl, rfl, rfl, rfl⟩ | ⟨rfl, rfl, rfl, rfl, rfl, rfl, rfl, rfl, rfl⟩ | ⟨rfl, rfl, rfl, rfl, rfl, rfl, rfl, rfl, rfl⟩ | ⟨rfl, rfl, rfl, rfl, rfl, rfl, rfl, rfl, rfl⟩ | ⟨rfl, rfl, rfl, rfl, rfl, rfl, rfl, rfl, rfl⟩ | ⟨rfl, rfl, rfl, rfl, rfl, rfl, rfl, rfl, rfl⟩
  all_goals clear R
  all_goals go_enter Try.func65, Try.ntmps65
  all_goals go_wp2
  all_goals go_ret
  all_goals (refine ⟨ret_i (b := immF _ _ u) ?_, rfl⟩)
  all_goals (simp [immF, IntKind.wrap, IntKind.bits, IntKind.signed, wrap32])
  all_goals omega
end Go.Proofs.Ytimbnlcegcmfiaa
