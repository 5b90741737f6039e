/- Which registers an instruction that may be reads, as one list; Reads and the document's answer to it both tell it. -/
import Derived.Test.YtjipahjhaeidhaaReads
import Derived.Test.YtjipahjhaeidhaaReads15
import Derived.Test.YtjipahjhaeidhaaWrites
import Derived.WalkKit
namespace Go.Proofs.Ytjipahjhaeidhaa
open Go.RowKit

/-- The registers that an instruction that may be reads, by its Op's bits. -/
def readsL (p d a b : Int) : List Int :=
  if p = 263 then (if b = a then [a] else [a, b])
  else if p = 267 ∨ p = 10 ∨ p = 2 then [a]
  else if p = 139 then (if a = d then [d] else [d, a])
  else if p = 401 then [d]
  else []

theorem reads14_yes {op p lo hi n d a b i : Int} {D A B sg is : Bool} (R : Row p lo hi D A B n sg is) (hp : partsF op = p) (hm : mayR is D A B lo hi d a b i = true) (w : World) :
    Calls Try.prog 14 #[.agg #[.int .i64 op, .int .i64 d, .int .i64 a, .int .i64 b, .int .i32 i]] w fun e w' => ∃ v, e = .returned v ∧ Held w' w.heap.size v (readsL p d a b) ∧ Below w.heap.size w w' := by
  have h128 := bit128 R
  have h2 := bit2 R
  have h4 := bit4 R
  rcases R.out with ⟨rfl, rfl, rfl, rfl, rfl, rfl, rfl, rfl, rfl⟩ | ⟨rfl, rfl, rfl, rfl, rfl, rfl, rfl, rfl, rfl⟩ | ⟨rfl, rfl, rfl, rfl, rfl, rfl, rfl, rfl, rfl⟩ | ⟨rfl, rfl, rfl, rfl, rfl, rfl, rfl, rfl, rfl⟩ | ⟨rfl, rfl, rfl, rfl, rfl, rfl, rfl, rfl, rfl⟩ | ⟨rfl, rfl, rfl, rfl, rfl, rfl, rfl, rfl, rfl⟩ | ⟨rfl, rfl, rfl, rfl, rfl, rfl, rfl, rfl, rfl⟩ | ⟨rfl, rfl, rfl, rfl, rfl, rfl, rfl, rfl, rfl⟩ | ⟨rfl, rfl, rfl, rfl, rfl, rfl, rfl, rfl, rfl⟩ | ⟨rfl, rfl, rfl, rfl, rfl, rfl, rfl, rfl, rfl⟩ | ⟨rfl, rfl, rfl, rfl, rfl, rfl, rfl, rfl, rfl⟩
  · by_cases hx : b = a
    · rw [show readsL 263 d a b = [a] by simp [readsL, hx]]
      exact reads14_ftt_same R hp hm h128 h2 h4 hx w
    · rw [show readsL 263 d a b = [a, b] by simp [readsL, hx]]
      exact reads14_ftt_two R hp hm h128 h2 h4 hx w
  · exact reads14_ftf R hp hm h128 h2 h4 w
  · by_cases hx : a = d
    · rw [show readsL 139 d a b = [d] by simp [readsL, hx]]
      exact reads14_ttf_same R hp hm h128 h2 h4 hx w
    · rw [show readsL 139 d a b = [d, a] by simp [readsL, hx]]
      exact reads14_ttf_two R hp hm h128 h2 h4 hx w
  · exact reads14_fff R hp hm h128 h2 h4 w
  · exact reads14_tff R hp hm h128 h2 h4 w
  · exact reads14_ftf R hp hm h128 h2 h4 w
  · exact reads14_fff R hp hm h128 h2 h4 w
  · exact reads14_ftf R hp hm h128 h2 h4 w
  · exact reads14_fff R hp hm h128 h2 h4 w
  · exact reads14_fff R hp hm h128 h2 h4 w
  · exact reads14_fff R hp hm h128 h2 h4 w

theorem not_rd {op p : Int} (hp : partsF op = p) (h1 : ¬ p = 139) (h2 : ¬ p = 401) : (op == 34) = false ∧ (op == 37) = false ∧ (op == 38) = false := by
  simp only [beq_eq_false_iff_ne]
  subst hp
  unfold partsF at h1 h2
  omega

theorem reads15_yes {op p lo hi n d a b i : Int} {D A B sg is : Bool} (R : Row p lo hi D A B n sg is) (hp : partsF op = p) (i0 : -2147483648 ≤ i) (i1 : i ≤ 2147483647) (hm : mayR is D A B lo hi d a b i = true) (w : World) :
    Calls Try.prog 15 #[.agg #[.int .i64 op, .int .i64 d, .int .i64 a, .int .i64 b, .int .i32 i]] w fun e w' => ∃ v, e = .returned v ∧ Held w' w.heap.size v (readsL p d a b) ∧ Below w.heap.size w w' := by
  rcases R.out with ⟨rfl, rfl, rfl, rfl, rfl, rfl, rfl, rfl, rfl⟩ | ⟨rfl, rfl, rfl, rfl, rfl, rfl, rfl, rfl, rfl⟩ | ⟨rfl, rfl, rfl, rfl, rfl, rfl, rfl, rfl, rfl⟩ | ⟨rfl, rfl, rfl, rfl, rfl, rfl, rfl, rfl, rfl⟩ | ⟨rfl, rfl, rfl, rfl, rfl, rfl, rfl, rfl, rfl⟩ | ⟨rfl, rfl, rfl, rfl, rfl, rfl, rfl, rfl, rfl⟩ | ⟨rfl, rfl, rfl, rfl, rfl, rfl, rfl, rfl, rfl⟩ | ⟨rfl, rfl, rfl, rfl, rfl, rfl, rfl, rfl, rfl⟩ | ⟨rfl, rfl, rfl, rfl, rfl, rfl, rfl, rfl, rfl⟩ | ⟨rfl, rfl, rfl, rfl, rfl, rfl, rfl, rfl, rfl⟩ | ⟨rfl, rfl, rfl, rfl, rfl, rfl, rfl, rfl, rfl⟩
  · obtain ⟨h34, h37, h38⟩ := not_rd hp (by decide) (by decide)
    by_cases hx : b = a
    · rw [show readsL 263 d a b = [a] by simp [readsL, hx]]
      exact reads15_ftt_same R hp i0 i1 hm h34 h37 h38 hx w
    · rw [show readsL 263 d a b = [a, b] by simp [readsL, hx]]
      exact reads15_ftt_two R hp i0 i1 hm h34 h37 h38 hx w
  · obtain ⟨h34, h37, h38⟩ := not_rd hp (by decide) (by decide)
    exact reads15_ftf R hp i0 i1 hm h34 h37 h38 w
  · have ho : op = 37 ∨ op = 38 := (store_of hp).1 rfl
    by_cases hx : a = d
    · rw [show readsL 139 d a b = [d] by simp [readsL, hx]]
      rcases ho with rfl | rfl
      · exact reads15_ttf_same37 R hp i0 i1 hm hx w
      · exact reads15_ttf_same38 R hp i0 i1 hm hx w
    · rw [show readsL 139 d a b = [d, a] by simp [readsL, hx]]
      rcases ho with rfl | rfl
      · exact reads15_ttf_two37 R hp i0 i1 hm hx w
      · exact reads15_ttf_two38 R hp i0 i1 hm hx w
  · obtain ⟨h34, h37, h38⟩ := not_rd hp (by decide) (by decide)
    exact reads15_fff R hp i0 i1 hm h34 h37 h38 w
  · have ho : op = 34 := by unfold partsF at hp; omega
    subst ho
    exact reads15_tff R hp i0 i1 hm w
  · obtain ⟨h34, h37, h38⟩ := not_rd hp (by decide) (by decide)
    exact reads15_ftf R hp i0 i1 hm h34 h37 h38 w
  · obtain ⟨h34, h37, h38⟩ := not_rd hp (by decide) (by decide)
    exact reads15_fff R hp i0 i1 hm h34 h37 h38 w
  · obtain ⟨h34, h37, h38⟩ := not_rd hp (by decide) (by decide)
    exact reads15_ftf R hp i0 i1 hm h34 h37 h38 w
  · obtain ⟨h34, h37, h38⟩ := not_rd hp (by decide) (by decide)
    exact reads15_fff R hp i0 i1 hm h34 h37 h38 w
  · obtain ⟨h34, h37, h38⟩ := not_rd hp (by decide) (by decide)
    exact reads15_fff R hp i0 i1 hm h34 h37 h38 w
  · obtain ⟨h34, h37, h38⟩ := not_rd hp (by decide) (by decide)
    exact reads15_fff R hp i0 i1 hm h34 h37 h38 w

/-- None, one or two. -/
theorem reads_forms (p d a b : Int) : readsL p d a b = [] ∨ (∃ x, readsL p d a b = [x]) ∨ ∃ x y, readsL p d a b = [x, y] := by
  unfold readsL
  repeat' split
  all_goals simp
end Go.Proofs.Ytjipahjhaeidhaa
