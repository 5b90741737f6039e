/- An instruction is told back by its word: on integers, and as Decode's contract; and unlike instructions have unlike words. -/
import Derived.Test.YtjipahjhaeidhaaDecode
import Derived.WalkKit
namespace Go.Proofs.Ytjipahjhaeidhaa
open Go.RowKit

theorem back_word {op p lo hi n d a b i : Int} {D A B sg is : Bool} (R : Row p lo hi D A B n sg is) (hp : partsF op = p) (hm : mayR is D A B lo hi d a b i = true) :
    0 ≤ wordF n op d a b i ∧ wordF n op d a b i < 4294967296 ∧ wordF n op d a b i / 16777216 = op ∧ regF (wordF n op d a b i / 1048576) D = d ∧ regF (wordF n op d a b i / 65536) A = a ∧ regF (wordF n op d a b i / 4096) B = b ∧ immF n sg (wordF n op d a b i) = i := by
  obtain ⟨h1, h2, h3, h4, h5, h6⟩ := mayR_true hm
  have ho := parts_bounds op (by rw [hp]; exact some_of R h1)
  obtain ⟨o1, o2⟩ := ho
  clear hm hp
  rcases R.out with ⟨rfl, rfl, rfl, rfl, rfl, rfl, rfl, rfl, rfl⟩ | ⟨rfl, rfl, rfl, rfl, rfl, rfl, rfl, rfl, rfl⟩ | ⟨rfl, rfl, rfl, rfl, rfl, rfl, rfl, rfl, rfl⟩ | ⟨rfl, rfl, rfl, rfl, rfl, rfl, rfl, rfl, rfl⟩ | ⟨rfl, rfl, rfl, rfl, rfl, rfl, rfl, rfl, rfl⟩ | ⟨rfl, rfl, rfl, rfl, rfl, rfl, rfl, rfl, rfl⟩ | ⟨rfl, rfl, rfl, rfl, rfl, rfl, rfl, rfl, rfl⟩ | ⟨rfl, rfl, rfl, rfl, rfl, rfl, rfl, rfl, rfl⟩ | ⟨rfl, rfl, rfl, rfl, rfl, rfl, rfl, rfl, rfl⟩ | ⟨rfl, rfl, rfl, rfl, rfl, rfl, rfl, rfl, rfl⟩ | ⟨rfl, rfl, rfl, rfl, rfl, rfl, rfl, rfl, rfl⟩
  all_goals clear R
  all_goals (simp [fitsB] at h2 h3 h4)
  all_goals (simp only [wordF, baseF, regF, immF])
  all_goals (simp)
  all_goals omega

theorem decode12_word {op p lo hi n d a b i : Int} {D A B sg is : Bool} (R : Row p lo hi D A B n sg is) (hp : partsF op = p) (hm : mayR is D A B lo hi d a b i = true) (w : World) :
    Calls Try.prog 12 #[.int .u32 (wordF n op d a b i)] w fun e w' => e = .returned (.tuple #[.agg #[.int .i64 op, .int .i64 d, .int .i64 a, .int .i64 b, .int .i32 i], .int .i64 0]) ∧ Below w.heap.size w w' := by
  obtain ⟨u0, u1, ho, hd, ha, hb, hI⟩ := back_word R hp hm
  exact decode12_yes R hp u0 u1 ho hd ha hb hI hm rfl w

/-- May it be, and its word, by its Op. -/
def mayO (op d a b i : Int) : Bool := mayR (isF (partsF op)) (hasD (partsF op)) (hasA (partsF op)) (hasB (partsF op)) (loF (partsF op)) (hiF (partsF op)) d a b i
def wordO (op d a b i : Int) : Int := wordF (nF (partsF op)) op d a b i

theorem word_inj {op d a b i op' d' a' b' i' : Int} (hm : mayO op d a b i = true) (hm' : mayO op' d' a' b' i' = true) (h : wordO op d a b i = wordO op' d' a' b' i') :
    op = op' ∧ d = d' ∧ a = a' ∧ b = b' ∧ i = i' := by
  unfold mayO at hm hm'
  unfold wordO at h
  obtain ⟨_, _, ho, hd, ha, hb, hI⟩ := back_word (row_of op) rfl hm
  obtain ⟨_, _, ho', hd', ha', hb', hI'⟩ := back_word (row_of op') rfl hm'
  have e : op = op' := by rw [← ho, ← ho', h]
  subst e
  refine ⟨rfl, ?_, ?_, ?_, ?_⟩
  · rw [← hd, ← hd', h]
  · rw [← ha, ← ha', h]
  · rw [← hb, ← hb', h]
  · rw [← hI, ← hI', h]
end Go.Proofs.Ytjipahjhaeidhaa
