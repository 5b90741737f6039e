/- Two numbers, two strings as a law's argument. -/
import Derived.Test.YtimbnlcegcmfiaaFrame
import Derived.ChangeMaps5
namespace Go.Proofs.Ytimbnlcegcmfiaa
open Go.ChangeShapes Go.WideShapes Go.ChangeAt Go.RowKit
section
variable {H : Type} {enc : TypeId × Value → H}
theorem cells24 : Try.prog.cellsOf 24 = 1 := by kernel_rfl
theorem cells57 : Try.prog.cellsOf 57 = 2 := by kernel_rfl
theorem cells61 : Try.prog.cellsOf 61 = 2 := by kernel_rfl
theorem twoA {α : Type} {cs : Array α} (h : cs.size = 2) : ∃ c0 c1, cs = #[c0, c1] := by
  obtain ⟨l⟩ := cs
  match l, h with
  | [c0, c1], _ => exact ⟨c0, c1, rfl⟩
theorem twoL {α : Type} {cs : List α} (h : cs.length = 2) : ∃ c0 c1, cs = [c0, c1] := by
  match cs, h with
  | [c0, c1], _ => exact ⟨c0, c1, rfl⟩

set_option maxRecDepth 100000 in
theorem wide57 {W : World} {r : Reach} {b0 : Nat} {v : Value} (h : Value.okWide Try.prog W r b0 57 v) : ∃ cs : Array Value, v = .agg cs ∧ cs.size = 2 := by
  simp only [Value.okWide, Try.underlying57] at h
  obtain ⟨cs, rfl, hsz, _⟩ := h
  exact ⟨cs, rfl, hsz.trans cells57⟩
set_option maxRecDepth 100000 in
theorem wide61 {W : World} {r : Reach} {b0 : Nat} {v : Value} (h : Value.okWide Try.prog W r b0 61 v) : ∃ cs : Array Value, v = .agg cs ∧ cs.size = 2 := by
  simp only [Value.okWide, Try.underlying61] at h
  obtain ⟨cs, rfl, hsz, _⟩ := h
  exact ⟨cs, rfl, hsz.trans cells61⟩

set_option maxRecDepth 100000 in
/-- Two small numbers that came in. -/
theorem open_two16 {W : World} {base b0 : Nat} {sp : Nat → Bool} {held : Bool} {r : Reach} {v : Value} {d : DataW H} {p : List MemPlace}
    (hv : Value.okWide Try.prog W r b0 57 v) (h : DataW.Trod enc Try.prog W base sp held 57 v d p) :
    ∃ x0 x1 : Int, v = .agg #[.int .u16 x0, .int .u16 x1] ∧ d = .agg [.lit (.int .u16 x0), .lit (.int .u16 x1)] ∧ p = [] ∧ (Lit.int .u16 x0).wf = true ∧ (Lit.int .u16 x1).wf = true := by
  obtain ⟨cs, rfl, hsz⟩ := wide57 hv
  obtain ⟨c0, c1, rfl⟩ := twoA hsz
  obtain ⟨fuel, hf⟩ := h
  obtain ⟨xs, n, _, hx, hl, hlen, hg⟩ := DataW.trod_array Try.underlying57 hf
  obtain ⟨y0, y1, rfl⟩ := twoL hlen
  have g0 := hg 0 (by decide)
  have g1 := hg 1 (by decide)
  simp [Value.cells, cells24] at g0 g1
  obtain ⟨x0, e0, rfl, w0⟩ := DataW.trod_int Try.underlying24 g0
  obtain ⟨x1, e1, rfl, w1⟩ := DataW.trod_int Try.underlying24 g1
  simp at e0 e1 hx
  subst e0 e1
  exact ⟨x0, x1, rfl, hx.1, hx.2, w0, w1⟩

set_option maxRecDepth 100000 in
/-- Two strings that came in. -/
theorem open_two9 {W : World} {base b0 : Nat} {sp : Nat → Bool} {held : Bool} {r : Reach} {v : Value} {d : DataW H} {p : List MemPlace}
    (hv : Value.okWide Try.prog W r b0 61 v) (h : DataW.Trod enc Try.prog W base sp held 61 v d p) :
    ∃ x0 x1 : ByteArray, v = .agg #[.string x0, .string x1] ∧ d = .agg [.lit (.string x0.data.toList), .lit (.string x1.data.toList)] ∧ p = [] ∧ x0.size ≤ maxLen ∧ x1.size ≤ maxLen := by
  obtain ⟨cs, rfl, hsz⟩ := wide61 hv
  obtain ⟨c0, c1, rfl⟩ := twoA hsz
  obtain ⟨fuel, hf⟩ := h
  obtain ⟨xs, n, _, hx, hl, hlen, hg⟩ := DataW.trod_array Try.underlying61 hf
  obtain ⟨y0, y1, rfl⟩ := twoL hlen
  have g0 := hg 0 (by decide)
  have g1 := hg 1 (by decide)
  simp [Value.cells, cells9] at g0 g1
  obtain ⟨x0, e0, rfl, w0⟩ := DataW.trod_string Try.underlying9 g0
  obtain ⟨x1, e1, rfl, w1⟩ := DataW.trod_string Try.underlying9 g1
  simp at e0 e1 hx
  subst e0 e1
  exact ⟨x0, x1, rfl, hx.1, hx.2, w0, w1⟩

set_option maxRecDepth 100000 in
theorem shut_two16 {W : World} {base : Nat} {sp : Nat → Bool} {held : Bool} {x0 x1 : Int} (w0 : (Lit.int .u16 x0).wf = true) (w1 : (Lit.int .u16 x1).wf = true) :
    DataW.Trod enc Try.prog W base sp held 57 (.agg #[.int .u16 x0, .int .u16 x1]) (.agg [.lit (.int .u16 x0), .lit (.int .u16 x1)]) [] := by
  refine ⟨2, ?_⟩
  simp [DataW.trod, Try.underlying57, Try.underlying24, cells57, cells24, Value.cells, w0, w1, List.range, List.range.loop]

set_option maxRecDepth 100000 in
theorem shut_two9 {W : World} {base : Nat} {sp : Nat → Bool} {held : Bool} {x0 x1 : ByteArray} (w0 : x0.size ≤ maxLen) (w1 : x1.size ≤ maxLen) :
    DataW.Trod enc Try.prog W base sp held 61 (.agg #[.string x0, .string x1]) (.agg [.lit (.string x0.data.toList), .lit (.string x1.data.toList)]) [] := by
  refine ⟨2, ?_⟩
  simp [DataW.trod, Try.underlying61, Try.underlying9, cells61, cells9, Value.cells, w0, w1, List.range, List.range.loop]
end
end Go.Proofs.Ytimbnlcegcmfiaa
