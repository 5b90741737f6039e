/- An act as a law's argument: its four parts read and read again; what a law must show behind its call. -/
import Derived.Test.YtgonjmifpaddgaaRows
import Derived.WalkKit
import Derived.ProofKit
import Derived.OpenShut
namespace Go.Proofs.Ytgonjmifpaddgaa
open Go.ChangeShapes Go.WideShapes Go.ChangeAt Go.RowKit

theorem own : ownKnob Try.prog.godebug = none := by kernel_rfl
theorem cells44 : Try.prog.cellsOf 44 = 4 := by kernel_rfl
theorem cells3 : Try.prog.cellsOf 3 = 1 := by kernel_rfl
theorem cells31 : Try.prog.cellsOf 31 = 1 := by kernel_rfl
theorem cells9 : Try.prog.cellsOf 9 = 1 := by kernel_rfl

theorem fourA {α : Type} {cs : Array α} (h : cs.size = 4) : ∃ c0 c1 c2 c3, cs = #[c0, c1, c2, c3] := by
  obtain ⟨l⟩ := cs
  match l, h with
  | [c0, c1, c2, c3], _ => exact ⟨c0, c1, c2, c3, rfl⟩
theorem fourL {α : Type} {cs : List α} (h : cs.length = 4) : ∃ c0 c1 c2 c3, cs = [c0, c1, c2, c3] := by
  match cs, h with
  | [c0, c1, c2, c3], _ => exact ⟨c0, c1, c2, c3, rfl⟩

section
variable {H : Type} {enc : TypeId × Value → H}
/-- The cells of an act: three integers, each in its range, and a string; they read as they are, and meet no memory. -/
theorem open_cells {W : World} {base : Nat} {sp : Nat → Bool} {held : Bool} {fuel : Nat} {cs : List Value} {x : DataW H × List MemPlace} (hl4 : cs.length = 4)
    (h : DataW.trod enc Try.prog W base sp held fuel 44 cs = some x) :
    ∃ (x0 x1 x2 : Int) (s : ByteArray), cs = [.int .i64 x0, .int .u32 x1, .int .u32 x2, .string s] ∧
      x = (.agg [.lit (.int .i64 x0), .lit (.int .u32 x1), .lit (.int .u32 x2), .lit (.string s.data.toList)], []) ∧
      (Lit.int .i64 x0).wf = true ∧ (Lit.int .u32 x1).wf = true ∧ (Lit.int .u32 x2).wf = true ∧ s.size ≤ maxLen := by
  obtain ⟨c0, c1, c2, c3, rfl⟩ := fourL hl4
  obtain ⟨xs, n, _, hx, hl, hlen, hg⟩ := DataW.trod_struct Try.underlying44 h
  obtain ⟨y0, y1, y2, y3, rfl⟩ := fourL hlen
  have g0 := hg 0 _ rfl
  have g1 := hg 1 _ rfl
  have g2 := hg 2 _ rfl
  have g3 := hg 3 _ rfl
  simp [cells3, cells31, cells9] at g0 g1 g2 g3
  obtain ⟨x0, e0, rfl, w0⟩ := DataW.trod_int Try.underlying3 g0
  obtain ⟨x1, e1, rfl, w1⟩ := DataW.trod_int Try.underlying31 g1
  obtain ⟨x2, e2, rfl, w2⟩ := DataW.trod_int Try.underlying31 g2
  obtain ⟨s, e3, rfl, w3⟩ := DataW.trod_string Try.underlying9 g3
  simp at e0 e1 e2 e3 hx
  subst e0 e1 e2 e3
  exact ⟨x0, x1, x2, s, rfl, hx, w0, w1, w2, w3⟩

/-- An act that came in. -/
theorem open_act {W : World} {base b0 : Nat} {sp : Nat → Bool} {held : Bool} {r : Reach} {v : Value} {d : DataW H} {p : List MemPlace}
    (hv : Value.okWide Try.prog W r b0 44 v) (h : DataW.Trod enc Try.prog W base sp held 44 v d p) :
    ∃ (x0 x1 x2 : Int) (s : ByteArray), v = .agg #[.int .i64 x0, .int .u32 x1, .int .u32 x2, .string s] ∧
      d = .agg [.lit (.int .i64 x0), .lit (.int .u32 x1), .lit (.int .u32 x2), .lit (.string s.data.toList)] ∧ p = [] ∧
      (Lit.int .i64 x0).wf = true ∧ (Lit.int .u32 x1).wf = true ∧ (Lit.int .u32 x2).wf = true ∧ s.size ≤ maxLen := by
  obtain ⟨cs, rfl, hsz⟩ := okWide_struct Try.underlying44 hv
  obtain ⟨fuel, hf⟩ := h
  obtain ⟨x0, x1, x2, s, hc, hx, w0, w1, w2, w3⟩ := open_cells (by simpa [Value.cells, cells44] using hsz) hf
  obtain ⟨l⟩ := cs
  simp [Value.cells] at hc hx
  subst hc
  exact ⟨x0, x1, x2, s, rfl, hx.1, hx.2, w0, w1, w2, w3⟩

/-- .. and read again, in whatever world. -/
theorem shut_act {W : World} {base : Nat} {sp : Nat → Bool} {held : Bool} {x0 x1 x2 : Int} {s : ByteArray}
    (w0 : (Lit.int .i64 x0).wf = true) (w1 : (Lit.int .u32 x1).wf = true) (w2 : (Lit.int .u32 x2).wf = true) (w3 : s.size ≤ maxLen) :
    DataW.Trod enc Try.prog W base sp held 44 (.agg #[.int .i64 x0, .int .u32 x1, .int .u32 x2, .string s])
      (.agg [.lit (.int .i64 x0), .lit (.int .u32 x1), .lit (.int .u32 x2), .lit (.string s.data.toList)]) [] := by
  refine ⟨2, ?_⟩
  have := trod_struct_mk (enc := enc) (P := Try.prog) (w := W) (base := base) (spare := sp) (held := held) (n := 1) (cs := [.int .i64 x0, .int .u32 x1, .int .u32 x2, .string s])
    (xs := [(.lit (.int .i64 x0), []), (.lit (.int .u32 x1), []), (.lit (.int .u32 x2), []), (.lit (.string s.data.toList), [])]) Try.underlying44 (by simp [cells44])
    (by simp [cells3, cells31, cells9, DataW.trod, Try.underlying3, Try.underlying31, Try.underlying9, w0, w1, w2, w3])
  simpa [Value.cells] using this

/-- What is to be shown behind the call of a law: it answered what it must, the arguments read as they did, and old memory is as it was. -/
theorem post_kept {P : Program} {f : Func} {s : ChangeSpec} {W W' : World} {args : Array Value} {v : Value} {ds gs : List (DataW H)} {ps pa : List MemPlace}
    (hW : DataW.Whole enc P f.params.toList s.vars false W args.toList ds gs ps)
    (hres : ∀ (b : Nat) (sp : Nat → Bool) (hd : Bool), DataW.TrodAll enc P W' b sp hd f.resultTypes.toList (v.resultList f.resultTypes.size) (s.fn H (ds ++ gs)).results [])
    (hargs : DataW.TrodAll enc P W' 0 (fun b => decide (b < W.heap.size)) true f.params.toList args.toList (s.fn H (ds ++ gs)).args pa)
    (hvars : ∀ sp : Nat → Bool, DataW.TrodVars enc P W' sp s.vars (s.fn H (ds ++ gs)).vars [])
    (hb : Below W.heap.size W W') :
    s.post enc P f false true false false W args v W' :=
  ⟨_, _, _, [], pa, [], hW, hres _ _ _, hargs, hvars _, hb.frame _, fun h => by cases h⟩
end
end Go.Proofs.Ytgonjmifpaddgaa
