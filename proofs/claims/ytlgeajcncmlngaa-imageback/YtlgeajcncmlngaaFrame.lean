/- An image as a law's argument. -/
import Derived.Test.YtlgeajcncmlngaaRows
import Derived.WalkKit
import Derived.ProofKit
import Derived.OpenShut
import Derived.ChangeMaps5
namespace Go.Proofs.Ytlgeajcncmlngaa
open Go.ChangeShapes Go.WideShapes Go.ChangeAt Go.RowKit

theorem own : ownKnob Try.prog.godebug = none := by kernel_rfl
theorem cells23 : Try.prog.cellsOf 23 = 5 := by kernel_rfl
theorem cells3 : Try.prog.cellsOf 3 = 1 := by kernel_rfl
theorem cells9 : Try.prog.cellsOf 9 = 1 := by kernel_rfl

theorem five {α : Type} {cs : Array α} (h : cs.size = 5) : ∃ c0 c1 c2 c3 c4, cs = #[c0, c1, c2, c3, c4] := by
  obtain ⟨l⟩ := cs
  match l, h with
  | [c0, c1, c2, c3, c4], _ => exact ⟨c0, c1, c2, c3, c4, rfl⟩
theorem fiveL {α : Type} {cs : List α} (h : cs.length = 5) : ∃ c0 c1 c2 c3 c4, cs = [c0, c1, c2, c3, c4] := by
  match cs, h with
  | [c0, c1, c2, c3, c4], _ => exact ⟨c0, c1, c2, c3, c4, rfl⟩

section
variable {H : Type} {enc : TypeId × Value → H}
set_option maxRecDepth 100000 in
/-- An image that came in: two strings and three integers, each in its range; it reads as they do, and meets no memory. -/
theorem open_im {W : World} {base b0 : Nat} {sp : Nat → Bool} {held : Bool} {r : Reach} {v : Value} {d : DataW H} {p : List MemPlace}
    (hv : Value.okWide Try.prog W r b0 23 v) (h : DataW.Trod enc Try.prog W base sp held 23 v d p) :
    ∃ (x0 x1 : ByteArray) (x2 x3 x4 : Int), v = .agg #[.string x0, .string x1, .int .i64 x2, .int .i64 x3, .int .i64 x4] ∧
      d = .agg [.lit (.string x0.data.toList), .lit (.string x1.data.toList), .lit (.int .i64 x2), .lit (.int .i64 x3), .lit (.int .i64 x4)] ∧ p = [] ∧
      x0.size ≤ maxLen ∧ x1.size ≤ maxLen ∧ (Lit.int .i64 x2).wf = true ∧ (Lit.int .i64 x3).wf = true ∧ (Lit.int .i64 x4).wf = true := by
  obtain ⟨cs, rfl, hsz⟩ := okWide_struct Try.underlying23 hv
  obtain ⟨c0, c1, c2, c3, c4, rfl⟩ := five (hsz.trans cells23)
  obtain ⟨fuel, hf⟩ := h
  obtain ⟨xs, n, _, hx, hl, hlen, hg⟩ := DataW.trod_struct Try.underlying23 hf
  obtain ⟨y0, y1, y2, y3, y4, rfl⟩ := fiveL hlen
  have g0 := hg 0 _ rfl
  have g1 := hg 1 _ rfl
  have g2 := hg 2 _ rfl
  have g3 := hg 3 _ rfl
  have g4 := hg 4 _ rfl
  simp [Value.cells, cells3, cells9] at g0 g1 g2 g3 g4
  obtain ⟨x0, e0, rfl, w0⟩ := DataW.trod_string Try.underlying9 g0
  obtain ⟨x1, e1, rfl, w1⟩ := DataW.trod_string Try.underlying9 g1
  obtain ⟨x2, e2, rfl, w2⟩ := DataW.trod_int Try.underlying3 g2
  obtain ⟨x3, e3, rfl, w3⟩ := DataW.trod_int Try.underlying3 g3
  obtain ⟨x4, e4, rfl, w4⟩ := DataW.trod_int Try.underlying3 g4
  simp at e0 e1 e2 e3 e4 hx
  subst e0 e1 e2 e3 e4
  exact ⟨x0, x1, x2, x3, x4, rfl, hx.1, hx.2, w0, w1, w2, w3, w4⟩

set_option maxRecDepth 100000 in
/-- .. and read again, in whatever world. -/
theorem shut_im {W : World} {base : Nat} {sp : Nat → Bool} {held : Bool} {x0 x1 : ByteArray} {x2 x3 x4 : Int}
    (w0 : x0.size ≤ maxLen) (w1 : x1.size ≤ maxLen) (w2 : (Lit.int .i64 x2).wf = true) (w3 : (Lit.int .i64 x3).wf = true) (w4 : (Lit.int .i64 x4).wf = true) :
    DataW.Trod enc Try.prog W base sp held 23 (.agg #[.string x0, .string x1, .int .i64 x2, .int .i64 x3, .int .i64 x4])
      (.agg [.lit (.string x0.data.toList), .lit (.string x1.data.toList), .lit (.int .i64 x2), .lit (.int .i64 x3), .lit (.int .i64 x4)]) [] := by
  refine ⟨2, ?_⟩
  have := trod_struct_mk (enc := enc) (P := Try.prog) (w := W) (base := base) (spare := sp) (held := held) (n := 1) (cs := [.string x0, .string x1, .int .i64 x2, .int .i64 x3, .int .i64 x4])
    (xs := [(.lit (.string x0.data.toList), []), (.lit (.string x1.data.toList), []), (.lit (.int .i64 x2), []), (.lit (.int .i64 x3), []), (.lit (.int .i64 x4), [])]) Try.underlying23 (by simp [cells23])
    (by simp [cells3, cells9, DataW.trod, Try.underlying3, Try.underlying9, w0, w1, w2, w3, w4])
  simpa [Value.cells] using this

/-- What is to be shown behind the call of a law: it answered what it must, the arguments read as they did, and old memory is as it was. -/
theorem post_kept {P : Program} {f : Func} {s : ChangeSpec} {W W' : World} {args : Array Value} {v : Value} {ds gs : List (DataW H)} {ps pa : List MemPlace}
    (hW : DataW.Whole enc P f.params.toList s.vars false W args.toList ds gs ps)
    (hres : ∀ (b : Nat) (sp : Nat → Bool) (hd : Bool), DataW.TrodAll enc P W' b sp hd f.resultTypes.toList (v.resultList f.resultTypes.size) (s.fn H (ds ++ gs)).results [])
    (hargs : DataW.TrodAll enc P W' 0 (fun b => decide (b < W.heap.size)) true f.params.toList args.toList (s.fn H (ds ++ gs)).args pa)
    (hvars : ∀ sp : Nat → Bool, DataW.TrodVars enc P W' sp s.vars (s.fn H (ds ++ gs)).vars [])
    (hb : Below W.heap.size W W') :
    s.post enc P f false true false false W args v W' :=
  ⟨_, _, _, [], pa, [], hW, hres _ _ _, hargs, hvars _, hb.frame _, fun h => by cases h⟩
end
end Go.Proofs.Ytlgeajcncmlngaa
