/- Lines that came in; what a law must show behind its call. -/
import Derived.Test.YtgnlplddppheiaaNames
import Derived.Test.YtgnlplddppheiaaRows
import Derived.Deep.Slices
import Derived.WalkKit
import Derived.ProofKit
import Derived.OpenShut
import Derived.JoinedCond
namespace Go.Proofs.Ytgnlplddppheiaa
open Go.ChangeShapes Go.WideShapes Go.ChangeAt Go.RowKit
set_option linter.unusedVariables false

theorem own : ownKnob Try.prog.godebug = none := by kernel_rfl
theorem laidOut : laidOutB Try.prog = true := by kernel_rfl
theorem cells40 : Try.prog.cellsOf 40 = 7 := by kernel_rfl
theorem cells24 : Try.prog.cellsOf 24 = 5 := by kernel_rfl
theorem cells26 : Try.prog.cellsOf 26 = 8 := by kernel_rfl
theorem cells22 : Try.prog.cellsOf 22 = 1 := by kernel_rfl
theorem cellsI3 : Try.prog.cellsOf 3 = 1 := by kernel_rfl
theorem cells21 : Try.prog.cellsOf 21 = 1 := by kernel_rfl

theorem bound64 {x : Int} (h : (Lit.int .i64 x).wf = true) : -9223372036854775808 ≤ x ∧ x ≤ 9223372036854775807 := bounds_i64 h
theorem bound32 {x : Int} (h : (Lit.int .i32 x).wf = true) : -2147483648 ≤ x ∧ x ≤ 2147483647 := bounds_i32 h
theorem bound16 {x : Int} (h : (Lit.int .u16 x).wf = true) : 0 ≤ x ∧ x ≤ 65535 := bounds_u16 h

section
variable {H : Type} {enc : TypeId × Value → H}
theorem one_le_bulk (d : DataW H) : 1 ≤ Rows.uptoBulk d := by
  cases d with
  | lit l => cases l <;> simp [Rows.uptoBulk]
  | _ => simp [Rows.uptoBulk]
theorem len_le_bulk (l : List (DataW H)) : l.length ≤ Rows.uptoBulkAll l := by
  induction l with
  | nil => simp [Rows.uptoBulkAll]
  | cons x r ih => have := one_le_bulk x; simp only [Rows.uptoBulkAll, List.length_cons]; omega

/-- An instruction's five cells. -/
theorem open_ins {W : World} {base : Nat} {sp : Nat → Bool} {held : Bool} {fuel : Nat} {cs : List Value} {x : DataW H × List MemPlace} (hl : cs.length = 5) (h : DataW.trod enc Try.prog W base sp held fuel 24 cs = some x) :
    ∃ o d a b i : Int, cs = [.int .i64 o, .int .i64 d, .int .i64 a, .int .i64 b, .int .i32 i] ∧ -2147483648 ≤ i ∧ i ≤ 2147483647 := by
  match cs, hl with
  | [c0, c1, c2, c3, c4], _ =>
    obtain ⟨xs, n, _, hx, _, hlen, hg⟩ := DataW.trod_struct Try.underlying24 h
    match xs, hlen with
    | [y0, y1, y2, y3, y4], _ =>
      have g0 := hg 0 _ rfl
      have g1 := hg 1 _ rfl
      have g2 := hg 2 _ rfl
      have g3 := hg 3 _ rfl
      have g4 := hg 4 _ rfl
      simp [cellsI3, cells21] at g0 g1 g2 g3 g4
      obtain ⟨x0, e0, _, w0⟩ := DataW.trod_int Try.underlying3 g0
      obtain ⟨x1, e1, _, w1⟩ := DataW.trod_int Try.underlying3 g1
      obtain ⟨x2, e2, _, w2⟩ := DataW.trod_int Try.underlying3 g2
      obtain ⟨x3, e3, _, w3⟩ := DataW.trod_int Try.underlying3 g3
      obtain ⟨x4, e4, _, w4⟩ := DataW.trod_int Try.underlying21 g4
      simp at e0 e1 e2 e3 e4
      subst e0 e1 e2 e3 e4
      exact ⟨x0, x1, x2, x3, x4, rfl, bound32 w4⟩

/-- A line's seven cells. -/
theorem open_line {W : World} {base : Nat} {sp : Nat → Bool} {held : Bool} {fuel : Nat} {cs : List Value} {x : DataW H × List MemPlace} (hl : cs.length = 7) (h : DataW.trod enc Try.prog W base sp held fuel 40 cs = some x) :
    ∃ l : Ln, cs = l.cells ∧ l.wf := by
  match cs, hl with
  | [c0, c1, c2, c3, c4, c5, c6], _ =>
    obtain ⟨xs, n, _, hx, _, hlen, hg⟩ := DataW.trod_struct Try.underlying40 h
    match xs, hlen with
    | [y0, y1, y2], _ =>
      have g0 := hg 0 _ rfl
      have g1 := hg 1 _ rfl
      have g2 := hg 2 _ rfl
      simp [cellsI3, cells24] at g0 g1 g2
      obtain ⟨x0, e0, _, w0⟩ := DataW.trod_int Try.underlying3 g0
      obtain ⟨o, d, a, b, i, e1, i0, i1⟩ := open_ins rfl g1
      obtain ⟨x6, e6, _, w6⟩ := DataW.trod_int Try.underlying3 g2
      simp at e0 e1 e6
      obtain ⟨rfl, rfl, rfl, rfl, rfl⟩ := e1
      subst e0 e6
      exact ⟨⟨x0, o, d, a, b, i, x6⟩, rfl, (bound64 w0).1, (bound64 w0).2, (bound64 w6).1, (bound64 w6).2, i0, i1⟩

/-- A slice of lines. -/
theorem open_lines {W : World} {fuel : Nat} {c : Value} {x : DataW H × List MemPlace} (h : DataW.trod enc Try.prog W 0 (fun _ => true) true fuel 22 [c] = some x) :
    ∃ ls : List Ln, Src7 W c ls ∧ (∀ l ∈ ls, l.wf) ∧ ls.length ≤ Rows.uptoBulk x.1 := by
  rcases Deep.open_slice Try.underlying22 h with ⟨hcs, rfl⟩ | ⟨a, len, cap, m, n, D, Pl, hcs, _, hl, hm, hmm, rfl, hx⟩
  · simp at hcs
    exact ⟨[], .inl ⟨rfl, _, _, hcs⟩, by simp, by simp⟩
  · simp at hcs
    subst hcs
    simp only [if_true] at hmm
    subst hmm
    rw [cells40] at hx
    have hlen : len ≤ Rows.uptoBulk (DataW.slice ((List.range len).map D) ((List.range (m - len)).map fun j => D (len + j))) := by
      have := len_le_bulk ((List.range len).map D)
      simp at this
      simp only [Rows.uptoBulk]
      omega
    by_cases hl0 : len = 0
    · subst hl0
      exact ⟨[], .inl ⟨rfl, _, _, rfl⟩, by simp, by simp⟩
    · haveI : Inhabited Ln := ⟨⟨0, 0, 0, 0, 0, 0, 0⟩⟩
      obtain ⟨V, hV⟩ := Deep.choose_lt (α := Ln) (n := len) (p := fun i l => (∀ c, c < 7 → W.cell? (a.add (i * 7 + c)) = l.cells[c]?) ∧ l.wf) (fun i hi => by
        obtain ⟨cs', h1, h2⟩ := hx i (by omega)
        obtain ⟨_, hlen', hcell⟩ := World.cells?_some h1
        obtain ⟨l, rfl, hw⟩ := open_line hlen' h2
        refine ⟨l, fun c hc => ?_, hw⟩
        have := hcell c (by omega)
        rw [Deep.add_add] at this
        simpa using this)
      obtain ⟨b, off, spot⟩ := a
      have hspot : spot = none := by
        have := (hV 0 (by omega)).1 0 (by omega)
        simp [Ln.cells] at this
        simpa [Addr.add] using World.cell?_spot this
      subst hspot
      have hadd : ∀ k, (⟨b, off, none⟩ : Addr).add k = ⟨b, off + k, none⟩ := fun k => by unfold Addr.add; split <;> simp_all
      have hbW : b < W.heap.size := by
        have := (hV 0 (by omega)).1 0 (by omega)
        simp [Ln.cells] at this
        rw [hadd] at this
        exact World.block_lt_of_cell? W _ this
      refine ⟨(List.range len).map V, .inr ⟨b, off, m, by simp, hbW, fun j u hj => ?_⟩, fun l hl' => ?_, by simpa using hlen⟩
      · have hj7 := (List.getElem?_eq_some_iff.1 hj).1
        rw [cells7_length] at hj7
        simp at hj7
        have e : j = j / 7 * 7 + j % 7 := by omega
        rw [e, cells7_get _ (j / 7) (j % 7) (by simp; omega) (by omega)] at hj
        simp at hj
        have h7 := (hV (j / 7) (by omega)).1 (j % 7) (by omega)
        rw [hadd, ← e] at h7
        rw [h7]
        exact hj
      · obtain ⟨i, hi, rfl⟩ := List.mem_map.1 hl'
        exact (hV i (by simpa using hi)).2

set_option maxRecDepth 20000 in
/-- Far, as it came in. -/
theorem open_far {W : World} {b0 : Nat} {r : Reach} {v : Value} {d : DataW H} {p : List MemPlace} (hv : Value.okWide Try.prog W r b0 26 v) (h : DataW.Trod enc Try.prog W 0 (fun _ => true) true 26 v d p) :
    ∃ (hv' tv : Value) (o e a b i N : Int) (hd tl : List Ln), v = .agg #[hv', .int .i64 o, .int .i64 e, .int .i64 a, .int .i64 b, .int .i32 i, .int .i64 N, tv] ∧ Src7 W hv' hd ∧ Src7 W tv tl ∧ (∀ x ∈ linesL hd tl o e a b i N, x.wf) ∧ N ≤ 9223372036854775807 ∧ hd.length + tl.length ≤ Rows.uptoBulk d := by
  obtain ⟨cs, rfl, hsz⟩ := okWide_struct Try.underlying26 hv
  obtain ⟨l⟩ := cs
  obtain ⟨fuel, hf⟩ := h
  have hsz' : l.length = 8 := by simpa [cells26] using hsz
  match l, hsz' with
  | [c0, c1, c2, c3, c4, c5, c6, c7], _ =>
    obtain ⟨xs, n, _, hx, _, hlen, hg⟩ := DataW.trod_struct Try.underlying26 hf
    match xs, hlen with
    | [y0, y1, y2, y3], _ =>
      have g0 := hg 0 _ rfl
      have g1 := hg 1 _ rfl
      have g2 := hg 2 _ rfl
      have g3 := hg 3 _ rfl
      simp [Value.cells, cellsI3, cells24, cells22] at g0 g1 g2 g3
      obtain ⟨hd, s0, w0, n0⟩ := open_lines g0
      obtain ⟨o, e, a, b, i, e1, i0, i1⟩ := open_ins rfl g1
      obtain ⟨N, e2, _, wN⟩ := DataW.trod_int Try.underlying3 g2
      obtain ⟨tl, s3, w3, n3⟩ := open_lines g3
      simp at e1 e2
      obtain ⟨rfl, rfl, rfl, rfl, rfl⟩ := e1
      subst e2
      refine ⟨c0, c7, o, e, a, b, i, N, hd, tl, rfl, s0, s3, fun x hx' => ?_, (bound64 wN).2, ?_⟩
      · unfold linesL at hx'
        rcases List.mem_append.1 hx' with hx' | hx'
        · rcases List.mem_append.1 hx' with hx' | hx'
          · exact w0 x hx'
          · rw [(List.mem_replicate.1 hx').2]
            exact ⟨by show (-9223372036854775808 : Int) ≤ 0; omega, by show (0 : Int) ≤ _; omega, by show (-9223372036854775808 : Int) ≤ 0; omega, by show (0 : Int) ≤ _; omega, i0, i1⟩
        · exact w3 x hx'
      · have e : d = .agg [y0.1, y1.1, y2.1, y3.1] := by simpa using congrArg Prod.fst hx
        rw [e]
        simp only [Rows.uptoBulk, Rows.uptoBulkAll]
        omega

/-- What is to be shown behind the call of a law: it answered what it must, the arguments read as they did, and old memory is as it was. -/
theorem post_kept {P : Program} {f : Func} {s : ChangeSpec} {W W' : World} {args : Array Value} {v : Value} {ds gs : List (DataW H)} {ps pa : List MemPlace}
    (hW : DataW.Whole enc P f.params.toList s.vars false W args.toList ds gs ps)
    (hres : ∀ (b : Nat) (sp : Nat → Bool) (hd : Bool), DataW.TrodAll enc P W' b sp hd f.resultTypes.toList (v.resultList f.resultTypes.size) (s.fn H (ds ++ gs)).results [])
    (hargs : DataW.TrodAll enc P W' 0 (fun b => decide (b < W.heap.size)) true f.params.toList args.toList (s.fn H (ds ++ gs)).args pa)
    (hvars : ∀ sp : Nat → Bool, DataW.TrodVars enc P W' sp s.vars (s.fn H (ds ++ gs)).vars [])
    (hb : Below W.heap.size W W') :
    s.post enc P f false true false false W args v W' :=
  ⟨_, _, _, [], pa, [], hW, hres _ _ _, hargs, hvars _, hb.frame _, fun h => by cases h⟩
end
end Go.Proofs.Ytgnlplddppheiaa
