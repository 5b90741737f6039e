/- What came in: instructions, blocks, functions, programs; what a law must show behind its call. -/
import Derived.Test.YtiehlkhpblldaaaH00
import Derived.Test.YtiehlkhpblldaaaRows
import Derived.Deep.Slices
import Derived.WalkKit
import Derived.ProofKit
import Derived.OpenShut
import Derived.HandedShaped
set_option linter.unusedVariables false
set_option linter.unusedSimpArgs false
set_option maxRecDepth 20000
set_option maxHeartbeats 8000000
namespace Go.Proofs.Ytiehlkhpblldaaa
open Go.ChangeShapes Go.WideShapes Go.ChangeAt Go.RowKit

theorem own : ownKnob Try.prog.godebug = none := by kernel_rfl
theorem laidOut : laidOutB Try.prog = true := by kernel_rfl
theorem cells3 : Try.prog.cellsOf 3 = 1 := by kernel_rfl
theorem cells21 : Try.prog.cellsOf 21 = 1 := by kernel_rfl
theorem cells9 : Try.prog.cellsOf 9 = 1 := by kernel_rfl
theorem cells34 : Try.prog.cellsOf 34 = 1 := by kernel_rfl
theorem cells52 : Try.prog.cellsOf 52 = 1 := by kernel_rfl
theorem cells47 : Try.prog.cellsOf 47 = 1 := by kernel_rfl
theorem cells22 : Try.prog.cellsOf 22 = 1 := by kernel_rfl
theorem cells23 : Try.prog.cellsOf 23 = 1 := by kernel_rfl
theorem cells51 : Try.prog.cellsOf 51 = 7 := by kernel_rfl
theorem cells54 : Try.prog.cellsOf 54 = 4 := by kernel_rfl
theorem cells49 : Try.prog.cellsOf 49 = 5 := by kernel_rfl
theorem cells78 : Try.prog.cellsOf 78 = 2 := by kernel_rfl
theorem cells25 : Try.prog.cellsOf 25 = 4 := by kernel_rfl
theorem bytes3 : Try.prog.bytesOf 3 = 8 := by kernel_rfl
theorem bytes51 : Try.prog.bytesOf 51 = 88 := by kernel_rfl
theorem bytes54 : Try.prog.bytesOf 54 = 64 := by kernel_rfl
theorem bytes49 : Try.prog.bytesOf 49 = 64 := by kernel_rfl
theorem bytes78 : Try.prog.bytesOf 78 = 24 := by kernel_rfl

section
variable {H : Type} {enc : TypeId × Value → H}
theorem weights_all {P : Program} {e : TypeId} : ∀ {ds : List (DataW H)} {d : DataW H}, d ∈ ds → ∀ n ∈ d.weights P e, n ∈ DataW.weightsAll P e ds
  | x :: ds, d, h, n, hn => by
    rw [DataW.weightsAll, List.mem_append]
    rcases List.mem_cons.1 h with rfl | h
    · exact .inl hn
    · exact .inr (weights_all h n hn)


set_option maxRecDepth 100000 in
/-- A slice of such things. -/
theorem open_list {α : Type} {f : α → List Value} {z st et bytes : Nat} {W : World} {p : α → Prop} (dflt : α) (hz : ∀ x, (f x).length = z) (hzp : 0 < z) (hst : Try.prog.underlying st = some (.slice et)) (hce : Try.prog.cellsOf et = z) (hby : Try.prog.bytesOf et = bytes)
    (hel : ∀ {fuel : Nat} {cs : List Value} {x : DataW H × List MemPlace}, DataW.trod enc Try.prog W 0 (fun _ => true) true fuel et cs = some x → (∀ m ∈ x.1.weights Try.prog et, m ≤ reachBytes) → ∃ m : α, cs = f m ∧ p m)
    {fuel : Nat} {cs : List Value} {x : DataW H × List MemPlace} (hf : DataW.trod enc Try.prog W 0 (fun _ => true) true fuel st cs = some x) (hw : ∀ m ∈ x.1.weights Try.prog st, m ≤ reachBytes) :
    ∃ (v : Value) (l : List α), cs = [v] ∧ Src f W v l ∧ (∀ m ∈ l, p m) ∧ l.length * bytes ≤ big := by
  haveI : Inhabited α := ⟨dflt⟩
  rcases Deep.open_slice hst hf with ⟨hcs, hx0⟩ | ⟨a, len0, cap0, m, n, D, Pl, hcs, _, hl, hm, hmm, hxx, hx⟩
  · exact ⟨_, [], hcs, .inl ⟨rfl, _, _, rfl⟩, by simp, by simp⟩
  · simp only [if_true] at hmm
    subst hmm
    rw [hce] at hx
    rw [hxx] at hw
    simp only [DataW.weights, hst, hby] at hw
    have hlen := hw _ (List.mem_cons_self ..)
    simp at hlen
    have hb1 : len0 * bytes ≤ big := Nat.le_trans (Nat.mul_le_mul_right _ (by omega : len0 ≤ len0 + (m - len0))) hlen
    have hwe : ∀ i, i < len0 → ∀ k ∈ (D i).weights Try.prog et, k ≤ reachBytes := fun i hi k hk =>
      hw k (List.mem_cons_of_mem _ (List.mem_append.2 (.inl (weights_all (List.mem_map.2 ⟨i, List.mem_range.2 hi, rfl⟩) k hk))))
    by_cases hl0 : len0 = 0
    · subst hl0
      exact ⟨_, [], hcs, .inl ⟨rfl, _, _, rfl⟩, by simp, by simp⟩
    · obtain ⟨V, hV⟩ := Deep.choose_lt (α := α) (n := len0) (p := fun i x => (∀ c, c < z → W.cell? (a.add (i * z + c)) = (f x)[c]?) ∧ p x) (fun i hi => by
        obtain ⟨cs', h1, h2⟩ := hx i (by omega)
        obtain ⟨_, hlen', hcell⟩ := World.cells?_some h1
        obtain ⟨y, rfl, hp⟩ := hel h2 (hwe i hi)
        refine ⟨y, fun c hc => ?_, hp⟩
        have := hcell c (by omega)
        rw [Deep.add_add] at this
        simpa using this)
      obtain ⟨b, off, spot⟩ := a
      have h00 := (hV 0 (by omega)).1 0 hzp
      have hff : (f (V 0))[0]? = some ((f (V 0))[0]'(by rw [hz]; exact hzp)) := List.getElem?_eq_getElem _
      rw [hff] at h00
      have hspot : spot = none := by simpa [Addr.add] using World.cell?_spot h00
      subst hspot
      have hadd : ∀ k, (⟨b, off, none⟩ : Addr).add k = ⟨b, off + k, none⟩ := fun k => by unfold Addr.add; split <;> simp_all
      have hbW : b < W.heap.size := by
        rw [hadd] at h00
        exact World.block_lt_of_cell? W _ h00
      refine ⟨_, (List.range len0).map V, hcs, .inr ⟨b, off, m, by simp, hbW, by simpa using hl, fun j u hj => ?_⟩, fun l hl' => ?_, by simpa using hb1⟩
      · have hj7 := (List.getElem?_eq_some_iff.1 hj).1
        rw [flat_length hz] at hj7
        simp at hj7
        have hdiv : j / z < len0 := Nat.div_lt_of_lt_mul (by rw [Nat.mul_comm]; exact hj7)
        have hmod : j % z < z := Nat.mod_lt _ hzp
        have e : j = j / z * z + j % z := by rw [Nat.mul_comm]; exact (Nat.div_add_mod j z).symm
        rw [e, flat_get hz _ (j / z) (j % z) (by simpa using hdiv) hmod] at hj
        simp at hj
        have h7 := (hV (j / z) hdiv).1 (j % z) hmod
        rw [hadd, ← e] at h7
        rw [h7]
        exact hj
      · obtain ⟨i, hi, rfl⟩ := List.mem_map.1 hl'
        exact (hV i (by simpa using hi)).2
set_option maxRecDepth 100000 in
theorem open_ints {W : World} {fuel : Nat} {cs : List Value} {x : DataW H × List MemPlace} (h : DataW.trod enc Try.prog W 0 (fun _ => true) true fuel 34 cs = some x) (hw : ∀ m ∈ x.1.weights Try.prog 34, m ≤ reachBytes) :
    ∃ (v : Value) (l : List Int), cs = [v] ∧ Src icell W v l ∧ l.length * 8 ≤ big := by
  obtain ⟨v, l, h1, h2, _, h3⟩ := open_list (p := fun _ => True) (f := icell) 0 ic1 (by decide) Try.underlying34 cells3 bytes3 (fun h _ => by obtain ⟨n, e, _⟩ := DataW.trod_int Try.underlying3 h; exact ⟨n, e, trivial⟩) h hw
  exact ⟨v, l, h1, h2, h3⟩
set_option maxRecDepth 100000 in
theorem open_in {W : World} {fuel : Nat} {cs : List Value} {x : DataW H × List MemPlace} (h : DataW.trod enc Try.prog W 0 (fun _ => true) true fuel 51 cs = some x) (hw : ∀ m ∈ x.1.weights Try.prog 51, m ≤ reachBytes) :
    ∃ m : In, cs = m.cells ∧ In.ok W m := by
  obtain ⟨xs, n, hf, hx, hl, hlen, hg⟩ := DataW.trod_struct Try.underlying51 h
  rw [cells51] at hl
  match cs, hl with
  | [c0, c1, c2, c3, c4, c5, c6], _ =>
    match xs, hlen with
    | [y0, y1, y2, y3, y4, y5, y6], _ =>
      have g0 := hg 0 _ rfl
      have g1 := hg 1 _ rfl
      have g2 := hg 2 _ rfl
      have g3 := hg 3 _ rfl
      have g4 := hg 4 _ rfl
      have g5 := hg 5 _ rfl
      have g6 := hg 6 _ rfl
      simp [cells3, cells21, cells34] at g0 g1 g2 g3 g4 g5 g6
      rw [hx] at hw
      simp only [DataW.weights, Try.underlying51] at hw
      obtain ⟨x0, e0, _, w0⟩ := DataW.trod_int Try.underlying3 g0
      obtain ⟨x1, e1, _, w1⟩ := DataW.trod_int Try.underlying3 g1
      obtain ⟨x2, l2, e2, s2, b2⟩ := open_ints g2 (fun m hm => hw m (DataW.weights_mem_each (j := 2) (t := 34) (d := y2.1) rfl rfl m hm))
      obtain ⟨x3, e3, _, w3⟩ := DataW.trod_int Try.underlying21 g3
      obtain ⟨x4, e4, _, w4⟩ := DataW.trod_int Try.underlying3 g4
      obtain ⟨x5, e5, _, w5⟩ := DataW.trod_int Try.underlying3 g5
      obtain ⟨x6, l6, e6, s6, b6⟩ := open_ints g6 (fun m hm => hw m (DataW.weights_mem_each (j := 6) (t := 34) (d := y6.1) rfl rfl m hm))
      simp at e0 e1 e2 e3 e4 e5 e6
      subst e0 e1 e2 e3 e4 e5 e6
      exact ⟨⟨x0, x1, c2, l2, x3, x4, x5, c6, l6⟩, rfl, s2, b2, s6, b6, bounds_i32 w3⟩
set_option maxRecDepth 100000 in
theorem open_code {W : World} {fuel : Nat} {cs : List Value} {x : DataW H × List MemPlace} (h : DataW.trod enc Try.prog W 0 (fun _ => true) true fuel 52 cs = some x) (hw : ∀ m ∈ x.1.weights Try.prog 52, m ≤ reachBytes) :
    ∃ (v : Value) (l : List In), cs = [v] ∧ Src In.cells W v l ∧ (∀ m ∈ l, In.ok W m) ∧ l.length * 88 ≤ big :=
  open_list (⟨0, 0, .slice none 0 0, [], 0, 0, 0, .slice none 0 0, []⟩ : In) in7 (by decide) Try.underlying52 cells51 bytes51 (fun h hw => open_in h hw) h hw
set_option maxRecDepth 100000 in
theorem open_bl {W : World} {fuel : Nat} {cs : List Value} {x : DataW H × List MemPlace} (h : DataW.trod enc Try.prog W 0 (fun _ => true) true fuel 54 cs = some x) (hw : ∀ m ∈ x.1.weights Try.prog 54, m ≤ reachBytes) :
    ∃ m : Bl, cs = m.cells ∧ Bl.ok W m := by
  obtain ⟨xs, n, hf, hx, hl, hlen, hg⟩ := DataW.trod_struct Try.underlying54 h
  rw [cells54] at hl
  match cs, hl with
  | [c0, c1, c2, c3], _ =>
    match xs, hlen with
    | [y0, y1, y2, y3], _ =>
      have g0 := hg 0 _ rfl
      have g1 := hg 1 _ rfl
      have g2 := hg 2 _ rfl
      have g3 := hg 3 _ rfl
      simp [cells3, cells34, cells52] at g0 g1 g2 g3
      rw [hx] at hw
      simp only [DataW.weights, Try.underlying54] at hw
      obtain ⟨x0, l0, e0, s0, a0, b0⟩ := open_code g0 (fun m hm => hw m (DataW.weights_mem_each (j := 0) (t := 52) (d := y0.1) rfl rfl m hm))
      obtain ⟨x1, e1, _, w1⟩ := DataW.trod_int Try.underlying3 g1
      obtain ⟨x2, e2, _, w2⟩ := DataW.trod_int Try.underlying3 g2
      obtain ⟨x3, l3, e3, s3, b3⟩ := open_ints g3 (fun m hm => hw m (DataW.weights_mem_each (j := 3) (t := 34) (d := y3.1) rfl rfl m hm))
      simp at e0 e1 e2 e3
      subst e0 e1 e2 e3
      exact ⟨⟨c0, l0, x1, x2, c3, l3⟩, rfl, s0, b0, s3, b3, a0⟩
set_option maxRecDepth 100000 in
theorem open_blocks {W : World} {fuel : Nat} {cs : List Value} {x : DataW H × List MemPlace} (h : DataW.trod enc Try.prog W 0 (fun _ => true) true fuel 47 cs = some x) (hw : ∀ m ∈ x.1.weights Try.prog 47, m ≤ reachBytes) :
    ∃ (v : Value) (l : List Bl), cs = [v] ∧ Src Bl.cells W v l ∧ (∀ m ∈ l, Bl.ok W m) ∧ l.length * 64 ≤ big :=
  open_list (⟨.slice none 0 0, [], 0, 0, .slice none 0 0, []⟩ : Bl) bl4 (by decide) Try.underlying47 cells54 bytes54 (fun h hw => open_bl h hw) h hw
set_option maxRecDepth 100000 in
theorem open_fn {W : World} {fuel : Nat} {cs : List Value} {x : DataW H × List MemPlace} (h : DataW.trod enc Try.prog W 0 (fun _ => true) true fuel 49 cs = some x) (hw : ∀ m ∈ x.1.weights Try.prog 49, m ≤ reachBytes) :
    ∃ m : Fn, cs = m.cells ∧ Fn.ok W m := by
  obtain ⟨xs, n, hf, hx, hl, hlen, hg⟩ := DataW.trod_struct Try.underlying49 h
  rw [cells49] at hl
  match cs, hl with
  | [c0, c1, c2, c3, c4], _ =>
    match xs, hlen with
    | [y0, y1, y2, y3, y4], _ =>
      have g0 := hg 0 _ rfl
      have g1 := hg 1 _ rfl
      have g2 := hg 2 _ rfl
      have g3 := hg 3 _ rfl
      have g4 := hg 4 _ rfl
      simp [cells3, cells9, cells47] at g0 g1 g2 g3 g4
      rw [hx] at hw
      simp only [DataW.weights, Try.underlying49] at hw
      obtain ⟨x0, e0, f0, w0⟩ := DataW.trod_string Try.underlying9 g0
      have s0 := hw x0.size (DataW.weights_mem_each (j := 0) (t := 9) (d := y0.1) rfl rfl _ (by rw [f0]; simp [DataW.weights]))
      obtain ⟨x1, e1, _, w1⟩ := DataW.trod_int Try.underlying3 g1
      obtain ⟨x2, e2, _, w2⟩ := DataW.trod_int Try.underlying3 g2
      obtain ⟨x3, e3, _, w3⟩ := DataW.trod_int Try.underlying3 g3
      obtain ⟨x4, l4, e4, s4, a4, b4⟩ := open_blocks g4 (fun m hm => hw m (DataW.weights_mem_each (j := 4) (t := 47) (d := y4.1) rfl rfl m hm))
      simp at e0 e1 e2 e3 e4
      subst e0 e1 e2 e3 e4
      exact ⟨⟨x0, x1, x2, x3, c4, l4⟩, rfl, s4, b4, s0, a4⟩
set_option maxRecDepth 100000 in
theorem open_funcs {W : World} {fuel : Nat} {cs : List Value} {x : DataW H × List MemPlace} (h : DataW.trod enc Try.prog W 0 (fun _ => true) true fuel 22 cs = some x) (hw : ∀ m ∈ x.1.weights Try.prog 22, m ≤ reachBytes) :
    ∃ (v : Value) (l : List Fn), cs = [v] ∧ Src Fn.cells W v l ∧ (∀ m ∈ l, Fn.ok W m) ∧ l.length * 64 ≤ big :=
  open_list (⟨⟨#[]⟩, 0, 0, 0, .slice none 0 0, []⟩ : Fn) fn5 (by decide) Try.underlying22 cells49 bytes49 (fun h hw => open_fn h hw) h hw
set_option maxRecDepth 100000 in
theorem open_fi {W : World} {fuel : Nat} {cs : List Value} {x : DataW H × List MemPlace} (h : DataW.trod enc Try.prog W 0 (fun _ => true) true fuel 78 cs = some x) (hw : ∀ m ∈ x.1.weights Try.prog 78, m ≤ reachBytes) :
    ∃ m : Fi, cs = m.cells ∧ m.by_.size ≤ big := by
  obtain ⟨xs, n, hf, hx, hl, hlen, hg⟩ := DataW.trod_struct Try.underlying78 h
  rw [cells78] at hl
  match cs, hl with
  | [c0, c1], _ =>
    match xs, hlen with
    | [y0, y1], _ =>
      have g0 := hg 0 _ rfl
      have g1 := hg 1 _ rfl
      simp [cells3, cells9] at g0 g1
      rw [hx] at hw
      simp only [DataW.weights, Try.underlying78] at hw
      obtain ⟨x0, e0, _, w0⟩ := DataW.trod_int Try.underlying3 g0
      obtain ⟨x1, e1, f1, w1⟩ := DataW.trod_string Try.underlying9 g1
      have s1 := hw x1.size (DataW.weights_mem_each (j := 1) (t := 9) (d := y1.1) rfl rfl _ (by rw [f1]; simp [DataW.weights]))
      simp at e0 e1
      subst e0 e1
      exact ⟨⟨x0, x1⟩, rfl, s1⟩
set_option maxRecDepth 100000 in
theorem open_data {W : World} {fuel : Nat} {cs : List Value} {x : DataW H × List MemPlace} (h : DataW.trod enc Try.prog W 0 (fun _ => true) true fuel 23 cs = some x) (hw : ∀ m ∈ x.1.weights Try.prog 23, m ≤ reachBytes) :
    ∃ (v : Value) (l : List Fi), cs = [v] ∧ Src Fi.cells W v l ∧ (∀ m ∈ l, m.by_.size ≤ big) ∧ l.length * 24 ≤ big :=
  open_list (⟨0, ⟨#[]⟩⟩ : Fi) fi2 (by decide) Try.underlying23 cells78 bytes78 (fun h hw => open_fi h hw) h hw
set_option maxRecDepth 100000 in
theorem open_pg {W : World} {fuel : Nat} {cs : List Value} {x : DataW H × List MemPlace} (h : DataW.trod enc Try.prog W 0 (fun _ => true) true fuel 25 cs = some x) (hw : ∀ m ∈ x.1.weights Try.prog 25, m ≤ reachBytes) :
    ∃ m : Pg, cs = [m.fv, .int .i64 m.global, m.dv, .int .i64 m.main] ∧ Pg.ok W m := by
  obtain ⟨xs, n, hf, hx, hl, hlen, hg⟩ := DataW.trod_struct Try.underlying25 h
  rw [cells25] at hl
  match cs, hl with
  | [c0, c1, c2, c3], _ =>
    match xs, hlen with
    | [y0, y1, y2, y3], _ =>
      have g0 := hg 0 _ rfl
      have g1 := hg 1 _ rfl
      have g2 := hg 2 _ rfl
      have g3 := hg 3 _ rfl
      simp [cells3, cells22, cells23] at g0 g1 g2 g3
      rw [hx] at hw
      simp only [DataW.weights, Try.underlying25] at hw
      obtain ⟨x0, l0, e0, s0, a0, b0⟩ := open_funcs g0 (fun m hm => hw m (DataW.weights_mem_each (j := 0) (t := 22) (d := y0.1) rfl rfl m hm))
      obtain ⟨x1, e1, _, w1⟩ := DataW.trod_int Try.underlying3 g1
      obtain ⟨x2, l2, e2, s2, a2, b2⟩ := open_data g2 (fun m hm => hw m (DataW.weights_mem_each (j := 2) (t := 23) (d := y2.1) rfl rfl m hm))
      obtain ⟨x3, e3, _, w3⟩ := DataW.trod_int Try.underlying3 g3
      simp at e0 e1 e2 e3
      subst e0 e1 e2 e3
      exact ⟨⟨c0, l0, x1, c2, l2, x3⟩, rfl, s0, b0, s2, b2, a0, a2⟩
set_option maxRecDepth 100000 in
theorem open_pgV {W : World} {b0 : Nat} {r : Reach} {v : Value} {d : DataW H} {p : List MemPlace} (hv : Value.okWide Try.prog W r b0 25 v) (h : DataW.Trod enc Try.prog W 0 (fun _ => true) true 25 v d p) (hw : ∀ m ∈ d.weights Try.prog 25, m ≤ reachBytes) : ∃ m : Pg, v = m.val ∧ Pg.ok W m := by
  obtain ⟨cs, rfl, hsz⟩ := okWide_struct Try.underlying25 hv
  obtain ⟨l⟩ := cs
  obtain ⟨fuel, hf⟩ := h
  obtain ⟨m, e, ho⟩ := open_pg hf hw
  simp [Value.cells] at e
  exact ⟨m, by rw [e]; rfl, ho⟩
/-- What is to be shown behind the call of a law: it answered what it must, the arguments read as they did, and old memory is as it was. -/
theorem post_kept {P : Program} {f : Func} {s : ChangeSpec} {W W' : World} {args : Array Value} {v : Value} {ds gs : List (DataW H)} {ps pa : List MemPlace}
    (hW : DataW.Whole enc P f.params.toList s.vars false W args.toList ds gs ps)
    (hres : ∀ (b : Nat) (sp : Nat → Bool) (hd : Bool), DataW.TrodAll enc P W' b sp hd f.resultTypes.toList (v.resultList f.resultTypes.size) (s.fn H (ds ++ gs)).results [])
    (hargs : DataW.TrodAll enc P W' 0 (fun b => decide (b < W.heap.size)) true f.params.toList args.toList (s.fn H (ds ++ gs)).args pa)
    (hvars : ∀ sp : Nat → Bool, DataW.TrodVars enc P W' sp s.vars (s.fn H (ds ++ gs)).vars [])
    (hb : Below W.heap.size W W') :
    s.post enc P f false true false false W args v W' :=
  ⟨_, _, _, [], pa, [], hW, hres _ _ _, hargs, hvars _, hb.frame _, fun h => by cases h⟩
end
end Go.Proofs.Ytiehlkhpblldaaa

namespace Go.Proofs.Ytiehlkhpblldaaa
open Go.ChangeShapes Go.WideShapes Go.ChangeAt Go.RowKit
section
variable {H : Type} {enc : TypeId × Value → H}
end
end Go.Proofs.Ytiehlkhpblldaaa
namespace Go.Proofs.Ytiehlkhpblldaaa
open Go.ChangeShapes Go.WideShapes Go.ChangeAt Go.RowKit
variable {H : Type} {enc : TypeId × Value → H}
theorem cells36 : Try.prog.cellsOf 36 = 5 := by kernel_rfl
set_option maxRecDepth 100000 in
theorem open_asked {W : World} {b0 : Nat} {r : Reach} {v : Value} {d : DataW H} {p : List MemPlace}
    (hv : Value.okWide Try.prog W r b0 36 v) (h : DataW.Trod enc Try.prog W 0 (fun _ => true) true 36 v d p) (hw : ∀ m ∈ d.weights Try.prog 36, m ≤ reachBytes) :
    ∃ (x0 x1 x2 : Int) (sv : Value) (sl : List Int) (x4 : Int), v = .agg #[.int .i64 x0, .int .i64 x1, .int .i64 x2, sv, .int .i64 x4] ∧ Src icell W sv sl ∧ sl.length * 8 ≤ big := by
  obtain ⟨cs, rfl, hsz⟩ := okWide_struct Try.underlying36 hv
  obtain ⟨l⟩ := cs
  have hsz : l.length = 5 := hsz.trans cells36
  obtain ⟨fuel, hf⟩ := h
  obtain ⟨xs, n, _, hx, hl, hlen, hg⟩ := DataW.trod_struct Try.underlying36 hf
  match l, hsz with
  | [c0, c1, c2, c3, c4], _ =>
    match xs, hlen with
    | [y0, y1, y2, y3, y4], _ =>
      have g0 := hg 0 _ rfl
      have g1 := hg 1 _ rfl
      have g2 := hg 2 _ rfl
      have g3 := hg 3 _ rfl
      have g4 := hg 4 _ rfl
      simp [Value.cells, cells3, cells34] at g0 g1 g2 g3 g4
      have hx1 := congrArg Prod.fst hx
      simp only at hx1
      rw [hx1] at hw
      simp only [DataW.weights, Try.underlying36] at hw
      obtain ⟨x0, e0, _, w0⟩ := DataW.trod_int Try.underlying3 g0
      obtain ⟨x1, e1, _, w1⟩ := DataW.trod_int Try.underlying3 g1
      obtain ⟨x2, e2, _, w2⟩ := DataW.trod_int Try.underlying3 g2
      obtain ⟨x3, l3, e3, s3, b3⟩ := open_ints g3 (fun m hm => hw m (DataW.weights_mem_each (j := 3) (t := 34) (d := y3.1) rfl rfl m hm))
      obtain ⟨x4, e4, _, w4⟩ := DataW.trod_int Try.underlying3 g4
      simp at e0 e1 e2 e3 e4
      subst e0 e1 e2 e3 e4
      exact ⟨x0, x1, x2, c3, l3, x4, rfl, s3, b3⟩
end Go.Proofs.Ytiehlkhpblldaaa
