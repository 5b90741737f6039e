/- What came in: instructions, blocks, functions, programs; what a law must show behind its call. -/
import Derived.Test.YtgkaeoieclegjaaBase
import Derived.Test.YtgkaeoieclegjaaRows
import Derived.Deep.Slices
import Derived.WalkKit
import Derived.ProofKit
import Derived.OpenShut
import Derived.HandedShaped
namespace Go.Proofs.Ytgkaeoieclegjaa
open Go.ChangeShapes Go.WideShapes Go.ChangeAt Go.RowKit
set_option linter.unusedVariables false
set_option linter.unusedSimpArgs false

theorem own : ownKnob Try.prog.godebug = none := by kernel_rfl
theorem laidOut : laidOutB Try.prog = true := by kernel_rfl
theorem cells3 : Try.prog.cellsOf 3 = 1 := by kernel_rfl
theorem cells21 : Try.prog.cellsOf 21 = 1 := by kernel_rfl
theorem cells9 : Try.prog.cellsOf 9 = 1 := by kernel_rfl
theorem cells26 : Try.prog.cellsOf 26 = 1 := by kernel_rfl
theorem cells43 : Try.prog.cellsOf 43 = 1 := by kernel_rfl
theorem cells22 : Try.prog.cellsOf 22 = 1 := by kernel_rfl
theorem cells71 : Try.prog.cellsOf 71 = 7 := by kernel_rfl
theorem cells45 : Try.prog.cellsOf 45 = 4 := by kernel_rfl
theorem cells24 : Try.prog.cellsOf 24 = 5 := by kernel_rfl
theorem bytes3 : Try.prog.bytesOf 3 = 8 := by kernel_rfl
theorem bytes71 : Try.prog.bytesOf 71 = 88 := by kernel_rfl
theorem bytes45 : Try.prog.bytesOf 45 = 64 := by kernel_rfl
theorem bytes24 : Try.prog.bytesOf 24 = 64 := by kernel_rfl

section
variable {H : Type} {enc : TypeId × Value → H}
theorem weights_all {P : Program} {e : TypeId} : ∀ {ds : List (DataW H)} {d : DataW H}, d ∈ ds → ∀ n ∈ d.weights P e, n ∈ DataW.weightsAll P e ds
  | x :: ds, d, h, n, hn => by
    rw [DataW.weightsAll, List.mem_append]
    rcases List.mem_cons.1 h with rfl | h
    · exact .inl hn
    · exact .inr (weights_all h n hn)


/-- A slice of such things. -/
theorem open_list {α : Type} {f : α → List Value} {z st et bytes : Nat} {W : World} {p : α → Prop} (dflt : α) (hz : ∀ x, (f x).length = z) (hzp : 0 < z) (hst : Try.prog.underlying st = some (.slice et)) (hce : Try.prog.cellsOf et = z) (hby : Try.prog.bytesOf et = bytes)
    (hel : ∀ {fuel : Nat} {cs : List Value} {x : DataW H × List MemPlace}, DataW.trod enc Try.prog W 0 (fun _ => true) true fuel et cs = some x → (∀ m ∈ x.1.weights Try.prog et, m ≤ reachBytes) → ∃ m : α, cs = f m ∧ p m)
    {fuel : Nat} {cs : List Value} {x : DataW H × List MemPlace} (hf : DataW.trod enc Try.prog W 0 (fun _ => true) true fuel st cs = some x) (hw : ∀ m ∈ x.1.weights Try.prog st, m ≤ reachBytes) :
    ∃ (v : Value) (l : List α), cs = [v] ∧ Src f W v l ∧ (∀ m ∈ l, p m) ∧ l.length * bytes ≤ big := by
  haveI : Inhabited α := ⟨dflt⟩
  rcases Deep.open_slice hst hf with ⟨hcs, hx0⟩ | ⟨a, len0, cap0, m, n, D, Pl, hcs, _, hl, hm, hmm, hxx, hx⟩
  · exact ⟨_, [], hcs, .inl ⟨rfl, _, _, rfl⟩, by simp, by simp⟩
  · simp only [if_true] at hmm
    subst hmm
    rw [hce] at hx
    rw [hxx] at hw
    simp only [DataW.weights, hst, hby] at hw
    have hlen := hw _ (List.mem_cons_self ..)
    simp at hlen
    have hb1 : len0 * bytes ≤ big := Nat.le_trans (Nat.mul_le_mul_right _ (by omega : len0 ≤ len0 + (m - len0))) hlen
    have hwe : ∀ i, i < len0 → ∀ k ∈ (D i).weights Try.prog et, k ≤ reachBytes := fun i hi k hk =>
      hw k (List.mem_cons_of_mem _ (List.mem_append.2 (.inl (weights_all (List.mem_map.2 ⟨i, List.mem_range.2 hi, rfl⟩) k hk))))
    by_cases hl0 : len0 = 0
    · subst hl0
      exact ⟨_, [], hcs, .inl ⟨rfl, _, _, rfl⟩, by simp, by simp⟩
    · obtain ⟨V, hV⟩ := Deep.choose_lt (α := α) (n := len0) (p := fun i x => (∀ c, c < z → W.cell? (a.add (i * z + c)) = (f x)[c]?) ∧ p x) (fun i hi => by
        obtain ⟨cs', h1, h2⟩ := hx i (by omega)
        obtain ⟨_, hlen', hcell⟩ := World.cells?_some h1
        obtain ⟨y, rfl, hp⟩ := hel h2 (hwe i hi)
        refine ⟨y, fun c hc => ?_, hp⟩
        have := hcell c (by omega)
        rw [Deep.add_add] at this
        simpa using this)
      obtain ⟨b, off, spot⟩ := a
      have h00 := (hV 0 (by omega)).1 0 hzp
      have hff : (f (V 0))[0]? = some ((f (V 0))[0]'(by rw [hz]; exact hzp)) := List.getElem?_eq_getElem _
      rw [hff] at h00
      have hspot : spot = none := by simpa [Addr.add] using World.cell?_spot h00
      subst hspot
      have hadd : ∀ k, (⟨b, off, none⟩ : Addr).add k = ⟨b, off + k, none⟩ := fun k => by unfold Addr.add; split <;> simp_all
      have hbW : b < W.heap.size := by
        rw [hadd] at h00
        exact World.block_lt_of_cell? W _ h00
      refine ⟨_, (List.range len0).map V, hcs, .inr ⟨b, off, m, by simp, hbW, by simpa using hl, fun j u hj => ?_⟩, fun l hl' => ?_, by simpa using hb1⟩
      · have hj7 := (List.getElem?_eq_some_iff.1 hj).1
        rw [flat_length hz] at hj7
        simp at hj7
        have hdiv : j / z < len0 := Nat.div_lt_of_lt_mul (by rw [Nat.mul_comm]; exact hj7)
        have hmod : j % z < z := Nat.mod_lt _ hzp
        have e : j = j / z * z + j % z := by rw [Nat.mul_comm]; exact (Nat.div_add_mod j z).symm
        rw [e, flat_get hz _ (j / z) (j % z) (by simpa using hdiv) hmod] at hj
        simp at hj
        have h7 := (hV (j / z) hdiv).1 (j % z) hmod
        rw [hadd, ← e] at h7
        rw [h7]
        exact hj
      · obtain ⟨i, hi, rfl⟩ := List.mem_map.1 hl'
        exact (hV i (by simpa using hi)).2
theorem open_ints {W : World} {fuel : Nat} {cs : List Value} {x : DataW H × List MemPlace} (h : DataW.trod enc Try.prog W 0 (fun _ => true) true fuel 26 cs = some x) (hw : ∀ m ∈ x.1.weights Try.prog 26, m ≤ reachBytes) :
    ∃ (v : Value) (l : List Int), cs = [v] ∧ Src icell W v l ∧ l.length * 8 ≤ big := by
  obtain ⟨v, l, h1, h2, _, h3⟩ := open_list (p := fun _ => True) (f := icell) 0 ic1 (by decide) Try.underlying26 cells3 bytes3 (fun h _ => by obtain ⟨n, e, _⟩ := DataW.trod_int Try.underlying3 h; exact ⟨n, e, trivial⟩) h hw
  exact ⟨v, l, h1, h2, h3⟩
theorem open_in {W : World} {fuel : Nat} {cs : List Value} {x : DataW H × List MemPlace} (h : DataW.trod enc Try.prog W 0 (fun _ => true) true fuel 71 cs = some x) (hw : ∀ m ∈ x.1.weights Try.prog 71, m ≤ reachBytes) :
    ∃ m : In, cs = m.cells ∧ In.ok W m := by
  obtain ⟨xs, n, hf, hx, hl, hlen, hg⟩ := DataW.trod_struct Try.underlying71 h
  rw [cells71] at hl
  match cs, hl with
  | [c0, c1, c2, c3, c4, c5, c6], _ =>
    match xs, hlen with
    | [y0, y1, y2, y3, y4, y5, y6], _ =>
      have g0 := hg 0 _ rfl
      have g1 := hg 1 _ rfl
      have g2 := hg 2 _ rfl
      have g3 := hg 3 _ rfl
      have g4 := hg 4 _ rfl
      have g5 := hg 5 _ rfl
      have g6 := hg 6 _ rfl
      simp [cells3, cells21, cells26] at g0 g1 g2 g3 g4 g5 g6
      rw [hx] at hw
      simp only [DataW.weights, Try.underlying71] at hw
      obtain ⟨x0, e0, _, w0⟩ := DataW.trod_int Try.underlying3 g0
      obtain ⟨x1, e1, _, w1⟩ := DataW.trod_int Try.underlying3 g1
      obtain ⟨x2, l2, e2, s2, b2⟩ := open_ints g2 (fun m hm => hw m (DataW.weights_mem_each (j := 2) (t := 26) (d := y2.1) rfl rfl m hm))
      obtain ⟨x3, e3, _, w3⟩ := DataW.trod_int Try.underlying21 g3
      obtain ⟨x4, e4, _, w4⟩ := DataW.trod_int Try.underlying3 g4
      obtain ⟨x5, e5, _, w5⟩ := DataW.trod_int Try.underlying3 g5
      obtain ⟨x6, l6, e6, s6, b6⟩ := open_ints g6 (fun m hm => hw m (DataW.weights_mem_each (j := 6) (t := 26) (d := y6.1) rfl rfl m hm))
      simp at e0 e1 e2 e3 e4 e5 e6
      subst e0 e1 e2 e3 e4 e5 e6
      exact ⟨⟨x0, x1, c2, l2, x3, x4, x5, c6, l6⟩, rfl, s2, b2, s6, b6, bounds_i32 w3⟩
theorem open_code {W : World} {fuel : Nat} {cs : List Value} {x : DataW H × List MemPlace} (h : DataW.trod enc Try.prog W 0 (fun _ => true) true fuel 43 cs = some x) (hw : ∀ m ∈ x.1.weights Try.prog 43, m ≤ reachBytes) :
    ∃ (v : Value) (l : List In), cs = [v] ∧ Src In.cells W v l ∧ (∀ m ∈ l, In.ok W m) ∧ l.length * 88 ≤ big :=
  open_list (⟨0, 0, .slice none 0 0, [], 0, 0, 0, .slice none 0 0, []⟩ : In) in7 (by decide) Try.underlying43 cells71 bytes71 (fun h hw => open_in h hw) h hw
theorem open_bl {W : World} {fuel : Nat} {cs : List Value} {x : DataW H × List MemPlace} (h : DataW.trod enc Try.prog W 0 (fun _ => true) true fuel 45 cs = some x) (hw : ∀ m ∈ x.1.weights Try.prog 45, m ≤ reachBytes) :
    ∃ m : Bl, cs = m.cells ∧ Bl.ok W m := by
  obtain ⟨xs, n, hf, hx, hl, hlen, hg⟩ := DataW.trod_struct Try.underlying45 h
  rw [cells45] at hl
  match cs, hl with
  | [c0, c1, c2, c3], _ =>
    match xs, hlen with
    | [y0, y1, y2, y3], _ =>
      have g0 := hg 0 _ rfl
      have g1 := hg 1 _ rfl
      have g2 := hg 2 _ rfl
      have g3 := hg 3 _ rfl
      simp [cells3, cells26, cells43] at g0 g1 g2 g3
      rw [hx] at hw
      simp only [DataW.weights, Try.underlying45] at hw
      obtain ⟨x0, l0, e0, s0, a0, b0⟩ := open_code g0 (fun m hm => hw m (DataW.weights_mem_each (j := 0) (t := 43) (d := y0.1) rfl rfl m hm))
      obtain ⟨x1, e1, _, w1⟩ := DataW.trod_int Try.underlying3 g1
      obtain ⟨x2, e2, _, w2⟩ := DataW.trod_int Try.underlying3 g2
      obtain ⟨x3, l3, e3, s3, b3⟩ := open_ints g3 (fun m hm => hw m (DataW.weights_mem_each (j := 3) (t := 26) (d := y3.1) rfl rfl m hm))
      simp at e0 e1 e2 e3
      subst e0 e1 e2 e3
      exact ⟨⟨c0, l0, x1, x2, c3, l3⟩, rfl, s0, b0, s3, b3, a0⟩
theorem open_blocks {W : World} {fuel : Nat} {cs : List Value} {x : DataW H × List MemPlace} (h : DataW.trod enc Try.prog W 0 (fun _ => true) true fuel 22 cs = some x) (hw : ∀ m ∈ x.1.weights Try.prog 22, m ≤ reachBytes) :
    ∃ (v : Value) (l : List Bl), cs = [v] ∧ Src Bl.cells W v l ∧ (∀ m ∈ l, Bl.ok W m) ∧ l.length * 64 ≤ big :=
  open_list (⟨.slice none 0 0, [], 0, 0, .slice none 0 0, []⟩ : Bl) bl4 (by decide) Try.underlying22 cells45 bytes45 (fun h hw => open_bl h hw) h hw
theorem open_fn {W : World} {fuel : Nat} {cs : List Value} {x : DataW H × List MemPlace} (h : DataW.trod enc Try.prog W 0 (fun _ => true) true fuel 24 cs = some x) (hw : ∀ m ∈ x.1.weights Try.prog 24, m ≤ reachBytes) :
    ∃ m : Fn, cs = m.cells ∧ Fn.ok W m := by
  obtain ⟨xs, n, hf, hx, hl, hlen, hg⟩ := DataW.trod_struct Try.underlying24 h
  rw [cells24] at hl
  match cs, hl with
  | [c0, c1, c2, c3, c4], _ =>
    match xs, hlen with
    | [y0, y1, y2, y3, y4], _ =>
      have g0 := hg 0 _ rfl
      have g1 := hg 1 _ rfl
      have g2 := hg 2 _ rfl
      have g3 := hg 3 _ rfl
      have g4 := hg 4 _ rfl
      simp [cells3, cells9, cells22] at g0 g1 g2 g3 g4
      rw [hx] at hw
      simp only [DataW.weights, Try.underlying24] at hw
      obtain ⟨x0, e0, f0, w0⟩ := DataW.trod_string Try.underlying9 g0
      have s0 := hw x0.size (DataW.weights_mem_each (j := 0) (t := 9) (d := y0.1) rfl rfl _ (by rw [f0]; simp [DataW.weights]))
      obtain ⟨x1, e1, _, w1⟩ := DataW.trod_int Try.underlying3 g1
      obtain ⟨x2, e2, _, w2⟩ := DataW.trod_int Try.underlying3 g2
      obtain ⟨x3, e3, _, w3⟩ := DataW.trod_int Try.underlying3 g3
      obtain ⟨x4, l4, e4, s4, a4, b4⟩ := open_blocks g4 (fun m hm => hw m (DataW.weights_mem_each (j := 4) (t := 22) (d := y4.1) rfl rfl m hm))
      simp at e0 e1 e2 e3 e4
      subst e0 e1 e2 e3 e4
      exact ⟨⟨x0, x1, x2, x3, c4, l4⟩, rfl, s4, b4, s0, a4⟩
theorem open_inV {W : World} {b0 : Nat} {r : Reach} {v : Value} {d : DataW H} {p : List MemPlace} (hv : Value.okWide Try.prog W r b0 71 v) (h : DataW.Trod enc Try.prog W 0 (fun _ => true) true 71 v d p) (hw : ∀ m ∈ d.weights Try.prog 71, m ≤ reachBytes) : ∃ m : In, v = m.val ∧ In.ok W m := by
  obtain ⟨cs, rfl, hsz⟩ := okWide_struct Try.underlying71 hv
  obtain ⟨l⟩ := cs
  obtain ⟨fuel, hf⟩ := h
  obtain ⟨m, e, ho⟩ := open_in hf hw
  simp [Value.cells] at e
  exact ⟨m, by rw [e]; rfl, ho⟩
theorem open_fnV {W : World} {b0 : Nat} {r : Reach} {v : Value} {d : DataW H} {p : List MemPlace} (hv : Value.okWide Try.prog W r b0 24 v) (h : DataW.Trod enc Try.prog W 0 (fun _ => true) true 24 v d p) (hw : ∀ m ∈ d.weights Try.prog 24, m ≤ reachBytes) : ∃ m : Fn, v = m.val ∧ Fn.ok W m := by
  obtain ⟨cs, rfl, hsz⟩ := okWide_struct Try.underlying24 hv
  obtain ⟨l⟩ := cs
  obtain ⟨fuel, hf⟩ := h
  obtain ⟨m, e, ho⟩ := open_fn hf hw
  simp [Value.cells] at e
  exact ⟨m, by rw [e]; rfl, ho⟩
/-- What is to be shown behind the call of a law: it answered what it must, the arguments read as they did, and old memory is as it was. -/
theorem post_kept {P : Program} {f : Func} {s : ChangeSpec} {W W' : World} {args : Array Value} {v : Value} {ds gs : List (DataW H)} {ps pa : List MemPlace}
    (hW : DataW.Whole enc P f.params.toList s.vars false W args.toList ds gs ps)
    (hres : ∀ (b : Nat) (sp : Nat → Bool) (hd : Bool), DataW.TrodAll enc P W' b sp hd f.resultTypes.toList (v.resultList f.resultTypes.size) (s.fn H (ds ++ gs)).results [])
    (hargs : DataW.TrodAll enc P W' 0 (fun b => decide (b < W.heap.size)) true f.params.toList args.toList (s.fn H (ds ++ gs)).args pa)
    (hvars : ∀ sp : Nat → Bool, DataW.TrodVars enc P W' sp s.vars (s.fn H (ds ++ gs)).vars [])
    (hb : Below W.heap.size W W') :
    s.post enc P f false true false false W args v W' :=
  ⟨_, _, _, [], pa, [], hW, hres _ _ _, hargs, hvars _, hb.frame _, fun h => by cases h⟩
end
end Go.Proofs.Ytgkaeoieclegjaa
