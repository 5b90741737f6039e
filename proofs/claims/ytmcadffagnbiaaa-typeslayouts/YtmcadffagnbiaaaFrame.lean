/- Types, records, members and variables that came in; what a law must show behind its call. -/
import Derived.Test.YtmcadffagnbiaaaLst
import Derived.Test.YtmcadffagnbiaaaRows
import Derived.Deep.Slices
import Derived.WalkKit
import Derived.ProofKit
import Derived.OpenShut
import Derived.HandedShaped
namespace Go.Proofs.Ytmcadffagnbiaaa
open Go.ChangeShapes Go.WideShapes Go.ChangeAt Go.RowKit
set_option linter.unusedVariables false
set_option linter.unusedSimpArgs false

theorem own : ownKnob Try.prog.godebug = none := by kernel_rfl
theorem laidOut : laidOutB Try.prog = true := by kernel_rfl
theorem cells23 : Try.prog.cellsOf 23 = 4 := by kernel_rfl
theorem cells37 : Try.prog.cellsOf 37 = 3 := by kernel_rfl
theorem cells35 : Try.prog.cellsOf 35 = 1 := by kernel_rfl
theorem cells49 : Try.prog.cellsOf 49 = 6 := by kernel_rfl
theorem cells47 : Try.prog.cellsOf 47 = 6 := by kernel_rfl
theorem cellsI3 : Try.prog.cellsOf 3 = 1 := by kernel_rfl
theorem cells9 : Try.prog.cellsOf 9 = 1 := by kernel_rfl
theorem bytes37 : Try.prog.bytesOf 37 = 48 := by kernel_rfl
theorem bytes49 : Try.prog.bytesOf 49 = 56 := by kernel_rfl
theorem bytes47 : Try.prog.bytesOf 47 = 56 := by kernel_rfl

section
variable {H : Type} {enc : TypeId × Value → H}

theorem weights_all {P : Program} {e : TypeId} : ∀ {ds : List (DataW H)} {d : DataW H}, d ∈ ds → ∀ n ∈ d.weights P e, n ∈ DataW.weightsAll P e ds
  | x :: ds, d, h, n, hn => by
    rw [DataW.weightsAll, List.mem_append]
    rcases List.mem_cons.1 h with rfl | h
    · exact .inl hn
    · exact .inr (weights_all h n hn)

/-- A type's four cells. -/
theorem open_ty4 {W : World} {base : Nat} {sp : Nat → Bool} {held : Bool} {fuel : Nat} {cs : List Value} {x : DataW H × List MemPlace} (h : DataW.trod enc Try.prog W base sp held fuel 23 cs = some x) :
    ∃ t : Ty, cs = [.int .i64 t.k, .int .i64 t.e, .int .i64 t.n, .int .i64 t.s] := by
  obtain ⟨xs, n, hf, hx, hl, hlen, hg⟩ := DataW.trod_struct Try.underlying23 h
  rw [cells23] at hl
  match cs, hl with
  | [c0, c1, c2, c3], _ =>
    match xs, hlen with
    | [y0, y1, y2, y3], _ =>
      have g0 := hg 0 _ rfl
      have g1 := hg 1 _ rfl
      have g2 := hg 2 _ rfl
      have g3 := hg 3 _ rfl
      simp [cellsI3] at g0 g1 g2 g3
      obtain ⟨x0, e0, _, w0⟩ := DataW.trod_int Try.underlying3 g0
      obtain ⟨x1, e1, _, w1⟩ := DataW.trod_int Try.underlying3 g1
      obtain ⟨x2, e2, _, w2⟩ := DataW.trod_int Try.underlying3 g2
      obtain ⟨x3, e3, _, w3⟩ := DataW.trod_int Try.underlying3 g3
      simp at e0 e1 e2 e3
      subst e0 e1 e2 e3
      exact ⟨⟨x0, x1, x2, x3⟩, rfl⟩
theorem open_ty {W : World} {b0 : Nat} {r : Reach} {v : Value} {d : DataW H} {sp : Nat → Bool} {held : Bool} {p : List MemPlace} (hv : Value.okWide Try.prog W r b0 23 v) (h : DataW.Trod enc Try.prog W 0 sp held 23 v d p) : ∃ t : Ty, v = t.val := by
  obtain ⟨cs, rfl, hsz⟩ := okWide_struct Try.underlying23 hv
  obtain ⟨l⟩ := cs
  obtain ⟨fuel, hf⟩ := h
  obtain ⟨t, e⟩ := open_ty4 hf
  simp [Value.cells] at e
  exact ⟨t, by rw [e]; rfl⟩

/-- A record's three cells. -/
theorem open_rc {W : World} {base : Nat} {sp : Nat → Bool} {held : Bool} {fuel : Nat} {cs : List Value} {x : DataW H × List MemPlace} (h : DataW.trod enc Try.prog W base sp held fuel 37 cs = some x) : ∃ r : Rc, cs = r.cells := by
  obtain ⟨xs, n, hf, hx, hl, hlen, hg⟩ := DataW.trod_struct Try.underlying37 h
  rw [cells37] at hl
  match cs, hl with
  | [c0, c1, c2], _ =>
    match xs, hlen with
    | [y0, y1, y2], _ =>
      have g0 := hg 0 _ rfl
      have g1 := hg 1 _ rfl
      have g2 := hg 2 _ rfl
      simp [cellsI3, cells9, cells35] at g0 g1 g2
      obtain ⟨x0, e0, _, w0⟩ := DataW.trod_string Try.underlying9 g0
      obtain ⟨x2, e2, _, w2⟩ := DataW.trod_int Try.underlying3 g2
      simp at e0 e2
      subst e0 e2
      rcases Deep.open_slice Try.underlying35 g1 with ⟨hcs, _⟩ | ⟨a, len, cap, m, n, D, Pl, hcs, _⟩
      · simp at hcs
        subst hcs
        exact ⟨⟨x0, none, 0, 0, x2⟩, rfl⟩
      · simp at hcs
        subst hcs
        exact ⟨⟨x0, some a, len, cap, x2⟩, rfl⟩

/-- Six cells: a name, a type, a place. -/
theorem open_mb {et : TypeId} (het : et = 49 ∨ et = 47) {W : World} {base : Nat} {sp : Nat → Bool} {held : Bool} {fuel : Nat} {cs : List Value} {x : DataW H × List MemPlace} (h : DataW.trod enc Try.prog W base sp held fuel et cs = some x) (hw : ∀ m ∈ x.1.weights Try.prog et, m ≤ reachBytes) :
    ∃ m : Mb, cs = m.cells ∧ m.nm.size ≤ 140737488351232 := by
  rcases het with rfl | rfl
  · obtain ⟨xs, n, hf, hx, hl, hlen, hg⟩ := DataW.trod_struct Try.underlying49 h
    rw [cells49] at hl
    match cs, hl with
    | [c0, c1, c2, c3, c4, c5], _ =>
      match xs, hlen with
      | [y0, y1, y2], _ =>
        have g0 := hg 0 _ rfl
        have g1 := hg 1 _ rfl
        have g2 := hg 2 _ rfl
        simp [cellsI3, cells9, cells23] at g0 g1 g2
        obtain ⟨x0, e0, f0, w0⟩ := DataW.trod_string Try.underlying9 g0
        obtain ⟨t, e1⟩ := open_ty4 g1
        obtain ⟨x2, e2, _, w2⟩ := DataW.trod_int Try.underlying3 g2
        simp at e0 e1 e2
        obtain ⟨rfl, rfl, rfl, rfl⟩ := e1
        subst e0 e2
        rw [hx] at hw
        simp only [DataW.weights, Try.underlying49] at hw
        have hs := hw x0.size (DataW.weights_mem_each (j := 0) (t := 9) (d := y0.1) rfl rfl _ (by rw [f0]; simp [DataW.weights]))
        exact ⟨⟨x0, t, x2⟩, rfl, hs⟩
  · obtain ⟨xs, n, hf, hx, hl, hlen, hg⟩ := DataW.trod_struct Try.underlying47 h
    rw [cells47] at hl
    match cs, hl with
    | [c0, c1, c2, c3, c4, c5], _ =>
      match xs, hlen with
      | [y0, y1, y2], _ =>
        have g0 := hg 0 _ rfl
        have g1 := hg 1 _ rfl
        have g2 := hg 2 _ rfl
        simp [cellsI3, cells9, cells23] at g0 g1 g2
        obtain ⟨x0, e0, f0, w0⟩ := DataW.trod_string Try.underlying9 g0
        obtain ⟨t, e1⟩ := open_ty4 g1
        obtain ⟨x2, e2, _, w2⟩ := DataW.trod_int Try.underlying3 g2
        simp at e0 e1 e2
        obtain ⟨rfl, rfl, rfl, rfl⟩ := e1
        subst e0 e2
        rw [hx] at hw
        simp only [DataW.weights, Try.underlying47] at hw
        have hs := hw x0.size (DataW.weights_mem_each (j := 0) (t := 9) (d := y0.1) rfl rfl _ (by rw [f0]; simp [DataW.weights]))
        exact ⟨⟨x0, t, x2⟩, rfl, hs⟩

/-- A slice of such things. -/
theorem open_list {α : Type} [Inhabited α] {f : α → List Value} {z st et bytes : Nat} {p : α → Prop} (hz : ∀ x, (f x).length = z) (hzp : 0 < z) (hst : Try.prog.underlying st = some (.slice et)) (hce : Try.prog.cellsOf et = z) (hby : Try.prog.bytesOf et = bytes)
    (hel : ∀ {W : World} {fuel : Nat} {cs : List Value} {x : DataW H × List MemPlace}, DataW.trod enc Try.prog W 0 (fun _ => true) true fuel et cs = some x → (∀ m ∈ x.1.weights Try.prog et, m ≤ reachBytes) → ∃ m : α, cs = f m ∧ p m)
    {W : World} {b0 : Nat} {r : Reach} {v : Value} {d : DataW H} {pl : List MemPlace} (hv : Value.okWide Try.prog W r b0 st v) (h : DataW.Trod enc Try.prog W 0 (fun _ => true) true st v d pl) (hw : ∀ m ∈ d.weights Try.prog st, m ≤ reachBytes) :
    ∃ l : List α, Src f W v l ∧ (∀ m ∈ l, p m) ∧ l.length * bytes ≤ 140737488351232 := by
  obtain ⟨ao, len0, cap0, rfl⟩ := okWide_slice hst hv
  obtain ⟨fuel, hf⟩ := h
  rcases Deep.open_slice hst hf with ⟨hcs, hx0⟩ | ⟨a, len, cap, m, n, D, Pl, hcs, _, hl, hm, hmm, hxx, hx⟩
  · simp [Value.cells] at hcs
    obtain ⟨rfl, rfl, rfl⟩ := hcs
    exact ⟨[], .inl ⟨rfl, _, _, rfl⟩, by simp, by simp⟩
  · simp [Value.cells] at hcs
    obtain ⟨rfl, rfl, rfl⟩ := hcs
    simp only [if_true] at hmm
    subst hmm
    rw [hce] at hx
    obtain ⟨hd, hpl⟩ := Prod.mk.inj hxx
    rw [hd] at hw
    simp only [DataW.weights, hst, hby] at hw
    have hlen := hw _ (List.mem_cons_self ..)
    simp at hlen
    have hb1 : len0 * bytes ≤ 140737488351232 := Nat.le_trans (Nat.mul_le_mul_right _ (by omega : len0 ≤ len0 + (m - len0))) hlen
    have hwe : ∀ i, i < len0 → ∀ k ∈ (D i).weights Try.prog et, k ≤ reachBytes := fun i hi k hk =>
      hw k (List.mem_cons_of_mem _ (List.mem_append.2 (.inl (weights_all (List.mem_map.2 ⟨i, List.mem_range.2 hi, rfl⟩) k hk))))
    by_cases hl0 : len0 = 0
    · subst hl0
      exact ⟨[], .inl ⟨rfl, _, _, rfl⟩, by simp, by simp⟩
    · obtain ⟨V, hV⟩ := Deep.choose_lt (α := α) (n := len0) (p := fun i x => (∀ c, c < z → W.cell? (a.add (i * z + c)) = (f x)[c]?) ∧ p x) (fun i hi => by
        obtain ⟨cs', h1, h2⟩ := hx i (by omega)
        obtain ⟨_, hlen', hcell⟩ := World.cells?_some h1
        obtain ⟨y, rfl, hp⟩ := hel h2 (hwe i hi)
        refine ⟨y, fun c hc => ?_, hp⟩
        have := hcell c (by omega)
        rw [Deep.add_add] at this
        simpa using this)
      obtain ⟨b, off, spot⟩ := a
      have h00 := (hV 0 (by omega)).1 0 hzp
      have hff : (f (V 0))[0]? = some ((f (V 0))[0]'(by rw [hz]; exact hzp)) := List.getElem?_eq_getElem _
      rw [hff] at h00
      have hspot : spot = none := by simpa [Addr.add] using World.cell?_spot h00
      subst hspot
      have hadd : ∀ k, (⟨b, off, none⟩ : Addr).add k = ⟨b, off + k, none⟩ := fun k => by unfold Addr.add; split <;> simp_all
      have hbW : b < W.heap.size := by
        rw [hadd] at h00
        exact World.block_lt_of_cell? W _ h00
      refine ⟨(List.range len0).map V, .inr ⟨b, off, m, by simp, hbW, by simpa using hl, fun j u hj => ?_⟩, fun l hl' => ?_, by simpa using hb1⟩
      · have hj7 := (List.getElem?_eq_some_iff.1 hj).1
        rw [flat_length hz] at hj7
        simp at hj7
        have hdiv : j / z < len0 := Nat.div_lt_of_lt_mul (by rw [Nat.mul_comm]; exact hj7)
        have hmod : j % z < z := Nat.mod_lt _ hzp
        have e : j = j / z * z + j % z := by rw [Nat.mul_comm]; exact (Nat.div_add_mod j z).symm
        rw [e, flat_get hz _ (j / z) (j % z) (by simpa using hdiv) hmod] at hj
        simp at hj
        have h7 := (hV (j / z) hdiv).1 (j % z) hmod
        rw [hadd, ← e] at h7
        rw [h7]
        exact hj
      · obtain ⟨i, hi, rfl⟩ := List.mem_map.1 hl'
        exact (hV i (by simpa using hi)).2
theorem open_recs {W : World} {b0 : Nat} {r : Reach} {v : Value} {d : DataW H} {pl : List MemPlace} (hv : Value.okWide Try.prog W r b0 24 v) (h : DataW.Trod enc Try.prog W 0 (fun _ => true) true 24 v d pl) (hw : ∀ m ∈ d.weights Try.prog 24, m ≤ reachBytes) :
    ∃ l : List Rc, Src Rc.cells W v l ∧ l.length * 48 ≤ 140737488351232 := by
  haveI : Inhabited Rc := ⟨⟨⟨#[]⟩, none, 0, 0, 0⟩⟩
  obtain ⟨l, h1, _, h2⟩ := open_list (p := fun _ => True) (f := Rc.cells) rc3 (by decide) Try.underlying24 cells37 bytes37 (fun h _ => by obtain ⟨r, e⟩ := open_rc h; exact ⟨r, e, trivial⟩) hv h hw
  exact ⟨l, h1, h2⟩
theorem open_mbs {W : World} {b0 : Nat} {r : Reach} {v : Value} {d : DataW H} {pl : List MemPlace} (hv : Value.okWide Try.prog W r b0 35 v) (h : DataW.Trod enc Try.prog W 0 (fun _ => true) true 35 v d pl) (hw : ∀ m ∈ d.weights Try.prog 35, m ≤ reachBytes) :
    ∃ l : List Mb, Src Mb.cells W v l ∧ (∀ m ∈ l, m.nm.size ≤ 140737488351232) ∧ l.length * 56 ≤ 140737488351232 := by
  haveI : Inhabited Mb := ⟨⟨⟨#[]⟩, ⟨0, 0, 0, 0⟩, 0⟩⟩
  exact open_list (f := Mb.cells) mb6 (by decide) Try.underlying35 cells49 bytes49 (fun h hw => open_mb (.inl rfl) h hw) hv h hw
theorem open_vars {W : World} {b0 : Nat} {r : Reach} {v : Value} {d : DataW H} {pl : List MemPlace} (hv : Value.okWide Try.prog W r b0 43 v) (h : DataW.Trod enc Try.prog W 0 (fun _ => true) true 43 v d pl) (hw : ∀ m ∈ d.weights Try.prog 43, m ≤ reachBytes) :
    ∃ l : List Mb, Src Mb.cells W v l ∧ (∀ m ∈ l, m.nm.size ≤ 140737488351232) ∧ l.length * 56 ≤ 140737488351232 := by
  haveI : Inhabited Mb := ⟨⟨⟨#[]⟩, ⟨0, 0, 0, 0⟩, 0⟩⟩
  exact open_list (f := Mb.cells) mb6 (by decide) Try.underlying43 cells47 bytes47 (fun h hw => open_mb (.inr rfl) h hw) hv h hw

/-- What is to be shown behind the call of a law: it answered what it must, the arguments read as they did, and old memory is as it was. -/
theorem post_kept {P : Program} {f : Func} {s : ChangeSpec} {W W' : World} {args : Array Value} {v : Value} {ds gs : List (DataW H)} {ps pa : List MemPlace}
    (hW : DataW.Whole enc P f.params.toList s.vars false W args.toList ds gs ps)
    (hres : ∀ (b : Nat) (sp : Nat → Bool) (hd : Bool), DataW.TrodAll enc P W' b sp hd f.resultTypes.toList (v.resultList f.resultTypes.size) (s.fn H (ds ++ gs)).results [])
    (hargs : DataW.TrodAll enc P W' 0 (fun b => decide (b < W.heap.size)) true f.params.toList args.toList (s.fn H (ds ++ gs)).args pa)
    (hvars : ∀ sp : Nat → Bool, DataW.TrodVars enc P W' sp s.vars (s.fn H (ds ++ gs)).vars [])
    (hb : Below W.heap.size W W') :
    s.post enc P f false true false false W args v W' :=
  ⟨_, _, _, [], pa, [], hW, hres _ _ _, hargs, hvars _, hb.frame _, fun h => by cases h⟩
end
end Go.Proofs.Ytmcadffagnbiaaa
