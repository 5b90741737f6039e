/- What came in: nodes, edges; the laid table; what a law must show behind its call. -/
import Derived.Test.YtjhndnhldhmjnaaDoorNx
import Derived.Test.YtjhndnhldhmjnaaDoorRows
import Derived.Deep.Slices
import Derived.WalkKit
import Derived.ProofKit
import Derived.OpenShut
import Derived.LaidMore
import Derived.Stop.Joined
import Derived.Handed
import Derived.HandedShaped
import Derived.Lib.LaidTab
import Derived.ChangeSame
namespace Go.Proofs.YtjhndnhldhmjnaaDoor
open Go.ChangeShapes Go.WideShapes Go.ChangeAt Go.RowKit
set_option linter.unusedVariables false
set_option linter.unusedSimpArgs false
theorem own : ownKnob Tryd.prog.godebug = none := by kernel_rfl
theorem laidOut : laidOutB Tryd.prog = true := by kernel_rfl
theorem cells3 : Tryd.prog.cellsOf 3 = 1 := by kernel_rfl
theorem cells29 : Tryd.prog.cellsOf 29 = 1 := by kernel_rfl
theorem cells43 : Tryd.prog.cellsOf 43 = 3 := by kernel_rfl
theorem cells44 : Tryd.prog.cellsOf 44 = 2 := by kernel_rfl
theorem bytes3 : Tryd.prog.bytesOf 3 = 8 := by kernel_rfl
theorem bytes43 : Tryd.prog.bytesOf 43 = 24 := by kernel_rfl
theorem bytes44 : Tryd.prog.bytesOf 44 = 16 := by kernel_rfl
abbrev laidV {H : Type} : List (String × DataW H) := [("math/bits.deBruijn64tab", Rows.laid_math_bits_deBruijn64tab)]
/-- The door's own heap meets the condition. -/
theorem door_met (os : Os) (args : Array Value) : laidMetH Tryd.prog laidV ((World.doorLaid Tryd.prog 4000 os).forCall (fun _ _ => 0) ⟨#[], args, []⟩).memory :=
  laidMetH_of_parts3 (fuel := 8) (laidMet_of_run' 8 (by kernel_rfl) (by kernel_rfl)) (by kernel_rfl) (by kernel_rfl)
theorem gT : Tryd.prog.globalNamed "math/bits.deBruijn64tab" = some 0 := by kernel_rfl
theorem gTType : (Tryd.prog.globals[0]?).map (·.type) = some 85 := by kernel_rfl
theorem laid_eq : (Rows.laid_math_bits_deBruijn64tab : DataW Unit) = Lib.tabData .u8 (Lib.deBruijn64tab.map fun (n : Nat) => (n : Int)) := rfl
/-- The table stands. -/
theorem tab_ok {W : World} (h : laidMetH Tryd.prog laidV W) : TabM W := by
  have h' : laidMet Tryd.prog [("math/bits.deBruijn64tab", Lib.tabData .u8 (Lib.deBruijn64tab.map fun (n : Nat) => (n : Int)))] W := by rw [← laid_eq]; exact h
  have h2 := Lib.tabIs_of_head gT gTType Tryd.underlying85 Tryd.underlying5 (by kernel_rfl) (by kernel_rfl) h'
  intro j hj
  have := h2.cell gT j (by simpa [Lib.deBruijn64tab] using hj)
  have e : (Lib.deBruijn64tab.map fun (n : Nat) => (n : Int)).getD j 0 = ((Lib.deBruijn64tab.getD j 0 : Nat) : Int) := by
    have hl : j < Lib.deBruijn64tab.length := hj
    simp [List.getD, hl]
  rw [e] at this
  exact this
section
variable {H : Type} {enc : TypeId × Value → H}
theorem weights_all {P : Program} {e : TypeId} : ∀ {ds : List (DataW H)} {d : DataW H}, d ∈ ds → ∀ n ∈ d.weights P e, n ∈ DataW.weightsAll P e ds
  | x :: ds, d, h, n, hn => by
    rw [DataW.weightsAll, List.mem_append]
    rcases List.mem_cons.1 h with rfl | h
    · exact .inl hn
    · exact .inr (weights_all h n hn)


/-- A slice of such things. -/
theorem open_list {α : Type} {f : α → List Value} {z st et bytes : Nat} {W : World} {p : α → Prop} (dflt : α) (hz : ∀ x, (f x).length = z) (hzp : 0 < z) (hst : Tryd.prog.underlying st = some (.slice et)) (hce : Tryd.prog.cellsOf et = z) (hby : Tryd.prog.bytesOf et = bytes)
    (hel : ∀ {fuel : Nat} {cs : List Value} {x : DataW H × List MemPlace}, DataW.trod enc Tryd.prog W 0 (fun _ => true) true fuel et cs = some x → (∀ m ∈ x.1.weights Tryd.prog et, m ≤ reachBytes) → ∃ m : α, cs = f m ∧ p m)
    {fuel : Nat} {cs : List Value} {x : DataW H × List MemPlace} (hf : DataW.trod enc Tryd.prog W 0 (fun _ => true) true fuel st cs = some x) (hw : ∀ m ∈ x.1.weights Tryd.prog st, m ≤ reachBytes) :
    ∃ (v : Value) (l : List α), cs = [v] ∧ Src f W v l ∧ (∀ m ∈ l, p m) ∧ l.length * bytes ≤ big := by
  haveI : Inhabited α := ⟨dflt⟩
  rcases Deep.open_slice hst hf with ⟨hcs, hx0⟩ | ⟨a, len0, cap0, m, n, D, Pl, hcs, _, hl, hm, hmm, hxx, hx⟩
  · exact ⟨_, [], hcs, .inl ⟨rfl, _, _, rfl⟩, by simp, by simp⟩
  · simp only [if_true] at hmm
    subst hmm
    rw [hce] at hx
    rw [hxx] at hw
    simp only [DataW.weights, hst, hby] at hw
    have hlen := hw _ (List.mem_cons_self ..)
    simp at hlen
    have hb1 : len0 * bytes ≤ big := Nat.le_trans (Nat.mul_le_mul_right _ (by omega : len0 ≤ len0 + (m - len0))) hlen
    have hwe : ∀ i, i < len0 → ∀ k ∈ (D i).weights Tryd.prog et, k ≤ reachBytes := fun i hi k hk =>
      hw k (List.mem_cons_of_mem _ (List.mem_append.2 (.inl (weights_all (List.mem_map.2 ⟨i, List.mem_range.2 hi, rfl⟩) k hk))))
    by_cases hl0 : len0 = 0
    · subst hl0
      exact ⟨_, [], hcs, .inl ⟨rfl, _, _, rfl⟩, by simp, by simp⟩
    · obtain ⟨V, hV⟩ := Deep.choose_lt (α := α) (n := len0) (p := fun i x => (∀ c, c < z → W.cell? (a.add (i * z + c)) = (f x)[c]?) ∧ p x) (fun i hi => by
        obtain ⟨cs', h1, h2⟩ := hx i (by omega)
        obtain ⟨_, hlen', hcell⟩ := World.cells?_some h1
        obtain ⟨y, rfl, hp⟩ := hel h2 (hwe i hi)
        refine ⟨y, fun c hc => ?_, hp⟩
        have := hcell c (by omega)
        rw [Deep.add_add] at this
        simpa using this)
      obtain ⟨b, off, spot⟩ := a
      have h00 := (hV 0 (by omega)).1 0 hzp
      have hff : (f (V 0))[0]? = some ((f (V 0))[0]'(by rw [hz]; exact hzp)) := List.getElem?_eq_getElem _
      rw [hff] at h00
      have hspot : spot = none := by simpa [Addr.add] using World.cell?_spot h00
      subst hspot
      have hadd : ∀ k, (⟨b, off, none⟩ : Addr).add k = ⟨b, off + k, none⟩ := fun k => by unfold Addr.add; split <;> simp_all
      have hbW : b < W.heap.size := by
        rw [hadd] at h00
        exact World.block_lt_of_cell? W _ h00
      refine ⟨_, (List.range len0).map V, hcs, .inr ⟨b, off, m, by simp, hbW, by simpa using hl, fun j u hj => ?_⟩, fun l hl' => ?_, by simpa using hb1⟩
      · have hj7 := (List.getElem?_eq_some_iff.1 hj).1
        rw [flat_length hz] at hj7
        simp at hj7
        have hdiv : j / z < len0 := Nat.div_lt_of_lt_mul (by rw [Nat.mul_comm]; exact hj7)
        have hmod : j % z < z := Nat.mod_lt _ hzp
        have e : j = j / z * z + j % z := by rw [Nat.mul_comm]; exact (Nat.div_add_mod j z).symm
        rw [e, flat_get hz _ (j / z) (j % z) (by simpa using hdiv) hmod] at hj
        simp at hj
        have h7 := (hV (j / z) hdiv).1 (j % z) hmod
        rw [hadd, ← e] at h7
        rw [h7]
        exact hj
      · obtain ⟨i, hi, rfl⟩ := List.mem_map.1 hl'
        exact (hV i (by simpa using hi)).2
theorem open_ints {W : World} {fuel : Nat} {cs : List Value} {x : DataW H × List MemPlace} (h : DataW.trod enc Tryd.prog W 0 (fun _ => true) true fuel 46 cs = some x) (hw : ∀ m ∈ x.1.weights Tryd.prog 46, m ≤ reachBytes) :
    ∃ (v : Value) (l : List Int), cs = [v] ∧ Src icell W v l ∧ l.length * 8 ≤ big := by
  obtain ⟨v, l, h1, h2, _, h3⟩ := open_list (p := fun _ => True) (f := icell) 0 ic1 (by decide) Tryd.underlying46 cells3 bytes3 (fun h _ => by obtain ⟨n, e, _⟩ := DataW.trod_int Tryd.underlying3 h; exact ⟨n, e, trivial⟩) h hw
  exact ⟨v, l, h1, h2, h3⟩
theorem word_in {x : Int} (h : (Lit.int .u64 x).wf = true) : .int .u64 x = uv (BitVec.ofNat 64 x.toNat) := by
  simp [Lit.wf, IntKind.min, IntKind.max, IntKind.signed, IntKind.bits] at h
  unfold uv
  rw [BitVec.toNat_ofNat]
  congr 1
  have : x.toNat % 2 ^ 64 = x.toNat := Nat.mod_eq_of_lt (by omega)
  rw [this]
  omega
theorem open_node {W : World} {fuel : Nat} {cs : List Value} {x : DataW H × List MemPlace} (h : DataW.trod enc Tryd.prog W 0 (fun _ => true) true fuel 43 cs = some x) : ∃ m : Nd, cs = m.cells ∧ True := by
  obtain ⟨xs, n, hf, hx, hl, hlen, hg⟩ := DataW.trod_struct Tryd.underlying43 h
  rw [cells43] at hl
  match cs, hl with
  | [c0, c1, c2], _ =>
    match xs, hlen with
    | [y0, y1, y2], _ =>
      have g0 := hg 0 _ rfl
      have g1 := hg 1 _ rfl
      have g2 := hg 2 _ rfl
      simp [cells29] at g0 g1 g2
      obtain ⟨x0, e0, _, w0⟩ := DataW.trod_int Tryd.underlying29 g0
      obtain ⟨x1, e1, _, w1⟩ := DataW.trod_int Tryd.underlying29 g1
      obtain ⟨x2, e2, _, w2⟩ := DataW.trod_int Tryd.underlying29 g2
      simp at e0 e1 e2
      subst e0 e1 e2
      exact ⟨⟨_, _, _⟩, by unfold Nd.cells; rw [word_in w0, word_in w1, word_in w2], trivial⟩
theorem open_edge {W : World} {fuel : Nat} {cs : List Value} {x : DataW H × List MemPlace} (h : DataW.trod enc Tryd.prog W 0 (fun _ => true) true fuel 44 cs = some x) : ∃ m : Int × Int, cs = ecell m ∧ True := by
  obtain ⟨xs, n, _, hx, hl, hlen, hg⟩ := DataW.trod_array Tryd.underlying44 h
  rw [cells44] at hl
  match cs, hl with
  | [c0, c1], _ =>
    match xs, hlen with
    | [y0, y1], _ =>
      have g0 := hg 0 (by decide)
      have g1 := hg 1 (by decide)
      simp [cells3] at g0 g1
      obtain ⟨x0, e0, _, w0⟩ := DataW.trod_int Tryd.underlying3 g0
      obtain ⟨x1, e1, _, w1⟩ := DataW.trod_int Tryd.underlying3 g1
      simp at e0 e1
      subst e0 e1
      exact ⟨(_, _), rfl, trivial⟩
theorem open_nodes {W : World} {v : Value} {d : DataW H} {p : List MemPlace} {b0 : Nat} {r : Reach} (hv : Value.okWide Tryd.prog W r b0 22 v) (h : DataW.Trod enc Tryd.prog W 0 (fun _ => true) true 22 v d p) (hw : ∀ m ∈ d.weights Tryd.prog 22, m ≤ reachBytes) :
    ∃ l : List Nd, Src Nd.cells W v l ∧ l.length * 24 ≤ big := by
  obtain ⟨a, len, cap, rfl⟩ := okWide_slice Tryd.underlying22 hv
  obtain ⟨fuel, hf⟩ := h
  obtain ⟨v', l, h1, h2, _, h3⟩ := open_list (p := fun _ => True) (f := Nd.cells) ⟨0, 0, 0⟩ nd3 (by decide) Tryd.underlying22 cells43 bytes43 (fun h _ => open_node h) hf hw
  have : Value.slice a len cap = v' := by simpa [Value.cells] using h1
  subst this
  exact ⟨l, h2, h3⟩
theorem open_edges {W : World} {v : Value} {d : DataW H} {p : List MemPlace} {b0 : Nat} {r : Reach} (hv : Value.okWide Tryd.prog W r b0 23 v) (h : DataW.Trod enc Tryd.prog W 0 (fun _ => true) true 23 v d p) (hw : ∀ m ∈ d.weights Tryd.prog 23, m ≤ reachBytes) :
    ∃ l : List (Int × Int), Src ecell W v l ∧ l.length * 16 ≤ big := by
  obtain ⟨a, len, cap, rfl⟩ := okWide_slice Tryd.underlying23 hv
  obtain ⟨fuel, hf⟩ := h
  obtain ⟨v', l, h1, h2, _, h3⟩ := open_list (p := fun _ => True) (f := ecell) (0, 0) ec2 (by decide) Tryd.underlying23 cells44 bytes44 (fun h _ => open_edge h) hf hw
  have : Value.slice a len cap = v' := by simpa [Value.cells] using h1
  subst this
  exact ⟨l, h2, h3⟩
/-- What is to be shown behind the call of a law: it answered what it must, the arguments read as they did, and old memory is as it was. -/
theorem post_kept {P : Program} {f : Func} {s : ChangeSpec} {W W' : World} {args : Array Value} {v : Value} {ds gs : List (DataW H)} {ps pa : List MemPlace}
    (hW : DataW.Whole enc P f.params.toList s.vars false W args.toList ds gs ps)
    (hres : ∀ (b : Nat) (sp : Nat → Bool) (hd : Bool), DataW.TrodAll enc P W' b sp hd f.resultTypes.toList (v.resultList f.resultTypes.size) (s.fn H (ds ++ gs)).results [])
    (hargs : DataW.TrodAll enc P W' 0 (fun b => decide (b < W.heap.size)) true f.params.toList args.toList (s.fn H (ds ++ gs)).args pa)
    (hvars : ∀ sp : Nat → Bool, DataW.TrodVars enc P W' sp s.vars (s.fn H (ds ++ gs)).vars [])
    (hb : Below W.heap.size W W') :
    s.post enc P f false true false false W args v W' :=
  ⟨_, _, _, [], pa, [], hW, hres _ _ _, hargs, hvars _, hb.frame _, fun h => by cases h⟩
/-- The wrap of a statement over laid variables, the world's shape kept. -/
theorem handed_and_shaped {a : Assume} {C : Checked} {os : Os} {f : FuncId} {fn : Func} {s : ChangeSpec} {conds : List PathCond} {apart fresh handsOn again : Bool} {X : World → Array Value → Prop}
    (hX : ∀ (w w' : World) (args : Array Value), w.heap = w'.heap → X w args → X w' args)
    (own : ownKnob C.prog.godebug = none) (started : os.Started) (noInit : C.prog.inits.idxOf? f = none) (hfn : C.prog.funcs[f]? = some fn)
    (witness : ∃ (w : World) (tape : Tape) (i : Input), w.os = os ∧ (w.forCall tape i).Shaped C.prog ∧ i.vars = [] ∧ Input.okWide C.prog (w.forCall tape i) .any w.heap.size f i ∧
      ((s.pre enc C.prog fn conds apart (w.forCall tape i).memory i.args ∧ X (w.forCall tape i).memory i.args) ∧ sizedMet enc C.prog fn (OpenSpec.ofChange s) apart (w.forCall tape i).memory i.args) ∧ a.holds C.prog (lone (Frame.enter C.prog f i.args .normal) [] (w.forCall tape i)))
    (contract : ∀ (W : World) (base : Nat) (args : Array Value) (ds gs : List (DataW H)) (before : List MemPlace),
      (∀ (j : Nat) t v, fn.params[j]? = some t → args[j]? = some v → Value.okWide C.prog W .any base t v) →
      DataW.Whole enc C.prog fn.params.toList s.vars apart W args.toList ds gs before →
      conds.all (PathCond.test C.prog ⟨fn.params.toList, ds, s.plain.varTypes C.prog, gs⟩) = true →
      (DataW.weightsEach C.prog (fn.params.toList ++ s.plain.varTypes C.prog) (ds ++ gs)).all (· ≤ reachBytes) = true → X W args → W.ShapedOpen C.prog →
      Calls C.prog f args W fun e W' => ∃ v, e = .returned v ∧ s.post enc C.prog fn apart fresh handsOn again W args v W') :
    ReturnsInHanded a C os f .any (fun w args => (s.pre enc C.prog fn conds apart w args ∧ X w args) ∧ sizedMet enc C.prog fn (OpenSpec.ofChange s) apart w args) (s.post enc C.prog fn apart fresh handsOn again) := by
  refine returnsInHanded_of_calls own started noInit witness ?_
  intro w tape i _ hsh _ hok hpre hholds
  obtain ⟨_, _, _, fn', hfn', _, _, _, _, hval⟩ := hok
  have e : fn' = fn := Option.some.inj (hfn'.symm.trans hfn)
  subst e
  obtain ⟨⟨⟨ds, gs, before, hw, hc⟩, hx⟩, hz⟩ := hpre
  have hw' := DataW.Whole.of_heap (w' := w.forCall tape i) (by rfl) hw
  refine (contract (w.forCall tape i) w.heap.size i.args ds gs before hval hw' hc (hz.weights hw) (hX _ _ _ (by rfl) hx) hsh).mono fun e W' ⟨v, he, hp⟩ => ?_
  subst he
  exact ChangeSpec.post_blind hp
end
end Go.Proofs.YtjhndnhldhmjnaaDoor
