/- Acts that came in; what a law must show behind its call. -/
import Derived.Test.YthdphldagfeepaaBase
import Derived.Deep.Slices
import Derived.WalkKit
import Derived.ProofKit
import Derived.OpenShut
import Derived.HandedShaped
namespace Go.Proofs.Ythdphldagfeepaa
open Go.ChangeShapes Go.WideShapes Go.ChangeAt Go.RowKit
set_option linter.unusedVariables false
set_option linter.unusedSimpArgs false

theorem own : ownKnob Try.prog.godebug = none := by kernel_rfl
theorem laidOut : laidOutB Try.prog = true := by kernel_rfl
theorem cells29 : Try.prog.cellsOf 29 = 3 := by kernel_rfl
theorem cells3 : Try.prog.cellsOf 3 = 1 := by kernel_rfl
theorem cells9 : Try.prog.cellsOf 9 = 1 := by kernel_rfl
theorem bytes29 : Try.prog.bytesOf 29 = 32 := by kernel_rfl

/-- An act. -/
structure Ac where
  d : Int
  nm : ByteArray
  x : Int
def Ac.cells (a : Ac) : List Value := [.int .i64 a.d, .string a.nm, .int .i64 a.x]
theorem ac3 (a : Ac) : (Ac.cells a).length = 3 := rfl
def Ac.ok (a : Ac) : Prop := a.nm.size ≤ 140737488351232 ∧ (Lit.int .i64 a.x).wf = true
theorem ac_cells {w : World} {b o : Nat} {m : Ac} (h : ∀ c, c < 3 → w.cell? ⟨b, o + c, none⟩ = (Ac.cells m)[c]?) :
    w.cell? ⟨b, o, none⟩ = some (.int .i64 m.d) ∧ w.cell? ⟨b, o + 1, none⟩ = some (.string m.nm) ∧ w.cell? ⟨b, o + 2, none⟩ = some (.int .i64 m.x) :=
  ⟨h 0 (by omega), h 1 (by omega), h 2 (by omega)⟩

section
variable {H : Type} {enc : TypeId × Value → H}

theorem weights_all {P : Program} {e : TypeId} : ∀ {ds : List (DataW H)} {d : DataW H}, d ∈ ds → ∀ n ∈ d.weights P e, n ∈ DataW.weightsAll P e ds
  | x :: ds, d, h, n, hn => by
    rw [DataW.weightsAll, List.mem_append]
    rcases List.mem_cons.1 h with rfl | h
    · exact .inl hn
    · exact .inr (weights_all h n hn)

/-- An act's three cells. -/
theorem open_ac {W : World} {base : Nat} {sp : Nat → Bool} {held : Bool} {fuel : Nat} {cs : List Value} {x : DataW H × List MemPlace} (h : DataW.trod enc Try.prog W base sp held fuel 29 cs = some x) (hw : ∀ m ∈ x.1.weights Try.prog 29, m ≤ reachBytes) :
    ∃ a : Ac, cs = a.cells ∧ a.ok ∧ x = (.agg [.lit (.int .i64 a.d), .lit (.string a.nm.data.toList), .lit (.int .i64 a.x)], []) ∧ (Lit.int .i64 a.d).wf = true := by
  obtain ⟨xs, n, hf, hx, hl, hlen, hg⟩ := DataW.trod_struct Try.underlying29 h
  rw [cells29] at hl
  match cs, hl with
  | [c0, c1, c2], _ =>
    match xs, hlen with
    | [y0, y1, y2], _ =>
      have g0 := hg 0 _ rfl
      have g1 := hg 1 _ rfl
      have g2 := hg 2 _ rfl
      simp [cells3, cells9] at g0 g1 g2
      obtain ⟨x0, e0, f0, w0⟩ := DataW.trod_int Try.underlying3 g0
      obtain ⟨x1, e1, f1, w1⟩ := DataW.trod_string Try.underlying9 g1
      obtain ⟨x2, e2, f2, w2⟩ := DataW.trod_int Try.underlying3 g2
      simp at e0 e1 e2
      subst e0 e1 e2
      have hx' := hx
      rw [hx] at hw
      simp only [DataW.weights, Try.underlying29] at hw
      have hs := hw x1.size (DataW.weights_mem_each (j := 1) (t := 9) (d := y1.1) rfl rfl _ (by rw [f1]; simp [DataW.weights]))
      refine ⟨⟨x0, x1, x2⟩, rfl, ⟨hs, w2⟩, ?_, w0⟩
      rw [hx', f0, f1, f2]
      rfl

/-- An act that came in. -/
theorem open_act {W : World} {b0 : Nat} {sp : Nat → Bool} {held : Bool} {r : Reach} {v : Value} {d : DataW H} {p : List MemPlace}
    (hv : Value.okWide Try.prog W r b0 29 v) (h : DataW.Trod enc Try.prog W 0 sp held 29 v d p) (hw : ∀ m ∈ d.weights Try.prog 29, m ≤ reachBytes) :
    ∃ a : Ac, v = .agg #[.int .i64 a.d, .string a.nm, .int .i64 a.x] ∧ a.ok ∧ d = .agg [.lit (.int .i64 a.d), .lit (.string a.nm.data.toList), .lit (.int .i64 a.x)] ∧ p = [] ∧ (Lit.int .i64 a.d).wf = true := by
  obtain ⟨cs, rfl, hsz⟩ := okWide_struct Try.underlying29 hv
  obtain ⟨l⟩ := cs
  obtain ⟨fuel, hf⟩ := h
  obtain ⟨a, e, hok, hx, w0⟩ := open_ac hf hw
  simp [Value.cells, Ac.cells] at e hx
  exact ⟨a, by rw [e], hok, hx.1, hx.2, w0⟩

/-- .. and read again, in whatever world. -/
theorem shut_act {W : World} {base : Nat} {sp : Nat → Bool} {held : Bool} {x0 x2 : Int} {s : ByteArray}
    (w0 : (Lit.int .i64 x0).wf = true) (w1 : s.size ≤ maxLen) (w2 : (Lit.int .i64 x2).wf = true) :
    DataW.Trod enc Try.prog W base sp held 29 (.agg #[.int .i64 x0, .string s, .int .i64 x2])
      (.agg [.lit (.int .i64 x0), .lit (.string s.data.toList), .lit (.int .i64 x2)]) [] := by
  refine ⟨2, ?_⟩
  have := trod_struct_mk (enc := enc) (P := Try.prog) (w := W) (base := base) (spare := sp) (held := held) (n := 1) (cs := [.int .i64 x0, .string s, .int .i64 x2])
    (xs := [(.lit (.int .i64 x0), []), (.lit (.string s.data.toList), []), (.lit (.int .i64 x2), [])]) Try.underlying29 (by simp [cells29])
    (by simp [cells3, cells9, DataW.trod, Try.underlying3, Try.underlying9, w0, w1, w2])
  simpa [Value.cells] using this

/-- A slice of such things. -/
theorem open_list {α : Type} [Inhabited α] {f : α → List Value} {z st et bytes : Nat} {p : α → Prop} (hz : ∀ x, (f x).length = z) (hzp : 0 < z) (hst : Try.prog.underlying st = some (.slice et)) (hce : Try.prog.cellsOf et = z) (hby : Try.prog.bytesOf et = bytes)
    (hel : ∀ {W : World} {fuel : Nat} {cs : List Value} {x : DataW H × List MemPlace}, DataW.trod enc Try.prog W 0 (fun _ => true) true fuel et cs = some x → (∀ m ∈ x.1.weights Try.prog et, m ≤ reachBytes) → ∃ m : α, cs = f m ∧ p m)
    {W : World} {b0 : Nat} {r : Reach} {v : Value} {d : DataW H} {pl : List MemPlace} (hv : Value.okWide Try.prog W r b0 st v) (h : DataW.Trod enc Try.prog W 0 (fun _ => true) true st v d pl) (hw : ∀ m ∈ d.weights Try.prog st, m ≤ reachBytes) :
    ∃ l : List α, Src f W v l ∧ (∀ m ∈ l, p m) ∧ l.length * bytes ≤ 140737488351232 := by
  obtain ⟨ao, len0, cap0, rfl⟩ := okWide_slice hst hv
  obtain ⟨fuel, hf⟩ := h
  rcases Deep.open_slice hst hf with ⟨hcs, hx0⟩ | ⟨a, len, cap, m, n, D, Pl, hcs, _, hl, hm, hmm, hxx, hx⟩
  · simp [Value.cells] at hcs
    obtain ⟨rfl, rfl, rfl⟩ := hcs
    exact ⟨[], .inl ⟨rfl, _, _, rfl⟩, by simp, by simp⟩
  · simp [Value.cells] at hcs
    obtain ⟨rfl, rfl, rfl⟩ := hcs
    simp only [if_true] at hmm
    subst hmm
    rw [hce] at hx
    obtain ⟨hd, hpl⟩ := Prod.mk.inj hxx
    rw [hd] at hw
    simp only [DataW.weights, hst, hby] at hw
    have hlen := hw _ (List.mem_cons_self ..)
    simp at hlen
    have hb1 : len0 * bytes ≤ 140737488351232 := Nat.le_trans (Nat.mul_le_mul_right _ (by omega : len0 ≤ len0 + (m - len0))) hlen
    have hwe : ∀ i, i < len0 → ∀ k ∈ (D i).weights Try.prog et, k ≤ reachBytes := fun i hi k hk =>
      hw k (List.mem_cons_of_mem _ (List.mem_append.2 (.inl (weights_all (List.mem_map.2 ⟨i, List.mem_range.2 hi, rfl⟩) k hk))))
    by_cases hl0 : len0 = 0
    · subst hl0
      exact ⟨[], .inl ⟨rfl, _, _, rfl⟩, by simp, by simp⟩
    · obtain ⟨V, hV⟩ := Deep.choose_lt (α := α) (n := len0) (p := fun i x => (∀ c, c < z → W.cell? (a.add (i * z + c)) = (f x)[c]?) ∧ p x) (fun i hi => by
        obtain ⟨cs', h1, h2⟩ := hx i (by omega)
        obtain ⟨_, hlen', hcell⟩ := World.cells?_some h1
        obtain ⟨y, rfl, hp⟩ := hel h2 (hwe i hi)
        refine ⟨y, fun c hc => ?_, hp⟩
        have := hcell c (by omega)
        rw [Deep.add_add] at this
        simpa using this)
      obtain ⟨b, off, spot⟩ := a
      have h00 := (hV 0 (by omega)).1 0 hzp
      have hff : (f (V 0))[0]? = some ((f (V 0))[0]'(by rw [hz]; exact hzp)) := List.getElem?_eq_getElem _
      rw [hff] at h00
      have hspot : spot = none := by simpa [Addr.add] using World.cell?_spot h00
      subst hspot
      have hadd : ∀ k, (⟨b, off, none⟩ : Addr).add k = ⟨b, off + k, none⟩ := fun k => by unfold Addr.add; split <;> simp_all
      have hbW : b < W.heap.size := by
        rw [hadd] at h00
        exact World.block_lt_of_cell? W _ h00
      refine ⟨(List.range len0).map V, .inr ⟨b, off, m, by simp, hbW, by simpa using hl, fun j u hj => ?_⟩, fun l hl' => ?_, by simpa using hb1⟩
      · have hj7 := (List.getElem?_eq_some_iff.1 hj).1
        rw [flat_length hz] at hj7
        simp at hj7
        have hdiv : j / z < len0 := Nat.div_lt_of_lt_mul (by rw [Nat.mul_comm]; exact hj7)
        have hmod : j % z < z := Nat.mod_lt _ hzp
        have e : j = j / z * z + j % z := by rw [Nat.mul_comm]; exact (Nat.div_add_mod j z).symm
        rw [e, flat_get hz _ (j / z) (j % z) (by simpa using hdiv) hmod] at hj
        simp at hj
        have h7 := (hV (j / z) hdiv).1 (j % z) hmod
        rw [hadd, ← e] at h7
        rw [h7]
        exact hj
      · obtain ⟨i, hi, rfl⟩ := List.mem_map.1 hl'
        exact (hV i (by simpa using hi)).2
theorem open_acts {W : World} {b0 : Nat} {r : Reach} {v : Value} {d : DataW H} {pl : List MemPlace} (hv : Value.okWide Try.prog W r b0 22 v) (h : DataW.Trod enc Try.prog W 0 (fun _ => true) true 22 v d pl) (hw : ∀ m ∈ d.weights Try.prog 22, m ≤ reachBytes) :
    ∃ l : List Ac, Src Ac.cells W v l ∧ (∀ a ∈ l, a.ok) ∧ l.length * 32 ≤ 140737488351232 := by
  haveI : Inhabited Ac := ⟨⟨0, ⟨#[]⟩, 0⟩⟩
  exact open_list (p := Ac.ok) (f := Ac.cells) ac3 (by decide) Try.underlying22 cells29 bytes29 (fun h hw => by obtain ⟨a, e, hok, _⟩ := open_ac h hw; exact ⟨a, e, hok⟩) hv h hw

/-- What is to be shown behind the call of a law: it answered what it must, the arguments read as they did, and old memory is as it was. -/
theorem post_kept {P : Program} {f : Func} {s : ChangeSpec} {W W' : World} {args : Array Value} {v : Value} {ds gs : List (DataW H)} {ps pa : List MemPlace}
    (hW : DataW.Whole enc P f.params.toList s.vars false W args.toList ds gs ps)
    (hres : ∀ (b : Nat) (sp : Nat → Bool) (hd : Bool), DataW.TrodAll enc P W' b sp hd f.resultTypes.toList (v.resultList f.resultTypes.size) (s.fn H (ds ++ gs)).results [])
    (hargs : DataW.TrodAll enc P W' 0 (fun b => decide (b < W.heap.size)) true f.params.toList args.toList (s.fn H (ds ++ gs)).args pa)
    (hvars : ∀ sp : Nat → Bool, DataW.TrodVars enc P W' sp s.vars (s.fn H (ds ++ gs)).vars [])
    (hb : Below W.heap.size W W') :
    s.post enc P f false true false false W args v W' :=
  ⟨_, _, _, [], pa, [], hW, hres _ _ _, hargs, hvars _, hb.frame _, fun h => by cases h⟩
end
end Go.Proofs.Ythdphldagfeepaa
