/- A tree, as it came in. -/
import Derived.Test.YtnnnfabpceapcaaGreatDoorTree
import Derived.Deep.Slices
import Derived.ProofKit
import Derived.OpenShut
import Derived.JoinedCond
namespace Go.Proofs.YtnnnfabpceapcaaGreatDoor
open Go.ChangeShapes Go.WideShapes Go.ChangeAt Go.RowKit
set_option linter.unusedVariables false

theorem cells25 : Tryz.prog.cellsOf 25 = 6 := by kernel_rfl
theorem cells23 : Tryz.prog.cellsOf 23 = 1 := by kernel_rfl
theorem cells3 : Tryz.prog.cellsOf 3 = 1 := by kernel_rfl
theorem cells9 : Tryz.prog.cellsOf 9 = 1 := by kernel_rfl
theorem cells22 : Tryz.prog.cellsOf 22 = 1 := by kernel_rfl
theorem cells4 : Tryz.prog.cellsOf 4 = 1 := by kernel_rfl

theorem Ks.up {cb : Nat} {w : World} : ∀ {n : Nat} {v : Value} {ks : List Tr}, Ks cb n w v ks → Ks cb (n + 1) w v ks
  | 0, v, ks, h => by
    obtain ⟨rfl, ao, cap, rfl⟩ := h
    rw [Ks]
    exact ⟨by simp, ao, cap, rfl, fun i hi => by simp at hi⟩
  | n + 1, v, ks, h => by
    rw [Ks] at h ⊢
    obtain ⟨hl, ao, cap, rfl, h⟩ := h
    refine ⟨hl, ao, cap, rfl, fun i hi => ?_⟩
    obtain ⟨b, off, x, kv, ks', e, hlt, he, hc, hk⟩ := h i hi
    exact ⟨b, off, x, kv, ks', e, hlt, he, hc, Ks.up hk⟩

section
variable {H : Type} {enc : TypeId × Value → H}
set_option maxRecDepth 20000 in
/-- A node's six cells. -/
theorem open_six {W : World} {base : Nat} {sp : Nat → Bool} {held : Bool} {fuel : Nat} {cs : List Value} {x : DataW H × List MemPlace} (h : DataW.trod enc Tryz.prog W base sp held fuel 25 cs = some x) :
    ∃ (nd : NdH) (kv : Value) (n : Nat) (y : DataW H × List MemPlace), fuel = n + 1 ∧ cs = [.int .i64 nd.kind, .string nd.str, .int .u32 nd.num, .bool nd.flag, kv, .int .i64 nd.pos] ∧ DataW.trod enc Tryz.prog W base sp held n 23 [kv] = some y := by
  obtain ⟨xs, n, hf, hx, hl, hlen, hg⟩ := DataW.trod_struct Tryz.underlying25 h
  rw [cells25] at hl
  match cs, hl with
  | [c0, c1, c2, c3, c4, c5], _ =>
    match xs, hlen with
    | [y0, y1, y2, y3, y4, y5], _ =>
      have g0 := hg 0 _ rfl
      have g1 := hg 1 _ rfl
      have g2 := hg 2 _ rfl
      have g3 := hg 3 _ rfl
      have g4 := hg 4 _ rfl
      have g5 := hg 5 _ rfl
      simp [cells23, cells3, cells9, cells22, cells4] at g0 g1 g2 g3 g4 g5
      obtain ⟨x0, e0, _, w0⟩ := DataW.trod_int Tryz.underlying3 g0
      obtain ⟨x1, e1, _, w1⟩ := DataW.trod_string Tryz.underlying9 g1
      obtain ⟨x2, e2, _, w2⟩ := DataW.trod_int Tryz.underlying22 g2
      obtain ⟨x3, e3, _⟩ := DataW.trod_bool Tryz.underlying4 g3
      obtain ⟨x5, e5, _, w5⟩ := DataW.trod_int Tryz.underlying3 g5
      simp at e0 e1 e2 e3 e5
      subst e0 e1 e2 e3 e5
      exact ⟨⟨x0, x1, x2, x3, x5⟩, c4, n, y4, hf, rfl, g4⟩

set_option maxRecDepth 20000 in
/-- A slice of trees. -/
theorem open_kids {W : World} {sp : Nat → Bool} {held : Bool} {cb : Nat} (hcb : W.heap.size ≤ cb) : ∀ (fuel : Nat) {c : Value} {x : DataW H × List MemPlace}, DataW.trod enc Tryz.prog W 0 sp held fuel 23 [c] = some x → ∃ ks, Ks cb fuel W c ks := fun fuel => by
  induction fuel using Nat.strongRecOn with
  | ind fuel ih =>
  intro c x h
  rcases DataW.trod_slice Tryz.underlying23 h with ⟨hcs, _⟩ | ⟨a, len, cap, elems, rest, n, rfl, hcs, _, _, hlc, hcm, hel, hx, _, _⟩
  · simp at hcs
    subst hcs
    cases fuel with
    | zero => exact ⟨[], rfl, _, _, rfl⟩
    | succ n => exact ⟨[], by rw [Ks]; exact ⟨by simp, _, _, rfl, fun i hi => by simp at hi⟩⟩
  · simp at hcs
    subst hcs
    rw [cells25] at hx
    have hsp : 0 < len → a.spot = none := fun h0 => by
      have hi' := hx 0 h0
      rw [List.getElem?_eq_getElem (by omega)] at hi'
      obtain ⟨cs', h1, h2⟩ := Option.bind_eq_some_iff.1 hi'
      obtain ⟨_, hlen', hcell⟩ := World.cells?_some h1
      obtain ⟨nd, kv, m, y, hm, rfl, h3⟩ := open_six h2
      have hc0 := hcell 0 (by omega)
      rw [Deep.add_add] at hc0
      simp at hc0
      simpa [Addr.add] using World.cell?_spot hc0
    haveI : Inhabited Tr := ⟨Tr.node ⟨0, ⟨#[]⟩, 0, false, 0⟩ []⟩
    obtain ⟨V, hV⟩ := Deep.choose_lt (α := Tr) (n := len) (p := fun i t => ∃ b off x kv ks', a = ⟨b, off, none⟩ ∧ (b < W.heap.size ∧ b ≠ cb) ∧ t = Tr.node x ks' ∧ NdAt W b (off + i * 6) x kv ∧ Ks cb n W kv ks') (fun i hi => by
      have hi' := hx i hi
      rw [List.getElem?_eq_getElem (by omega)] at hi'
      obtain ⟨cs', h1, h2⟩ := Option.bind_eq_some_iff.1 hi'
      obtain ⟨_, hlen', hcell⟩ := World.cells?_some h1
      obtain ⟨nd, kv, m, y, hm, rfl, h3⟩ := open_six h2
      subst hm
      obtain ⟨ks', hks⟩ := ih m (by omega) h3
      obtain ⟨b, off, spot⟩ := a
      have hspot : spot = none := hsp (by omega)
      subst hspot
      have hc0 := hcell 0 (by omega)
      have hc1 := hcell 1 (by omega)
      have hc2 := hcell 2 (by omega)
      have hc3 := hcell 3 (by omega)
      have hc4 := hcell 4 (by omega)
      have hc5 := hcell 5 (by omega)
      rw [Deep.add_add] at hc0 hc1 hc2 hc3 hc4 hc5
      simp at hc0 hc1 hc2 hc3 hc4 hc5
      have hadd : ∀ k, (⟨b, off, none⟩ : Addr).add k = ⟨b, off + k, none⟩ := fun k => by unfold Addr.add; split <;> simp_all
      rw [hadd] at hc0 hc1 hc2 hc3 hc4 hc5
      have hbW : b < W.heap.size := World.block_lt_of_cell? W _ hc0
      exact ⟨Tr.node nd ks', b, off, nd, kv, ks', rfl, ⟨hbW, by omega⟩, rfl, ⟨hc0, hc1, hc2, hc3, hc4, hc5⟩, hks.up⟩)
    refine ⟨(List.range len).map V, ?_⟩
    rw [Ks]
    refine ⟨by simp; unfold maxLen at hcm; omega, some a, cap, by simp, fun i hi => ?_⟩
    simp at hi
    obtain ⟨b, off, x, kv, ks', e, hlt, he, hc, hk⟩ := hV i hi
    exact ⟨b, off, x, kv, ks', by rw [e], hlt, ⟨by simp [he], by simp; omega⟩, hc, hk⟩

set_option maxRecDepth 20000 in
/-- A tree that came in. -/
theorem open_tree {W : World} {b0 : Nat} {r : Reach} {v : Value} {d : DataW H} {sp : Nat → Bool} {held : Bool} {p : List MemPlace} (hv : Value.okWide Tryz.prog W r b0 25 v) (h : DataW.Trod enc Tryz.prog W 0 sp held 25 v d p) :
    ∃ (nd : NdH) (kv : Value) (n : Nat) (ks : List Tr), v = ndV nd kv ∧ Ks W.heap.size n W kv ks := by
  obtain ⟨cs, rfl, hsz⟩ := okWide_struct Tryz.underlying25 hv
  obtain ⟨l⟩ := cs
  obtain ⟨fuel, hf⟩ := h
  obtain ⟨nd, kv, n, y, _, e, h3⟩ := open_six hf
  obtain ⟨ks, hks⟩ := open_kids (Nat.le_refl W.heap.size) n h3
  refine ⟨nd, kv, n, ks, ?_, hks⟩
  have e' : l = [.int .i64 nd.kind, .string nd.str, .int .u32 nd.num, .bool nd.flag, kv, .int .i64 nd.pos] := by simpa [Value.cells] using e
  rw [e']
  rfl
end
end Go.Proofs.YtnnnfabpceapcaaGreatDoor
