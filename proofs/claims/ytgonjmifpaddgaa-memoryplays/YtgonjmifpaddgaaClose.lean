/- Any act in both memories; a slice of acts that came in; both memories behind it. -/
import Derived.Test.YtgonjmifpaddgaaPlay0
import Derived.Test.YtgonjmifpaddgaaPlay1
import Derived.Test.YtgonjmifpaddgaaPlay2
import Derived.Test.YtgonjmifpaddgaaLaws
import Derived.Test.YtgonjmifpaddgaaFrame
import Derived.Deep.Slices
namespace Go.Proofs.Ytgonjmifpaddgaa
open Go.ChangeShapes Go.WideShapes Go.ChangeAt Go.RowKit

set_option maxHeartbeats 1000000 in
theorem play_other {B p r q t n : Nat} {d a x : Int} {s : ByteArray} {g : Nat → UInt8} {w : World} (h : Pair w B p r q t n g) (h0 : ¬ d = 0) (h1 : ¬ d = 1) (h2 : ¬ d = 2) :
    Calls Try.prog 20 #[.pointer (some ⟨p, 0, none⟩), .pointer (some ⟨q, 0, none⟩), .agg #[.int .i64 d, .int .u32 a, .int .u32 x, .string s]] w fun e w' => e = .returned (.bool true) ∧ (∃ g', Pair w' B p r q t n g') ∧ Below B w w' := by
  have hP : Pair (w.alloc (.cells #[.int .i64 d, .int .u32 a, .int .u32 x, .string s] 44)) B p r q t n g := ⟨h.m.alloc _, h.d.alloc _, h.pt, h.rt, h.qr, h.bp, h.br, h.bq, h.bt⟩
  have hB := (Below.refl B w).alloc h.size (.cells #[.int .i64 d, .int .u32 a, .int .u32 x, .string s] 44)
  go_enter Try.func20, Try.ntmps20
  go_wp2
  go_ret
  exact ⟨rfl, ⟨g, hP⟩, hB⟩

theorem play_all : PlayOk := by
  intro B p r q t n a d x s g w h ha x0 x1 hs
  by_cases h0 : d = 0
  · subst h0; exact play_0 h ha x0 x1
  by_cases h1 : d = 1
  · subst h1; exact play_1 h ha x0
  by_cases h2 : d = 2
  · subst h2; exact play_2 h ha hs
  exact play_other h h0 h1 h2

theorem Acts.below {w w' : World} {b off len : Nat} (h : Acts w b off len) (hb : b < w.heap.size) (hB : Below w.heap.size w w') : Acts w' b off len := by
  intro i hi
  obtain ⟨d, a, x, s, c0, c1, c2, c3, r⟩ := h i hi
  exact ⟨d, a, x, s, (hB.cell (by exact hb)).trans c0, (hB.cell (by exact hb)).trans c1, (hB.cell (by exact hb)).trans c2, (hB.cell (by exact hb)).trans c3, r⟩

/-- A slice of acts, as a world has it: an empty one, or one whose cells are known. -/
def Came (W : World) (ao : Option Addr) (len : Nat) : Prop := len = 0 ∨ ∃ b off, ao = some ⟨b, off, none⟩ ∧ b < W.heap.size ∧ len ≤ maxLen ∧ Acts W b off len

theorem made_ok {W w : World} {ao : Option Addr} {len cap : Nat} (h : Came W ao len) (hB : Below W.heap.size W w) (n : Nat) (lo : 1 ≤ n) (hi : n ≤ 262144) : MadeOk n (.slice ao len cap) w := by
  rcases h with rfl | ⟨b, off, rfl, hb, hm, hA⟩
  · refine (made_none n lo hi ao cap w).mono ?_
    rintro e w' ⟨g, rfl, hP, hb⟩
    exact ⟨g, _, _, _, _, rfl, hP, hb⟩
  · refine (made_some play_all n lo hi b off len cap w (Nat.lt_of_lt_of_le hb hB.size) hm (hA.below hb hB)).mono ?_
    rintro e w' ⟨g, rfl, hP, hb⟩
    exact ⟨g, _, _, _, _, rfl, hP, hb⟩

section
variable {H : Type} {enc : TypeId × Value → H}
theorem open_acts {W : World} {b0 : Nat} {r : Reach} {v : Value} {d : DataW H} {p : List MemPlace}
    (hv : Value.okWide Try.prog W r b0 22 v) (h : DataW.Trod enc Try.prog W 0 (fun _ => true) true 22 v d p) :
    ∃ ao len cap, v = .slice ao len cap ∧ Came W ao len := by
  obtain ⟨ao, len, cap, rfl⟩ := okWide_slice Try.underlying22 hv
  refine ⟨ao, len, cap, rfl, ?_⟩
  obtain ⟨fuel, hf⟩ := h
  rcases Deep.open_slice Try.underlying22 hf with ⟨hcs, _⟩ | ⟨a, len', cap', m, n, D, Pl, hcs, _, hl, hm, hmm, _, hx⟩
  · simp [Value.cells] at hcs
    exact Or.inl hcs.2.1
  · simp [Value.cells] at hcs
    obtain ⟨rfl, rfl, rfl⟩ := hcs
    by_cases hl0 : len = 0
    · exact Or.inl hl0
    right
    simp only [if_true] at hmm
    subst hmm
    rw [cells44] at hx
    have each : ∀ i, i < len → ∃ (x0 x1 x2 : Int) (s : ByteArray), W.cell? (a.add (i * 4)) = some (.int .i64 x0) ∧ W.cell? (a.add (i * 4 + 1)) = some (.int .u32 x1) ∧ W.cell? (a.add (i * 4 + 2)) = some (.int .u32 x2) ∧ W.cell? (a.add (i * 4 + 3)) = some (.string s) ∧
        (Lit.int .u32 x1).wf = true ∧ (Lit.int .u32 x2).wf = true ∧ s.size ≤ maxLen := by
      intro i hi
      obtain ⟨cs', h1, h2⟩ := hx i (by omega)
      obtain ⟨_, hlen, hcell⟩ := World.cells?_some h1
      obtain ⟨x0, x1, x2, s, rfl, _, _, w1, w2, w3⟩ := open_cells hlen h2
      have e0 := hcell 0 (by omega)
      have e1 := hcell 1 (by omega)
      have e2 := hcell 2 (by omega)
      have e3 := hcell 3 (by omega)
      rw [Deep.add_add] at e0 e1 e2 e3
      exact ⟨x0, x1, x2, s, by simpa using e0, by simpa using e1, by simpa using e2, by simpa using e3, w1, w2, w3⟩
    obtain ⟨b, off, spot⟩ := a
    have hspot : spot = none := by
      obtain ⟨x0, _, _, _, e0, _⟩ := each 0 (by omega)
      simpa [Addr.add] using World.cell?_spot e0
    subst hspot
    have hadd : ∀ k, (⟨b, off, none⟩ : Addr).add k = ⟨b, off + k, none⟩ := fun k => by unfold Addr.add; split <;> simp_all
    have hbW : b < W.heap.size := by
      obtain ⟨x0, _, _, _, e0, _⟩ := each 0 (by omega)
      rw [hadd] at e0
      exact World.block_lt_of_cell? W _ e0
    refine ⟨b, off, rfl, hbW, by omega, fun i hi => ?_⟩
    obtain ⟨x0, x1, x2, s, e0, e1, e2, e3, w1, w2, w3⟩ := each i hi
    rw [hadd] at e0 e1 e2 e3
    obtain ⟨l1, u1⟩ := bounds_u32 w1
    obtain ⟨l2, u2⟩ := bounds_u32 w2
    obtain ⟨a, rfl⟩ : ∃ a : Nat, x1 = a := ⟨x1.toNat, by omega⟩
    exact ⟨x0, a, x2, s, e0, by simpa [Nat.add_assoc] using e1, by simpa [Nat.add_assoc] using e2, by simpa [Nat.add_assoc] using e3, by omega, l2, by omega, w3⟩

theorem cells37 : Try.prog.cellsOf 37 = 2 := by kernel_rfl
/-- Two integers that came in. -/
theorem open_two {W : World} {base b0 : Nat} {sp : Nat → Bool} {held : Bool} {r : Reach} {v : Value} {d : DataW H} {p : List MemPlace}
    (hv : Value.okWide Try.prog W r b0 37 v) (h : DataW.Trod enc Try.prog W base sp held 37 v d p) :
    ∃ z0 z1 : Int, v = .agg #[.int .i64 z0, .int .i64 z1] ∧ (Lit.int .i64 z0).wf = true ∧ (Lit.int .i64 z1).wf = true := by
  have hv' : ∃ cs : Array Value, v = .agg cs ∧ cs.size = 2 := by
    simp only [Value.okWide, Try.underlying37] at hv
    cases v <;> simp_all [cells37]
  obtain ⟨⟨l⟩, rfl, hsz⟩ := hv'
  obtain ⟨fuel, hf⟩ := h
  match l, hsz with
  | [c0, c1], _ =>
    obtain ⟨xs, m, _, _, _, hlen, hg⟩ := DataW.trod_array Try.underlying37 hf
    match xs, hlen with
    | [y0, y1], _ =>
      have g0 := hg 0 (by omega)
      have g1 := hg 1 (by omega)
      simp [Value.cells, cells3] at g0 g1
      obtain ⟨z0, e0, _, w0⟩ := DataW.trod_int Try.underlying3 g0
      obtain ⟨z1, e1, _, w1⟩ := DataW.trod_int Try.underlying3 g1
      simp at e0 e1
      subst e0 e1
      exact ⟨z0, z1, rfl, w0, w1⟩
end
end Go.Proofs.Ytgonjmifpaddgaa
