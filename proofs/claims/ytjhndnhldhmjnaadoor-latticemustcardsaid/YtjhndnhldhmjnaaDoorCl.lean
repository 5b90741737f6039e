/- Words of 64 bits, and the problem's functions. -/
import Derived.Test.YtjhndnhldhmjnaaDoorBase
namespace Go.Proofs.YtjhndnhldhmjnaaDoor
open Go.RowKit Go.Maps
set_option linter.unusedVariables false
set_option linter.unusedSimpArgs false
theorem word_of (a : Wd) : BitVec.ofInt 64 (a.toNat : Int) = a := by
  rw [BitVec.ofInt_natCast, BitVec.ofNat_toNat, BitVec.setWidth_eq]
theorem word_back (a : Wd) : IntKind.u64.wrap (a.toNat : Int) = (a.toNat : Int) := by
  have := a.isLt
  rw [IntKind.wrap_u64]
  omega
theorem b_or (a b : Wd) : bits .or .u64 (a.toNat : Int) (b.toNat : Int) = ((a ||| b).toNat : Int) := by
  have e : bits .or .u64 (a.toNat : Int) (b.toNat : Int) = IntKind.u64.wrap (((BitVec.ofInt 64 (a.toNat : Int)) ||| (BitVec.ofInt 64 (b.toNat : Int))).toNat : Int) := rfl
  rw [e, word_of, word_of, word_back]
theorem b_and (a b : Wd) : bits .and .u64 (a.toNat : Int) (b.toNat : Int) = ((a &&& b).toNat : Int) := by
  have e : bits .and .u64 (a.toNat : Int) (b.toNat : Int) = IntKind.u64.wrap (((BitVec.ofInt 64 (a.toNat : Int)) &&& (BitVec.ofInt 64 (b.toNat : Int))).toNat : Int) := rfl
  rw [e, word_of, word_of, word_back]
theorem b_andNot (a b : Wd) : bits .andNot .u64 (a.toNat : Int) (b.toNat : Int) = ((a &&& ~~~b).toNat : Int) := by
  have e : bits .andNot .u64 (a.toNat : Int) (b.toNat : Int) = IntKind.u64.wrap (((BitVec.ofInt 64 (a.toNat : Int)) &&& ~~~(BitVec.ofInt 64 (b.toNat : Int))).toNat : Int) := rfl
  rw [e, word_of, word_of, word_back]
theorem n_or (a b : Wd) : a.toNat ||| b.toNat = (a ||| b).toNat := (BitVec.toNat_or ..).symm
theorem n_andNot (a b : Wd) : a.toNat &&& (18446744073709551615 - b.toNat) = (a &&& ~~~b).toNat := by
  rw [BitVec.toNat_and, BitVec.toNat_not]
theorem b_eq (a b : Wd) : ((a.toNat : Int) = (b.toNat : Int)) = (a = b) := propext ⟨fun h => BitVec.eq_of_toNat_eq (by omega), fun h => by rw [h]⟩
theorem b_beq (a b : Wd) : ((a.toNat : Int) == (b.toNat : Int)) = decide (a = b) := by
  rw [Bool.beq_eq_decide_eq]
  simp only [b_eq]
/-- A slice of nodes, cell by cell. -/
theorem Src.nodes {w : World} {v : Value} {l : List Nd} (h : Src Nd.cells w v l) :
    ∃ ao cap, v = .slice ao l.length cap ∧ ∀ k (hk : k < l.length), ∃ b off, ao = some ⟨b, off, none⟩ ∧ b < w.heap.size ∧ l.length ≤ cap ∧ ∀ w', Below w.heap.size w w' → w'.cell? ⟨b, off + k * 3, none⟩ = some (uv l[k].gen) ∧ w'.cell? ⟨b, off + k * 3 + 1, none⟩ = some (uv l[k].kill) ∧ w'.cell? ⟨b, off + k * 3 + 2, none⟩ = some (uv l[k].start) := by
  obtain ⟨ao, cap, e, hf⟩ := h.form nd3
  refine ⟨ao, cap, e, fun k hk => ?_⟩
  obtain ⟨b, off, e1, hb, hc, h2⟩ := hf k hk
  refine ⟨b, off, e1, hb, hc, fun w' hw => ⟨?_, ?_, ?_⟩⟩
  · have := h2 w' hw 0 (by omega)
    simpa [Nd.cells] using this
  · have := h2 w' hw 1 (by omega)
    simpa [Nd.cells, Nat.add_assoc] using this
  · have := h2 w' hw 2 (by omega)
    simpa [Nd.cells, Nat.add_assoc] using this
/-- Join by what either has. -/
theorem join32 (w : World) (a b : Wd) : Calls Tryd.prog 32 #[uv a, uv b] w fun e w' => e = .returned (uv (a ||| b)) ∧ w' = w := by
  have h := b_or a b
  unfold uv
  go_enter Tryd.func32, Tryd.ntmps32
  go_wp2
  go_ret
  exact ⟨by rw [BitVec.toNat_or]; rfl, rfl⟩
theorem equal33 (w : World) (a b : Wd) : Calls Tryd.prog 33 #[uv a, uv b] w fun e w' => e = .returned (.bool (decide (a = b))) ∧ w' = w := by
  have h := b_beq a b
  unfold uv
  go_enter Tryd.func33, Tryd.ntmps33
  go_wp2
  go_ret
  exact ⟨by rw [← h]; rfl, rfl⟩
/-- Where the closures find the nodes: in a box. -/
structure BoxN (w : World) (q : Nat) (ns : List Nd) : Prop where
  v : ∃ nv, w.cell? ⟨q, 0, none⟩ = some nv ∧ Src Nd.cells w nv ns
theorem start31 {w : World} {q : Nat} {ns : List Nd} (h : BoxN w q ns) (hl : ns.length ≤ 64) {k : Nat} (hk : k < ns.length) : Calls Tryd.prog 31 #[.int .i64 k, .pointer (some ⟨q, 0, none⟩)] w fun e w' => e = .returned (uv ns[k].start) ∧ w' = w := by
  obtain ⟨nv, c0, hs⟩ := h.v
  obtain ⟨ao, cap, rfl, hf⟩ := hs.nodes
  obtain ⟨b, off, rfl, hb, hc, hcc⟩ := hf k hk
  obtain ⟨c1, c2, c3⟩ := hcc w (Below.refl _ _)
  clear hf hs h hcc
  go_enter Tryd.func31, Tryd.ntmps31
  go_wp2
  go_ret
  exact ⟨rfl, rfl⟩
theorem flow34 {w : World} {q : Nat} {ns : List Nd} (h : BoxN w q ns) (hl : ns.length ≤ 64) {k : Nat} (hk : k < ns.length) (x : Wd) : Calls Tryd.prog 34 #[.int .i64 k, uv x, .pointer (some ⟨q, 0, none⟩)] w fun e w' => e = .returned (uv (x &&& ~~~ns[k].kill ||| ns[k].gen)) ∧ ∃ d, w' = w.drewN d := by
  obtain ⟨nv, c0, hs⟩ := h.v
  obtain ⟨ao, cap, rfl, hf⟩ := hs.nodes
  obtain ⟨b, off, rfl, hb, hc, hcc⟩ := hf k hk
  obtain ⟨c1, c2, c3⟩ := hcc w (Below.refl _ _)
  have h1 := b_andNot x ns[k].kill
  have h2 := b_or (x &&& ~~~ns[k].kill) ns[k].gen
  clear hf hs h hcc
  unfold uv at *
  go_enter Tryd.func34, Tryd.ntmps34
  go_wp2
  go_quiet (fail)
  go_wp2
  go_ret
  refine ⟨?_, _, rfl⟩
  show Ending.returned (.int .u64 (bits .or .u64 ((x.toNat &&& (18446744073709551615 - ns[k].kill.toNat) : Nat) : Int) (ns[k].gen.toNat : Int))) = _
  rw [n_andNot, h2]
end Go.Proofs.YtjhndnhldhmjnaaDoor
