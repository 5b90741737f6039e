/- Rows of bools; a stop ahead of an append. -/
import Derived.Test.YtgkaeoieclegjaaNn
import Derived.Test.YtgkaeoieclegjaaPrd
namespace Go.Proofs.Ytgkaeoieclegjaa
open Go Go.RowKit Go.Maps
set_option linter.unusedVariables false
set_option linter.unusedSimpArgs false
/-- A row of n bools in block g. -/
def RowB (w : World) (g n : Nat) (f : Nat → Bool) : Prop := w.rowIs g 4 n (fun j => .bool (f j))
theorem RowB.cell {w : World} {g n i : Nat} {f : Nat → Bool} (h : RowB w g n f) (hi : i < n) : w.cell? ⟨g, i, none⟩ = some (.bool (f i)) := World.rowIs.cell h hi
theorem RowB.fro {w : World} {g n : Nat} {f : Nat → Bool} (h : RowB w g n f) (i : Nat) : w.frozen? ⟨g, i, none⟩ = false := World.rowIs.frozen h i
theorem RowB.lt {w : World} {g n : Nat} {f : Nat → Bool} (h : RowB w g n f) : g < w.heap.size := World.rowIs.lt h
theorem RowB.on {w w' : World} {g n : Nat} {f : Nat → Bool} (h : RowB w g n f) (hb : Below w.heap.size w w') : RowB w' g n f := World.rowIs.of_block h (hb.block _ (World.rowIs.lt h))
theorem RowB.kept {S : Nat → Prop} {w w' : World} {g n : Nat} {f : Nat → Bool} (h : RowB w g n f) (hk : Kept S w w') (hn : ¬ S g) : RowB w' g n f := hk.row h hn
theorem RowB.set {w : World} {g n : Nat} {f : Nat → Bool} (h : RowB w g n f) (i : Nat) (x : Bool) : RowB (w.setCell ⟨g, i, none⟩ (.bool x)) g n (Dfs.upd f i x) :=
  World.rowIs.congr (World.rowIs.set h i (.bool x)) (fun j _ => by unfold Dfs.upd; split <;> rfl)
theorem RowB.congr {w : World} {g n : Nat} {f f' : Nat → Bool} (h : RowB w g n f) (e : ∀ i, i < n → f i = f' i) : RowB w g n f' := World.rowIs.congr h (fun i hi => by rw [e i hi])
theorem RowB.ty {w : World} {g n : Nat} {f : Nat → Bool} (h : RowB w g n f) : ∃ c, w.heap[g]? = some (.cells c 4 (0, 0)) := by
  obtain ⟨c, hc, _⟩ := h
  exact ⟨c, hc⟩
theorem make_bools (w : World) {n : Nat} (hn : n * 8 ≤ big) :
    ∃ w', (Instr.makeSlice 34 (.int .i64 (n : Nat)) (.int .i64 (n : Nat))).run Try.prog w = .ok (.slice (some ⟨w.heap.size, 0, none⟩) n n) w' ∧ RowB w' w.heap.size n (fun _ => false) ∧ Below w.heap.size w w' ∧ w'.heap.size = w.heap.size + 1 := by
  unfold big at hn
  obtain ⟨i0, hi, e0, e1, e2⟩ := info_parts info4
  have hmul : ((1 : Nat) : Int) * ((n : Nat) : Int) ≤ 281474976710656 := by omega
  have hr := run_make (P := Try.prog) w 34 4 i0 (.bool false) Try.underlying34 hi e0 .i64 .i64 (n : Nat) (n : Nat) (by omega) (Int.le_refl _) (by rw [e2]; exact hmul) (by omega)
  rw [Int.toNat_natCast, e1] at hr
  refine ⟨_, hr, ?_, below1 _ _, by simp⟩
  have := World.rowIs_made w (.bool false) (n * 1) 4
  rw [Nat.mul_one] at this
  unfold RowB
  simpa [Value.cells] using this
/-- The walk stops ahead of an append. -/
theorem stop_append {P : Program} {ops : Array Oper} {Q : Exit → Act → World → Prop} {rest : List Oper} {a : Act} {w : World} {dst : Option Nat} {xs : Array Operand} {ts : Array TypeId} {ty : TypeId} {pos : String} {af : Array Edge} {gd : Option (Nat × Bool)}
    (h : Mark (wpList P ops Q ({ dst := dst, op := .call { callee := .builtin .append, args := xs, argTypes := ts }, type := ty, pos := pos, after := af, guard := gd } :: rest) a w)) : wpList P ops Q ({ dst := dst, op := .call { callee := .builtin .append, args := xs, argTypes := ts }, type := ty, pos := pos, after := af, guard := gd } :: rest) a w := h
end Go.Proofs.Ytgkaeoieclegjaa
