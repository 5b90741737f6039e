/- Rows of ints and of bools. -/
import Derived.Test.YtjhndnhldhmjnaaDoorSu
namespace Go.Proofs.YtjhndnhldhmjnaaDoor
open Go Go.RowKit Go.Maps
set_option linter.unusedVariables false
set_option linter.unusedSimpArgs false
/-- A row of n ints in block g. -/
def RowI (w : World) (g n : Nat) (f : Nat → Int) : Prop := w.rowIs g 3 n (fun j => .int .i64 (f j))
theorem RowI.cell {w : World} {g n i : Nat} {f : Nat → Int} (h : RowI w g n f) (hi : i < n) : w.cell? ⟨g, i, none⟩ = some (.int .i64 (f i)) := World.rowIs.cell h hi
theorem RowI.fro {w : World} {g n : Nat} {f : Nat → Int} (h : RowI w g n f) (i : Nat) : w.frozen? ⟨g, i, none⟩ = false := World.rowIs.frozen h i
theorem RowI.lt {w : World} {g n : Nat} {f : Nat → Int} (h : RowI w g n f) : g < w.heap.size := World.rowIs.lt h
theorem RowI.on {w w' : World} {g n : Nat} {f : Nat → Int} (h : RowI w g n f) (hb : Below w.heap.size w w') : RowI w' g n f := World.rowIs.of_block h (hb.block _ (World.rowIs.lt h))
theorem RowI.kept {S : Nat → Prop} {w w' : World} {g n : Nat} {f : Nat → Int} (h : RowI w g n f) (hk : Kept S w w') (hn : ¬ S g) : RowI w' g n f := hk.row h hn
theorem RowI.set {w : World} {g n : Nat} {f : Nat → Int} (h : RowI w g n f) (i : Nat) (x : Int) : RowI (w.setCell ⟨g, i, none⟩ (.int .i64 x)) g n (upd f i x) :=
  World.rowIs.congr (World.rowIs.set h i (.int .i64 x)) (fun j _ => by unfold upd; split <;> rfl)
theorem RowI.other {w : World} {g g' n i : Nat} {f : Nat → Int} {v : Value} (h : RowI w g n f) (hne : g ≠ g') : RowI (w.setCell ⟨g', i, none⟩ v) g n f := World.rowIs.setOther h hne v
theorem RowI.congr {w : World} {g n : Nat} {f f' : Nat → Int} (h : RowI w g n f) (e : ∀ i, i < n → f i = f' i) : RowI w g n f' := World.rowIs.congr h (fun i hi => by rw [e i hi])
theorem make_ints (w : World) {n : Nat} (hn : n * 8 ≤ big) :
    ∃ w', (Instr.makeSlice 46 (.int .i64 (n : Nat)) (.int .i64 (n : Nat))).run Tryd.prog w = .ok (.slice (some ⟨w.heap.size, 0, none⟩) n n) w' ∧ RowI w' w.heap.size n (fun _ => 0) ∧ Below w.heap.size w w' ∧ w'.heap.size = w.heap.size + 1 := by
  unfold big at hn
  obtain ⟨i0, hi, e0, e1, e2⟩ := info_parts info3
  have hmul : ((8 : Nat) : Int) * ((n : Nat) : Int) ≤ 281474976710656 := by omega
  have hr := run_make (P := Tryd.prog) w 46 3 i0 (.int .i64 0) Tryd.underlying46 hi e0 .i64 .i64 (n : Nat) (n : Nat) (by omega) (Int.le_refl _) (by rw [e2]; exact hmul) (by omega)
  rw [Int.toNat_natCast, e1] at hr
  refine ⟨_, hr, ?_, below1 _ _, by simp⟩
  have := World.rowIs_made w (.int .i64 0) (n * 1) 3
  rw [Nat.mul_one] at this
  unfold RowI
  simpa [Value.cells] using this
/-- A row of n bools in block g. -/
def RowB (w : World) (g n : Nat) (f : Nat → Bool) : Prop := w.rowIs g 4 n (fun j => .bool (f j))
theorem RowB.cell {w : World} {g n i : Nat} {f : Nat → Bool} (h : RowB w g n f) (hi : i < n) : w.cell? ⟨g, i, none⟩ = some (.bool (f i)) := World.rowIs.cell h hi
theorem RowB.fro {w : World} {g n : Nat} {f : Nat → Bool} (h : RowB w g n f) (i : Nat) : w.frozen? ⟨g, i, none⟩ = false := World.rowIs.frozen h i
theorem RowB.lt {w : World} {g n : Nat} {f : Nat → Bool} (h : RowB w g n f) : g < w.heap.size := World.rowIs.lt h
theorem RowB.on {w w' : World} {g n : Nat} {f : Nat → Bool} (h : RowB w g n f) (hb : Below w.heap.size w w') : RowB w' g n f := World.rowIs.of_block h (hb.block _ (World.rowIs.lt h))
theorem RowB.kept {S : Nat → Prop} {w w' : World} {g n : Nat} {f : Nat → Bool} (h : RowB w g n f) (hk : Kept S w w') (hn : ¬ S g) : RowB w' g n f := hk.row h hn
theorem RowB.set {w : World} {g n : Nat} {f : Nat → Bool} (h : RowB w g n f) (i : Nat) (x : Bool) : RowB (w.setCell ⟨g, i, none⟩ (.bool x)) g n (upd f i x) :=
  World.rowIs.congr (World.rowIs.set h i (.bool x)) (fun j _ => by unfold upd; split <;> rfl)
theorem RowB.congr {w : World} {g n : Nat} {f f' : Nat → Bool} (h : RowB w g n f) (e : ∀ i, i < n → f i = f' i) : RowB w g n f' := World.rowIs.congr h (fun i hi => by rw [e i hi])
theorem RowB.ty {w : World} {g n : Nat} {f : Nat → Bool} (h : RowB w g n f) : ∃ c, w.heap[g]? = some (.cells c 4 (0, 0)) := by
  obtain ⟨c, hc, _⟩ := h
  exact ⟨c, hc⟩
theorem make_bools (w : World) {n : Nat} (hn : n * 8 ≤ big) :
    ∃ w', (Instr.makeSlice 81 (.int .i64 (n : Nat)) (.int .i64 (n : Nat))).run Tryd.prog w = .ok (.slice (some ⟨w.heap.size, 0, none⟩) n n) w' ∧ RowB w' w.heap.size n (fun _ => false) ∧ Below w.heap.size w w' ∧ w'.heap.size = w.heap.size + 1 := by
  unfold big at hn
  obtain ⟨i0, hi, e0, e1, e2⟩ := info_parts info4
  have hmul : ((1 : Nat) : Int) * ((n : Nat) : Int) ≤ 281474976710656 := by omega
  have hr := run_make (P := Tryd.prog) w 81 4 i0 (.bool false) Tryd.underlying81 hi e0 .i64 .i64 (n : Nat) (n : Nat) (by omega) (Int.le_refl _) (by rw [e2]; exact hmul) (by omega)
  rw [Int.toNat_natCast, e1] at hr
  refine ⟨_, hr, ?_, below1 _ _, by simp⟩
  have := World.rowIs_made w (.bool false) (n * 1) 4
  rw [Nat.mul_one] at this
  unfold RowB
  simpa [Value.cells] using this
theorem pigeon : ∀ (n m : Nat) (f : Nat → Nat), (∀ i, i < m → f i < n) → (∀ i j, i < m → j < m → f i = f j → i = j) → m ≤ n
  | 0, m, f, h, _ => by
    cases m with
    | zero => exact Nat.le_refl _
    | succ m => exact absurd (h 0 (by omega)) (by omega)
  | n + 1, 0, f, _, _ => Nat.zero_le _
  | n + 1, m + 1, f, h, hi => by
    have := pigeon n m (fun i => if f i = n then f m else f i) (fun i hin => by
      have h1 := h i (by omega)
      have h2 := h m (by omega)
      show (if f i = n then f m else f i) < n
      split
      · rename_i e
        have : f m ≠ n := fun e2 => by
          have := hi i m (by omega) (by omega) (by omega)
          omega
        omega
      · omega) (fun i j h1 h2 e => by
      change (if f i = n then f m else f i) = (if f j = n then f m else f j) at e
      split at e <;> split at e
      · exact hi i j (by omega) (by omega) (by omega)
      · have := hi m j (by omega) (by omega) e
        omega
      · have := hi i m (by omega) (by omega) e
        omega
      · exact hi i j (by omega) (by omega) e)
    omega
end Go.Proofs.YtjhndnhldhmjnaaDoor
