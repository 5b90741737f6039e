/- Rows of ints: made, and filled. -/
import Derived.Test.YtgkaeoieclegjaaRch
import Derived.Test.YtgkaeoieclegjaaFd
namespace Go.Proofs.Ytgkaeoieclegjaa
open Go.RowKit Go.Maps
set_option linter.unusedVariables false
set_option linter.unusedSimpArgs false
/-- A row of n ints in block g. -/
def RowI (w : World) (g n : Nat) (f : Nat → Int) : Prop := w.rowIs g 3 n (fun j => .int .i64 (f j))
theorem RowI.cell {w : World} {g n i : Nat} {f : Nat → Int} (h : RowI w g n f) (hi : i < n) : w.cell? ⟨g, i, none⟩ = some (.int .i64 (f i)) := World.rowIs.cell h hi
theorem RowI.fro {w : World} {g n : Nat} {f : Nat → Int} (h : RowI w g n f) (i : Nat) : w.frozen? ⟨g, i, none⟩ = false := World.rowIs.frozen h i
theorem RowI.lt {w : World} {g n : Nat} {f : Nat → Int} (h : RowI w g n f) : g < w.heap.size := World.rowIs.lt h
theorem RowI.on {w w' : World} {g n : Nat} {f : Nat → Int} (h : RowI w g n f) (hb : Below w.heap.size w w') : RowI w' g n f := World.rowIs.of_block h (hb.block _ (World.rowIs.lt h))
theorem RowI.kept {S : Nat → Prop} {w w' : World} {g n : Nat} {f : Nat → Int} (h : RowI w g n f) (hk : Kept S w w') (hn : ¬ S g) : RowI w' g n f := hk.row h hn
theorem RowI.set {w : World} {g n : Nat} {f : Nat → Int} (h : RowI w g n f) (i : Nat) (x : Int) : RowI (w.setCell ⟨g, i, none⟩ (.int .i64 x)) g n (Dfs.upd f i x) :=
  World.rowIs.congr (World.rowIs.set h i (.int .i64 x)) (fun j _ => by unfold Dfs.upd; split <;> rfl)
theorem RowI.other {w : World} {g g' n i : Nat} {f : Nat → Int} {v : Value} (h : RowI w g n f) (hne : g ≠ g') : RowI (w.setCell ⟨g', i, none⟩ v) g n f := World.rowIs.setOther h hne v
theorem RowI.congr {w : World} {g n : Nat} {f f' : Nat → Int} (h : RowI w g n f) (e : ∀ i, i < n → f i = f' i) : RowI w g n f' := World.rowIs.congr h (fun i hi => by rw [e i hi])
theorem make_ints (w : World) {n : Nat} (hn : n * 8 ≤ big) :
    ∃ w', (Instr.makeSlice 26 (.int .i64 (n : Nat)) (.int .i64 (n : Nat))).run Try.prog w = .ok (.slice (some ⟨w.heap.size, 0, none⟩) n n) w' ∧ RowI w' w.heap.size n (fun _ => 0) ∧ Below w.heap.size w w' ∧ w'.heap.size = w.heap.size + 1 := by
  unfold big at hn
  obtain ⟨i0, hi, e0, e1, e2⟩ := info_parts info3
  have hmul : ((8 : Nat) : Int) * ((n : Nat) : Int) ≤ 281474976710656 := by omega
  have hr := run_make (P := Try.prog) w 26 3 i0 (.int .i64 0) Try.underlying26 hi e0 .i64 .i64 (n : Nat) (n : Nat) (by omega) (Int.le_refl _) (by rw [e2]; exact hmul) (by omega)
  rw [Int.toNat_natCast, e1] at hr
  refine ⟨_, hr, ?_, below1 _ _, by simp⟩
  have := World.rowIs_made w (.int .i64 0) (n * 1) 3
  rw [Nat.mul_one] at this
  unfold RowI
  simpa [Value.cells] using this
set_option maxRecDepth 20000 in
/-- A row of none. -/
theorem nones26 {w : World} (n : Nat) (hn : n * 8 ≤ big) : Calls Try.prog 26 #[.int .i64 n] w fun e w' => ∃ g, e = .returned (.slice (some ⟨g, 0, none⟩) n n) ∧ w.heap.size ≤ g ∧ RowI w' g n (fun _ => -1) ∧ Below w.heap.size w w' := by
  obtain ⟨w1, hm, hR, hb, hs⟩ := make_ints w hn
  have HR := hid' hR
  have HB := hid' hb
  unfold big at hn
  clear hR hb
  go_enter Try.func26, Try.ntmps26
  go_wp2_with fail
  go_loopw [9] (fun i wr => ∃ k : Nat, k ≤ n ∧ i = .int .i64 k ∧ (∃ f, RowI wr w.heap.size n f ∧ ∀ j, j < k → f j = -1) ∧ Below w.heap.size w wr) (fun i _ => n - (intOf i).toNat)
  case atStart => exact ⟨0, Nat.zero_le _, rfl, ⟨_, HR.out, fun j hj => by omega⟩, HB.out⟩
  case round =>
    obtain ⟨k, hk, rfl, ⟨f, hf, hfk⟩, hbr⟩ := hrel
    have HF := hid' hf
    have HFK := hid' hfk
    have HBR := hid' hbr
    have hfro := hf.fro k
    clear hf hfk hbr
    by_cases hkn : k < n
    · have hc := HF.out.cell hkn
      go_wp2_with fail
      go_roundw
      case rel =>
        refine ⟨k + 1, by omega, by go_num, ⟨_, HF.out.set k (-1), fun j hj => ?_⟩, ?_⟩
        · by_cases e : j = k
          · subst e; exact Dfs.upd_same _ _ _
          · rw [Dfs.upd_ne _ _ e]; exact HFK.out j (by omega)
        · exact ((Kept.of_below HBR.out).set (S := fun _ => False) (.inr (Nat.le_refl _)) _).below (Nat.le_refl _) (fun k e => e.elim)
      case measure => simp [intOf]; omega
    · go_wp2_with fail
      go_ret
      exact ⟨_, rfl, Nat.le_refl _, HF.out.congr (fun i hi => HFK.out i (by omega)), HBR.out⟩
end Go.Proofs.Ytgkaeoieclegjaa
