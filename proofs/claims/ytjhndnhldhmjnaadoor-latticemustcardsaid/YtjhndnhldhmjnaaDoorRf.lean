/- Rows made; queues. -/
import Derived.Test.YtjhndnhldhmjnaaDoorRh
namespace Go.Proofs.YtjhndnhldhmjnaaDoor
open Go.RowKit Go.Maps
set_option linter.unusedVariables false
set_option linter.unusedSimpArgs false
theorem make_row (w : World) {n : Nat} (hn : n * 8 ≤ big) :
    ∃ w', (Instr.makeSlice 47 (.int .i64 (n : Nat)) (.int .i64 (n : Nat))).run Tryd.prog w = .ok (.slice (some ⟨w.heap.size, 0, none⟩) n n) w' ∧ RowU w' w.heap.size n (fun _ => 0) ∧ Below w.heap.size w w' ∧ w'.heap.size = w.heap.size + 1 := by
  unfold big at hn
  obtain ⟨i0, hi, e0, e1, e2⟩ := info_parts info29
  have hmul : ((8 : Nat) : Int) * ((n : Nat) : Int) ≤ 281474976710656 := by omega
  have hr := run_make (P := Tryd.prog) w 47 29 i0 (.int .u64 0) Tryd.underlying47 hi e0 .i64 .i64 (n : Nat) (n : Nat) (by omega) (Int.le_refl _) (by rw [e2]; exact hmul) (by omega)
  rw [Int.toNat_natCast, e1] at hr
  refine ⟨_, hr, ?_, below1 _ _, by simp⟩
  have := World.rowIs_made w (.int .u64 0) (n * 1) 29
  rw [Nat.mul_one] at this
  unfold RowU uv
  simpa [Value.cells] using this
/-- How many words a row of n places has. -/
def words (n : Nat) : Nat := (n + 63) / 64
theorem rowFor36 (w : World) (n : Nat) (hn : n ≤ 65536) : Calls Tryd.prog 36 #[.int .i64 n] w fun e w' => e = .returned (.slice (some ⟨w.heap.size, 0, none⟩) (words n) (words n)) ∧ RowU w' w.heap.size (words n) (fun _ => 0) ∧ Below w.heap.size w w' ∧ w'.heap.size = w.heap.size + 1 := by
  obtain ⟨w1, hm, h1, h2, h3⟩ := make_row w (n := words n) (by unfold big words; omega)
  have e : ((words n : Nat) : Int) = ((n : Int) + 64 - 1) / 64 := by unfold words; omega
  have e' : ((words n : Nat) : Int) = ((n : Int) + 63) / 64 := by unfold words; omega
  rw [e] at hm
  go_enter Tryd.func36, Tryd.ntmps36
  go_wp2
  go_ret
  exact ⟨rfl, h1, h2, h3⟩
/-- A queue of places below n: which of them wait. -/
structure QuM (w : World) (p o g n : Nat) (at_ : Int) (st : Nat → Wd) : Prop where
  row : RowU w g (words n) st
  cv : w.cell? ⟨p, o, none⟩ = some (.slice (some ⟨g, 0, none⟩) (words n) (words n))
  ca : w.cell? ⟨p, o + 1, none⟩ = some (.int .i64 at_)
  fa : w.frozen? ⟨p, o + 1, none⟩ = false
  ne : p ≠ g
theorem queueFor47 (w : World) (n : Nat) (hn : n ≤ 65536) : Calls Tryd.prog 47 #[.int .i64 n] w fun e w' => ∃ g, e = .returned (.agg #[.slice (some ⟨g, 0, none⟩) (words n) (words n), .int .i64 0]) ∧ RowU w' g (words n) (fun _ => 0) ∧ Below w.heap.size w w' ∧ w.heap.size ≤ g := by
  go_enter Tryd.func47, Tryd.ntmps47
  go_wp2_with (go_at_call 36; refine (rowFor36 _ n hn).mono ?_; rintro e w1 ⟨rfl, h1, hb, hs⟩; obtain ⟨hc1, hf1⟩ := bcell hb; have s0 : (w.alloc (Obj.cells #[Value.slice none 0 0, Value.int IntKind.i64 0] 66)).heap.size = w.heap.size + 1 := by simp)
  rw [s0] at h1
  have k0 : w1.cell? ⟨w.heap.size, 0, none⟩ = some (.slice none 0 0) := by rw [hc1 _ _ (by omega)]; simp
  have k1 : w1.cell? ⟨w.heap.size, 1, none⟩ = some (.int .i64 0) := by rw [hc1 _ _ (by omega)]; simp
  refine bodyPost_ret (v := .agg #[.slice (some ⟨w.heap.size + 1, 0, none⟩) (words n) (words n), .int .i64 0]) (by simp [results, Tryd.results47, go_sem, k0, k1]) rfl ?_
  refine ⟨_, rfl, (h1.other (by omega)).other (by omega), ?_, by omega⟩
  have hb0 : Below w.heap.size w w1 := Below.trans (below1 _ _) (hb.mono (by simp))
  exact (hb0.setCell (Nat.le_refl _) _).setCell (Nat.le_refl _) _
theorem add49 {w : World} {p o g n : Nat} {at_ : Int} {st : Nat → Wd} (h : QuM w p o g n at_ st) {k : Nat} (hk : k < n) (hn : n ≤ 65536) : Calls Tryd.prog 49 #[.pointer (some ⟨p, o, none⟩), .int .i64 k] w fun e w' => e = .returned (.tuple #[]) ∧ ∃ d, w' = (w.drewN d).setCell ⟨g, k / 64, none⟩ (uv (st (k / 64) ||| bitW k)) := by
  have HQ := hid' h
  have cv := h.cv
  clear h
  go_enter Tryd.func49, Tryd.ntmps49
  go_wp2_with (go_at_call 37; refine (add37 HQ.out.row (n := k) (by unfold words; omega) (by unfold words; omega)).mono ?_; rintro e w1 ⟨rfl, d, rfl⟩)
  go_end0
  exact ⟨rfl, d, rfl⟩
end Go.Proofs.YtjhndnhldhmjnaaDoor
