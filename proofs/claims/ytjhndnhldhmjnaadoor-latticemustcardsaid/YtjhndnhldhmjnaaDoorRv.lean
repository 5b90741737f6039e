/- A row of ints turned about. -/
import Derived.Test.YtjhndnhldhmjnaaDoorVj
namespace Go.Proofs.YtjhndnhldhmjnaaDoor
open Go Go.RowKit Go.Maps
set_option linter.unusedVariables false
set_option linter.unusedSimpArgs false
def rowL (n : Nat) (h : Nat → Nat) : List Value := (List.range n).map fun k => .int .i64 (h k)
theorem rowL_len (n : Nat) (h : Nat → Nat) : (rowL n h).length = n := by simp [rowL]
theorem rowL_get (n : Nat) (h : Nat → Nat) (k : Nat) (hk : k < n) : (rowL n h)[k]? = some (.int .i64 (h k)) := by simp [rowL, hk]
theorem rowL_set (n : Nat) (h : Nat → Nat) (j x : Nat) : (rowL n h).set j (.int .i64 x) = rowL n (upd h j x) := by
  refine List.ext_getElem (by simp [rowL]) fun k h1 h2 => ?_
  by_cases e : j = k
  · subst e
    simp [rowL, upd_at]
  · rw [List.getElem_set_ne e]
    simp [rowL, upd_ne h x (Ne.symm e)]
theorem rowL_congr {n : Nat} {h h' : Nat → Nat} (e : ∀ k, k < n → h k = h' k) : rowL n h = rowL n h' := by
  refine List.ext_getElem (by simp [rowL]) fun k h1 h2 => ?_
  rw [rowL_len] at h1
  simp [rowL, e k h1]
theorem rowL_list (F : List Nat) : flat icell (ints F) = rowL F.length (fun k => F.getD k 0) := by
  rw [flat_i]
  refine List.ext_getElem (by simp [rowL, ints]) fun k h1 h2 => ?_
  rw [rowL_len] at h2
  simp [rowL, ints, h2]
/-- The first i and the last i turned about. -/
def revP (h : Nat → Nat) (n i k : Nat) : Nat := if k < i ∨ n ≤ k + i then h (n - 1 - k) else h k
theorem revP_step {h : Nat → Nat} {n i j : Nat} (hij : i + j + 1 = n) (hlt : i < j) (k : Nat) (hk : k < n) : upd (upd (revP h n i) i (revP h n i j)) j (revP h n i i) k = revP h n (i + 1) k := by
  unfold upd
  by_cases e1 : k = j
  · subst e1
    rw [if_pos rfl]
    unfold revP
    rw [if_neg (by omega), if_pos (by omega)]
    congr 1
    omega
  · rw [if_neg e1]
    by_cases e2 : k = i
    · subst e2
      rw [if_pos rfl]
      unfold revP
      rw [if_neg (by omega), if_pos (by omega)]
      congr 1
      omega
    · rw [if_neg e2]
      unfold revP
      by_cases c : k < i ∨ n ≤ k + i
      · rw [if_pos c, if_pos (by omega)]
      · rw [if_neg c, if_neg (by omega)]
theorem revP_end {h : Nat → Nat} {n i : Nat} (hi : n ≤ i + i + 1) (k : Nat) (hk : k < n) : revP h n i k = h (n - 1 - k) := by
  unfold revP
  by_cases c : k < i ∨ n ≤ k + i
  · rw [if_pos c]
  · rw [if_neg c]
    congr 1
    omega
set_option maxRecDepth 20000 in
set_option maxHeartbeats 4000000 in
theorem reverse56 {w : World} {B g n cap : Nat} {h : Nat → Nat} (ho : w.ownsRow B 3 1 (.slice (some ⟨g, 0, none⟩) n cap) n (rowL n h)) (hn : n ≤ 65536) :
    Calls Tryd.prog 56 #[.slice (some ⟨g, 0, none⟩) n cap] w fun e w' => e = .returned (.tuple #[]) ∧ w'.ownsRow B 3 1 (.slice (some ⟨g, 0, none⟩) n cap) n (rowL n (fun k => h (n - 1 - k))) ∧ Kept (fun b => b = g) w w' := by
  have H := hid' ho
  clear ho
  go_enter Tryd.func56, Tryd.ntmps56
  go_wp2
  go_loopw [2, 3] (fun iv jv wr => ∃ (i : Nat) (j : Int), iv = .int .i64 i ∧ jv = .int .i64 j ∧ (i : Int) + j + 1 = n ∧ wr.ownsRow B 3 1 (.slice (some ⟨g, 0, none⟩) n cap) n (rowL n (revP h n i)) ∧ Kept (fun b => b = g) w wr) (fun iv _ _ => n - (intOf iv).toNat)
  case atStart =>
    refine ⟨0, (n : Int) - 1, rfl, rfl, by omega, ?_, Kept.rfl _ _⟩
    rw [rowL_congr (h' := h) (fun k hk => by unfold revP; rw [if_neg (by omega)])]
    exact H.out
  case round =>
    obtain ⟨i, j, rfl, rfl, hij, hO, hK⟩ := hrel
    have HO := hid' hO
    have HK := hid' hK
    by_cases hlt : (i : Int) < j
    · obtain ⟨jn, rfl⟩ : ∃ jn : Nat, j = jn := ⟨j.toNat, by omega⟩
      have hjn : jn < n := by omega
      have hin : i < n := by omega
      have hlt' : i < jn := by omega
      have ci : wr.cell? ⟨g, i, none⟩ = some (.int .i64 (revP h n i i)) := by rw [World.ownsRow.cellAt hO i (by omega), rowL_get _ _ _ hin]
      have cj : wr.cell? ⟨g, jn, none⟩ = some (.int .i64 (revP h n i jn)) := by rw [World.ownsRow.cellAt hO jn (by omega), rowL_get _ _ _ hjn]
      have fi : wr.frozen? ⟨g, i, none⟩ = false := World.ownsRow.frozenAt hO i
      have fj : wr.frozen? ⟨g, jn, none⟩ = false := World.ownsRow.frozenAt hO jn
      have o1 := (World.ownsRow.stored hO i (.int .i64 (revP h n i jn))).1
      rw [rowL_set] at o1
      have o2 := (World.ownsRow.stored o1 jn (.int .i64 (revP h n i i))).1
      rw [rowL_set, rowL_congr (fun k hk => revP_step (by omega) hlt' k hk)] at o2
      have O2 := hid' o2
      have K2 : Hid (Kept (fun b => b = g) w ((wr.setCell ⟨g, i, none⟩ (.int .i64 (revP h n i jn))).setCell ⟨g, jn, none⟩ (.int .i64 (revP h n i i)))) := (hK.trans (setK _ _ _ _)).trans (setK _ _ _ _)
      clear hO hK o1 o2 HO HK
      generalize revP h n i i = x at *
      generalize revP h n i jn = y at *
      go_wp2_with fail
      go_region
      all_goals go_wp2_with fail
      all_goals exact ⟨⟨i + 1, (jn : Int) - 1, by go_num, rfl, by omega, O2.out, K2.out.drew⟩, by simp [intOf]; omega⟩
    · go_wp2_with fail
      go_end0
      refine ⟨rfl, ?_, HK.out⟩
      rw [← rowL_congr (fun k hk => revP_end (h := h) (i := i) (by omega) k hk)]
      exact HO.out
theorem reverse56_nil (w : World) : Calls Tryd.prog 56 #[.slice none 0 0] w fun e w' => e = .returned (.tuple #[]) ∧ w' = w := by
  go_enter Tryd.func56, Tryd.ntmps56
  go_wp2
  go_loopw [2, 3] (fun iv jv wr => iv = .int .i64 0 ∧ jv = .int .i64 (-1) ∧ wr = w) (fun iv _ _ => 0)
  case atStart => exact ⟨rfl, rfl, rfl⟩
  case round =>
    obtain ⟨rfl, rfl, rfl⟩ := hrel
    go_wp2_with fail
    go_end0
    exact ⟨rfl, rfl⟩
theorem make_left (w : World) {base n : Nat} (hn : n ≤ 65536) (hb : base ≤ w.heap.size) :
    ∃ w', (Instr.makeSlice 46 (.int .i64 0) (.int .i64 (n : Nat))).run Tryd.prog w = .ok (.slice (some ⟨w.heap.size, 0, none⟩) 0 n) w' ∧ Own 3 1 icell w' base (.slice (some ⟨w.heap.size, 0, none⟩) 0 n) [] ∧ Below w.heap.size w w' ∧ w'.heap.size = w.heap.size + 1 := by
  obtain ⟨i0, hi, e0, e1, e2⟩ := info_parts info3
  have hmul : ((8 : Nat) : Int) * ((n : Nat) : Int) ≤ 281474976710656 := by omega
  have hr := run_make (P := Tryd.prog) w 46 3 i0 (.int .i64 0) Tryd.underlying46 hi e0 .i64 .i64 0 (n : Nat) (by omega) (by omega) (by rw [e2]; exact hmul) (by omega)
  rw [Int.toNat_natCast, e1] at hr
  refine ⟨_, hr, ?_, below1 _ _, by simp⟩
  refine ⟨rfl, .inr ⟨w.heap.size, n, _, rfl, hb, by rw [heap_alloc_new], Nat.zero_le _, by unfold maxLen; omega, size_madeCells _ _, by simp [flat]⟩⟩
end Go.Proofs.YtjhndnhldhmjnaaDoor
