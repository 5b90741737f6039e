/- pushGroup, where a branch becomes long. -/
import Derived.Test.YtgnlplddppheiaaPush
namespace Go.Proofs.Ytgnlplddppheiaa
open Go.RowKit
set_option linter.unusedVariables false

theorem info3' : (Try.prog.info? 3).map (fun i => (i.zero, i.size, i.bytes)) = some (some (.int .i64 0), 1, 8) := by kernel_rfl

theorem grown_tree {w w1 : World} {o : Obj} {v : Value} (h : (w.alloc o).grownBy w1 v.ownBlock) : Kept (fun b => v.ownBlock = some b ∨ False) w w1 :=
  ((Kept.rfl _ w).alloc o).trans (Kept.of_grown (S := fun b => v.ownBlock = some b ∨ False) h (fun k hk => .inl hk) |>.mono (fun _ _ h => h))

set_option maxRecDepth 100000 in
set_option maxHeartbeats 2000000 in
theorem push_gone {tb n k o x : Nat} {h : Nat → Int} {v : Value} {L : List Nat} {w : World} (ht : IsTree w tb n h) (ho : w.ownsRow 0 3 1 v L.length (ints L)) (hv : v.ownBlock ≠ some tb) (hL : L.length ≤ 4000000) (hk : k < n) (hn : n ≤ 4000000)
    (h0 : h (7 * k) = x) (h1 : h (7 * k + 1) ≤ o) (h4 : (o : Int) < h (7 * k + 4)) (h2 : h (7 * k + 2) ≤ o) (h3 : (o : Int) < h (7 * k + 3)) (h5 : ¬ 0 < h (7 * k + 5)) :
    Calls Try.prog 53 #[.slice (some ⟨tb, 0, none⟩) n n, .int .i64 k, .int .i64 o, v] w fun e w' => ∃ v', e = .returned v' ∧ IsTree w' tb n (noneH h k) ∧ w'.ownsRow 0 3 1 v' (L ++ [x]).length (ints (L ++ [x])) ∧
      Kept (fun b => b = tb ∨ v.ownBlock = some b) w w' ∧ (v'.ownBlock = v.ownBlock ∨ ∃ b, v'.ownBlock = some b ∧ w.heap.size ≤ b) := by
  have c0 := ht.cell hk (show 0 < 7 by omega)
  have c1 := ht.cell hk (show 1 < 7 by omega)
  have c2 := ht.cell hk (show 2 < 7 by omega)
  have c3 := ht.cell hk (show 3 < 7 by omega)
  have c4 := ht.cell hk (show 4 < 7 by omega)
  have c5 := ht.cell hk (show 5 < 7 by omega)
  simp only [Nat.add_zero] at c0
  rw [h0] at c0
  have HT : Hid (IsTree w tb n h) := ht
  obtain ⟨i0, hi, hz0, hz1, hz2⟩ := info_parts info3'
  clear ht h0
  generalize h (7 * k + 1) = x1 at *
  generalize h (7 * k + 2) = x2 at *
  generalize h (7 * k + 3) = x3 at *
  generalize h (7 * k + 4) = x4 at *
  generalize h (7 * k + 5) = x5 at *
  go_enter Try.func53, Try.ntmps53
  go_wp2_with (first
    | (at_builtin; refine wpList_append_own_at _ rfl _ _ 45 rfl 0 3 i0 (.int .i64 0) 1 8 Try.underlying45 hi hz0 hz1 hz2 rfl (by decide) v L.length (ints L) rfl (ho.alloc _) ⟨w.heap.size, 0, none⟩ 1 1 [.int .i64 x] rfl rfl (cell_one_new _ _ _) (ints_oneCell .i64 [(x : Int)]) (by unfold maxLen; omega) (by omega) (by simp) ?_; intro v' w1 hown' hgrow hnil hloc; clear hnil; have K1 := grown_tree hgrow; have T1 : Hid (IsTree w1 tb n h) := K1.row HT.out (by rintro (e | e); exact hv e; exact e))
    | (go_at_call 51; refine (none51 _).mono ?_; rintro e w2 ⟨rfl, hb2⟩; have T2 : IsTree w2 tb n h := (Kept.of_below (S := fun _ => False) hb2).row T1.out (fun e => e); have d0 := T2.cell hk (show 0 < 7 by omega); have d1 := T2.cell hk (show 1 < 7 by omega); have d2 := T2.cell hk (show 2 < 7 by omega); have d3 := T2.cell hk (show 3 < 7 by omega); have d4 := T2.cell hk (show 4 < 7 by omega); have d5 := T2.cell hk (show 5 < 7 by omega); have d6 := T2.cell hk (show 6 < 7 by omega); have f := T2.free; simp only [Nat.add_zero] at d0; have T2' : Hid (IsTree w2 tb n h) := T2; clear T2))
  go_ret
  have hE : (L ++ [x]).length = L.length + 1 := by simp
  refine ⟨v', rfl, T2'.out.put k _ _ _ _ _ _ _, ?_, ?_, ?_⟩
  · rw [hE, ints_append]
    refine Kept.owns (S := fun b => b = tb) (Kept.put7 (S := fun b => b = tb) (Kept.of_below hb2) rfl _ _ _ _ _ _ _) hown' (fun b hb e => ?_)
    subst e
    rcases hloc with hl | hl
    · exact hv (hl ▸ hb)
    · rw [hl] at hb
      have := HT.out.lt
      simp at hb
      omega
  · exact Kept.put7 ((K1.mono (fun b _ hb => hb.elim .inr (fun e => e.elim))).trans (Kept.of_below hb2)) (.inl rfl) _ _ _ _ _ _ _
  · rcases hloc with hl | hl
    · exact .inl hl
    · exact .inr ⟨_, hl, by simp⟩
end Go.Proofs.Ytgnlplddppheiaa
