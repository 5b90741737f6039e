/- copyList: of numbers, instructions, blocks. -/
import Derived.Test.YthnbnilammjceaaPrd
import Derived.Laws.CopyRow
import Derived.Lib.SliceRun
namespace Go.Proofs.Ythnbnilammjceaa
open Go.RowKit Go.Maps
set_option linter.unusedVariables false
set_option linter.unusedSimpArgs false

theorem copy_row {P : Program} (w : World) (dT sT ty elem : TypeId) (g n c : Nat) (a : Addr) (sc z : Nat) (cur : Array Value) (t : TypeId) (cs : List Value)
    (hu : P.underlying dT = some (.slice elem)) (hs : (P.info? elem).map (·.size) = some z)
    (hg : w.heap[g]? = some (.cells cur t (0, 0))) (hn : cs.length = n * z)
    (hsrc : ∀ j v, cs[j]? = some v → w.cell? (a.add j) = some v) (hfit : cs.length = cur.size) (h1 : ∀ v ∈ cs, v.oneCell' = true) :
    (Builtin.copy_ #[dT, sT] ty #[.slice (some ⟨g, 0, none⟩) n c, .slice (some a) n sc]).run P w = .ok (goInt n) (w.setRow g cs.toArray) := by
  have hl := run_loadCells_list (P := P) w a cs hsrc
  have hst := run_storeCells_at P g 0 t cs 0 cur w hg (by omega) h1
  have e : (cur.toList.take (0 + 0) ++ cs ++ cur.toList.drop (0 + 0 + cs.length)) = cs := by
    rw [Nat.add_zero, Nat.zero_add, List.take_zero, List.nil_append, List.drop_of_length_le (by rw [Array.length_toList]; omega), List.append_nil]
  rw [e] at hst
  rw [hn] at hl
  cases hq : P.info? elem with
  | none => simp [hq] at hs
  | some i =>
    have hi : i.size = z := by simpa [hq] using hs
    simp [Builtin.copy_, run_underlying hu, Builtin.lenOf, Builtin.firstCells, sizeOf, typeInfo, hq, hi, hl, hst]

theorem size3 : (Try.prog.info? 3).map (·.size) = some 1 := by kernel_rfl
set_option maxHeartbeats 4000000 in
theorem copyList36 {w : World} {v : Value} {l : List Int} (h : Src icell w v l) (hl : l.length * 8 ≤ big) :
    Calls Try.prog 36 #[v] w fun e w' => ∃ v', e = .returned v' ∧ Own 3 1 icell w' w.heap.size v' l ∧ Below w.heap.size w w' := by
  obtain ⟨ao, cap, rfl, hf⟩ := h.form ic1
  have HSRC := hid' h
  unfold big at hl
  clear h
  cases ao with
  | none =>
    have e : l = [] := by
      cases l with
      | nil => rfl
      | cons x l => obtain ⟨b, o, e, _⟩ := hf 0 (by simp); cases e
    subst e
    clear hf
    simp only [List.length_nil]
    have q1 := fun W => Go.Lib.run_eql_slice_nil (P := Try.prog) W 41 3 none 0 cap 0 0 Try.underlying41
    simp only [Option.isNone_none] at q1
    go_enter Try.func36, Try.ntmps36
    go_wp2
    go_ret
    exact ⟨_, rfl, World.ownsRow_nil _ _ _ _, Below.refl _ _⟩
  | some ad =>
    obtain ⟨w1, hm, hrow, hb1, hs1⟩ := make_row (v := .int .i64 0) rfl w (base := w.heap.size) (n := l.length) Try.underlying41 info3 (by omega) (by omega) (Nat.le_refl _)
    obtain ⟨cur, hg, hcs⟩ : ∃ cur : Array Value, w1.heap[w.heap.size]? = some (.cells cur 3 (0, 0)) ∧ cur.size = l.length := by
      rcases hrow.2 with ⟨e, _⟩ | ⟨g, cap', cur, e, _, hh, _, _, hsz, _⟩
      · cases e
      · injection e with e1 e2 e3
        injection e1 with e1
        injection e1 with e1
        subst e1 e3
        exact ⟨cur, hh, by omega⟩
    have hcp := fun ty => copy_row (P := Try.prog) w1 41 41 ty 3 w.heap.size l.length l.length ad cap 1 cur 3 (flat icell l) Try.underlying41 size3 hg (by rw [flat_length ic1]) (fun j u hj => by
      rcases HSRC.out.on hb1 with ⟨rfl, _⟩ | ⟨b, off, cp, e, _, _, hc⟩
      · simp [flat] at hj
      · injection e with e1 e2 e3
        injection e1 with e1
        rw [e1, Addr.add_lit]
        exact hc j u hj) (by rw [flat_length ic1, hcs]; omega) (by intro u hu; rw [flat_i] at hu; obtain ⟨x, _, rfl⟩ := List.mem_map.1 hu; rfl)
    have HOWN : Hid (Own 3 1 icell (w1.setRow w.heap.size (flat icell l).toArray) w.heap.size (.slice (some ⟨w.heap.size, 0, none⟩) l.length l.length) l) := by
      refine ⟨by rw [flat_length ic1], .inr ⟨w.heap.size, l.length, (flat icell l).toArray, rfl, Nat.le_refl _, setRow_heap _ _ _ _ _ _ hg, Nat.le_refl _, by unfold maxLen; omega, by simp [flat_length ic1], ?_⟩⟩
      rw [List.take_of_length_le (by simp [flat_length ic1])]
    have HBL : Hid (Below w.heap.size w (w1.setRow w.heap.size (flat icell l).toArray)) := hb1.trans ⟨rfl, rfl, rfl, by simp [World.setRow], fun k hk => setRow_other w1 _ k _ (by omega)⟩
    have q1 := fun W => Go.Lib.run_eql_slice_nil (P := Try.prog) W 41 3 (some ad) l.length cap 0 0 Try.underlying41
    simp only [Option.isNone_some] at q1
    clear hf hrow hb1 hg HSRC
    generalize w1.setRow w.heap.size (flat icell l).toArray = w2 at *
    go_enter Try.func36, Try.ntmps36
    go_wp2_with fail
    go_ret
    exact ⟨_, rfl, HOWN.out, HBL.out⟩
end Go.Proofs.Ythnbnilammjceaa
