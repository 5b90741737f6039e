/- copyList of instructions and of blocks. -/
import Derived.Test.YthnbnilammjceaaCpy
namespace Go.Proofs.Ythnbnilammjceaa
open Go.RowKit Go.Maps
set_option linter.unusedVariables false
set_option linter.unusedSimpArgs false

theorem make_any {et st : TypeId} {v : Value} {z by_ : Nat} (w : World) {n : Nat} (hst : Try.prog.underlying st = some (.slice et)) (hi' : (Try.prog.info? et).map (fun i => (i.zero, i.size, i.bytes)) = some (some v, z, by_)) (hn : n * by_ ≤ 140737488355328) (hn2 : n ≤ 140737488355328) :
    ∃ (w1 : World) (cur : Array Value), (Instr.makeSlice st (.int .i64 (n : Nat)) (.int .i64 (n : Nat))).run Try.prog w = .ok (.slice (some ⟨w.heap.size, 0, none⟩) n n) w1 ∧ w1.heap[w.heap.size]? = some (.cells cur et (0, 0)) ∧ cur.size = n * z ∧ Below w.heap.size w w1 := by
  obtain ⟨i0, hi, e0, e1, e2⟩ := info_parts hi'
  have hmul : ((by_ : Nat) : Int) * ((n : Nat) : Int) ≤ 281474976710656 := by
    have : ((by_ : Int) * (n : Int)) = ((n * by_ : Nat) : Int) := by rw [Int.mul_comm]; simp
    omega
  have hr := run_make (P := Try.prog) w st et i0 v hst hi e0 .i64 .i64 (n : Nat) (n : Nat) (by omega) (Int.le_refl _) (by rw [e2]; exact hmul) (by omega)
  rw [Int.toNat_natCast, e1] at hr
  exact ⟨_, _, hr, heap_alloc_new _ _, size_madeCells _ _, below1 _ _⟩
theorem in_one {w : World} {l : List In} (ho : ∀ x ∈ l, In.ok w x) : ∀ u ∈ flat In.cells l, u.oneCell' = true := by
  intro u hu
  obtain ⟨x, hx, hu⟩ := List.mem_flatMap.1 hu
  obtain ⟨a1, a2, ea⟩ := (ho x hx).a.len
  obtain ⟨p1, p2, ep⟩ := (ho x hx).p.len
  simp only [In.cells, List.mem_cons, List.not_mem_nil, or_false] at hu
  rcases hu with rfl | rfl | rfl | rfl | rfl | rfl | rfl
  · rfl
  · rfl
  · rw [ea]; rfl
  · rfl
  · rfl
  · rfl
  · rw [ep]; rfl
theorem bl_one {w : World} {l : List Bl} (ho : ∀ x ∈ l, Bl.ok w x) : ∀ u ∈ flat Bl.cells l, u.oneCell' = true := by
  intro u hu
  obtain ⟨x, hx, hu⟩ := List.mem_flatMap.1 hu
  obtain ⟨a1, a2, ea⟩ := (ho x hx).c.len
  obtain ⟨p1, p2, ep⟩ := (ho x hx).t.len
  simp only [Bl.cells, List.mem_cons, List.not_mem_nil, or_false] at hu
  rcases hu with rfl | rfl | rfl | rfl
  · rw [ea]; rfl
  · rfl
  · rfl
  · rw [ep]; rfl

theorem size47 : (Try.prog.info? 47).map (·.size) = some 7 := by kernel_rfl
theorem info47 : (Try.prog.info? 47).map (fun i => (i.zero, i.size, i.bytes)) = some (some (.agg #[.int .i64 0, .int .i64 0, .slice none 0 0, .int .i32 0, .int .i64 0, .int .i64 0, .slice none 0 0]), 7, 88) := by kernel_rfl
set_option maxHeartbeats 4000000 in
theorem copyList37 {w : World} {v : Value} {l : List In} (h : Src In.cells w v l) (hl : l.length * 88 ≤ big) (ho : ∀ x ∈ l, In.ok w x) :
    Calls Try.prog 37 #[v] w fun e w' => ∃ v', e = .returned v' ∧ Own 47 7 In.cells w' w.heap.size v' l ∧ Below w.heap.size w w' := by
  obtain ⟨ao, cap, rfl, hf⟩ := h.form in7
  have HSRC := hid' h
  unfold big at hl
  clear h
  cases ao with
  | none =>
    have e : l = [] := by
      cases l with
      | nil => rfl
      | cons x l => obtain ⟨b, o, e, _⟩ := hf 0 (by simp); cases e
    subst e
    clear hf
    simp only [List.length_nil]
    have q1 := fun W => Go.Lib.run_eql_slice_nil (P := Try.prog) W 52 47 none 0 cap 0 0 Try.underlying52
    simp only [Option.isNone_none] at q1
    go_enter Try.func37, Try.ntmps37
    go_wp2
    go_ret
    exact ⟨_, rfl, World.ownsRow_nil _ _ _ _, Below.refl _ _⟩
  | some ad =>
    obtain ⟨w1, cur, hm, hg, hcs, hb1⟩ := make_any w (n := l.length) Try.underlying52 info47 (by omega) (by omega)
    have hcp := fun ty => copy_row (P := Try.prog) w1 52 52 ty 47 w.heap.size l.length l.length ad cap 7 cur 47 (flat In.cells l) Try.underlying52 size47 hg (by rw [flat_length in7]) (fun j u hj => by
      rcases HSRC.out.on hb1 with ⟨rfl, _⟩ | ⟨b, off, cp, e, _, _, hc⟩
      · simp [flat] at hj
      · injection e with e1 e2 e3
        injection e1 with e1
        rw [e1, Addr.add_lit]
        exact hc j u hj) (by rw [flat_length in7, hcs]) (in_one ho)
    have HOWN : Hid (Own 47 7 In.cells (w1.setRow w.heap.size (flat In.cells l).toArray) w.heap.size (.slice (some ⟨w.heap.size, 0, none⟩) l.length l.length) l) := by
      refine ⟨by rw [flat_length in7], .inr ⟨w.heap.size, l.length, (flat In.cells l).toArray, rfl, Nat.le_refl _, setRow_heap _ _ _ _ _ _ hg, Nat.le_refl _, by unfold maxLen; omega, by simp [flat_length in7], ?_⟩⟩
      rw [List.take_of_length_le (by simp [flat_length in7])]
    have HBL : Hid (Below w.heap.size w (w1.setRow w.heap.size (flat In.cells l).toArray)) := hb1.trans ⟨rfl, rfl, rfl, by simp [World.setRow], fun k hk => setRow_other w1 _ k _ (by omega)⟩
    have q1 := fun W => Go.Lib.run_eql_slice_nil (P := Try.prog) W 52 47 (some ad) l.length cap 0 0 Try.underlying52
    simp only [Option.isNone_some] at q1
    clear hf hb1 hg HSRC ho
    generalize w1.setRow w.heap.size (flat In.cells l).toArray = w2 at *
    go_enter Try.func37, Try.ntmps37
    go_wp2_with fail
    go_ret
    exact ⟨_, rfl, HOWN.out, HBL.out⟩

theorem size54 : (Try.prog.info? 54).map (·.size) = some 4 := by kernel_rfl
theorem info54 : (Try.prog.info? 54).map (fun i => (i.zero, i.size, i.bytes)) = some (some (.agg #[.slice none 0 0, .int .i64 0, .int .i64 0, .slice none 0 0]), 4, 64) := by kernel_rfl
set_option maxHeartbeats 4000000 in
theorem copyList35 {w : World} {v : Value} {l : List Bl} (h : Src Bl.cells w v l) (hl : l.length * 64 ≤ big) (ho : ∀ x ∈ l, Bl.ok w x) :
    Calls Try.prog 35 #[v] w fun e w' => ∃ v', e = .returned v' ∧ Own 54 4 Bl.cells w' w.heap.size v' l ∧ Below w.heap.size w w' := by
  obtain ⟨ao, cap, rfl, hf⟩ := h.form bl4
  have HSRC := hid' h
  unfold big at hl
  clear h
  cases ao with
  | none =>
    have e : l = [] := by
      cases l with
      | nil => rfl
      | cons x l => obtain ⟨b, o, e, _⟩ := hf 0 (by simp); cases e
    subst e
    clear hf
    simp only [List.length_nil]
    have q1 := fun W => Go.Lib.run_eql_slice_nil (P := Try.prog) W 31 54 none 0 cap 0 0 Try.underlying31
    simp only [Option.isNone_none] at q1
    go_enter Try.func35, Try.ntmps35
    go_wp2
    go_ret
    exact ⟨_, rfl, World.ownsRow_nil _ _ _ _, Below.refl _ _⟩
  | some ad =>
    obtain ⟨w1, cur, hm, hg, hcs, hb1⟩ := make_any w (n := l.length) Try.underlying31 info54 (by omega) (by omega)
    have hcp := fun ty => copy_row (P := Try.prog) w1 31 31 ty 54 w.heap.size l.length l.length ad cap 4 cur 54 (flat Bl.cells l) Try.underlying31 size54 hg (by rw [flat_length bl4]) (fun j u hj => by
      rcases HSRC.out.on hb1 with ⟨rfl, _⟩ | ⟨b, off, cp, e, _, _, hc⟩
      · simp [flat] at hj
      · injection e with e1 e2 e3
        injection e1 with e1
        rw [e1, Addr.add_lit]
        exact hc j u hj) (by rw [flat_length bl4, hcs]) (bl_one ho)
    have HOWN : Hid (Own 54 4 Bl.cells (w1.setRow w.heap.size (flat Bl.cells l).toArray) w.heap.size (.slice (some ⟨w.heap.size, 0, none⟩) l.length l.length) l) := by
      refine ⟨by rw [flat_length bl4], .inr ⟨w.heap.size, l.length, (flat Bl.cells l).toArray, rfl, Nat.le_refl _, setRow_heap _ _ _ _ _ _ hg, Nat.le_refl _, by unfold maxLen; omega, by simp [flat_length bl4], ?_⟩⟩
      rw [List.take_of_length_le (by simp [flat_length bl4])]
    have HBL : Hid (Below w.heap.size w (w1.setRow w.heap.size (flat Bl.cells l).toArray)) := hb1.trans ⟨rfl, rfl, rfl, by simp [World.setRow], fun k hk => setRow_other w1 _ k _ (by omega)⟩
    have q1 := fun W => Go.Lib.run_eql_slice_nil (P := Try.prog) W 31 54 (some ad) l.length cap 0 0 Try.underlying31
    simp only [Option.isNone_some] at q1
    clear hf hb1 hg HSRC ho
    generalize w1.setRow w.heap.size (flat Bl.cells l).toArray = w2 at *
    go_enter Try.func35, Try.ntmps35
    go_wp2_with fail
    go_ret
    exact ⟨_, rfl, HOWN.out, HBL.out⟩
end Go.Proofs.Ythnbnilammjceaa
