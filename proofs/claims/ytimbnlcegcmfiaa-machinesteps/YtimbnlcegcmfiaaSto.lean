/- The memory is stored to. -/
import Derived.Test.YtimbnlcegcmfiaaValue
import Derived.Test.YtimbnlcegcmfiaaMStores
import Derived.Test.YtimbnlcegcmfiaaQuietTail
import Derived.Deep.QuietTactic
namespace Go.Proofs.Ytimbnlcegcmfiaa
open Go.RowKit
set_option linter.unusedVariables false
section
variable {w : World} {N p q r : Nat} {sl : Value} {s : St}

theorem mixed2 : Try.prog.follows .mixedOrders = true := by kernel_rfl
theorem boxed2 {w w1 : World} {c : Array Value} {t : TypeId} (hb : Below (w.alloc (.cells c t)).heap.size (w.alloc (.cells c t)) w1) (i : Nat) (v : Value) (hv : c[i]? = some v) : w1.cell? ⟨w.heap.size, i, none⟩ = some v := by
  have := hb.cell (p := ⟨w.heap.size, i, none⟩) (by simp)
  rw [this]
  have hb2 : (w.alloc (.cells c t)).heap[w.heap.size]? = some (.cells c t) := Deep.blk_alloc_new w (.cells c t)
  simp only [World.cell?, hb2]
  exact hv

set_option maxRecDepth 100000 in
set_option maxHeartbeats 2000000 in
theorem store_four_yes (h : IsM w N p q r sl s) (hO : Ok s) (b i : Int) (d a : Nat) (hd : d < 16) (ha : a < 16) (A : Nat) (hA : adr s a i = (A : Int)) (hok : A % 4 = 0 ∧ A + 4 ≤ 262144) :
    Calls Try.prog 49 #[.pointer (some ⟨p, 0, none⟩), .agg #[.int .i64 37, .int .i64 d, .int .i64 a, .int .i64 b, .int .i32 i]] w fun e w' => e = .returned (.int .i64 0) ∧ IsM w' N p q r sl { s with mem := lay s.mem A (four (s.reg d)) } ∧ Kept (Mine p r sl) w w' := by
  have hx : Hid (0 ≤ s.reg d ∧ s.reg d < 4294967296) := hO.regs d hd
  clear hO
  have hB : Hid (IsM (w.alloc (.cells #[.int .i64 37, .int .i64 d, .int .i64 a, .int .i64 b, .int .i32 i] 74)) N p q r sl s) := h.alloc (.cells #[.int .i64 37, .int .i64 d, .int .i64 a, .int .i64 b, .int .i32 i] 74)
  have hb0 : Hid (Below w.heap.size w (w.alloc (.cells #[.int .i64 37, .int .i64 d, .int .i64 a, .int .i64 b, .int .i32 i] 74))) := below_box w (.cells #[.int .i64 37, .int .i64 d, .int .i64 a, .int .i64 b, .int .i32 i] 74)
  have f19 : ∀ t : After (w.alloc (.cells #[.int .i64 37, .int .i64 d, .int .i64 a, .int .i64 b, .int .i32 i] 74)), t.1.cell? ⟨p, 19, none⟩ = some (.pointer (some ⟨q, 0, none⟩)) := fun t => (hB.out.below t.2).c19
  have fd : ∀ t : After (w.alloc (.cells #[.int .i64 37, .int .i64 d, .int .i64 a, .int .i64 b, .int .i32 i] 74)), t.1.cell? ⟨p, 3 + d, none⟩ = some (.int .u32 (s.reg d)) := fun t => (hB.out.below t.2).reg d hd
  have fx : ∀ (t : After (w.alloc (.cells #[.int .i64 37, .int .i64 d, .int .i64 a, .int .i64 b, .int .i32 i] 74))) (j : Nat) (v : Value), (#[.int .i64 37, .int .i64 d, .int .i64 a, .int .i64 b, .int .i32 i] : Array Value)[j]? = some v → t.1.cell? ⟨w.heap.size, j, none⟩ = some v := fun t j v hv => boxed2 t.2 j v hv
  have fx0 := fun t => fx t 0 _ rfl
  have fx1 := fun t => fx t 1 _ rfl
  have fx2 := fun t => fx t 2 _ rfl
  have fx3 := fun t => fx t 3 _ rfl
  have fx4 := fun t => fx t 4 _ rfl
  have hd' : (d : Int) < 16 := by omega
  have hadr : Hid (∀ w', Below (w.alloc (.cells #[.int .i64 37, .int .i64 d, .int .i64 a, .int .i64 b, .int .i32 i] 74)).heap.size (w.alloc (.cells #[.int .i64 37, .int .i64 d, .int .i64 a, .int .i64 b, .int .i32 i] 74)) w' → Calls Try.prog 69 #[.pointer (some ⟨p, 0, none⟩), .agg #[.int .i64 37, .int .i64 d, .int .i64 a, .int .i64 b, .int .i32 i]] w' fun e w'' => e = .returned (.int .u32 A) ∧ Below w'.heap.size w' w'') := fun w' hw' => by
    have := address69 (hB.out.below hw') 37 d b i a ha
    rw [hA] at this
    exact this
  clear h fx
  haveI := after_some
  go_enter Try.func49, Try.ntmps49
  go_wp2
  refine region_after 14 mixed2 (by kernel_rfl) ?_
  simp only [List.take_succ_cons, List.take_zero, List.drop_succ_cons, List.drop_zero]
  repeat quiet_step (exact Calls.after _ (hadr.out _ (Subtype.property _)))
  refine wpQuiet_nil ?_
  intro w1 hb1
  have hM1 : Hid (IsM w1 N p q r sl s) := hB.out.below hb1
  clear f19 fd fx0 fx1 fx2 fx3 fx4
  go_wp2_with (first
    | (go_at_call 70; refine (store4_yes hM1.out.mem hok.1 hok.2 hx.out.1 hx.out.2).mono ?_; rintro e w2 ⟨rfl, hM2, hO2⟩)
    | (go_at_call 67; refine (mtrap67_0 _).mono ?_; rintro e w3 ⟨rfl, rfl⟩))
  go_ret
  exact ⟨rfl, hM1.out.setMem hM2 hO2, ((Kept.of_below hb0.out).ahead (Kept.of_below hb1) (fun _ _ e => e)).ahead (Kept.of_only hO2 (mine_r p r sl)) (fun _ _ e => e)⟩

set_option maxRecDepth 100000 in
set_option maxHeartbeats 2000000 in
theorem store_four_no (h : IsM w N p q r sl s) (b i : Int) (d a : Nat) (hd : d < 16) (ha : a < 16) (A : Nat) (hA : adr s a i = (A : Int)) (hlt : A < 4294967296) (hok : ¬ (A % 4 = 0 ∧ A + 4 ≤ 262144)) :
    Calls Try.prog 49 #[.pointer (some ⟨p, 0, none⟩), .agg #[.int .i64 37, .int .i64 d, .int .i64 a, .int .i64 b, .int .i32 i]] w fun e w' => e = .returned (.int .i64 5) ∧ IsM w' N p q r sl s ∧ Kept (Mine p r sl) w w' := by
  have hB : Hid (IsM (w.alloc (.cells #[.int .i64 37, .int .i64 d, .int .i64 a, .int .i64 b, .int .i32 i] 74)) N p q r sl s) := h.alloc (.cells #[.int .i64 37, .int .i64 d, .int .i64 a, .int .i64 b, .int .i32 i] 74)
  have hb0 : Hid (Below w.heap.size w (w.alloc (.cells #[.int .i64 37, .int .i64 d, .int .i64 a, .int .i64 b, .int .i32 i] 74))) := below_box w (.cells #[.int .i64 37, .int .i64 d, .int .i64 a, .int .i64 b, .int .i32 i] 74)
  have f19 : ∀ t : After (w.alloc (.cells #[.int .i64 37, .int .i64 d, .int .i64 a, .int .i64 b, .int .i32 i] 74)), t.1.cell? ⟨p, 19, none⟩ = some (.pointer (some ⟨q, 0, none⟩)) := fun t => (hB.out.below t.2).c19
  have fd : ∀ t : After (w.alloc (.cells #[.int .i64 37, .int .i64 d, .int .i64 a, .int .i64 b, .int .i32 i] 74)), t.1.cell? ⟨p, 3 + d, none⟩ = some (.int .u32 (s.reg d)) := fun t => (hB.out.below t.2).reg d hd
  have fx : ∀ (t : After (w.alloc (.cells #[.int .i64 37, .int .i64 d, .int .i64 a, .int .i64 b, .int .i32 i] 74))) (j : Nat) (v : Value), (#[.int .i64 37, .int .i64 d, .int .i64 a, .int .i64 b, .int .i32 i] : Array Value)[j]? = some v → t.1.cell? ⟨w.heap.size, j, none⟩ = some v := fun t j v hv => boxed2 t.2 j v hv
  have fx0 := fun t => fx t 0 _ rfl
  have fx1 := fun t => fx t 1 _ rfl
  have fx2 := fun t => fx t 2 _ rfl
  have fx3 := fun t => fx t 3 _ rfl
  have fx4 := fun t => fx t 4 _ rfl
  have hd' : (d : Int) < 16 := by omega
  have hadr : Hid (∀ w', Below (w.alloc (.cells #[.int .i64 37, .int .i64 d, .int .i64 a, .int .i64 b, .int .i32 i] 74)).heap.size (w.alloc (.cells #[.int .i64 37, .int .i64 d, .int .i64 a, .int .i64 b, .int .i32 i] 74)) w' → Calls Try.prog 69 #[.pointer (some ⟨p, 0, none⟩), .agg #[.int .i64 37, .int .i64 d, .int .i64 a, .int .i64 b, .int .i32 i]] w' fun e w'' => e = .returned (.int .u32 A) ∧ Below w'.heap.size w' w'') := fun w' hw' => by
    have := address69 (hB.out.below hw') 37 d b i a ha
    rw [hA] at this
    exact this
  clear h fx
  haveI := after_some
  go_enter Try.func49, Try.ntmps49
  go_wp2
  refine region_after 14 mixed2 (by kernel_rfl) ?_
  simp only [List.take_succ_cons, List.take_zero, List.drop_succ_cons, List.drop_zero]
  repeat quiet_step (exact Calls.after _ (hadr.out _ (Subtype.property _)))
  refine wpQuiet_nil ?_
  intro w1 hb1
  have hM1 : Hid (IsM w1 N p q r sl s) := hB.out.below hb1
  clear f19 fd fx0 fx1 fx2 fx3 fx4
  go_wp2_with (first
    | (go_at_call 70; refine (store4_no hM1.out.mem hlt hok).mono ?_; rintro e w2 ⟨rfl, rfl⟩)
    | (go_at_call 67; refine (mtrap67_1 _).mono ?_; rintro e w3 ⟨rfl, rfl⟩))
  go_ret
  exact ⟨rfl, hM1.out, (Kept.of_below hb0.out).ahead (Kept.of_below hb1) (fun _ _ e => e)⟩

set_option maxRecDepth 100000 in
set_option maxHeartbeats 2000000 in
theorem store_one_yes (h : IsM w N p q r sl s) (hO : Ok s) (b i : Int) (d a : Nat) (hd : d < 16) (ha : a < 16) (A : Nat) (hA : adr s a i = (A : Int)) (hok : A < 262144) :
    Calls Try.prog 49 #[.pointer (some ⟨p, 0, none⟩), .agg #[.int .i64 38, .int .i64 d, .int .i64 a, .int .i64 b, .int .i32 i]] w fun e w' => e = .returned (.int .i64 0) ∧ IsM w' N p q r sl { s with mem := lay s.mem A [by8 (s.reg d)] } ∧ Kept (Mine p r sl) w w' := by
  have hx : Hid (0 ≤ s.reg d ∧ s.reg d < 4294967296) := hO.regs d hd
  clear hO
  have hB : Hid (IsM (w.alloc (.cells #[.int .i64 38, .int .i64 d, .int .i64 a, .int .i64 b, .int .i32 i] 74)) N p q r sl s) := h.alloc (.cells #[.int .i64 38, .int .i64 d, .int .i64 a, .int .i64 b, .int .i32 i] 74)
  have hb0 : Hid (Below w.heap.size w (w.alloc (.cells #[.int .i64 38, .int .i64 d, .int .i64 a, .int .i64 b, .int .i32 i] 74))) := below_box w (.cells #[.int .i64 38, .int .i64 d, .int .i64 a, .int .i64 b, .int .i32 i] 74)
  have f19 : ∀ t : After (w.alloc (.cells #[.int .i64 38, .int .i64 d, .int .i64 a, .int .i64 b, .int .i32 i] 74)), t.1.cell? ⟨p, 19, none⟩ = some (.pointer (some ⟨q, 0, none⟩)) := fun t => (hB.out.below t.2).c19
  have fd : ∀ t : After (w.alloc (.cells #[.int .i64 38, .int .i64 d, .int .i64 a, .int .i64 b, .int .i32 i] 74)), t.1.cell? ⟨p, 3 + d, none⟩ = some (.int .u32 (s.reg d)) := fun t => (hB.out.below t.2).reg d hd
  have fx : ∀ (t : After (w.alloc (.cells #[.int .i64 38, .int .i64 d, .int .i64 a, .int .i64 b, .int .i32 i] 74))) (j : Nat) (v : Value), (#[.int .i64 38, .int .i64 d, .int .i64 a, .int .i64 b, .int .i32 i] : Array Value)[j]? = some v → t.1.cell? ⟨w.heap.size, j, none⟩ = some v := fun t j v hv => boxed2 t.2 j v hv
  have fx0 := fun t => fx t 0 _ rfl
  have fx1 := fun t => fx t 1 _ rfl
  have fx2 := fun t => fx t 2 _ rfl
  have fx3 := fun t => fx t 3 _ rfl
  have fx4 := fun t => fx t 4 _ rfl
  have hd' : (d : Int) < 16 := by omega
  have hadr : Hid (∀ w', Below (w.alloc (.cells #[.int .i64 38, .int .i64 d, .int .i64 a, .int .i64 b, .int .i32 i] 74)).heap.size (w.alloc (.cells #[.int .i64 38, .int .i64 d, .int .i64 a, .int .i64 b, .int .i32 i] 74)) w' → Calls Try.prog 69 #[.pointer (some ⟨p, 0, none⟩), .agg #[.int .i64 38, .int .i64 d, .int .i64 a, .int .i64 b, .int .i32 i]] w' fun e w'' => e = .returned (.int .u32 A) ∧ Below w'.heap.size w' w'') := fun w' hw' => by
    have := address69 (hB.out.below hw') 38 d b i a ha
    rw [hA] at this
    exact this
  clear h fx
  haveI := after_some
  go_enter Try.func49, Try.ntmps49
  go_wp2
  refine region_after 14 mixed2 (by kernel_rfl) ?_
  simp only [List.take_succ_cons, List.take_zero, List.drop_succ_cons, List.drop_zero]
  repeat quiet_step (exact Calls.after _ (hadr.out _ (Subtype.property _)))
  refine wpQuiet_nil ?_
  intro w1 hb1
  have hM1 : Hid (IsM w1 N p q r sl s) := hB.out.below hb1
  clear f19 fd fx0 fx1 fx2 fx3 fx4
  go_wp2_with (first
    | (go_at_call 68; refine (store1_yes hM1.out.mem hok hx.out.1).mono ?_; rintro e w2 ⟨rfl, hM2, hO2⟩)
    | (go_at_call 67; refine (mtrap67_0 _).mono ?_; rintro e w3 ⟨rfl, rfl⟩))
  go_ret
  exact ⟨rfl, hM1.out.setMem hM2 hO2, ((Kept.of_below hb0.out).ahead (Kept.of_below hb1) (fun _ _ e => e)).ahead (Kept.of_only hO2 (mine_r p r sl)) (fun _ _ e => e)⟩

set_option maxRecDepth 100000 in
set_option maxHeartbeats 2000000 in
theorem store_one_no (h : IsM w N p q r sl s) (b i : Int) (d a : Nat) (hd : d < 16) (ha : a < 16) (A : Nat) (hA : adr s a i = (A : Int)) (hlt : A < 4294967296) (hok : ¬ (A < 262144)) :
    Calls Try.prog 49 #[.pointer (some ⟨p, 0, none⟩), .agg #[.int .i64 38, .int .i64 d, .int .i64 a, .int .i64 b, .int .i32 i]] w fun e w' => e = .returned (.int .i64 5) ∧ IsM w' N p q r sl s ∧ Kept (Mine p r sl) w w' := by
  have hB : Hid (IsM (w.alloc (.cells #[.int .i64 38, .int .i64 d, .int .i64 a, .int .i64 b, .int .i32 i] 74)) N p q r sl s) := h.alloc (.cells #[.int .i64 38, .int .i64 d, .int .i64 a, .int .i64 b, .int .i32 i] 74)
  have hb0 : Hid (Below w.heap.size w (w.alloc (.cells #[.int .i64 38, .int .i64 d, .int .i64 a, .int .i64 b, .int .i32 i] 74))) := below_box w (.cells #[.int .i64 38, .int .i64 d, .int .i64 a, .int .i64 b, .int .i32 i] 74)
  have f19 : ∀ t : After (w.alloc (.cells #[.int .i64 38, .int .i64 d, .int .i64 a, .int .i64 b, .int .i32 i] 74)), t.1.cell? ⟨p, 19, none⟩ = some (.pointer (some ⟨q, 0, none⟩)) := fun t => (hB.out.below t.2).c19
  have fd : ∀ t : After (w.alloc (.cells #[.int .i64 38, .int .i64 d, .int .i64 a, .int .i64 b, .int .i32 i] 74)), t.1.cell? ⟨p, 3 + d, none⟩ = some (.int .u32 (s.reg d)) := fun t => (hB.out.below t.2).reg d hd
  have fx : ∀ (t : After (w.alloc (.cells #[.int .i64 38, .int .i64 d, .int .i64 a, .int .i64 b, .int .i32 i] 74))) (j : Nat) (v : Value), (#[.int .i64 38, .int .i64 d, .int .i64 a, .int .i64 b, .int .i32 i] : Array Value)[j]? = some v → t.1.cell? ⟨w.heap.size, j, none⟩ = some v := fun t j v hv => boxed2 t.2 j v hv
  have fx0 := fun t => fx t 0 _ rfl
  have fx1 := fun t => fx t 1 _ rfl
  have fx2 := fun t => fx t 2 _ rfl
  have fx3 := fun t => fx t 3 _ rfl
  have fx4 := fun t => fx t 4 _ rfl
  have hd' : (d : Int) < 16 := by omega
  have hadr : Hid (∀ w', Below (w.alloc (.cells #[.int .i64 38, .int .i64 d, .int .i64 a, .int .i64 b, .int .i32 i] 74)).heap.size (w.alloc (.cells #[.int .i64 38, .int .i64 d, .int .i64 a, .int .i64 b, .int .i32 i] 74)) w' → Calls Try.prog 69 #[.pointer (some ⟨p, 0, none⟩), .agg #[.int .i64 38, .int .i64 d, .int .i64 a, .int .i64 b, .int .i32 i]] w' fun e w'' => e = .returned (.int .u32 A) ∧ Below w'.heap.size w' w'') := fun w' hw' => by
    have := address69 (hB.out.below hw') 38 d b i a ha
    rw [hA] at this
    exact this
  clear h fx
  haveI := after_some
  go_enter Try.func49, Try.ntmps49
  go_wp2
  refine region_after 14 mixed2 (by kernel_rfl) ?_
  simp only [List.take_succ_cons, List.take_zero, List.drop_succ_cons, List.drop_zero]
  repeat quiet_step (exact Calls.after _ (hadr.out _ (Subtype.property _)))
  refine wpQuiet_nil ?_
  intro w1 hb1
  have hM1 : Hid (IsM w1 N p q r sl s) := hB.out.below hb1
  clear f19 fd fx0 fx1 fx2 fx3 fx4
  go_wp2_with (first
    | (go_at_call 68; refine (store1_no hM1.out.mem hlt hok).mono ?_; rintro e w2 ⟨rfl, rfl⟩)
    | (go_at_call 67; refine (mtrap67_1 _).mono ?_; rintro e w3 ⟨rfl, rfl⟩))
  go_ret
  exact ⟨rfl, hM1.out, (Kept.of_below hb0.out).ahead (Kept.of_below hb1) (fun _ _ e => e)⟩

end
end Go.Proofs.Ytimbnlcegcmfiaa
