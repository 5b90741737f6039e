/- The law of sizes, where awake is so. -/
import Derived.Test.YtnnnfabpceapcaaDoorSizes
import Derived.Test.YtnnnfabpceapcaaDoorQuiet
import Derived.Deep.QuietTactic
namespace Go.Proofs.YtnnnfabpceapcaaDoor
open Go.RowKit
set_option linter.unusedVariables false

theorem mixed : Tryd.prog.follows .mixedOrders = true := by kernel_rfl

set_option maxHeartbeats 2000000 in
theorem sizes3 {cb n : Nat} {w : World} {x : NdH} {kv : Value} {ks : List Tr} (hA : ∀ W, Below w.heap.size w W → Calls Tryd.prog 10 #[] W fun e w' => e = .returned (.bool true) ∧ Below W.heap.size W w') (hK : Ks cb n w kv ks) :
    Calls Tryd.prog 3 #[ndV x kv] w fun e w' => e = .returned (.bool true) ∧ Below w.heap.size w w' := by
  have h6 : Hid (∀ W, Below w.heap.size w W → Calls Tryd.prog 6 #[ndV x kv] W fun e w' => e = .returned (.int .i64 (szR (Tr.node x ks) : Int)) ∧ Below W.heap.size W w') := fun W hb => size6 (hK.below hb)
  have h7 : Hid (∀ W, Below w.heap.size w W → Calls Tryd.prog 7 #[ndV x kv] W fun e w' => e = .returned (.int .i64 (szR (Tr.node x ks) : Int)) ∧ Below W.heap.size W w') := fun W hb => size7 (hK.below hb)
  have h8 : Hid (∀ W, Below w.heap.size w W → Calls Tryd.prog 8 #[ndV x kv] W fun e w' => e = .returned (.int .i64 (dpR (Tr.node x ks) : Int)) ∧ Below W.heap.size W w') := fun W hb => depth8 (hK.below hb)
  have h9 : Hid (∀ W, Below w.heap.size w W → Calls Tryd.prog 9 #[ndV x kv] W fun e w' => e = .returned (.int .i64 (dpR (Tr.node x ks) : Int)) ∧ Below W.heap.size W w') := fun W hb => depth9 (hK.below hb)
  have HA := hid' hA
  clear hK hA
  generalize szR (Tr.node x ks) = s at *
  generalize dpR (Tr.node x ks) = d at *
  unfold ndV at h6 h7 h8 h9 ⊢
  obtain ⟨w0, hw0⟩ : ∃ w0, w0 = w.alloc (.cells #[.int .i64 x.kind, .string x.str, .int .u32 x.num, .bool x.flag, kv, .int .i64 x.pos] 25) := ⟨_, rfl⟩
  have hb0 : Below w.heap.size w w0 := by rw [hw0]; exact below1 _ _
  have ha : ∀ t : After w0, Below w.heap.size w t.1 := fun t => below_on hb0 t.2
  have H6 := fun t : After w0 => Calls.after t (h6.out t.1 (ha t))
  have H7 := fun t : After w0 => Calls.after t (h7.out t.1 (ha t))
  have H8 := fun t : After w0 => Calls.after t (h8.out t.1 (ha t))
  have H9 := fun t : After w0 => Calls.after t (h9.out t.1 (ha t))
  have H10 := fun t : After w0 => Calls.after t (HA.out t.1 (ha t))
  have hbx : ∀ t : After w0, Below (w.alloc (.cells #[.int .i64 x.kind, .string x.str, .int .u32 x.num, .bool x.flag, kv, .int .i64 x.pos] 25)).heap.size (w.alloc (.cells #[.int .i64 x.kind, .string x.str, .int .u32 x.num, .bool x.flag, kv, .int .i64 x.pos] 25)) t.1 := fun t => by rw [← hw0]; exact t.2
  have x0 : ∀ t : After w0, t.1.cell? ⟨w.heap.size, 0, none⟩ = some (.int .i64 x.kind) := fun t => (box6 (hbx t)).1
  have x1 : ∀ t : After w0, t.1.cell? ⟨w.heap.size, 1, none⟩ = some (.string x.str) := fun t => (box6 (hbx t)).2.1
  have x2 : ∀ t : After w0, t.1.cell? ⟨w.heap.size, 2, none⟩ = some (.int .u32 x.num) := fun t => (box6 (hbx t)).2.2.1
  have x3 : ∀ t : After w0, t.1.cell? ⟨w.heap.size, 3, none⟩ = some (.bool x.flag) := fun t => (box6 (hbx t)).2.2.2.1
  have x4 : ∀ t : After w0, t.1.cell? ⟨w.heap.size, 4, none⟩ = some kv := fun t => (box6 (hbx t)).2.2.2.2.1
  have x5 : ∀ t : After w0, t.1.cell? ⟨w.heap.size, 5, none⟩ = some (.int .i64 x.pos) := fun t => (box6 (hbx t)).2.2.2.2.2
  have HB0 := hid' hb0
  clear h6 h7 h8 h9 HA ha hbx hb0
  go_enter Tryd.func3, Tryd.ntmps3
  go_upto_region 1 with fail
  rw [← hw0]
  clear hw0
  have hne := after_some w0
  refine region_after 15 mixed (by kernel_rfl) ?_
  simp only [List.take_succ_cons, List.take_zero, List.drop_succ_cons, List.drop_zero]
  repeat quiet_step (first | with_reducible exact H6 _ | with_reducible exact H7 _ | with_reducible exact H8 _ | with_reducible exact H9 _ | with_reducible exact H10 _)
  refine wpQuiet_nil ?_
  intro w5 hb5
  clear H6 H7 H8 H9 H10 x0 x1 x2 x3 x4 x5
  have HB5 := hid' hb5
  clear hb5
  go_wp2
  go_ret
  exact ⟨rfl, below_on HB0.out HB5.out⟩
end Go.Proofs.YtnnnfabpceapcaaDoor
