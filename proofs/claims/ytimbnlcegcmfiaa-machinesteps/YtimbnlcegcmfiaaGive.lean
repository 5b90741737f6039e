/- An instruction that gives: the value goes to D, or it is trapped. The memory is stored to. Where it goes on. -/
import Derived.Test.YtimbnlcegcmfiaaValue
import Derived.Test.YtimbnlcegcmfiaaICheck
namespace Go.Proofs.Ytimbnlcegcmfiaa
open Go.RowKit
set_option linter.unusedVariables false
section
variable {w : World} {N p q r : Nat} {sl : Value} {s : St}

/-- What value answers, where it turns nothing. -/
def Gives (w : World) (p : Nat) (op d a b i v k : Int) : Prop :=
  Calls Try.prog 72 #[.pointer (some ⟨p, 0, none⟩), .agg #[.int .i64 op, .int .i64 d, .int .i64 a, .int .i64 b, .int .i32 i]] w fun e w' => e = .returned (.tuple #[.int .u32 v, .int .i64 k]) ∧ Below w.heap.size w w'

theorem kept_box {S : Nat → Prop} {w w1 : World} {o : Obj} (h : Kept S (w.alloc o) w1) : Kept S w w1 := ((Kept.rfl S w).alloc o).trans h

theorem give51_val (h : IsM w N p q r sl s) (op b i a v : Int) (d : Nat) (hd : d < 16) (hv : ∀ o, Gives (w.alloc o) p op d a b i v 0) :
    Calls Try.prog 51 #[.pointer (some ⟨p, 0, none⟩), .agg #[.int .i64 op, .int .i64 d, .int .i64 a, .int .i64 b, .int .i32 i]] w fun e w' => e = .returned (.int .i64 0) ∧ IsM w' N p q r sl { s with reg := wr s.reg d v } ∧ Kept (Mine p r sl) w w' := by
  have hg := hv (.cells #[.int .i64 op, .int .i64 d, .int .i64 a, .int .i64 b, .int .i32 i] 74)
  have hB := h.alloc (.cells #[.int .i64 op, .int .i64 d, .int .i64 a, .int .i64 b, .int .i32 i] 74)
  clear hv
  unfold Gives at hg
  go_enter Try.func51, Try.ntmps51
  go_wp2_with (first
    | (go_at_call 72; refine hg.mono ?_; rintro e w1 ⟨rfl, hb1⟩; obtain ⟨hc1, hf1⟩ := bcell hb1; have hs1 : w.heap.size < w1.heap.size := by (have hq := hb1.size; simp at hq; omega))
    | (go_at_call 71; refine (write71 (hB.below hb1) d hd v).mono ?_; rintro e w2 ⟨rfl, hM2, hK2⟩))
  go_ret
  exact ⟨rfl, hM2, (kept_box (Kept.of_below hb1)).trans hK2⟩

theorem give51_trap (h : IsM w N p q r sl s) (op b i a d v k : Int) (hk : ¬ k = 0) (hv : ∀ o, Gives (w.alloc o) p op d a b i v k) :
    Calls Try.prog 51 #[.pointer (some ⟨p, 0, none⟩), .agg #[.int .i64 op, .int .i64 d, .int .i64 a, .int .i64 b, .int .i32 i]] w fun e w' => e = .returned (.int .i64 k) ∧ IsM w' N p q r sl s ∧ Kept (Mine p r sl) w w' := by
  have hg := hv (.cells #[.int .i64 op, .int .i64 d, .int .i64 a, .int .i64 b, .int .i32 i] 74)
  have hB := h.alloc (.cells #[.int .i64 op, .int .i64 d, .int .i64 a, .int .i64 b, .int .i32 i] 74)
  clear hv
  unfold Gives at hg
  go_enter Try.func51, Try.ntmps51
  go_wp2_with (first
    | (go_at_call 72; refine hg.mono ?_; rintro e w1 ⟨rfl, hb1⟩))
  go_ret
  exact ⟨rfl, hB.below hb1, kept_box (Kept.of_below hb1)⟩

theorem value_get_end (h : IsM w N p q r sl s) (d a b i : Int) (hu : s.used = s.input.size) :
    Gives w p 44 d a b i 4294967295 0 := by
  unfold Gives
  have hB := h.alloc (.cells #[.int .i64 44, .int .i64 d, .int .i64 a, .int .i64 b, .int .i32 i] 74)
  go_enter Try.func72, Try.ntmps72
  go_wp2_with (first
    | (go_at_call 79; refine (get79_end hB hu).mono ?_; rintro e w1 ⟨rfl, hb1⟩))
  go_ret2
  exact ⟨rfl, below_box2 hb1⟩

theorem value_get_one (h : IsM w N p q r sl s) (hO : Ok s) (d a b i : Int) (hu : s.used < s.input.size) :
    Calls Try.prog 72 #[.pointer (some ⟨p, 0, none⟩), .agg #[.int .i64 44, .int .i64 d, .int .i64 a, .int .i64 b, .int .i32 i]] w fun e w' => e = .returned (.tuple #[.int .u32 (s.input[s.used].toNat : Int), .int .i64 0]) ∧ IsM w' N p q r sl { s with used := s.used + 1 } ∧ Kept (Mine p r sl) w w' := by
  have hB := h.alloc (.cells #[.int .i64 44, .int .i64 d, .int .i64 a, .int .i64 b, .int .i32 i] 74)
  go_enter Try.func72, Try.ntmps72
  go_wp2_with (first
    | (go_at_call 79; refine (get79_one hB hO hu).mono ?_; rintro e w1 ⟨rfl, hM1, hK1⟩))
  go_ret2
  exact ⟨rfl, hM1, kept_box hK1⟩

theorem mine_new {N p q r : Nat} {sl : Value} {s : St} {w : World} (h : IsM w N p q r sl s) : ¬ Mine p r sl w.heap.size := by
  rintro (e | e | e)
  · have := h.plt; omega
  · have := h.mem.rlt; omega
  · have := (h.own.lt _ e).2; omega

theorem kept_cells {S : Nat → Prop} {w w1 : World} {o : Obj} (h : Kept S (w.alloc o) w1) (hn : ¬ S w.heap.size) : (∀ i, w1.cell? ⟨w.heap.size, i, none⟩ = (w.alloc o).cell? ⟨w.heap.size, i, none⟩) ∧ w.heap.size < w1.heap.size :=
  ⟨fun i => World.cell?_of_block (w := w.alloc o) (a := ⟨w.heap.size, i, none⟩) (h.block w.heap.size (by simp) hn), by have := h.size; simp at this; omega⟩

theorem give51_get (h : IsM w N p q r sl s) (hO : Ok s) (b i a : Int) (d : Nat) (hd : d < 16) (hu : s.used < s.input.size) :
    Calls Try.prog 51 #[.pointer (some ⟨p, 0, none⟩), .agg #[.int .i64 44, .int .i64 d, .int .i64 a, .int .i64 b, .int .i32 i]] w fun e w' => e = .returned (.int .i64 0) ∧ IsM w' N p q r sl { s with used := s.used + 1, reg := wr s.reg d (s.input[s.used].toNat : Int) } ∧ Kept (Mine p r sl) w w' := by
  have hB := h.alloc (.cells #[.int .i64 44, .int .i64 d, .int .i64 a, .int .i64 b, .int .i32 i] 74)
  have hn := mine_new h
  go_enter Try.func51, Try.ntmps51
  go_wp2_with (first
    | (go_at_call 72; refine (value_get_one hB hO _ _ _ _ hu).mono ?_; rintro e w1 ⟨rfl, hM1, hK1⟩; obtain ⟨hc1, hs1⟩ := kept_cells hK1 hn)
    | (go_at_call 71; refine (write71 hM1 d hd _).mono ?_; rintro e w2 ⟨rfl, hM2, hK2⟩))
  go_ret
  exact ⟨rfl, hM2, (kept_box hK1).trans hK2⟩
end
end Go.Proofs.Ytimbnlcegcmfiaa
