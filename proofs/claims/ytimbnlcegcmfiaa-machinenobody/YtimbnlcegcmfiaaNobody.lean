/- A machine that nobody made does nothing. -/
import Derived.Test.YtimbnlcegcmfiaaAwake
namespace Go.Proofs.Ytimbnlcegcmfiaa
open Go.RowKit
set_option linter.unusedVariables false

def zeroM : Array Value := #[.string ⟨#[]⟩, .string ⟨#[]⟩, .int .i64 0, .int .u32 0, .int .u32 0, .int .u32 0, .int .u32 0, .int .u32 0, .int .u32 0, .int .u32 0, .int .u32 0, .int .u32 0, .int .u32 0, .int .u32 0, .int .u32 0, .int .u32 0, .int .u32 0, .int .u32 0, .int .u32 0, .pointer none, .slice none 0 0, .int .i64 0, .int .i32 0, .int .i64 0, .string ⟨#[]⟩, .int .i64 0]

/-- A machine that nobody made: none, or a struct of nothing. -/
def Bare' (w : World) (v : Value) : Prop := v = .pointer none ∨ ∃ p, v = .pointer (some ⟨p, 0, none⟩) ∧ p < w.heap.size ∧ ∀ (j : Nat) (u : Value), zeroM[j]? = some u → w.cell? ⟨p, j, none⟩ = some u

section
variable {w : World} {v : Value}
theorem step_none (h : Bare' w v) : Calls Try.prog 17 #[v] w fun e w' => e = .returned (.bool false) ∧ w' = w := by
  rcases h with rfl | ⟨p, rfl, hp, hc⟩
  · go_enter Try.func17, Try.ntmps17
    go_wp2
    go_ret
    exact ⟨rfl, rfl⟩
  · have h21 := hc 21 (.int .i64 0) rfl
    go_enter Try.func17, Try.ntmps17
    go_wp2
    go_ret
    exact ⟨rfl, rfl⟩
theorem ended_none (h : Bare' w v) : Calls Try.prog 14 #[v] w fun e w' => e = .returned (.bool false) ∧ w' = w := by
  rcases h with rfl | ⟨p, rfl, hp, hc⟩
  · go_enter Try.func14, Try.ntmps14
    go_wp2
    go_ret
    exact ⟨rfl, rfl⟩
  · have h21 := hc 21 (.int .i64 0) rfl
    go_enter Try.func14, Try.ntmps14
    go_wp2
    go_ret
    exact ⟨rfl, rfl⟩
theorem pc_none (h : Bare' w v) : Calls Try.prog 15 #[v] w fun e w' => e = .returned (.int .i64 0) ∧ w' = w := by
  rcases h with rfl | ⟨p, rfl, hp, hc⟩
  · go_enter Try.func15, Try.ntmps15
    go_wp2
    go_ret
    exact ⟨rfl, rfl⟩
  · have h21 := hc 2 (.int .i64 0) rfl
    go_enter Try.func15, Try.ntmps15
    go_wp2
    go_ret
    exact ⟨rfl, rfl⟩
theorem reg_none (h : Bare' w v) (i : Int) : Calls Try.prog 16 #[v, .int .i64 i] w fun e w' => e = .returned (.int .u32 0) ∧ w' = w := by
  rcases h with rfl | ⟨p, rfl, hp, hc⟩
  · go_enter Try.func16, Try.ntmps16
    go_wp2
    go_ret
    exact ⟨rfl, rfl⟩
  · by_cases h1 : i < 0
    · go_enter Try.func16, Try.ntmps16
      go_wp2
      go_ret
      exact ⟨rfl, rfl⟩
    · by_cases h2 : 16 ≤ i
      · go_enter Try.func16, Try.ntmps16
        go_wp2
        go_ret
        exact ⟨rfl, rfl⟩
      · obtain ⟨k, rfl⟩ : ∃ k : Nat, i = (k : Int) := ⟨i.toNat, by omega⟩
        have hk : k < 16 := by omega
        have hz : zeroM[3 + k]? = some (.int .u32 0) := by
          match k, hk with
          | 0, _ => rfl
          | 1, _ => rfl
          | 2, _ => rfl
          | 3, _ => rfl
          | 4, _ => rfl
          | 5, _ => rfl
          | 6, _ => rfl
          | 7, _ => rfl
          | 8, _ => rfl
          | 9, _ => rfl
          | 10, _ => rfl
          | 11, _ => rfl
          | 12, _ => rfl
          | 13, _ => rfl
          | 14, _ => rfl
          | 15, _ => rfl
          | n + 16, h => exact absurd h (by omega)
        have hr := hc _ _ hz
        go_enter Try.func16, Try.ntmps16
        go_wp2
        go_ret
        exact ⟨rfl, rfl⟩
theorem memory_none (h : Bare' w v) : Calls Try.prog 19 #[v] w fun e w' => e = .returned (.pointer none) ∧ w' = w := by
  rcases h with rfl | ⟨p, rfl, hp, hc⟩
  · go_enter Try.func19, Try.ntmps19
    go_wp2
    go_ret
    exact ⟨rfl, rfl⟩
  · have h19 := hc 19 (.pointer none) rfl
    go_enter Try.func19, Try.ntmps19
    go_wp2
    go_ret
    exact ⟨rfl, rfl⟩
theorem end_none (h : Bare' w v) : Calls Try.prog 21 #[v] w fun e w' => e = .returned (.agg #[.int .i64 0, .int .i32 0, .int .i64 0, .string ⟨#[]⟩, .int .i64 0]) ∧ Below w.heap.size w w' := by
  rcases h with rfl | ⟨p, rfl, hp, hc⟩
  · go_enter Try.func21, Try.ntmps21
    go_wp2
    refine bodyPost_ret (v := .agg #[.int .i64 0, .int .i32 0, .int .i64 0, .string ⟨#[]⟩, .int .i64 0]) (by simp [results, Try.results21, go_sem]) rfl ⟨rfl, ?_⟩
    exact below_box _ _
  · have h20 := hc 20 (.slice none 0 0) rfl
    have h21 := hc 21 (.int .i64 0) rfl
    have h22 := hc 22 (.int .i32 0) rfl
    have h23 := hc 23 (.int .i64 0) rfl
    have h24 := hc 24 (.string ⟨#[]⟩) rfl
    have h25 := hc 25 (.int .i64 0) rfl
    have hcv : ∀ W, (convert 39 9 (.slice none 0 0)).run Try.prog W = .ok (.string ⟨#[]⟩) W := fun W => run_convert_bytes_nil W 39 5 Try.underlying39 Try.underlying5 0 0 9 Try.underlying9
    clear hc
    go_enter Try.func21, Try.ntmps21
    go_wp2
    refine bodyPost_ret (v := .agg #[.int .i64 0, .int .i32 0, .int .i64 0, .string ⟨#[]⟩, .int .i64 0]) (by simp [results, Try.results21, go_sem]) rfl ⟨rfl, ?_⟩
    exact ((Below.refl _ _).alloc (Nat.le_refl _) _).alloc (by simp) _
end

theorem Bare'.below {w w' : World} {v : Value} (h : Bare' w v) (hb : Below w.heap.size w w') : Bare' w' v := by
  rcases h with rfl | ⟨p, rfl, hp, hc⟩
  · exact .inl rfl
  · exact .inr ⟨p, rfl, Nat.lt_of_lt_of_le hp hb.size, fun j u hj => (hb.cell (p := ⟨p, j, none⟩) hp).trans (hc j u hj)⟩

set_option maxHeartbeats 2000000 in
theorem nobody8 (i : Int) (w : World) :
    Calls Try.prog 8 #[.int .i64 i] w fun e w' => e = .returned (.bool true) ∧ Below w.heap.size w w' := by
  have h1 : Bare' w (.pointer none) := .inl rfl
  go_enter Try.func8, Try.ntmps8
  go_wp2
  refine wp_loop_rounds 3 ?_
  rw [rounds_succ]
  go_wp2_with (first
    | (go_at_call 17; with_reducible refine (step_none h1).mono ?_; rintro e w' ⟨rfl, hw⟩; have hv := hw.symm; clear hw; subst hv)
    | (go_at_call 14; with_reducible refine (ended_none h1).mono ?_; rintro e w' ⟨rfl, hw⟩; have hv := hw.symm; clear hw; subst hv)
    | (go_at_call 21; with_reducible refine (end_none h1).mono ?_; rintro e w1 ⟨rfl, hb1⟩; have h2 := h1.below hb1)
    | (go_at_call 15; with_reducible refine (pc_none h2).mono ?_; rintro e w' ⟨rfl, hw⟩; have hv := hw.symm; clear hw; subst hv)
    | (go_at_call 16; with_reducible refine (reg_none h2 i).mono ?_; rintro e w' ⟨rfl, hw⟩; have hv := hw.symm; clear hw; subst hv)
    | (go_at_call 19; with_reducible refine (memory_none h2).mono ?_; rintro e w' ⟨rfl, hw⟩; have hv := hw.symm; clear hw; subst hv))
  rw [rounds_succ]
  have h3 : Bare' (w1.alloc (.cells zeroM 64)) (.pointer (some ⟨w1.heap.size, 0, none⟩)) := .inr ⟨_, rfl, by simp, fun j u hj => by
    have hb2 : (w1.alloc (.cells zeroM 64)).heap[w1.heap.size]? = some (.cells zeroM 64) := Deep.blk_alloc_new w1 (.cells zeroM 64)
    simp only [World.cell?, hb2]
    exact hj⟩
  unfold zeroM at h3
  go_wp2_with (first
    | (go_at_call 17; with_reducible refine (step_none h3).mono ?_; rintro e w' ⟨rfl, hw⟩; have hv := hw.symm; clear hw; subst hv)
    | (go_at_call 14; with_reducible refine (ended_none h3).mono ?_; rintro e w' ⟨rfl, hw⟩; have hv := hw.symm; clear hw; subst hv)
    | (go_at_call 21; with_reducible refine (end_none h3).mono ?_; rintro e w2 ⟨rfl, hb2⟩; have h4 := h3.below hb2)
    | (go_at_call 15; with_reducible refine (pc_none h4).mono ?_; rintro e w' ⟨rfl, hw⟩; have hv := hw.symm; clear hw; subst hv)
    | (go_at_call 16; with_reducible refine (reg_none h4 i).mono ?_; rintro e w' ⟨rfl, hw⟩; have hv := hw.symm; clear hw; subst hv)
    | (go_at_call 19; with_reducible refine (memory_none h4).mono ?_; rintro e w' ⟨rfl, hw⟩; have hv := hw.symm; clear hw; subst hv))
  rw [rounds_succ]
  go_wp2_with (go_at_call 13; refine (awake13 _).mono ?_; rintro e w3 ⟨rfl, hb3⟩)
  go_ret
  exact ⟨rfl, (hb1.trans ((below_box2 hb2).mono hb1.size)).trans (hb3.mono (Nat.le_trans hb1.size (below_box2 hb2).size))⟩
end Go.Proofs.Ytimbnlcegcmfiaa
