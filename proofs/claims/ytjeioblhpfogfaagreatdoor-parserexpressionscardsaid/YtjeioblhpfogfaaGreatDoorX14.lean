/- A node is begun. -/
import Derived.Test.YtjeioblhpfogfaaGreatDoorX12
set_option linter.unusedVariables false
set_option linter.unusedSimpArgs false
set_option maxRecDepth 20000
set_option maxHeartbeats 8000000
namespace Go.Proofs.YtjeioblhpfogfaaGreatDoor
open Go.RowKit

/-- Six cells of a new block. -/
theorem box6 {w W : World} {a b c d e f : Value} (h : W = w.alloc (.cells #[a, b, c, d, e, f] 25)) :
    W.cell? ⟨w.heap.size, 0, none⟩ = some a ∧ W.cell? ⟨w.heap.size, 1, none⟩ = some b ∧ W.cell? ⟨w.heap.size, 2, none⟩ = some c ∧ W.cell? ⟨w.heap.size, 3, none⟩ = some d ∧ W.cell? ⟨w.heap.size, 4, none⟩ = some e ∧ W.cell? ⟨w.heap.size, 5, none⟩ = some f ∧ W.heap.size = w.heap.size + 1 := by
  subst h
  refine ⟨?_, ?_, ?_, ?_, ?_, ?_, ?_⟩ <;> simp [go_sem]
theorem begin128 {W : World} {B p : Nat} {toks : List Tk} {s : St} (k : Int) (h : RdS W B p toks s) (hl : s.pl < toks.length) (hn : s.begun.length ≤ 1000000000) :
    Calls Tryz.prog 128 #[.pointer (some ⟨p, 0, none⟩), .int .i64 k] W (Res B p toks W (.ok { s with begun := ⟨⟨k, ⟨#[]⟩, 0, false, toks[s.pl].pos⟩, 0, s.done.length⟩ :: s.begun })) := by
  have HA := token75 h hl
  obtain ⟨tv, ov, bv, dv, kvs, h⟩ := h
  obtain ⟨x, hx⟩ : ∃ x, x = toks[s.pl] := ⟨_, rfl⟩
  rw [← hx] at HA ⊢
  clear hx
  unfold tkV at HA
  obtain ⟨a0, b0, d0, e0, ps, g0⟩ := x
  simp only at HA ⊢
  have hf4 := fld42_4
  obtain ⟨da, dc, rfl⟩ := own_shape h.done
  obtain ⟨i68, hi, hz0, hz1, hz2⟩ := info_parts info68
  have HR := hid' h
  clear h
  go_enter Tryz.func128, Tryz.ntmps128
  go_wp2_with (go_at_call 75; (with_reducible refine HA.mono ?_); rintro e w1 ⟨rfl, hb⟩)
  obtain ⟨W2, hW2⟩ : ∃ W2, W2 = w1.alloc (.cells #[.int .i64 k, .string ⟨#[]⟩, .int .u32 0, .bool false, .slice none 0 0, .int .i64 ps] 25) := ⟨_, rfl⟩
  have hb2 : Below W.heap.size W W2 := by rw [hW2]; exact hb.alloc hb.size _
  obtain ⟨k0, k1, k2, k3, k4, k5, hs2⟩ := box6 hW2
  have h2 := HR.out.below hb2
  obtain ⟨c0, c1, c2, c3, c4, hp⟩ := h2.cells
  have f3 := h2.frz 3
  rw [← hW2]
  have HY : Hid (((W2.alloc (.cells #[.int .i64 k, .string ⟨#[]⟩, .int .u32 0, .bool false, .slice none 0 0, .int .i64 ps, .int .i64 0, .int .i64 (s.done.length : Int)] 68)).drew).ownsRow B 68 8 bv s.begun.length (bgsC s.begun.reverse)) := (World.ownsRow.alloc h2.begun _).drew
  have HBD : Hid (Below W.heap.size W ((W2.alloc (.cells #[.int .i64 k, .string ⟨#[]⟩, .int .u32 0, .bool false, .slice none 0 0, .int .i64 ps, .int .i64 0, .int .i64 (s.done.length : Int)] 68)).drew)) := (hb2.alloc hb2.size _).drew
  have HLB : Hid (B ≤ W2.heap.size) := by
    have := h2.low
    show _ ≤ _
    omega
  obtain ⟨wb, hwb⟩ : ∃ wb, wb = w1.heap.size := ⟨_, rfl⟩
  rw [← hwb] at hs2 k0 k1 k2 k3 k4 k5 ⊢
  have hwl : wb < W2.heap.size := by omega
  clear hW2 hwb hs2 hb2 h2 hb c0 c1 c2 HA
  go_region_law (refine step_app rfl (.tmp 14) (.tmp 22) 62 rfl B 68 i68 (.agg #[.int .i64 0, .string ⟨#[]⟩, .int .u32 0, .bool false, .slice none 0 0, .int .i64 0, .int .i64 0, .int .i64 0]) 8 80 Tryz.underlying62 hi hz0 hz1 hz2 rfl (by decide) bv s.begun.length (bgsC s.begun.reverse) (by simp [Act.eval]) HY.out ⟨W2.heap.size, 0, none⟩ 1 1 [.int .i64 k, .string ⟨#[]⟩, .int .u32 0, .bool false, .slice none 0 0, .int .i64 ps, .int .i64 0, .int .i64 (s.done.length : Int)] (by simp [Act.eval]) rfl (cells8 (by simp [go_sem]) (by simp [go_sem]) (by simp [go_sem]) (by simp [go_sem]) (by simp [go_sem]) (by simp [go_sem]) (by simp [go_sem]) (by simp [go_sem])) (fun u hu => by simp at hu; rcases hu with rfl | rfl | rfl | rfl | rfl | rfl | rfl | rfl <;> rfl) (by unfold maxLen; omega) (by omega) (by have := HLB.out; simp; omega) ?_; intro v' w6 hown2 hgrow hloc; obtain ⟨ao', cap', rfl⟩ := own_shape hown2; obtain ⟨d0, d1, d2, d3, d4, d5, d6⟩ := HR.out.cells6 HBD.out HY.out (.inr (.inl rfl)) hgrow; have d5 := d5 3)
  all_goals
    have HP := hid' (HR.out.pushBegun (b := ⟨⟨k, ⟨#[]⟩, 0, false, ps⟩, 0, s.done.length⟩) HBD.out hgrow hown2)
    clear hown2 hgrow hloc d0 d1 d2 d3 d4 d5 d6
    go_wp2
    go_end0
    exact ⟨HP.out.2, rfl, ⟨_, _, _, _, _, HP.out.1⟩⟩
end Go.Proofs.YtjeioblhpfogfaaGreatDoor
