/- Enter, Leave, Declare of the program. -/
import Derived.Test.YthdphldagfeepaaWalks
namespace Go.Proofs.Ythdphldagfeepaa
open Go.RowKit Go.Maps
set_option linter.unusedVariables false
set_option linter.unusedSimpArgs false

theorem mixed : Try.prog.follows .mixedOrders = true := by kernel_rfl
def Mark (p : Prop) : Prop := p
theorem of_mark {p : Prop} (h : Mark p) : p := h
theorem cell_one_at {W : World} {b : Nat} {v0 : Value} (h0 : W.cell? ⟨b, 0, none⟩ = some v0) : ∀ j u, [v0][j]? = some u → W.cell? ((⟨b, 0, none⟩ : Addr).add j) = some u
  | 0, u, e => by simp at e; subst e; exact h0
  | j + 1, u, e => by simp at e

theorem own_slice {W : World} {base n size : Nat} {e : TypeId} {v : Value} {xs : List Value} (h : W.ownsRow base e size v (n + 1) xs) : ∃ r cap, v = .slice (some ⟨r, 0, none⟩) (n + 1) cap := by
  rcases h.2 with ⟨_, e⟩ | ⟨k, c, cur, e, _⟩
  · omega
  · exact ⟨_, _, e⟩

section
variable {w : World} {B p M n r cap : Nat} {mb : Nat → Option Nat} {g : Blocks}
set_option maxHeartbeats 1000000 in
theorem enter13 (h : IsS w B p M n r cap mb g) (hM : M ≤ 10000000000000) :
    Calls Try.prog 13 #[.pointer (some ⟨p, 0, none⟩)] w fun e w' => e = .returned (.tuple #[]) ∧ Sc w' B p (M + 1) (n + 1) (enterG g n) ∧ KP B w w' := by
  have hc := h.cellp
  have hf := h.freep
  have hhi := h.hi
  have hlo := h.lo
  have hz : ((n : Int) == 0) = false := by simp; omega
  have H9 := hid' (depth9 h)
  have HS := hid' h
  have hsz := h.size
  have hplt := h.plt
  obtain ⟨i50, hi50, z0', z1', z2'⟩ := info_parts info50
  go_enter Try.func13, Try.ntmps13
  go_wp2_with (first
    | (go_at_call 9; refine (H9.out).mono ?_; rintro e w' ⟨rfl, hw⟩; have hv := hw.symm; clear hw; subst hv)
    | (at_builtin; refine of_mark ?_))
  unfold Mark
  refine wpList_append_own_at _ rfl _ _ 42 rfl B 50 i50 (.map none) 1 8 Try.underlying42 hi50 z0' z1' z2' rfl (by decide) (.slice (some ⟨r, 0, none⟩) n cap) _ _ rfl (World.ownsRow.alloc HS.out.own _) ⟨w.heap.size, 0, none⟩ 1 1 [.map none] rfl rfl (cell_one_at (by simp [go_sem])) (by intro x hx; simp at hx; subst hx; rfl) (by unfold maxLen; omega) (by omega) (by simp; omega) ?_
  intro v' w2 hown' hgrow hnil hloc
  obtain ⟨r', cap', rfl⟩ := own_slice hown'
  have hE := hid' (HS.out.entered hown' hgrow hloc)
  have e2 := hgrow.block p (by simp; omega) (by simp [Value.ownBlock]; exact HS.out.pr)
  have hc2 : w2.cell? ⟨p, 0, none⟩ = some (.slice (some ⟨r, 0, none⟩) n cap) := by simp [World.cell?, e2, Below.heap_alloc _ _ _ hplt, HS.out.head]
  have hf2 : w2.frozen? ⟨p, 0, none⟩ = false := by simp [World.frozen?, e2, Below.heap_alloc _ _ _ hplt, HS.out.head]
  clear hown' hgrow hnil hloc e2
  go_wp2
  go_end0
  exact ⟨rfl, hE.out⟩

set_option maxHeartbeats 1000000 in
theorem leave14_one (h : IsS w B p M 1 r cap mb g) :
    Calls Try.prog 14 #[.pointer (some ⟨p, 0, none⟩)] w fun e w' => e = .returned (.int .i64 4) ∧ w' = w := by
  have H9 := hid' (depth9 h)
  go_enter Try.func14, Try.ntmps14
  go_wp2_with (go_at_call 9; refine (H9.out).mono ?_; rintro e w' ⟨rfl, hw⟩; have hv := hw.symm; clear hw; subst hv)
  go_ret
  exact ⟨rfl, rfl⟩

set_option maxHeartbeats 1000000 in
theorem leave14_two {k : Nat} (h : IsS w B p M (k + 2) r cap mb g) (hM : M ≤ 10000000000000) :
    Calls Try.prog 14 #[.pointer (some ⟨p, 0, none⟩)] w fun e w' => e = .returned (.int .i64 0) ∧ Sc w' B p M (k + 1) g ∧ KP B w w' := by
  have hc := h.cellp
  have hf := h.freep
  have hr := h.freer
  have hhi := h.hi
  have H9 := hid' (depth9 h)
  have HS : Hid (Sc ((w.setCell ⟨r, k + 1, none⟩ (.map none)).setCell ⟨p, 0, none⟩ (.slice (some ⟨r, 0, none⟩) (k + 1) cap)) B p M (k + 1) g ∧ KP B w ((w.setCell ⟨r, k + 1, none⟩ (.map none)).setCell ⟨p, 0, none⟩ (.slice (some ⟨r, 0, none⟩) (k + 1) cap))) := h.left (by omega)
  obtain ⟨cur, _, _, hcap, hcm⟩ := h.row
  have hpr : ¬ p = r := h.pr
  have hpr' : ¬ r = p := fun e => hpr e.symm
  have hrc : w.cell? ⟨r, k + 1, none⟩ = some (.map (mb (k + 1))) := h.cellr (by omega)
  unfold maxLen at hcm
  clear h
  go_enter Try.func14, Try.ntmps14
  go_wp2_with (go_at_call 9; refine (H9.out).mono ?_; rintro e w' ⟨rfl, hw⟩; have hv := hw.symm; clear hw; subst hv)
  go_ret
  exact ⟨rfl, HS.out⟩

end
end Go.Proofs.Ythdphldagfeepaa
