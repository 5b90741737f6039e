/- finish: a block's end. -/
import Derived.Test.YtiehlkhpblldaaaG18
set_option linter.unusedVariables false
set_option linter.unusedSimpArgs false
set_option maxRecDepth 20000
set_option maxHeartbeats 8000000
namespace Go.Proofs.Ytiehlkhpblldaaa
open Go.RowKit Go.Maps
section
variable {C : Cst} {W0 W W' : World} {r : Nat} {s s' : St} {x : Vs} {t : Tp}
/-- A block lies at an address of what came in. -/
def BlAt (W0 : World) (b o : Nat) (y : Bl) : Prop := b < W0.heap.size ∧ (∀ w', Below W0.heap.size W0 w' → ∀ c, c < 4 → w'.cell? ⟨b, o + c, none⟩ = (Bl.cells y)[c]?) ∧ Bl.ok W0 y
theorem to_at {y : Bl} {b o : Nat} (h : BlAt W0 b o y) {k : Nat} (hk : k < y.to.length) : ∃ ab ao cap, y.tv = .slice (some ⟨ab, ao, none⟩) y.to.length cap ∧ ab < W0.heap.size ∧ y.to.length ≤ cap ∧ ∀ w', Below W0.heap.size W0 w' → ∀ j (hj : j < y.to.length), w'.cell? ⟨ab, ao + j, none⟩ = some (.int .i64 y.to[j]) := by
  obtain ⟨ao, cap, e, hf⟩ := h.2.2.t.form ic1
  obtain ⟨b1, o1, rfl, hb, hc, _⟩ := hf k hk
  refine ⟨b1, o1, cap, e, hb, hc, fun w' hw j hj => ?_⟩
  obtain ⟨b2, o2, e', _, _, hx⟩ := hf j hj
  injection e' with e'
  injection e' with e1 e2
  subst e1 e2
  have := hx w' hw 0 (by omega)
  simpa [icell] using this
set_option maxHeartbeats 20000000 in
/-- A jump. -/
theorem finish29_jump {c : Cl} {l : List Rg} {b o : Nat} {y : Bl} {R : Ending → World → Prop} (h : RunM C W0 r W s x t) (T : Top C s x t c l) (hY : BlAt W0 b o y) (he : y.en = 1) (hl : y.to.length = 1) {to : Nat} (hto : y.to[0]? = some (to : Int))
    (h27 : ∀ w, RunM C W0 r w s x t → Calls Try.prog 27 #[.pointer (some ⟨r, 0, none⟩), .int .i64 to, .int .i64 c.bk] w fun e w' => e = .returned (.tuple #[]) ∧ R e w') :
    Calls Try.prog 29 #[.pointer (some ⟨r, 0, none⟩), .pointer (some ⟨b, o, none⟩)] W fun e w' => e = .returned (.tuple #[]) ∧ R e w' := by
  obtain ⟨cb, et, hcc, hcf, hcl, hcr, _⟩ := T.see h
  obtain ⟨ab, ao, acap, ea, hab, hac, hargs⟩ := to_at hY (k := 0) (by omega)
  have c11 : W.cell? ⟨r, 11, none⟩ = some (.pointer (some ⟨cb, (s.calls.length - 1) * 6, none⟩)) := by rw [← et]; exact h.cell 11
  have k4 : W.cell? ⟨cb, (s.calls.length - 1) * 6 + 4, none⟩ = some (.int .i64 c.bk) := hcc 4 (by omega)
  have hbl := bl_cells (hY.2.1 W h.rows.below)
  have b1 : W.cell? ⟨b, o + 1, none⟩ = some (.int .i64 1) := by rw [← he]; exact hbl.2.1
  have b3 : W.cell? ⟨b, o + 3, none⟩ = some (.slice (some ⟨ab, ao, none⟩) 1 acap) := by rw [← hl, ← ea]; exact hbl.2.2.2
  obtain ⟨h0, h0e⟩ := List.getElem?_eq_some_iff.1 hto
  have t0 : W.cell? ⟨ab, ao, none⟩ = some (.int .i64 to) := by rw [← h0e]; exact hargs W h.rows.below 0 h0
  have h27' := h27 W h
  clear hcc hcf hargs hbl ea h T hY h27 h0e
  go_enter Try.func29, Try.ntmps29
  go_wp2_with (go_at_call 27; refine h27'.mono ?_; rintro e1 w1 ⟨rfl, hR⟩)
  go_end0
  exact ⟨rfl, hR⟩
set_option maxHeartbeats 20000000 in
/-- A branch. -/
theorem finish29_branch {c : Cl} {l : List Rg} {b o : Nat} {y : Bl} {R : Ending → World → Prop} (h : RunM C W0 r W s x t) (T : Top C s x t c l) (hY : BlAt W0 b o y) (he : y.en = 2) (hl : y.to.length = 2) {a : Nat} (ha : y.arg = a) (hal : a < l.length) {to : Nat} (hto : y.to[if getR l a c.no = 0 then 1 else 0]? = some (to : Int))
    (h27 : ∀ w, RunM C W0 r w s x t → Calls Try.prog 27 #[.pointer (some ⟨r, 0, none⟩), .int .i64 to, .int .i64 c.bk] w fun e w' => e = .returned (.tuple #[]) ∧ R e w') :
    Calls Try.prog 29 #[.pointer (some ⟨r, 0, none⟩), .pointer (some ⟨b, o, none⟩)] W fun e w' => e = .returned (.tuple #[]) ∧ R e w' := by
  obtain ⟨cb, et, hcc, hcf, hcl, hcr, _⟩ := T.see h
  obtain ⟨ab, ao, acap, ea, hab, hac, hargs⟩ := to_at hY (k := 0) (by omega)
  have c11 : W.cell? ⟨r, 11, none⟩ = some (.pointer (some ⟨cb, (s.calls.length - 1) * 6, none⟩)) := by rw [← et]; exact h.cell 11
  have k4 : W.cell? ⟨cb, (s.calls.length - 1) * 6 + 4, none⟩ = some (.int .i64 c.bk) := hcc 4 (by omega)
  have hbl := bl_cells (hY.2.1 W h.rows.below)
  have b1 : W.cell? ⟨b, o + 1, none⟩ = some (.int .i64 2) := by rw [← he]; exact hbl.2.1
  have b2 : W.cell? ⟨b, o + 2, none⟩ = some (.int .i64 a) := by rw [← ha]; exact hbl.2.2.1
  have b3 : W.cell? ⟨b, o + 3, none⟩ = some (.slice (some ⟨ab, ao, none⟩) 2 acap) := by rw [← hl, ← ea]; exact hbl.2.2.2
  obtain ⟨h0, h0e⟩ := List.getElem?_eq_some_iff.1 hto
  have h46 := get46 h T hal
  have HT0 : Hid (∀ w1, Below W.heap.size W w1 → w1.cell? ⟨b, o + 3, none⟩ = some (.slice (some ⟨ab, ao, none⟩) 2 acap) ∧ w1.cell? ⟨ab, ao + (if getR l a c.no = 0 then 1 else 0), none⟩ = some (.int .i64 to)) := fun w1 hb1 => ⟨keep_cell b3 hb1, by rw [← h0e]; exact hargs w1 (below_on h.rows.below hb1 h.rows.below.size) _ h0⟩
  have H27 : Hid (∀ w1, Below W.heap.size W w1 → _) := fun w1 hb1 => h27 w1 (h.on hb1)
  clear hcc hcf hargs hbl ea h T hY h27 h0e h0 hto b3
  generalize getR l a c.no = g at *
  by_cases hz : g = 0
  · subst hz
    simp only [if_true] at HT0
    go_enter Try.func29, Try.ntmps29
    go_wp2_with (first
      | (go_at_call 27; refine (H27.out w2 HB2.out).mono ?_; rintro e1 w1 ⟨rfl, hR⟩)
      | (go_at_call 46; refine h46.mono ?_; rintro e2 w2 ⟨rfl, hb2⟩; obtain ⟨d3, dt⟩ := HT0.out w2 hb2; have HB2 := hid' hb2; clear hb2))
    go_end0
    exact ⟨rfl, hR⟩
  · have hzb : (g == 0) = false := by simp [hz]
    rw [if_neg hz] at HT0
    simp only [Nat.add_zero] at HT0
    go_enter Try.func29, Try.ntmps29
    go_wp2_with (first
      | (go_at_call 27; refine (H27.out w2 HB2.out).mono ?_; rintro e1 w1 ⟨rfl, hR⟩)
      | (go_at_call 46; refine h46.mono ?_; rintro e2 w2 ⟨rfl, hb2⟩; obtain ⟨d3, dt⟩ := HT0.out w2 hb2; have HB2 := hid' hb2; clear hb2))
    go_end0
    exact ⟨rfl, hR⟩
set_option maxHeartbeats 20000000 in
/-- A return. -/
theorem finish29_return {c : Cl} {l : List Rg} {b o : Nat} {y : Bl} {R : Ending → World → Prop} (h : RunM C W0 r W s x t) (T : Top C s x t c l) (hY : BlAt W0 b o y) (he : y.en = 3) (ha : y.arg = -1 ∨ (0 ≤ y.arg ∧ y.arg < l.length))
    (h47 : ∀ w, RunM C W0 r w s x t → Calls Try.prog 47 #[.pointer (some ⟨r, 0, none⟩), .int .u32 (toldR l y.arg c.no)] w fun e w' => e = .returned (.tuple #[]) ∧ R e w') :
    Calls Try.prog 29 #[.pointer (some ⟨r, 0, none⟩), .pointer (some ⟨b, o, none⟩)] W fun e w' => e = .returned (.tuple #[]) ∧ R e w' := by
  obtain ⟨cb, et, hcc, hcf, hcl, hcr, _⟩ := T.see h
  have c11 : W.cell? ⟨r, 11, none⟩ = some (.pointer (some ⟨cb, (s.calls.length - 1) * 6, none⟩)) := by rw [← et]; exact h.cell 11
  have k4 : W.cell? ⟨cb, (s.calls.length - 1) * 6 + 4, none⟩ = some (.int .i64 c.bk) := hcc 4 (by omega)
  have hbl := bl_cells (hY.2.1 W h.rows.below)
  have b1 : W.cell? ⟨b, o + 1, none⟩ = some (.int .i64 3) := by rw [← he]; exact hbl.2.1
  have b2 : W.cell? ⟨b, o + 2, none⟩ = some (.int .i64 y.arg) := hbl.2.2.1
  have h48 := told48 h T ha
  have H47 : Hid (∀ w1, Below W.heap.size W w1 → _) := fun w1 hb1 => h47 w1 (h.on hb1)
  clear hcc hcf hbl h T hY h47
  generalize toldR l y.arg c.no = g at *
  go_enter Try.func29, Try.ntmps29
  go_wp2_with (first
    | (go_at_call 47; refine (H47.out w2 HB2.out).mono ?_; rintro e1 w1 ⟨rfl, hR⟩)
    | (go_at_call 48; refine h48.mono ?_; rintro e2 w2 ⟨rfl, hb2⟩; have HB2 := hid' hb2; clear hb2))
  go_end0
  exact ⟨rfl, hR⟩
end
end Go.Proofs.Ytiehlkhpblldaaa
