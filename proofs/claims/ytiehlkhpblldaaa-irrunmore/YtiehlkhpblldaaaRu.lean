/- do: an instruction. -/
import Derived.Test.YtiehlkhpblldaaaRe
namespace Go.Proofs.Ytiehlkhpblldaaa
open Go.RowKit Go.Maps
set_option linter.unusedVariables false
set_option linter.unusedSimpArgs false
section
variable {C : Cst} {W0 W W' : World} {r : Nat} {s s' : St} {x : Vs} {t : Tp}
set_option maxRecDepth 20000 in
set_option maxHeartbeats 20000000 in
theorem do30_const {c : Cl} {l : List Rg} {b o : Nat} {i : In} (h : RunM C W0 r W s x t) (T : Top C s x t c l) (hI : InAt W0 b o i) (hop : i.op = 1) {d : Nat} (hd : i.dst = d) (hdl : d < l.length) (hl : (s.hidden.length + 1) * 24 ≤ 140737488355328) :
    Calls Try.prog 30 #[.pointer (some ⟨r, 0, none⟩), .pointer (some ⟨b, o, none⟩)] W fun e w' => e = .returned (.tuple #[]) ∧ ∃ x', RunM C W0 r w' (setS s c l d (i.imm % 4294967296)) x' t ∧ Top C (setS s c l d (i.imm % 4294967296)) x' t c (l.set d ⟨(i.imm % 4294967296), c.no⟩) := by
  have H := hid' h
  have HT := hid' T
  have HI := hid' hI
  have HB := hid' h.rows.below
  have y0 : W.cell? ⟨b, o, none⟩ = some (.int .i64 1) := by rw [← hop]; exact (in_cells (hI.2.1 W h.rows.below)).1
  have y1 : ∀ q : After W, q.1.cell? ⟨b, o + 1, none⟩ = some (.int .i64 d) := fun q => by rw [← hd]; exact (in_cells (HI.out.2.1 q.1 (below_on HB.out q.2 HB.out.size))).2.1
  have y3 : ∀ q : After W, q.1.cell? ⟨b, o + 3, none⟩ = some (.int .i32 i.imm) := fun q => (in_cells (HI.out.2.1 q.1 (below_on HB.out q.2 HB.out.size))).2.2.2.1
  have H26 : Hid (∀ w6, Below W.heap.size W w6 → _) := fun w6 hb6 => set26 (H.out.on hb6) HT.out hdl ((i.imm % 4294967296)) hl
  have hne := after_some W
  clear h T hI
  go_enter Try.func30, Try.ntmps30
  go_wp2
  refine region_after 10 mixed (by kernel_rfl) ?_
  simp only [List.take_succ_cons, List.take_zero, List.drop_succ_cons, List.drop_zero]
  repeat (first | go_big_quiet_step (fail) | quiet_step (fail))
  refine wpQuiet_nil ?_
  intro w6 hb6
  have h26 := H26.out w6 hb6
  clear y1 y3
  go_wp2_with (go_at_call 26; refine h26.mono ?_; rintro e7 w7 ⟨rfl, x7, hR7, hT7⟩)
  go_end0
  exact ⟨rfl, x7, hR7, hT7⟩
set_option maxRecDepth 20000 in
set_option maxHeartbeats 20000000 in
theorem do30_global {c : Cl} {l : List Rg} {b o : Nat} {i : In} (h : RunM C W0 r W s x t) (T : Top C s x t c l) (hI : InAt W0 b o i) (hop : i.op = 4) {d : Nat} (hd : i.dst = d) (hdl : d < l.length) (hl : (s.hidden.length + 1) * 24 ≤ 140737488355328) :
    Calls Try.prog 30 #[.pointer (some ⟨r, 0, none⟩), .pointer (some ⟨b, o, none⟩)] W fun e w' => e = .returned (.tuple #[]) ∧ ∃ x', RunM C W0 r w' (setS s c l d ((16777216 + i.imm % 4294967296) % 4294967296)) x' t ∧ Top C (setS s c l d ((16777216 + i.imm % 4294967296) % 4294967296)) x' t c (l.set d ⟨((16777216 + i.imm % 4294967296) % 4294967296), c.no⟩) := by
  have H := hid' h
  have HT := hid' T
  have HI := hid' hI
  have HB := hid' h.rows.below
  have y0 : W.cell? ⟨b, o, none⟩ = some (.int .i64 4) := by rw [← hop]; exact (in_cells (hI.2.1 W h.rows.below)).1
  have y1 : ∀ q : After W, q.1.cell? ⟨b, o + 1, none⟩ = some (.int .i64 d) := fun q => by rw [← hd]; exact (in_cells (HI.out.2.1 q.1 (below_on HB.out q.2 HB.out.size))).2.1
  have y3 : ∀ q : After W, q.1.cell? ⟨b, o + 3, none⟩ = some (.int .i32 i.imm) := fun q => (in_cells (HI.out.2.1 q.1 (below_on HB.out q.2 HB.out.size))).2.2.2.1
  have H26 : Hid (∀ w6, Below W.heap.size W w6 → _) := fun w6 hb6 => set26 (H.out.on hb6) HT.out hdl (((16777216 + i.imm % 4294967296) % 4294967296)) hl
  have hne := after_some W
  clear h T hI
  generalize hu : i.imm % 4294967296 = u at *
  generalize hgv : (16777216 + u) % 4294967296 = gv at *
  go_enter Try.func30, Try.ntmps30
  go_wp2
  refine region_after 11 mixed (by kernel_rfl) ?_
  simp only [List.take_succ_cons, List.take_zero, List.drop_succ_cons, List.drop_zero]
  repeat (first | go_big_quiet_step (fail) | quiet_step (fail))
  refine wpQuiet_nil ?_
  intro w6 hb6
  have h26 := H26.out w6 hb6
  clear y1 y3
  go_wp2_with (go_at_call 26; refine h26.mono ?_; rintro e7 w7 ⟨rfl, x7, hR7, hT7⟩)
  go_end0
  exact ⟨rfl, x7, hR7, hT7⟩
set_option maxRecDepth 20000 in
set_option maxHeartbeats 20000000 in
theorem do30_slot {c : Cl} {l : List Rg} {b o : Nat} {i : In} (h : RunM C W0 r W s x t) (T : Top C s x t c l) (hI : InAt W0 b o i) (hop : i.op = 5) {d : Nat} (hd : i.dst = d) (hdl : d < l.length) (hl : (s.hidden.length + 1) * 24 ≤ 140737488355328) :
    Calls Try.prog 30 #[.pointer (some ⟨r, 0, none⟩), .pointer (some ⟨b, o, none⟩)] W fun e w' => e = .returned (.tuple #[]) ∧ ∃ x', RunM C W0 r w' (setS s c l d ((c.sl + i.imm % 4294967296) % 4294967296)) x' t ∧ Top C (setS s c l d ((c.sl + i.imm % 4294967296) % 4294967296)) x' t c (l.set d ⟨((c.sl + i.imm % 4294967296) % 4294967296), c.no⟩) := by
  have H := hid' h
  have HT := hid' T
  have HI := hid' hI
  have HB := hid' h.rows.below
  have y0 : W.cell? ⟨b, o, none⟩ = some (.int .i64 5) := by rw [← hop]; exact (in_cells (hI.2.1 W h.rows.below)).1
  have y1 : ∀ q : After W, q.1.cell? ⟨b, o + 1, none⟩ = some (.int .i64 d) := fun q => by rw [← hd]; exact (in_cells (HI.out.2.1 q.1 (below_on HB.out q.2 HB.out.size))).2.1
  have y3 : ∀ q : After W, q.1.cell? ⟨b, o + 3, none⟩ = some (.int .i32 i.imm) := fun q => (in_cells (HI.out.2.1 q.1 (below_on HB.out q.2 HB.out.size))).2.2.2.1
  obtain ⟨cb, et, hcc, _⟩ := HT.out.see H.out
  have c11 : ∀ q : After W, q.1.cell? ⟨r, 11, none⟩ = some (.pointer (some ⟨cb, (s.calls.length - 1) * 6, none⟩)) := fun q => keep_cell (by rw [← et]; exact H.out.cell 11) q.2
  have k2 : ∀ q : After W, q.1.cell? ⟨cb, (s.calls.length - 1) * 6 + 2, none⟩ = some (.int .u32 c.sl) := fun q => keep_cell (hcc 2 (by omega)) q.2
  clear hcc
  have H26 : Hid (∀ w6, Below W.heap.size W w6 → _) := fun w6 hb6 => set26 (H.out.on hb6) HT.out hdl (((c.sl + i.imm % 4294967296) % 4294967296)) hl
  have hne := after_some W
  clear h T hI
  generalize hu : i.imm % 4294967296 = u at *
  generalize hgv : (c.sl + u) % 4294967296 = gv at *
  go_enter Try.func30, Try.ntmps30
  go_wp2
  refine region_after 18 mixed (by kernel_rfl) ?_
  simp only [List.take_succ_cons, List.take_zero, List.drop_succ_cons, List.drop_zero]
  repeat (first | go_big_quiet_step (fail) | quiet_step (fail))
  refine wpQuiet_nil ?_
  intro w6 hb6
  have h26 := H26.out w6 hb6
  clear y1 y3
  go_wp2_with (go_at_call 26; refine h26.mono ?_; rintro e7 w7 ⟨rfl, x7, hR7, hT7⟩)
  go_end0
  exact ⟨rfl, x7, hR7, hT7⟩
set_option maxRecDepth 20000 in
set_option maxHeartbeats 20000000 in
theorem do30_copy {c : Cl} {l : List Rg} {b o : Nat} {i : In} (h : RunM C W0 r W s x t) (T : Top C s x t c l) (hI : InAt W0 b o i) (hop : i.op = 2) {d : Nat} (hd : i.dst = d) (hdl : d < l.length) {a : Nat} (hlen : i.args.length = 1) (ha : i.args[0]? = some (a : Int)) (hal : a < l.length) (hl : (s.hidden.length + 1) * 24 ≤ 140737488355328) :
    Calls Try.prog 30 #[.pointer (some ⟨r, 0, none⟩), .pointer (some ⟨b, o, none⟩)] W fun e w' => e = .returned (.tuple #[]) ∧ ∃ x', RunM C W0 r w' (setS s c l d (getR l a c.no)) x' t ∧ Top C (setS s c l d (getR l a c.no)) x' t c (l.set d ⟨(getR l a c.no), c.no⟩) := by
  have H := hid' h
  have HT := hid' T
  have HI := hid' hI
  have HB := hid' h.rows.below
  have y0 : W.cell? ⟨b, o, none⟩ = some (.int .i64 2) := by rw [← hop]; exact (in_cells (hI.2.1 W h.rows.below)).1
  have y1 : ∀ q : After W, q.1.cell? ⟨b, o + 1, none⟩ = some (.int .i64 d) := fun q => by rw [← hd]; exact (in_cells (HI.out.2.1 q.1 (below_on HB.out q.2 HB.out.size))).2.1
  have y3 : ∀ q : After W, q.1.cell? ⟨b, o + 3, none⟩ = some (.int .i32 i.imm) := fun q => (in_cells (HI.out.2.1 q.1 (below_on HB.out q.2 HB.out.size))).2.2.2.1
  obtain ⟨ab, ao, acap, ea, hab, hac, hargs⟩ := args_at hI (k := 0) (by omega)
  obtain ⟨h0, h0e⟩ := List.getElem?_eq_some_iff.1 ha
  have y2 : ∀ q : After W, q.1.cell? ⟨b, o + 2, none⟩ = some (.slice (some ⟨ab, ao, none⟩) 1 acap) := fun q => by rw [← hlen, ← ea]; exact (in_cells (HI.out.2.1 q.1 (below_on HB.out q.2 HB.out.size))).2.2.1
  have ya : ∀ q : After W, q.1.cell? ⟨ab, ao, none⟩ = some (.int .i64 a) := fun q => by rw [← h0e]; exact hargs q.1 (below_on HB.out q.2 HB.out.size) 0 h0
  have K46 : ∀ q : After W, _ := fun q => Calls.after q (get46 (H.out.on q.2) HT.out hal)
  clear hargs ea h0e ha hlen
  have H26 : Hid (∀ w6, Below W.heap.size W w6 → _) := fun w6 hb6 => set26 (H.out.on hb6) HT.out hdl ((getR l a c.no)) hl
  have hne := after_some W
  clear h T hI
  go_enter Try.func30, Try.ntmps30
  go_wp2
  refine region_after 13 mixed (by kernel_rfl) ?_
  simp only [List.take_succ_cons, List.take_zero, List.drop_succ_cons, List.drop_zero]
  repeat (first | go_big_quiet_step (with_reducible exact K46 _) | quiet_step (with_reducible exact K46 _))
  refine wpQuiet_nil ?_
  intro w6 hb6
  have h26 := H26.out w6 hb6
  clear y1 y3
  go_wp2_with (go_at_call 26; refine h26.mono ?_; rintro e7 w7 ⟨rfl, x7, hR7, hT7⟩)
  go_end0
  exact ⟨rfl, x7, hR7, hT7⟩
end
end Go.Proofs.Ytiehlkhpblldaaa
