/- finish: a block's end. -/
import Derived.Test.YtiehlkhpblldaaaH22
set_option linter.unusedVariables false
set_option linter.unusedSimpArgs false
set_option maxRecDepth 20000
set_option maxHeartbeats 8000000
namespace Go.Proofs.Ytiehlkhpblldaaa
open Go.RowKit Go.Maps
section
variable {C : Cst} {W0 W W' : World} {r : Nat} {s s' : St} {x : Vs} {t : Tp}
/-- A block lies at an address of what came in. -/
def BlAt (W0 : World) (b o : Nat) (y : Bl) : Prop := b < W0.heap.size ∧ (∀ w', Below W0.heap.size W0 w' → ∀ c, c < 4 → w'.cell? ⟨b, o + c, none⟩ = (Bl.cells y)[c]?) ∧ Bl.ok W0 y
theorem to_at {y : Bl} {b o : Nat} (h : BlAt W0 b o y) {k : Nat} (hk : k < y.to.length) : ∃ ab ao cap, y.tv = .slice (some ⟨ab, ao, none⟩) y.to.length cap ∧ ab < W0.heap.size ∧ y.to.length ≤ cap ∧ ∀ w', Below W0.heap.size W0 w' → ∀ j (hj : j < y.to.length), w'.cell? ⟨ab, ao + j, none⟩ = some (.int .i64 y.to[j]) := by
  obtain ⟨ao, cap, e, hf⟩ := h.2.2.t.form ic1
  obtain ⟨b1, o1, rfl, hb, hc, _⟩ := hf k hk
  refine ⟨b1, o1, cap, e, hb, hc, fun w' hw j hj => ?_⟩
  obtain ⟨b2, o2, e', _, _, hx⟩ := hf j hj
  injection e' with e'
  injection e' with e1 e2
  subst e1 e2
  have := hx w' hw 0 (by omega)
  simpa [icell] using this
set_option maxHeartbeats 20000000 in
/-- A jump. -/
theorem finish29_jump {c : Cl} {l : List Rg} {b o : Nat} {y : Bl} {R : Ending → World → Prop} (h : RunM C W0 r W s x t) (T : Top C s x t c l) (hY : BlAt W0 b o y) (he : y.en = 1) (hl : y.to.length = 1) {to : Nat} (hto : y.to[0]? = some (to : Int))
    (h27 : ∀ w, RunM C W0 r w s x t → Calls Try.prog 27 #[.pointer (some ⟨r, 0, none⟩), .int .i64 to, .int .i64 c.bk] w fun e w' => e = .returned (.tuple #[]) ∧ R e w') :
    Calls Try.prog 29 #[.pointer (some ⟨r, 0, none⟩), .pointer (some ⟨b, o, none⟩)] W fun e w' => e = .returned (.tuple #[]) ∧ R e w' := by
  obtain ⟨cb, et, hcc, hcf, hcl, hcr, _⟩ := T.see h
  obtain ⟨ab, ao, acap, ea, hab, hac, hargs⟩ := to_at hY (k := 0) (by omega)
  have c11 : W.cell? ⟨r, 11, none⟩ = some (.pointer (some ⟨cb, (s.calls.length - 1) * 6, none⟩)) := by rw [← et]; exact h.cell 11
  have k4 : W.cell? ⟨cb, (s.calls.length - 1) * 6 + 4, none⟩ = some (.int .i64 c.bk) := hcc 4 (by omega)
  have hbl := bl_cells (hY.2.1 W h.rows.below)
  have b1 : W.cell? ⟨b, o + 1, none⟩ = some (.int .i64 1) := by rw [← he]; exact hbl.2.1
  have b3 : W.cell? ⟨b, o + 3, none⟩ = some (.slice (some ⟨ab, ao, none⟩) 1 acap) := by rw [← hl, ← ea]; exact hbl.2.2.2
  obtain ⟨h0, h0e⟩ := List.getElem?_eq_some_iff.1 hto
  have t0 : W.cell? ⟨ab, ao, none⟩ = some (.int .i64 to) := by rw [← h0e]; exact hargs W h.rows.below 0 h0
  have h27' := h27 W h
  clear hcc hcf hargs hbl ea h T hY h27 h0e
  go_enter Try.func29, Try.ntmps29
  go_wp2_with (go_at_call 27; refine h27'.mono ?_; rintro e1 w1 ⟨rfl, hR⟩)
  go_end0
  exact ⟨rfl, hR⟩
set_option maxHeartbeats 20000000 in
/-- A branch. -/
theorem finish29_branch {c : Cl} {l : List Rg} {b o : Nat} {y : Bl} {R : Ending → World → Prop} (h : RunM C W0 r W s x t) (T : Top C s x t c l) (hY : BlAt W0 b o y) (he : y.en = 2) (hl : y.to.length = 2) {a : Nat} (ha : y.arg = a) (hal : a < l.length) {to : Nat} (hto : y.to[if getR l a c.no = 0 then 1 else 0]? = some (to : Int))
    (h27 : ∀ w, RunM C W0 r w s x t → Calls Try.prog 27 #[.pointer (some ⟨r, 0, none⟩), .int .i64 to, .int .i64 c.bk] w fun e w' => e = .returned (.tuple #[]) ∧ R e w') :
    Calls Try.prog 29 #[.pointer (some ⟨r, 0, none⟩), .pointer (some ⟨b, o, none⟩)] W fun e w' => e = .returned (.tuple #[]) ∧ R e w' := by
  obtain ⟨cb, et, hcc, hcf, hcl, hcr, _⟩ := T.see h
  obtain ⟨ab, ao, acap, ea, hab, hac, hargs⟩ := to_at hY (k := 0) (by omega)
  have c11 : W.cell? ⟨r, 11, none⟩ = some (.pointer (some ⟨cb, (s.calls.length - 1) * 6, none⟩)) := by rw [← et]; exact h.cell 11
  have k4 : W.cell? ⟨cb, (s.calls.length - 1) * 6 + 4, none⟩ = some (.int .i64 c.bk) := hcc 4 (by omega)
  have hbl := bl_cells (hY.2.1 W h.rows.below)
  have b1 : W.cell? ⟨b, o + 1, none⟩ = some (.int .i64 2) := by rw [← he]; exact hbl.2.1
  have b2 : W.cell? ⟨b, o + 2, none⟩ = some (.int .i64 a) := by rw [← ha]; exact hbl.2.2.1
  have b3 : W.cell? ⟨b, o + 3, none⟩ = some (.slice (some ⟨ab, ao, none⟩) 2 acap) := by rw [← hl, ← ea]; exact hbl.2.2.2
  obtain ⟨h0, h0e⟩ := List.getElem?_eq_some_iff.1 hto
  have h46 := get46 h T hal
  have HT0 : Hid (∀ w1, Below W.heap.size W w1 → w1.cell? ⟨b, o + 3, none⟩ = some (.slice (some ⟨ab, ao, none⟩) 2 acap) ∧ w1.cell? ⟨ab, ao + (if getR l a c.no = 0 then 1 else 0), none⟩ = some (.int .i64 to)) := fun w1 hb1 => ⟨keep_cell b3 hb1, by rw [← h0e]; exact hargs w1 (below_on h.rows.below hb1 h.rows.below.size) _ h0⟩
  have H27 : Hid (∀ w1, Below W.heap.size W w1 → _) := fun w1 hb1 => h27 w1 (h.on hb1)
  clear hcc hcf hargs hbl ea h T hY h27 h0e h0 hto b3
  generalize getR l a c.no = g at *
  by_cases hz : g = 0
  · subst hz
    simp only [if_true] at HT0
    go_enter Try.func29, Try.ntmps29
    go_wp2_with (first
      | (go_at_call 27; refine (H27.out w2 HB2.out).mono ?_; rintro e1 w1 ⟨rfl, hR⟩)
      | (go_at_call 46; refine h46.mono ?_; rintro e2 w2 ⟨rfl, hb2⟩; obtain ⟨d3, dt⟩ := HT0.out w2 hb2; have HB2 := hid' hb2; clear hb2))
    go_end0
    exact ⟨rfl, hR⟩
  · have hzb : (g == 0) = false := by simp [hz]
    rw [if_neg hz] at HT0
    simp only [Nat.add_zero] at HT0
    go_enter Try.func29, Try.ntmps29
    go_wp2_with (first
      | (go_at_call 27; refine (H27.out w2 HB2.out).mono ?_; rintro e1 w1 ⟨rfl, hR⟩)
      | (go_at_call 46; refine h46.mono ?_; rintro e2 w2 ⟨rfl, hb2⟩; obtain ⟨d3, dt⟩ := HT0.out w2 hb2; have HB2 := hid' hb2; clear hb2))
    go_end0
    exact ⟨rfl, hR⟩
set_option maxHeartbeats 20000000 in
/-- A return. -/
theorem finish29_return {c : Cl} {l : List Rg} {b o : Nat} {y : Bl} {R : Ending → World → Prop} (h : RunM C W0 r W s x t) (T : Top C s x t c l) (hY : BlAt W0 b o y) (he : y.en = 3) (ha : y.arg = -1 ∨ (0 ≤ y.arg ∧ y.arg < l.length))
    (h47 : ∀ w, RunM C W0 r w s x t → Calls Try.prog 47 #[.pointer (some ⟨r, 0, none⟩), .int .u32 (toldR l y.arg c.no)] w fun e w' => e = .returned (.tuple #[]) ∧ R e w') :
    Calls Try.prog 29 #[.pointer (some ⟨r, 0, none⟩), .pointer (some ⟨b, o, none⟩)] W fun e w' => e = .returned (.tuple #[]) ∧ R e w' := by
  obtain ⟨cb, et, hcc, hcf, hcl, hcr, _⟩ := T.see h
  have c11 : W.cell? ⟨r, 11, none⟩ = some (.pointer (some ⟨cb, (s.calls.length - 1) * 6, none⟩)) := by rw [← et]; exact h.cell 11
  have k4 : W.cell? ⟨cb, (s.calls.length - 1) * 6 + 4, none⟩ = some (.int .i64 c.bk) := hcc 4 (by omega)
  have hbl := bl_cells (hY.2.1 W h.rows.below)
  have b1 : W.cell? ⟨b, o + 1, none⟩ = some (.int .i64 3) := by rw [← he]; exact hbl.2.1
  have b2 : W.cell? ⟨b, o + 2, none⟩ = some (.int .i64 y.arg) := hbl.2.2.1
  have h48 := told48 h T ha
  have H47 : Hid (∀ w1, Below W.heap.size W w1 → _) := fun w1 hb1 => h47 w1 (h.on hb1)
  clear hcc hcf hbl h T hY h47
  generalize toldR l y.arg c.no = g at *
  go_enter Try.func29, Try.ntmps29
  go_wp2_with (first
    | (go_at_call 47; refine (H47.out w2 HB2.out).mono ?_; rintro e1 w1 ⟨rfl, hR⟩)
    | (go_at_call 48; refine h48.mono ?_; rintro e2 w2 ⟨rfl, hb2⟩; have HB2 := hid' hb2; clear hb2))
  go_end0
  exact ⟨rfl, hR⟩
end
end Go.Proofs.Ytiehlkhpblldaaa
namespace Go.Proofs.Ytiehlkhpblldaaa
open Go.RowKit Go.Maps
section
variable {C : Cst} {W0 W W' : World} {r : Nat} {s s' : St} {x : Vs} {t : Tp}
/-- No fuel. -/
theorem step18_fuel (h : RunM C W0 r W s x t) (hf : s.fuel < 1) : Calls Try.prog 18 #[.pointer (some ⟨r, 0, none⟩)] W fun e w' => e = .returned (.tuple #[]) ∧ RunM C W0 r w' { s with kind := 3 } x t := by
  have h28 := spend28 h (n := 1) (by omega) (by omega)
  rw [decide_eq_false (by omega), show spendF s 1 = { s with kind := 3 } by unfold spendF; rw [if_pos hf]] at h28
  clear h
  go_enter Try.func18, Try.ntmps18
  go_wp2_with (go_at_call 28; refine h28.mono ?_; rintro e1 w1 ⟨rfl, hR⟩)
  exact bodyPost_ret (v := .tuple #[]) (by simp [results, Try.results18]) rfl ⟨rfl, hR⟩
/-- What step sees behind the fuel. -/
theorem stepFacts {c : Cl} {l : List Rg} (h : RunM C W0 r W s x t) (T : Top C s x t c l) (hb : c.bk < (C.p.funcs[c.fn]'T.fn).blocks.length) : ∃ fb fo bb bo bcap cb NB, NB = (C.p.funcs[c.fn]'T.fn).blocks.length ∧ BlAt W0 bb (bo + c.bk * 4) ((C.p.funcs[c.fn]'T.fn).blocks[c.bk]) ∧ (∃ ccap, x.cv = .slice (some ⟨cb, 0, none⟩) s.calls.length ccap) ∧ ∀ q : After W,
    q.1.cell? ⟨r, 12, none⟩ = some (.pointer (some ⟨fb, fo, none⟩)) ∧ q.1.cell? ⟨fb, fo + 4, none⟩ = some (.slice (some ⟨bb, bo, none⟩) NB bcap) ∧ q.1.cell? ⟨r, 11, none⟩ = some (.pointer (some ⟨cb, (s.calls.length - 1) * 6, none⟩)) ∧ q.1.cell? ⟨cb, (s.calls.length - 1) * 6 + 4, none⟩ = some (.int .i64 c.bk) ∧ q.1.cell? ⟨cb, (s.calls.length - 1) * 6 + 5, none⟩ = some (.int .i64 c.nx) ∧ (∀ j, q.1.frozen? ⟨cb, j, none⟩ = false) := by
  obtain ⟨bb, bo, bcap, ebv, hbb, hbc, hblk, hbok, hbig⟩ := src_block h.rows.pg T.fn hb
  obtain ⟨fb, fo, etf, hfn⟩ := top_fn h T
  obtain ⟨cb, et, hcc, hcf, hcl, hcr, ccap, ecv, hpos⟩ := T.see h
  refine ⟨fb, fo + c.fn * 5, bb, bo, bcap, cb, _, rfl, ⟨hbb, hblk, hbok⟩, ⟨ccap, ecv⟩, fun q => ?_⟩
  have hbw := below_on h.rows.below q.2 h.rows.below.size
  exact ⟨keep_cell (by rw [← etf]; exact h.cell 12) q.2, by rw [← ebv]; exact hfn q.1 hbw 4 (by omega), keep_cell (by rw [← et]; exact h.cell 11) q.2, keep_cell (hcc 4 (by omega)) q.2, keep_cell (hcc 5 (by omega)) q.2, fun j => by rw [q.2.frozen hcl]; exact hcf j⟩
set_option maxHeartbeats 20000000 in
/-- A block's end. -/
theorem step18_end {c : Cl} {l : List Rg} {R : Ending → World → Prop} (h : RunM C W0 r W s x t) (T : Top C s x t c l) (hf : 1 ≤ s.fuel) (hf2 : s.fuel ≤ 9223372036854775807) (hb : c.bk < (C.p.funcs[c.fn]'T.fn).blocks.length) (hn : c.nx = (C.p.funcs[c.fn]'T.fn).blocks[c.bk].code.length)
    (h29 : ∀ w b o, RunM C W0 r w { s with fuel := s.fuel - 1 } x t → BlAt W0 b o ((C.p.funcs[c.fn]'T.fn).blocks[c.bk]) → Calls Try.prog 29 #[.pointer (some ⟨r, 0, none⟩), .pointer (some ⟨b, o, none⟩)] w fun e w' => e = .returned (.tuple #[]) ∧ R e w') :
    Calls Try.prog 18 #[.pointer (some ⟨r, 0, none⟩)] W fun e w' => e = .returned (.tuple #[]) ∧ R e w' := by
  have h28 := spend28 h (n := 1) (by omega) hf2
  rw [decide_eq_true (by omega), show spendF s 1 = { s with fuel := s.fuel - 1 } by unfold spendF; rw [if_neg (by omega)]] at h28
  have T1 : Top C { s with fuel := s.fuel - 1 } x t c l := T.same rfl rfl
  have F : Hid (∀ w1, RunM C W0 r w1 { s with fuel := s.fuel - 1 } x t → _) := fun w1 h1 => stepFacts h1 T1 hb
  have H29 := hid' h29
  have HN := hid' hn
  have hbk : (c.bk : Int) < (C.p.funcs[c.fn]'T.fn).blocks.length := by omega
  generalize (C.p.funcs[c.fn]'T.fn).blocks[c.bk] = B at *
  clear h h29
  go_enter Try.func18, Try.ntmps18
  go_wp2_with (go_at_call 28; refine h28.mono ?_; rintro e1 w1 ⟨rfl, hR1⟩)
  obtain ⟨fb, fo, bb, bo, bcap, cb, NB, hNB, hBl, _, hq⟩ := F.out w1 hR1
  obtain ⟨d12, d4, d11, k4, k5, kf⟩ := hq ⟨w1, Below.refl _ _⟩
  dsimp only at d12 d4 d11 k4 k5 kf
  rw [← hNB] at hbk
  obtain ⟨ao, acap, ea⟩ := hBl.2.2.c.len
  have b0 : w1.cell? ⟨bb, bo + c.bk * 4, none⟩ = some (.slice ao B.code.length acap) := by rw [← ea]; exact hBl.2.1 w1 hR1.rows.below 0 (by omega)
  rw [HN.out] at k5
  have HBL := hid' hBl
  have HR1 := hid' hR1
  clear hq hNB ea hBl hR1 F
  go_quiet (fail)
  go_wp2
  go_quiet (fail)
  go_wp2_with (go_at_call 29; refine (H29.out _ _ _ (HR1.out.drewN _) HBL.out).mono ?_; rintro e2 w2 ⟨rfl, hR2⟩)
  first
    | (go_end0; exact ⟨rfl, hR2⟩)
    | exact bodyPost_ret (v := .tuple #[]) (by simp [results, Try.results18]) rfl (And.intro rfl hR2)
def nextC (c : Cl) : Cl := { c with nx := c.nx + 1 }
set_option maxHeartbeats 20000000 in
/-- An instruction. -/
theorem step18_do {c : Cl} {l : List Rg} {i : In} {R : Ending → World → Prop} (h : RunM C W0 r W s x t) (T : Top C s x t c l) (hf : 1 ≤ s.fuel) (hf2 : s.fuel ≤ 9223372036854775807) (hb : c.bk < (C.p.funcs[c.fn]'T.fn).blocks.length) (hn : (C.p.funcs[c.fn]'T.fn).blocks[c.bk].code[c.nx]? = some i)
    (h30 : ∀ w b o, RunM C W0 r w (topS { s with fuel := s.fuel - 1 } (nextC c)) x t → Top C (topS { s with fuel := s.fuel - 1 } (nextC c)) x t (nextC c) l → InAt W0 b o i → Calls Try.prog 30 #[.pointer (some ⟨r, 0, none⟩), .pointer (some ⟨b, o, none⟩)] w fun e w' => e = .returned (.tuple #[]) ∧ R e w') :
    Calls Try.prog 18 #[.pointer (some ⟨r, 0, none⟩)] W fun e w' => e = .returned (.tuple #[]) ∧ R e w' := by
  have h28 := spend28 h (n := 1) (by omega) hf2
  rw [decide_eq_true (by omega), show spendF s 1 = { s with fuel := s.fuel - 1 } by unfold spendF; rw [if_neg (by omega)]] at h28
  have T1 : Top C { s with fuel := s.fuel - 1 } x t c l := T.same rfl rfl
  have F : Hid (∀ w1, RunM C W0 r w1 { s with fuel := s.fuel - 1 } x t → _) := fun w1 h1 => stepFacts h1 T1 hb
  have H30 := hid' h30
  have HT1 := hid' T1
  have hbk : (c.bk : Int) < (C.p.funcs[c.fn]'T.fn).blocks.length := by omega
  obtain ⟨hnl, hni⟩ := List.getElem?_eq_some_iff.1 hn
  have hbok : Bl.ok W0 ((C.p.funcs[c.fn]'T.fn).blocks[c.bk]) := (h.rows.pg.fns _ (List.getElem_mem T.fn)).bls _ (List.getElem_mem hb)
  obtain ⟨ib, io, icap, eiv, hic, hin⟩ := src_code hbok hnl
  have hI := hin _ hnl
  rw [hni] at hI
  have HI := hid' hI
  have hbig := hbok.cl
  unfold big at hbig
  generalize (C.p.funcs[c.fn]'T.fn).blocks[c.bk] = B at *
  have hnli : (c.nx : Int) < B.code.length := by omega
  have hnlb : ((c.nx : Int) == B.code.length) = false := by simp; omega
  have hnxw : IntKind.i64.wrap ((c.nx : Int) + 1) = c.nx + 1 := by simp [IntKind.wrap, IntKind.bits, IntKind.signed]; omega
  have HEI := hid' eiv
  clear h h30 hin hI hni hn eiv hbok
  go_enter Try.func18, Try.ntmps18
  go_wp2_with (go_at_call 28; refine h28.mono ?_; rintro e1 w1 ⟨rfl, hR1⟩)
  obtain ⟨fb, fo, bb, bo, bcap, cb, NB, hNB, hBl, hcb, hq⟩ := F.out w1 hR1
  obtain ⟨d12, d4, d11, k4, k5, kf⟩ := hq ⟨w1, Below.refl _ _⟩
  dsimp only at d12 d4 d11 k4 k5 kf
  rw [← hNB] at hbk
  have b0 : w1.cell? ⟨bb, bo + c.bk * 4, none⟩ = some (.slice (some ⟨ib, io, none⟩) B.code.length icap) := by rw [← HEI.out]; exact hBl.2.1 w1 hR1.rows.below 0 (by omega)
  have HR1 := hid' hR1
  obtain ⟨ccap, ecv⟩ := hcb
  have HN : Hid (∀ n, RunM C W0 r ((w1.drewN n).setCell ⟨cb, (s.calls.length - 1) * 6 + 5, none⟩ (.int .i64 ((c.nx : Int) + 1))) (topS { s with fuel := s.fuel - 1 } (nextC c)) x t ∧ Top C (topS { s with fuel := s.fuel - 1 } (nextC c)) x t (nextC c) l) := fun n => (HR1.out.drewN n).topc HT1.out ecv (j := 5) (by omega) (nextC c) (.int .i64 ((c.nx : Int) + 1)) rfl rfl
  clear hq hNB hBl hR1 F ecv
  go_quiet (fail)
  go_wp2
  go_quiet (fail)
  go_wp2
  go_quiet (fail)
  go_wp2_with (go_at_call 30; refine (H30.out _ _ _ (HN.out _).1 (HN.out 0).2 HI.out).mono ?_; rintro e2 w2 ⟨rfl, hR2⟩)
  go_end0
  exact ⟨rfl, hR2⟩
end
end Go.Proofs.Ytiehlkhpblldaaa
