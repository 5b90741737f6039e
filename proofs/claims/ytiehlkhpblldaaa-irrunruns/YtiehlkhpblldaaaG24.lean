/- step: an instruction, or a block's end. -/
import Derived.Test.YtiehlkhpblldaaaG22
set_option linter.unusedVariables false
set_option linter.unusedSimpArgs false
set_option maxRecDepth 20000
set_option maxHeartbeats 8000000
namespace Go.Proofs.Ytiehlkhpblldaaa
open Go.RowKit Go.Maps
section
variable {C : Cst} {W0 W W' : World} {r : Nat} {s s' : St} {x : Vs} {t : Tp}
/-- No fuel. -/
theorem step18_fuel (h : RunM C W0 r W s x t) (hf : s.fuel < 1) : Calls Try.prog 18 #[.pointer (some ⟨r, 0, none⟩)] W fun e w' => e = .returned (.tuple #[]) ∧ RunM C W0 r w' { s with kind := 3 } x t := by
  have h28 := spend28 h (n := 1) (by omega) (by omega)
  rw [decide_eq_false (by omega), show spendF s 1 = { s with kind := 3 } by unfold spendF; rw [if_pos hf]] at h28
  clear h
  go_enter Try.func18, Try.ntmps18
  go_wp2_with (go_at_call 28; refine h28.mono ?_; rintro e1 w1 ⟨rfl, hR⟩)
  exact bodyPost_ret (v := .tuple #[]) (by simp [results, Try.results18]) rfl ⟨rfl, hR⟩
/-- What step sees behind the fuel. -/
theorem stepFacts {c : Cl} {l : List Rg} (h : RunM C W0 r W s x t) (T : Top C s x t c l) (hb : c.bk < (C.p.funcs[c.fn]'T.fn).blocks.length) : ∃ fb fo bb bo bcap cb NB, NB = (C.p.funcs[c.fn]'T.fn).blocks.length ∧ BlAt W0 bb (bo + c.bk * 4) ((C.p.funcs[c.fn]'T.fn).blocks[c.bk]) ∧ (∃ ccap, x.cv = .slice (some ⟨cb, 0, none⟩) s.calls.length ccap) ∧ ∀ q : After W,
    q.1.cell? ⟨r, 12, none⟩ = some (.pointer (some ⟨fb, fo, none⟩)) ∧ q.1.cell? ⟨fb, fo + 4, none⟩ = some (.slice (some ⟨bb, bo, none⟩) NB bcap) ∧ q.1.cell? ⟨r, 11, none⟩ = some (.pointer (some ⟨cb, (s.calls.length - 1) * 6, none⟩)) ∧ q.1.cell? ⟨cb, (s.calls.length - 1) * 6 + 4, none⟩ = some (.int .i64 c.bk) ∧ q.1.cell? ⟨cb, (s.calls.length - 1) * 6 + 5, none⟩ = some (.int .i64 c.nx) ∧ (∀ j, q.1.frozen? ⟨cb, j, none⟩ = false) := by
  obtain ⟨bb, bo, bcap, ebv, hbb, hbc, hblk, hbok, hbig⟩ := src_block h.rows.pg T.fn hb
  obtain ⟨fb, fo, etf, hfn⟩ := top_fn h T
  obtain ⟨cb, et, hcc, hcf, hcl, hcr, ccap, ecv, hpos⟩ := T.see h
  refine ⟨fb, fo + c.fn * 5, bb, bo, bcap, cb, _, rfl, ⟨hbb, hblk, hbok⟩, ⟨ccap, ecv⟩, fun q => ?_⟩
  have hbw := below_on h.rows.below q.2 h.rows.below.size
  exact ⟨keep_cell (by rw [← etf]; exact h.cell 12) q.2, by rw [← ebv]; exact hfn q.1 hbw 4 (by omega), keep_cell (by rw [← et]; exact h.cell 11) q.2, keep_cell (hcc 4 (by omega)) q.2, keep_cell (hcc 5 (by omega)) q.2, fun j => by rw [q.2.frozen hcl]; exact hcf j⟩
set_option maxHeartbeats 20000000 in
/-- A block's end. -/
theorem step18_end {c : Cl} {l : List Rg} {R : Ending → World → Prop} (h : RunM C W0 r W s x t) (T : Top C s x t c l) (hf : 1 ≤ s.fuel) (hf2 : s.fuel ≤ 9223372036854775807) (hb : c.bk < (C.p.funcs[c.fn]'T.fn).blocks.length) (hn : c.nx = (C.p.funcs[c.fn]'T.fn).blocks[c.bk].code.length)
    (h29 : ∀ w b o, RunM C W0 r w { s with fuel := s.fuel - 1 } x t → BlAt W0 b o ((C.p.funcs[c.fn]'T.fn).blocks[c.bk]) → Calls Try.prog 29 #[.pointer (some ⟨r, 0, none⟩), .pointer (some ⟨b, o, none⟩)] w fun e w' => e = .returned (.tuple #[]) ∧ R e w') :
    Calls Try.prog 18 #[.pointer (some ⟨r, 0, none⟩)] W fun e w' => e = .returned (.tuple #[]) ∧ R e w' := by
  have h28 := spend28 h (n := 1) (by omega) hf2
  rw [decide_eq_true (by omega), show spendF s 1 = { s with fuel := s.fuel - 1 } by unfold spendF; rw [if_neg (by omega)]] at h28
  have T1 : Top C { s with fuel := s.fuel - 1 } x t c l := T.same rfl rfl
  have F : Hid (∀ w1, RunM C W0 r w1 { s with fuel := s.fuel - 1 } x t → _) := fun w1 h1 => stepFacts h1 T1 hb
  have H29 := hid' h29
  have HN := hid' hn
  have hbk : (c.bk : Int) < (C.p.funcs[c.fn]'T.fn).blocks.length := by omega
  generalize (C.p.funcs[c.fn]'T.fn).blocks[c.bk] = B at *
  clear h h29
  go_enter Try.func18, Try.ntmps18
  go_wp2_with (go_at_call 28; refine h28.mono ?_; rintro e1 w1 ⟨rfl, hR1⟩)
  obtain ⟨fb, fo, bb, bo, bcap, cb, NB, hNB, hBl, _, hq⟩ := F.out w1 hR1
  obtain ⟨d12, d4, d11, k4, k5, kf⟩ := hq ⟨w1, Below.refl _ _⟩
  dsimp only at d12 d4 d11 k4 k5 kf
  rw [← hNB] at hbk
  obtain ⟨ao, acap, ea⟩ := hBl.2.2.c.len
  have b0 : w1.cell? ⟨bb, bo + c.bk * 4, none⟩ = some (.slice ao B.code.length acap) := by rw [← ea]; exact hBl.2.1 w1 hR1.rows.below 0 (by omega)
  rw [HN.out] at k5
  have HBL := hid' hBl
  have HR1 := hid' hR1
  clear hq hNB ea hBl hR1 F
  go_quiet (fail)
  go_wp2
  go_quiet (fail)
  go_wp2_with (go_at_call 29; refine (H29.out _ _ _ (HR1.out.drewN _) HBL.out).mono ?_; rintro e2 w2 ⟨rfl, hR2⟩)
  first
    | (go_end0; exact ⟨rfl, hR2⟩)
    | exact bodyPost_ret (v := .tuple #[]) (by simp [results, Try.results18]) rfl (And.intro rfl hR2)
def nextC (c : Cl) : Cl := { c with nx := c.nx + 1 }
set_option maxHeartbeats 20000000 in
/-- An instruction. -/
theorem step18_do {c : Cl} {l : List Rg} {i : In} {R : Ending → World → Prop} (h : RunM C W0 r W s x t) (T : Top C s x t c l) (hf : 1 ≤ s.fuel) (hf2 : s.fuel ≤ 9223372036854775807) (hb : c.bk < (C.p.funcs[c.fn]'T.fn).blocks.length) (hn : (C.p.funcs[c.fn]'T.fn).blocks[c.bk].code[c.nx]? = some i)
    (h30 : ∀ w b o, RunM C W0 r w (topS { s with fuel := s.fuel - 1 } (nextC c)) x t → Top C (topS { s with fuel := s.fuel - 1 } (nextC c)) x t (nextC c) l → InAt W0 b o i → Calls Try.prog 30 #[.pointer (some ⟨r, 0, none⟩), .pointer (some ⟨b, o, none⟩)] w fun e w' => e = .returned (.tuple #[]) ∧ R e w') :
    Calls Try.prog 18 #[.pointer (some ⟨r, 0, none⟩)] W fun e w' => e = .returned (.tuple #[]) ∧ R e w' := by
  have h28 := spend28 h (n := 1) (by omega) hf2
  rw [decide_eq_true (by omega), show spendF s 1 = { s with fuel := s.fuel - 1 } by unfold spendF; rw [if_neg (by omega)]] at h28
  have T1 : Top C { s with fuel := s.fuel - 1 } x t c l := T.same rfl rfl
  have F : Hid (∀ w1, RunM C W0 r w1 { s with fuel := s.fuel - 1 } x t → _) := fun w1 h1 => stepFacts h1 T1 hb
  have H30 := hid' h30
  have HT1 := hid' T1
  have hbk : (c.bk : Int) < (C.p.funcs[c.fn]'T.fn).blocks.length := by omega
  obtain ⟨hnl, hni⟩ := List.getElem?_eq_some_iff.1 hn
  have hbok : Bl.ok W0 ((C.p.funcs[c.fn]'T.fn).blocks[c.bk]) := (h.rows.pg.fns _ (List.getElem_mem T.fn)).bls _ (List.getElem_mem hb)
  obtain ⟨ib, io, icap, eiv, hic, hin⟩ := src_code hbok hnl
  have hI := hin _ hnl
  rw [hni] at hI
  have HI := hid' hI
  have hbig := hbok.cl
  unfold big at hbig
  generalize (C.p.funcs[c.fn]'T.fn).blocks[c.bk] = B at *
  have hnli : (c.nx : Int) < B.code.length := by omega
  have hnlb : ((c.nx : Int) == B.code.length) = false := by simp; omega
  have hnxw : IntKind.i64.wrap ((c.nx : Int) + 1) = c.nx + 1 := by simp [IntKind.wrap, IntKind.bits, IntKind.signed]; omega
  have HEI := hid' eiv
  clear h h30 hin hI hni hn eiv hbok
  go_enter Try.func18, Try.ntmps18
  go_wp2_with (go_at_call 28; refine h28.mono ?_; rintro e1 w1 ⟨rfl, hR1⟩)
  obtain ⟨fb, fo, bb, bo, bcap, cb, NB, hNB, hBl, hcb, hq⟩ := F.out w1 hR1
  obtain ⟨d12, d4, d11, k4, k5, kf⟩ := hq ⟨w1, Below.refl _ _⟩
  dsimp only at d12 d4 d11 k4 k5 kf
  rw [← hNB] at hbk
  have b0 : w1.cell? ⟨bb, bo + c.bk * 4, none⟩ = some (.slice (some ⟨ib, io, none⟩) B.code.length icap) := by rw [← HEI.out]; exact hBl.2.1 w1 hR1.rows.below 0 (by omega)
  have HR1 := hid' hR1
  obtain ⟨ccap, ecv⟩ := hcb
  have HN : Hid (∀ n, RunM C W0 r ((w1.drewN n).setCell ⟨cb, (s.calls.length - 1) * 6 + 5, none⟩ (.int .i64 ((c.nx : Int) + 1))) (topS { s with fuel := s.fuel - 1 } (nextC c)) x t ∧ Top C (topS { s with fuel := s.fuel - 1 } (nextC c)) x t (nextC c) l) := fun n => (HR1.out.drewN n).topc HT1.out ecv (j := 5) (by omega) (nextC c) (.int .i64 ((c.nx : Int) + 1)) rfl rfl
  clear hq hNB hBl hR1 F ecv
  go_quiet (fail)
  go_wp2
  go_quiet (fail)
  go_wp2
  go_quiet (fail)
  go_wp2_with (go_at_call 30; refine (H30.out _ _ _ (HN.out _).1 (HN.out 0).2 HI.out).mono ?_; rintro e2 w2 ⟨rfl, hR2⟩)
  go_end0
  exact ⟨rfl, hR2⟩
end
end Go.Proofs.Ytiehlkhpblldaaa
