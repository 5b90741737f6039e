/- do: what is handed on; a check; a byte got, a byte put. -/
import Derived.Test.YtiehlkhpblldaaaH14
set_option linter.unusedVariables false
set_option linter.unusedSimpArgs false
set_option maxRecDepth 20000
set_option maxHeartbeats 8000000
namespace Go.Proofs.Ytiehlkhpblldaaa
open Go.RowKit Go.Maps
section
variable {C : Cst} {W0 W W' : World} {r : Nat} {s s' : St} {x : Vs} {t : Tp}
theorem do30_alu {b o : Nat} {i : In} {R : Ending → World → Prop} (h : RunM C W0 r W s x t) (hI : InAt W0 b o i) (hop : i.op = 3) (hc : Calls Try.prog 49 #[.pointer (some ⟨r, 0, none⟩), .pointer (some ⟨b, o, none⟩)] W fun e w' => e = .returned (.tuple #[]) ∧ R e w') :
    Calls Try.prog 30 #[.pointer (some ⟨r, 0, none⟩), .pointer (some ⟨b, o, none⟩)] W fun e w' => e = .returned (.tuple #[]) ∧ R e w' := by
  have y0 : W.cell? ⟨b, o, none⟩ = some (.int .i64 3) := by rw [← hop]; exact (in_cells (hI.2.1 W h.rows.below)).1
  clear h hI
  go_enter Try.func30, Try.ntmps30
  go_wp2_with (go_at_call 49; refine hc.mono ?_; rintro e1 w1 ⟨rfl, hR⟩)
  go_end0
  exact ⟨rfl, hR⟩
theorem do30_load {b o : Nat} {i : In} {R : Ending → World → Prop} (h : RunM C W0 r W s x t) (hI : InAt W0 b o i) (hop : i.op = 6) (hc : Calls Try.prog 50 #[.pointer (some ⟨r, 0, none⟩), .pointer (some ⟨b, o, none⟩)] W fun e w' => e = .returned (.tuple #[]) ∧ R e w') :
    Calls Try.prog 30 #[.pointer (some ⟨r, 0, none⟩), .pointer (some ⟨b, o, none⟩)] W fun e w' => e = .returned (.tuple #[]) ∧ R e w' := by
  have y0 : W.cell? ⟨b, o, none⟩ = some (.int .i64 6) := by rw [← hop]; exact (in_cells (hI.2.1 W h.rows.below)).1
  clear h hI
  go_enter Try.func30, Try.ntmps30
  go_wp2_with (go_at_call 50; refine hc.mono ?_; rintro e1 w1 ⟨rfl, hR⟩)
  go_end0
  exact ⟨rfl, hR⟩
theorem do30_store {b o : Nat} {i : In} {R : Ending → World → Prop} (h : RunM C W0 r W s x t) (hI : InAt W0 b o i) (hop : i.op = 7) (hc : Calls Try.prog 50 #[.pointer (some ⟨r, 0, none⟩), .pointer (some ⟨b, o, none⟩)] W fun e w' => e = .returned (.tuple #[]) ∧ R e w') :
    Calls Try.prog 30 #[.pointer (some ⟨r, 0, none⟩), .pointer (some ⟨b, o, none⟩)] W fun e w' => e = .returned (.tuple #[]) ∧ R e w' := by
  have y0 : W.cell? ⟨b, o, none⟩ = some (.int .i64 7) := by rw [← hop]; exact (in_cells (hI.2.1 W h.rows.below)).1
  clear h hI
  go_enter Try.func30, Try.ntmps30
  go_wp2_with (go_at_call 50; refine hc.mono ?_; rintro e1 w1 ⟨rfl, hR⟩)
  go_end0
  exact ⟨rfl, hR⟩
theorem do30_call {b o : Nat} {i : In} {R : Ending → World → Prop} (h : RunM C W0 r W s x t) (hI : InAt W0 b o i) (hop : i.op = 9) (hc : Calls Try.prog 51 #[.pointer (some ⟨r, 0, none⟩), .pointer (some ⟨b, o, none⟩)] W fun e w' => e = .returned (.tuple #[]) ∧ R e w') :
    Calls Try.prog 30 #[.pointer (some ⟨r, 0, none⟩), .pointer (some ⟨b, o, none⟩)] W fun e w' => e = .returned (.tuple #[]) ∧ R e w' := by
  have y0 : W.cell? ⟨b, o, none⟩ = some (.int .i64 9) := by rw [← hop]; exact (in_cells (hI.2.1 W h.rows.below)).1
  clear h hI
  go_enter Try.func30, Try.ntmps30
  go_wp2_with (go_at_call 51; refine hc.mono ?_; rintro e1 w1 ⟨rfl, hR⟩)
  go_end0
  exact ⟨rfl, hR⟩
def chkF2 (s : St) (l : List Rg) (no : Int) (a : Nat) (k : Int) : St := if getR l a no = 0 then trapF s k else s
theorem do30_check {c : Cl} {l : List Rg} {b o : Nat} {i : In} (h : RunM C W0 r W s x t) (T : Top C s x t c l) (hI : InAt W0 b o i) (hop : i.op = 8) {a : Nat} (hlen : i.args.length = 1) (ha : i.args[0]? = some (a : Int)) (hal : a < l.length) :
    Calls Try.prog 30 #[.pointer (some ⟨r, 0, none⟩), .pointer (some ⟨b, o, none⟩)] W fun e w' => e = .returned (.tuple #[]) ∧ RunM C W0 r w' (chkF2 s l c.no a i.imm) x t ∧ Top C (chkF2 s l c.no a i.imm) x t c l := by
  have H := hid' h
  have HT := hid' T
  have hc := in_cells (hI.2.1 W h.rows.below)
  have y0 : W.cell? ⟨b, o, none⟩ = some (.int .i64 8) := by rw [← hop]; exact hc.1
  obtain ⟨ab, ao, acap, ea, hab, hac, hargs⟩ := args_at hI (k := 0) (by omega)
  obtain ⟨h0, h0e⟩ := List.getElem?_eq_some_iff.1 ha
  have y2 : W.cell? ⟨b, o + 2, none⟩ = some (.slice (some ⟨ab, ao, none⟩) 1 acap) := by rw [← hlen, ← ea]; exact hc.2.2.1
  have ya : W.cell? ⟨ab, ao, none⟩ = some (.int .i64 a) := by rw [← h0e]; exact hargs W h.rows.below 0 h0
  have y3 : W.cell? ⟨b, o + 3, none⟩ = some (.int .i32 i.imm) := hc.2.2.2.1
  have h46 := get46 h T hal
  have hw : IntKind.i64.wrap i.imm = i.imm := by have := hI.2.2.hi; simp [IntKind.wrap, IntKind.bits, IntKind.signed]; omega
  unfold chkF2
  generalize getR l a c.no = g at *
  clear hargs ea h0e ha hlen hc h T hI
  by_cases hz : g = 0
  · subst hz
    simp only [if_true]
    go_enter Try.func30, Try.ntmps30
    go_wp2_with (first
      | (go_at_call 24; refine (trap24 (H.out.on HB2.out) i.imm).mono ?_; rintro e1 w1 ⟨rfl, hR⟩)
      | (go_at_call 46; refine h46.mono ?_; rintro e2 w2 ⟨rfl, hb2⟩; have z3 := keep_cell y3 hb2; have HB2 := hid' hb2; clear hb2))
    go_end0
    exact ⟨rfl, hR, HT.out.same rfl rfl⟩
  · have hzb : (g == 0) = false := by simp [hz]
    rw [if_neg hz]
    go_enter Try.func30, Try.ntmps30
    go_wp2_with (go_at_call 46; refine h46.mono ?_; rintro e2 w2 ⟨rfl, hb2⟩)
    go_end0
    exact ⟨rfl, H.out.on hb2, HT.out⟩
end
end Go.Proofs.Ytiehlkhpblldaaa

namespace Go.Proofs.Ytiehlkhpblldaaa
open Go.RowKit Go.Maps
def big2 : Nat := 281474976710656
section
variable {C : Cst} {W0 W W' : World} {r : Nat} {s s' : St} {x : Vs} {t : Tp}
theorem nextByte52w (h : RunM C W0 r W s x t) (hu : s.used ≤ C.input.size) (hz : C.input.size ≤ big2) :
    Calls Try.prog 52 #[.pointer (some ⟨r, 0, none⟩)] W fun e w' => e = .returned (.int .u32 (nextV C s)) ∧ RunM C W0 r w' (nextF C s) x t := by
  have H := hid' h
  have c27 : W.cell? ⟨r, 27, none⟩ = some (.int .i64 s.used) := h.cell 27
  have c15 : W.cell? ⟨r, 15, none⟩ = some (.string C.input) := h.cell 15
  have fr := h.fro
  unfold big2 at hz
  clear h
  unfold nextV nextF
  by_cases g : s.used = C.input.size
  · rw [dif_neg (by omega), if_neg (by omega)]
    rw [g] at c27
    go_enter Try.func52, Try.ntmps52
    go_wp2
    go_quiet (fail)
    go_wp2
    go_ret
    exact ⟨rfl, H.out.drewN _⟩
  · have hlt : s.used < C.input.size := by omega
    rw [dif_pos hlt, if_pos hlt]
    have g' : ((s.used : Int) == (C.input.size : Nat)) = false := by simp; omega
    have he : ((C.input[s.used]'hlt).toNat : Int) % 4294967296 = ((C.input[s.used]'hlt).toNat : Int) := by have := UInt8.toNat_lt (C.input[s.used]'hlt); omega
    have hw : IntKind.i64.wrap ((s.used : Int) + 1) = s.used + 1 := by simp [IntKind.wrap, IntKind.bits, IntKind.signed]; omega
    have hw2 : IntKind.i64.wrap ((s.used : Int) + 1 - 1) = s.used := by simp [IntKind.wrap, IntKind.bits, IntKind.signed]; omega
    go_enter Try.func52, Try.ntmps52
    go_wp2
    go_quiet (fail)
    go_wp2
    have HR : Hid (RunM C W0 r ((W.drewN nq).setCell ⟨r, 27, none⟩ (.int .i64 ((s.used : Int) + 1))) { s with used := s.used + 1 } x t) := (H.out.drewN nq).put 27 _ rfl rfl
    clear c27 c15 fr
    generalize (W.drewN nq).setCell ⟨r, 27, none⟩ (.int .i64 ((s.used : Int) + 1)) = W3 at *
    have c27 : W3.cell? ⟨r, 27, none⟩ = some (.int .i64 ((s.used : Int) + 1)) := HR.out.cell 27
    have c15 : W3.cell? ⟨r, 15, none⟩ = some (.string C.input) := HR.out.cell 15
    go_quiet (fail)
    go_wp2
    go_ret
    refine ⟨?_, HR.out.drewN _⟩
    simp [he]

theorem do30_getw {c : Cl} {l : List Rg} {b o : Nat} {i : In} (h : RunM C W0 r W s x t) (T : Top C s x t c l) (hI : InAt W0 b o i) (hop : i.op = 10) {d : Nat} (hd : i.dst = d) (hdl : d < l.length) (hu : s.used ≤ C.input.size) (hz : C.input.size ≤ big2) (hl : (s.hidden.length + 1) * 24 ≤ 140737488355328) :
    Calls Try.prog 30 #[.pointer (some ⟨r, 0, none⟩), .pointer (some ⟨b, o, none⟩)] W fun e w' => e = .returned (.tuple #[]) ∧ ∃ x', RunM C W0 r w' (setS (nextF C s) c l d (nextV C s)) x' t ∧ Top C (setS (nextF C s) c l d (nextV C s)) x' t c (l.set d ⟨nextV C s, c.no⟩) := by
  have H := hid' h
  have HT := hid' T
  have HB := hid' h.rows.below
  have HI := hid' hI
  have y0 : W.cell? ⟨b, o, none⟩ = some (.int .i64 10) := by rw [← hop]; exact (in_cells (hI.2.1 W h.rows.below)).1
  have y1 : ∀ q : After W, q.1.cell? ⟨b, o + 1, none⟩ = some (.int .i64 d) := fun q => by rw [← hd]; exact (in_cells (HI.out.2.1 q.1 (below_on HB.out q.2 HB.out.size))).2.1
  have hne := after_some W
  have HU := hid' hu
  have HZ := hid' hz
  have hT2 : Top C (nextF C s) x t c l := T.same (by unfold nextF; split <;> rfl) (by unfold nextF; split <;> rfl)
  have HT2 := hid' hT2
  have hhid : (nextF C s).hidden = s.hidden := by unfold nextF; split <;> rfl
  have HHD := hid' hhid
  clear h T hI hT2 hhid hu hz
  have hy := y1 ⟨W, Below.refl _ _⟩
  have hyd := y1 ⟨W.drew, drew1 W⟩
  dsimp only at hy hyd
  have HY1 : Hid (∀ w, Below W0.heap.size W0 w → w.cell? ⟨b, o + 1, none⟩ = some (.int .i64 d)) := fun w hw => by rw [← hd]; exact (in_cells (HI.out.2.1 w hw)).2.1
  clear y1
  have h52 := nextByte52w H.out.drew HU.out HZ.out
  go_enter Try.func30, Try.ntmps30
  go_wp2
  go_region_law (first
    | (refine step_call rfl 52 #[.tmp 113] #[57] rfl #[.pointer (some ⟨r, 0, none⟩)] (by simp [Act.eval, Act.put]) (fun W => by simp [go_sem, Try.func52]) ?_; refine h52.mono ?_; rintro e2 w2 ⟨rfl, hR2⟩; refine ⟨_, rfl, ?_⟩; have z1 := HY1.out w2 hR2.rows.below)
    | (refine step_call rfl 26 #[.tmp 108, .tmp 112, .tmp 114] #[57, 3, 79] rfl #[.pointer (some ⟨r, 0, none⟩), .int .i64 d, .int .u32 (nextV C s)] (by simp [Act.eval, Act.put]) (fun W => by simp [go_sem, Try.func26]) ?_; refine (set26 hR2 HT2.out hdl _ (by rw [HHD.out]; exact hl)).mono ?_; rintro e7 w7 ⟨rfl, x7, hR7, hT7⟩; refine ⟨_, rfl, ?_⟩))
  all_goals
    go_wp2
    go_end0
    exact ⟨rfl, x7, hR7, hT7⟩
end
end Go.Proofs.Ytiehlkhpblldaaa
