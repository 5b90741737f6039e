/- do: a byte is put; step. -/
import Derived.Test.YtiehlkhpblldaaaH24
import Derived.Test.YtiehlkhpblldaaaH25
set_option linter.unusedVariables false
set_option linter.unusedSimpArgs false
set_option maxRecDepth 20000
set_option maxHeartbeats 8000000
namespace Go.Proofs.Ytiehlkhpblldaaa
open Go.RowKit Go.Maps
section
variable {C : Cst} {W0 W W' : World} {r : Nat} {s s' : St} {x : Vs} {t : Tp}
theorem do30_put {c : Cl} {l : List Rg} {b o : Nat} {i : In} (h : RunM C W0 r W s x t) (T : Top C s x t c l) (hI : InAt W0 b o i) (hop : i.op = 11) {a : Nat} (hlen : i.args.length = 1) (ha : i.args[0]? = some (a : Int)) (hal : a < l.length) (hl : (s.out.length + 1) * 1 ≤ 140737488355328) :
    Calls Try.prog 30 #[.pointer (some ⟨r, 0, none⟩), .pointer (some ⟨b, o, none⟩)] W fun e w' => e = .returned (.tuple #[]) ∧ ∃ x', RunM C W0 r w' { s with out := s.out ++ [getR l a c.no % 256] } x' t ∧ Top C { s with out := s.out ++ [getR l a c.no % 256] } x' t c l := by
  have H := hid' h
  have HT := hid' T
  have HI := hid' hI
  have y0 : W.cell? ⟨b, o, none⟩ = some (.int .i64 11) := by rw [← hop]; exact (in_cells (hI.2.1 W h.rows.below)).1
  obtain ⟨ab, ao, acap, ea, hab, hac, hargs⟩ := args_at hI (k := 0) (by omega)
  obtain ⟨h0, h0e⟩ := List.getElem?_eq_some_iff.1 ha
  have y2 : W.cell? ⟨b, o + 2, none⟩ = some (.slice (some ⟨ab, ao, none⟩) 1 acap) := by rw [← hlen, ← ea]; exact (in_cells (hI.2.1 W h.rows.below)).2.2.1
  have ya : W.cell? ⟨ab, ao, none⟩ = some (.int .i64 a) := by rw [← h0e]; exact hargs W h.rows.below 0 h0
  have h46 := get46 h.drew T hal
  have c16 : W.cell? ⟨r, 16, none⟩ = some x.ov := h.cell 16
  have HP : Hid (∀ w2, Below W.drew.heap.size W.drew w2 → ∀ v, _) := fun w2 hb2 v => (h.drew.on hb2).pushON v hl
  have HC : Hid (∀ w2, Below W.drew.heap.size W.drew w2 → w2.cell? ⟨r, 16, none⟩ = some x.ov) := fun w2 hb2 => (H.out.drew.on hb2).cell 16
  have HC2 : Hid (∀ w2 : World, w2.heap[r]? = some (.cells (rcells C s x t) 72 (0, 0)) → w2.cell? ⟨r, 16, none⟩ = some x.ov ∧ w2.frozen? ⟨r, 16, none⟩ = false) := fun w2 hw => ⟨by rw [cell_of_row w2 r 16 _ 72 (0, 0) hw]; rfl, frozen_of_row w2 r 16 _ 72 hw⟩
  generalize getR l a c.no = g at *
  have hwrap : IntKind.u8.wrap g = g % 256 := by simp [IntKind.wrap, IntKind.bits, IntKind.signed]
  clear hargs ea h0e ha hlen h T hI
  go_enter Try.func30, Try.ntmps30
  go_wp2
  go_region_law (first
    | (refine step_call rfl 46 #[.tmp 123, .tmp 129] #[57, 3] rfl #[.pointer (some ⟨r, 0, none⟩), .int .i64 a] (by simp [Act.eval, Act.put]) (fun W => by simp [go_sem, Try.func46]) ?_; refine h46.mono ?_; rintro e2 w2 ⟨rfl, hb2⟩; refine ⟨_, rfl, ?_⟩; have z16 := HC.out w2 hb2; have z16a : (w2.alloc (.cells #[.int .u8 (g % 256)] 5)).cell? ⟨r, 16, none⟩ = some x.ov := keep_cell z16 (below1 _ _); have hrw : ¬ r = w2.heap.size := (by have := (H.out.drew.on hb2).lt; omega); obtain ⟨b2, cap2, w3, hr6, hrc, hR3⟩ := HP.out w2 hb2 (g % 256); obtain ⟨m16, mf⟩ := HC2.out w3 hrc; have HR3 := hid' hR3; unfold bcel at hr6; clear hrc hR3)
    | (refine step_run rfl (.tmp 122) (.tmp 132) 59 rfl _ _ _ (by simp [Act.eval, Act.put]) (by simp [Act.eval, Act.put]) hr6 ?_))
  all_goals
    go_wp2
    go_end0
    exact ⟨rfl, _, HR3.out, ⟨HT.out.last, HT.out.tt, HT.out.fn, HT.out.tf, HT.out.bank, HT.out.tb⟩⟩
end
end Go.Proofs.Ytiehlkhpblldaaa
