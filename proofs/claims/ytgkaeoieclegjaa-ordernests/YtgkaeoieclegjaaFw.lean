/- The finder's wait. -/
import Derived.Test.YtgkaeoieclegjaaFm
import Derived.Deep.Cut
import Derived.BigRegion
namespace Go.Proofs.Ytgkaeoieclegjaa
open Go.RowKit Go.Maps
set_option linter.unusedVariables false
set_option linter.unusedSimpArgs false
variable {B r n : Nat} {W : World} {v : Fv} {ab : Nat → Option Nat} {s : Fs} {way : List Nat} {g : Dfs}
theorem wdw {B : Nat} {W w : World} (h : Below B W w) : Below B W w.drew := ⟨h.os, h.tape, h.output, h.size, h.block⟩
set_option maxRecDepth 20000 in
set_option maxHeartbeats 8000000 in
theorem wait41 {i : Nat} (hB : n * 64 ≤ big) (h : FM B W r v n ab s way) (hi : i < n) (hs : s.sm i < n) :
    Calls Try.prog 41 #[.pointer (some ⟨r, 0, none⟩), .int .i64 i] W fun e w' => e = .returned (.tuple #[]) ∧ FM B w' r v n ab { s with wt := Dfs.upd s.wt (s.sm i) (some i), nx := Dfs.upd s.nx i (s.wt (s.sm i)) } way ∧ Below B W w' := by
  have c7 := h.c7
  have c6 := h.c6
  have c1 := h.c1
  have cs := h.rs.cell hi
  have cw := h.rq.cell hs
  have cx := h.rx.cell hi
  have fx := h.rx.fro i
  have H := hid' h
  unfold big at hB
  clear h
  go_enter Try.func41, Try.ntmps41
  go_wp2_with fail
  go_region
  obtain ⟨F1, B1⟩ := H.out.put_nx i (s.wt (s.sm i))
  have HF1 := hid' F1.drew
  have HB1 := hid' (wdw B1)
  clear F1 B1 H c7 c6 c1 cs cw cx fx
  generalize (W.setCell ⟨v.g7, i, none⟩ (.int .i64 (oi (s.wt (s.sm i))))).drew = w1 at *
  have c6 := HF1.out.c6
  have c1 := HF1.out.c1
  have cs := HF1.out.rs.cell hi
  have cw := HF1.out.rq.cell hs
  have fw := HF1.out.rq.fro (s.sm i)
  go_wp2_with fail
  go_region
  obtain ⟨F2, B2⟩ := HF1.out.put_wt (s.sm i) (some i)
  have HF2 := hid' F2.drew
  have HB2 := hid' (wdw (HB1.out.trans B2))
  clear F2 B2 HF1 HB1 c6 c1 cs cw fw
  have e : (w1.setCell ⟨v.g6, s.sm i, none⟩ (.int .i64 (oi (some i)))).drew = (w1.setCell ⟨v.g6, s.sm i, none⟩ (.int .i64 i)).drew := rfl
  rw [e] at HF2 HB2
  generalize (w1.setCell ⟨v.g6, s.sm i, none⟩ (.int .i64 i)).drew = w2 at *
  go_wp2_with fail
  go_end0
  exact ⟨rfl, HF2.out, HB2.out⟩
end Go.Proofs.Ytgkaeoieclegjaa
