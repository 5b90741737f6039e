/- Settling, walked. -/
import Derived.Test.YtjhndnhldhmjnaaDoorSeX
namespace Go.Proofs.YtjhndnhldhmjnaaDoor
open Go Go.RowKit Go.Maps
set_option linter.unusedVariables false
set_option linter.unusedSimpArgs false
theorem TabM.on {w w' : World} (h : TabM w) (hb : Below w.heap.size w w') : TabM w' := fun j hj => keep_cell (h j hj) hb
/-- How settling ends. -/
def SetR (c : Cn) (w0 : World) (most : Int) (pot0 : Nat) (e : Ending) (w' : World) : Prop :=
  (e = .returned (.bool true) ∧ ∃ i o qs a, SM c w0 w' i o qs a ∧ c.P.Fix i o ∧ c.P.Low i o) ∨ (e = .returned (.bool false) ∧ most < pot0 ∧ Below w0.heap.size w0 w')
set_option maxRecDepth 20000 in
set_option maxHeartbeats 8000000 in
theorem settle30 {c : Cn} {w0 w : World} {i o qs : Nat → Wd} {a pot0 : Nat} {most : Int} (h : SM c w0 w i o qs a) (hc : CnOk c) (hf : FnsOk c.P w0 c.q c.fs c.fj c.fe c.ff) (hT : TabM w0) (hm : ∀ k, k < c.P.n → ∀ t, t ∈ c.tos k ↔ (k, t) ∈ c.P.edges)
    (hS : c.P.Slv i o (stF c qs)) (hp : c.P.pot i (stF c qs) ≤ pot0) (hp0 : pot0 ≤ 4194304 * c.P.n) :
    Calls Tryd.prog 30 #[.pointer (some ⟨c.p, 0, none⟩), .int .i64 most] w (SetR c w0 most pot0) := by
  have hn := hc.n
  obtain ⟨ao, cp, eov⟩ := (Own.src ic1 h.ord).len
  rw [ints_len, hc.F] at eov
  have c8 : w.cell? ⟨c.p, 8, none⟩ = some (.slice ao c.P.n cp) := by
    have : w.cell? ⟨c.p, 8, none⟩ = some c.ov := h.cellAt 8 (by omega)
    rw [this, eov]
  have H := hid' h
  have HF := hid' hf
  have HT := hid' hT
  have HM := hid' hm
  have HS := hid' hS
  have HC := hid' hc
  have EOV := hid' eov
  clear h hf hT hm hS eov hc
  go_enter Tryd.func30, Tryd.ntmps30
  go_wp2_with fail
  clear c8
  go_loopw [6] (fun jv wr => ∃ (j : Nat) (i' o' qs' : Nat → Wd) (a' : Nat), jv = .int .i64 j ∧ SM c w0 wr i' o' qs' a' ∧ c.P.Slv i' o' (stF c qs') ∧ c.P.pot i' (stF c qs') + j ≤ pot0) (fun jv _ => pot0 + 1 - (intOf jv).toNat)
  case atStart => exact ⟨0, i, o, qs, a, rfl, H.out, HS.out, by omega⟩
  case round =>
    obtain ⟨j, i', o', qs', a', rfl, hM, hS', hp'⟩ := hrel
    have HM' := hid' hM
    have HS' := hid' hS'
    have KT := take50 hM.qu (HT.out.on hM.below) hM.at_ (by omega : c.P.n ≤ 65472)
    clear hM hS'
    go_wp2_with (go_at_call 50; refine of_mark ?_)
    unfold Mark
    refine KT.mono ?_
    rintro e9 w9 (⟨rfl, hz, d9, rfl⟩ | ⟨pk, d9, rfl, hk1, hk2, rfl⟩)
    · have HZ := hid' hz
      clear hz KT
      go_wp2_with fail
      go_ret
      refine .inl ⟨rfl, i', o', qs', a', HM'.out.drew d9, HS'.out.done c.P (fun k hk => ?_), HS'.out.low' c.P⟩
      have := HC.out.pl k hk
      exact HZ.out (c.pl k) (by unfold words; omega)
    · have hpn : pk < c.P.n := HM'.out.lt pk hk1 hk2
      have HX := hid' (((HM'.out.drew d9).delQ pk).setA (pk + 1) (by omega))
      obtain ⟨hF1, hF2⟩ := HC.out.too pk hpn
      have hst : stF c qs' (c.F.getD pk 0) = true := by unfold stF; rw [hF2]; exact hk2
      have hpos := c.P.pot_pos (i := i') hF1 hst
      have HST := hid' hst
      clear KT hk1 hk2 hst
      have eW : Hid (((wr.drewN d9).setCell ⟨c.gq, pk / 64, none⟩ (uv (qs' (pk / 64) &&& ~~~bitW pk))).setCell ⟨c.p, 11, none⟩ (.int .i64 ((pk + 1 : Nat) : Int)) = ((wr.drewN d9).setCell ⟨c.gq, pk / 64, none⟩ (uv (qs' (pk / 64) &&& ~~~bitW pk))).setCell ⟨c.p, 11, none⟩ (.int .i64 ((pk + 1 : Nat) : Int))) := rfl
      generalize ((wr.drewN d9).setCell ⟨c.gq, pk / 64, none⟩ (uv (qs' (pk / 64) &&& ~~~bitW pk))).setCell ⟨c.p, 11, none⟩ (.int .i64 ((pk + 1 : Nat) : Int)) = W at *
      clear eW
      have c8 : W.cell? ⟨c.p, 8, none⟩ = some (.slice ao c.P.n cp) := by
        have : W.cell? ⟨c.p, 8, none⟩ = some c.ov := HX.out.cellAt 8 (by omega)
        rw [this, EOV.out]
      obtain ⟨ao', cp', e1, hcc⟩ := (Own.src ic1 HX.out.ord).ints
      rw [EOV.out, ints_len, HC.out.F] at e1
      injection e1 with x1 x2 x3
      subst x1 x3
      have hpF : pk < c.F.length := by rw [HC.out.F]; exact hpn
      obtain ⟨b, off, rfl, hb1, _, hcell⟩ := hcc pk (by rw [ints_len]; exact hpF)
      have d1 := hcell W (Below.refl _ _)
      have eF : (ints c.F)[pk]'(by rw [ints_len]; exact hpF) = ((c.F.getD pk 0 : Nat) : Int) := by simp [ints, hpF]
      rw [eF] at d1
      clear hcc hcell x2
      have nk : ((pk : Int) == -1) = false := by simp
      by_cases hjm : (j : Int) = most
      · have hlt : most < pot0 := by omega
        subst hjm
        go_wp2_with fail
        go_ret
        exact .inr ⟨rfl, hlt, HX.out.below⟩
      · have hen : ¬ ((j : Int) = 4194304 * (c.P.n : Int)) := by omega
        have KF := flow51 HX.out HC.out HF.out hF1
        generalize c.F.getD pk 0 = nd at *
        go_wp2_with (go_at_call 51; refine KF.mono ?_; rintro e8 w8 ⟨rfl, i8, o8, q8, h8, hr8⟩; have H8 := hid' h8; have R8 := hid' hr8; clear h8 hr8)
        obtain ⟨hS8, hP8⟩ := turn_ok hF1 HS'.out HST.out (fun x hx => by
          have := stF_del HC.out qs' hF1 hx
          rw [hF2] at this
          exact this) (HM.out nd hF1) R8.out
        exact ⟨⟨j + 1, i8, o8, q8, pk + 1, by go_num, H8.out, hS8, by omega⟩, by simp [intOf]; omega⟩
end Go.Proofs.YtjhndnhldhmjnaaDoor
