/- Dominates. -/
import Derived.Test.YtgkaeoieclegjaaAb
namespace Go.Proofs.Ytgkaeoieclegjaa
open Go Go.RowKit Go.Maps
set_option linter.unusedVariables false
set_option linter.unusedSimpArgs false
/-- a is a block that is reached, and all ways to b, which is reached too, lead through it. -/
def DomsI (bl : List Bl) (a b : Int) : Prop := ∃ c d : Nat, a = c ∧ b = d ∧ c < bl.length ∧ d < bl.length ∧ WayB bl c ∧ WayB bl d ∧ DomB bl c d
set_option maxRecDepth 20000 in
set_option maxHeartbeats 8000000 in
theorem dominates16 {w : World} {f : Fn} (h : Fn.ok w f) (a b : Int) {R : Bool} (hRes : R = true ↔ DomsI f.blocks a b) :
    Calls Try.prog 16 #[f.val, .int .i64 a, .int .i64 b] w fun e w' => e = .returned (.bool R) ∧ Below w.heap.size w w' := by
  have hbl := h.bl
  have H10 := hid' (fun w1 (hb : Below w.heap.size w w1) => doms10a (h.on hb))
  obtain ⟨nm, ps, rs, sl, bv, bl⟩ := f
  obtain ⟨hb, _, _, _⟩ := h
  dsimp only at *
  obtain ⟨ao, cap, rfl, _⟩ := hb.form bl4
  have hbl2 := hbl
  unfold big at hbl
  unfold Fn.val at *
  dsimp only at *
  have HRES := hid' hRes
  clear hb hRes
  by_cases hb0 : b < 0
  · have e : R = false := by
      cases R with
      | false => rfl
      | true =>
        obtain ⟨c, d, _, h2, _⟩ := HRES.out.1 rfl
        omega
    subst e
    go_enter Try.func16, Try.ntmps16
    go_wp2_with fail
    go_ret
    exact ⟨rfl, below1 _ _⟩
  · obtain ⟨d, rfl⟩ : ∃ d : Nat, b = d := ⟨b.toNat, by omega⟩
    by_cases hd : d < bl.length
    · go_enter Try.func16, Try.ntmps16
      have h10 := hid' (H10.out (w.alloc (.cells #[.string nm, .int .i64 ps, .int .i64 rs, .int .i64 sl, .slice ao bl.length cap] 24)) (below1 _ _))
      go_upto_region 4 with (go_at_call 10; refine h10.out.mono ?_; rintro e1 w1 ⟨q, D, rfl, hq, hR, hD, hb1⟩; have HR := hid' hR; have HD := hid' hD; have HB1 := hid' (below_up (below1 _ _) hb1); clear hq hR hD hb1)
      have hcell := HR.out.cell hd
      have hno := HD.out.no d hd
      by_cases hw : WayB bl d
      · obtain ⟨num, hnum⟩ := HD.out.fall
        have hab := above_dom HD.out (a := a) hd hw
        have hR2 : R = true ↔ AboveB D a d := by
          rw [HRES.out, hab]
          constructor
          · rintro ⟨c, d', h1, h2, h3, h4, h5, h6, h7⟩
            have : d' = d := by omega
            subst this
            exact ⟨c, h1, h3, h5, h7⟩
          · rintro ⟨c, h1, h2, h3, h4⟩
            exact ⟨c, d, h1, rfl, h2, hd, h3, hw, h4⟩
        have h31 := hid' (isAbove31 HR.out (by unfold big; omega) (fun b d hb e => (HD.out.yes b d hb e).1) hnum a hd hR2)
        have HDN : Hid (d ≠ 0 → ∃ k, D d = some k) := fun h0 => by
          cases e : D d with
          | some k => exact ⟨k, rfl⟩
          | none => exact absurd (hno.1 e) (fun h => h.elim h0 (fun h => h hw))
        clear hno hab hR2 hnum
        by_cases hd0 : d = 0
        · subst hd0
          go_wp2_with (go_at_call 31; refine h31.out.mono ?_; rintro e2 w2 ⟨rfl, rfl⟩)
          go_ret
          exact ⟨by simp, HB1.out⟩
        · obtain ⟨k, hk⟩ := HDN.out hd0
          rw [hk, oi_some] at hcell
          have e1 : ((d : Int) == 0) = false := beq_eq_false_iff_ne.2 (by omega)
          have e2 : ((k : Int) != -1) = true := bne_iff_ne.2 (by omega)
          clear hk
          go_wp2_with (go_at_call 31; refine h31.out.mono ?_; rintro e2 w2 ⟨rfl, rfl⟩)
          go_ret
          exact ⟨by simp, HB1.out⟩
      · have hd0 : d ≠ 0 := fun e => by
          subst e
          exact hw (.nil trivial)
        have hDn := hno.2 (.inr hw)
        rw [hDn, oi_none] at hcell
        have e : R = false := by
          cases R with
          | false => rfl
          | true =>
            obtain ⟨c, d', _, h2, _, _, _, h6, _⟩ := HRES.out.1 rfl
            have : d' = d := by omega
            subst this
            exact absurd h6 hw
        subst e
        have e1 : ((d : Int) == 0) = false := beq_eq_false_iff_ne.2 (by omega)
        clear hno hDn hw
        go_wp2_with fail
        go_ret
        exact ⟨by simp, HB1.out⟩
    · have e : R = false := by
        cases R with
        | false => rfl
        | true =>
          obtain ⟨c, d', _, h2, _, h4, _⟩ := HRES.out.1 rfl
          omega
      subst e
      go_enter Try.func16, Try.ntmps16
      go_wp2_with fail
      go_ret
      exact ⟨rfl, below1 _ _⟩
end Go.Proofs.Ytgkaeoieclegjaa
