/- isAbove, endsWith, isGreat. -/
import Derived.Test.YtgkaeoieclegjaaDz
namespace Go.Proofs.Ytgkaeoieclegjaa
open Go Go.RowKit Go.Maps
set_option linter.unusedVariables false
set_option linter.unusedSimpArgs false
/-- a is b, or stands above it. -/
def Abv (D : Nat → Option Nat) (a : Int) : Nat → Nat → Prop
  | 0, b => a = b
  | k + 1, b => a = b ∨ ∃ d, D b = some d ∧ Abv D a k d
/-- a is b or stands above it. -/
def AboveB (D : Nat → Option Nat) (a : Int) (b : Nat) : Prop := ∃ k, Abv D a k b
theorem AboveB.up {D : Nat → Option Nat} {a : Int} {b d : Nat} (h : D b = some d) (hne : a ≠ b) : AboveB D a b ↔ AboveB D a d := by
  constructor
  · rintro ⟨k, hk⟩
    cases k with
    | zero => exact absurd hk hne
    | succ k =>
      rcases hk with hk | ⟨d', e, hk⟩
      · exact absurd hk hne
      · rw [h] at e
        injection e with e
        subst e
        exact ⟨k, hk⟩
  · rintro ⟨k, hk⟩
    exact ⟨k + 1, .inr ⟨d, h, hk⟩⟩
theorem AboveB.top {D : Nat → Option Nat} {a : Int} {b : Nat} (h : D b = none) (hne : a ≠ b) : ¬ AboveB D a b := by
  rintro ⟨k, hk⟩
  cases k with
  | zero => exact hne hk
  | succ k =>
    rcases hk with hk | ⟨d', e, _⟩
    · exact hne hk
    · rw [h] at e
      cases e
set_option maxRecDepth 20000 in
set_option maxHeartbeats 8000000 in
theorem isAbove31 {w : World} {q n : Nat} {D : Nat → Option Nat} {num : Nat → Nat} (hR : RowI w q n (fun b => oi (D b))) (hn : n * 8 ≤ big) (hlt : ∀ b d, b < n → D b = some d → d < n) (hf : ∀ b d, b < n → D b = some d → num d < num b) (a : Int) {b : Nat} (hb : b < n) {R : Bool} (hRes : R = true ↔ AboveB D a b) :
    Calls Try.prog 31 #[.slice (some ⟨q, 0, none⟩) n n, .int .i64 a, .int .i64 b] w fun e w' => e = .returned (.bool R) ∧ w' = w := by
  have HR := hid' hR
  have HL := hid' hlt
  have HF := hid' hf
  unfold big at hn
  have HRES := hid' hRes
  clear hR hlt hf hRes
  go_enter Try.func31, Try.ntmps31
  go_wp2_with fail
  go_loopw [2] (fun bv wr => wr = w ∧ ((bv = .int .i64 (-1) ∧ ¬ AboveB D a b) ∨ ∃ c : Nat, bv = .int .i64 c ∧ c < n ∧ (AboveB D a b ↔ AboveB D a c))) (fun bv _ => if intOf bv < 0 then 0 else num (intOf bv).toNat + 1)
  case atStart => exact ⟨rfl, .inr ⟨b, rfl, hb, Iff.rfl⟩⟩
  case round =>
    obtain ⟨rfl, ⟨rfl, hno⟩ | ⟨c, rfl, hc, hiff⟩⟩ := hrel
    · have e : R = false := by
        cases R with
        | false => rfl
        | true => exact absurd (HRES.out.1 rfl) hno
      subst e
      clear hno
      go_wp2_with fail
      go_ret
      exact ⟨rfl, rfl⟩
    · have hcell := HR.out.cell hc
      have hc1 : ((c : Int) != -1) = true := bne_iff_ne.2 (by omega)
      by_cases hac : a = c
      · have e : R = true := HRES.out.2 (hiff.2 ⟨0, hac⟩)
        subst e
        have hca : ((c : Int) != a) = false := by simp [hac]
        clear hiff hac
        go_wp2_with fail
        go_ret
        exact ⟨rfl, rfl⟩
      · have hca : ((c : Int) != a) = true := bne_iff_ne.2 (fun e => hac e.symm)
        have HI := hid' hiff
        have HAC := hid' hac
        clear hiff hac
        cases hD : D c with
        | none =>
          rw [hD, oi_none] at hcell
          have HN := hid' (AboveB.top hD HAC.out)
          clear hD
          go_wp2_with fail
          go_roundw
          case rel => exact ⟨by simp, .inl ⟨rfl, fun h => HN.out (HI.out.1 h)⟩⟩
          case measure =>
            have h1 : ¬ intOf (.int .i64 (c : Int)) < 0 := by simp [intOf]
            rw [if_neg h1, if_pos (by simp [intOf])]
            omega
        | some d =>
          rw [hD, oi_some] at hcell
          have hdn := HL.out c d hc hD
          have hfall := hid' (HF.out c d hc hD)
          have HU := hid' (AboveB.up hD HAC.out)
          clear hD
          go_wp2_with fail
          go_roundw
          case rel => exact ⟨by simp, .inr ⟨d, rfl, hdn, HI.out.trans HU.out⟩⟩
          case measure =>
            have h1 : ∀ k : Nat, ¬ intOf (.int .i64 (k : Int)) < 0 := fun k => by simp [intOf]
            rw [if_neg (h1 d), if_neg (h1 c)]
            have := hfall.out
            simp [intOf]
            exact this
theorem domB_trans {bl : List Bl} {a b c : Nat} (h : DomB bl a b) (h' : DomB bl b c) : DomB bl a c := by
  intro hw
  have key : ∀ v, W (fun x y => some y ∈ toL bl.length (succN bl x)) (fun z => z ≠ a) 0 v → W (fun x y => some y ∈ toL bl.length (succN bl x)) (fun z => z ≠ b) 0 v := by
    intro v hv
    induction hv using W.ind with
    | nil s =>
      refine .nil fun e => ?_
      exact h (e ▸ .nil s)
    | snoc hw e s ih =>
      refine .snoc ih e fun e' => ?_
      subst e'
      exact h (.snoc hw e s)
  exact h' (key _ hw)
/-- What stands above a block that is reached are its dominators. -/
theorem above_dom {bl : List Bl} {D : Nat → Option Nat} (h : DomOk bl D) {a : Int} : ∀ {b : Nat}, b < bl.length → WayB bl b → (AboveB D a b ↔ ∃ c : Nat, a = c ∧ c < bl.length ∧ WayB bl c ∧ DomB bl c b) := by
  obtain ⟨num, hnum⟩ := h.fall
  have key : ∀ k b, num b ≤ k → b < bl.length → WayB bl b → (AboveB D a b ↔ ∃ c : Nat, a = c ∧ c < bl.length ∧ WayB bl c ∧ DomB bl c b) := by
    intro k
    induction k with
    | zero =>
      intro b hk hb hw
      by_cases e : a = b
      · subst e
        exact ⟨fun _ => ⟨b, rfl, hb, hw, fun hx => hx.last rfl⟩, fun _ => ⟨0, rfl⟩⟩
      · cases hD : D b with
        | some d =>
          have := hnum b d hb hD
          omega
        | none =>
          have hz := (h.no b hb).1 hD
          have hb0 : b = 0 := hz.resolve_right (fun hx => hx hw)
          subst hb0
          refine ⟨fun hx => absurd hx (AboveB.top hD e), ?_⟩
          rintro ⟨c, rfl, _, _, hd⟩
          exact absurd (.nil (fun e2 => e (by omega))) hd
    | succ k ih =>
      intro b hk hb hw
      by_cases e : a = b
      · subst e
        exact ⟨fun _ => ⟨b, rfl, hb, hw, fun hx => hx.last rfl⟩, fun _ => ⟨0, rfl⟩⟩
      · cases hD : D b with
        | some d =>
          have hn := hnum b d hb hD
          obtain ⟨y1, y2, y3, y4, y5⟩ := h.yes b d hb hD
          rw [AboveB.up hD e, ih d (by omega) y1 y2]
          constructor
          · rintro ⟨c, h1, h2, h3, h4⟩
            exact ⟨c, h1, h2, h3, domB_trans h4 y3⟩
          · rintro ⟨c, h1, h2, h3, h4⟩
            exact ⟨c, h1, h2, h3, y5 c h2 h3 h4 (fun e2 => e (by rw [h1, e2]))⟩
        | none =>
          have hz := (h.no b hb).1 hD
          have hb0 : b = 0 := hz.resolve_right (fun hx => hx hw)
          subst hb0
          refine ⟨fun hx => absurd hx (AboveB.top hD e), ?_⟩
          rintro ⟨c, rfl, _, _, hd⟩
          exact absurd (.nil (fun e2 => e (by omega))) hd
  exact fun {b} hb hw => key _ b (Nat.le_refl _) hb hw
end Go.Proofs.Ytgkaeoieclegjaa
