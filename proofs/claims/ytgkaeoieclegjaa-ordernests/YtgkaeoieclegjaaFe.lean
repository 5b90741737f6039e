/- The finder's settle. -/
import Derived.Test.YtgkaeoieclegjaaFl
import Derived.Test.YtgkaeoieclegjaaFw
namespace Go.Proofs.Ytgkaeoieclegjaa
open Go.RowKit Go.Maps
set_option linter.unusedVariables false
set_option linter.unusedSimpArgs false
variable {B r n : Nat} {W : World} {v : Fv} {ab : Nat → Option Nat} {s : Fs} {way : List Nat} {g : Dfs}
theorem chain_one {nx : Nat → Option Nat} : ∀ {l l' : List Nat} {o : Option Nat}, Chain nx o l → Chain nx o l' → l = l'
  | [], [], _, _, _ => rfl
  | [], _ :: _, o, h, h' => by
    have h : o = none := h
    have h' := h'.1
    rw [h] at h'
    cases h'
  | _ :: _, [], o, h, h' => by
    have h' : o = none := h'
    have h := h.1
    rw [h'] at h
    cases h
  | j :: l, k :: l', o, h, h' => by
    have e := h.1.symm.trans h'.1
    injection e with e
    subst e
    rw [chain_one h.2 h'.2]
theorem oi_inj {a b : Option Nat} (h : oi a = oi b) : a = b := by
  cases a with
  | none => cases b with
    | none => rfl
    | some b => simp only [oi] at h; omega
  | some a => cases b with
    | none => simp only [oi] at h; omega
    | some b => simp only [oi] at h; congr 1; omega
theorem chain_msr {nx : Nat → Option Nat} {o : Option Nat} {l : List Nat} {z : Int} (hz : z = oi o) (h : Chain nx o l) : (@Classical.epsilon Nat ⟨0⟩ fun k => ∃ cur l, Value.int .i64 z = .int .i64 (oi cur) ∧ Chain nx cur l ∧ k = l.length) = l.length := by
  subst hz
  have hex : ∃ k, ∃ cur l, Value.int .i64 (oi o) = .int .i64 (oi cur) ∧ Chain nx cur l ∧ k = l.length := ⟨_, o, l, rfl, h, rfl⟩
  obtain ⟨cur, l', e, h', e2⟩ := Classical.epsilon_spec hex
  injection e with _ e
  have := oi_inj e
  subst this
  rw [e2, chain_one h h']
theorem Settled.congr {i : Nat} {sm : Nat → Nat} {dom dom' : Nat → Option Nat} {j : Nat} (h : Settled g i sm dom j) (e : dom' j = dom j) : Settled g i sm dom' j := by
  obtain ⟨u, u1, u2, u3, u4, u5⟩ := h
  exact ⟨u, u1, u2, u3, u4, e.trans u5⟩
set_option maxRecDepth 20000 in
set_option maxHeartbeats 8000000 in
/-- All that wait at the place from which the walk came to i are settled. -/
theorem settle42 {i p : Nat} {l0 : List Nat} (hpe : p = g.par i) (hn : g.n = n) (hB : n * 64 ≤ big) (h : FM B W r v n ab s way) (hh : g.Hang i s.sm s.best s.up) (h0 : 0 < i) (hi : i < n) (hc : Chain s.nx (s.wt p) l0)
    (hl : ∀ j, j ∈ l0 → i ≤ j ∧ j < n ∧ s.sm j = p ∧ g.Semi j (s.sm j)) :
    Calls Try.prog 42 #[.pointer (some ⟨r, 0, none⟩), .int .i64 p] W fun e w' => e = .returned (.tuple #[]) ∧ ∃ wv way' dom best up,
      FM B w' r { v with wv := wv } n ab { s with dom := dom, best := best, up := up, wt := Dfs.upd s.wt p none } way' ∧ g.Hang i s.sm best up ∧ (∀ j, j ∈ l0 → Settled g i s.sm dom j) ∧ (∀ j, j ∉ l0 → dom j = s.dom j) ∧ Below B W w' := by
  have hp : p < i := by rw [hpe]; exact g.par_lt h0 (by omega)
  have hpn : p < n := by omega
  have HPE := hid' hpe
  have c6 := h.c6
  have cw := h.rq.cell hpn
  have H := hid' h
  have HH := hid' hh
  have HC := hid' hc
  have HL := hid' hl
  unfold big at hB
  clear h hh hc hl hpe
  go_enter Try.func42, Try.ntmps42
  go_wp2_with fail
  go_loopw [4] (fun iv wr => ∃ (cur : Option Nat) (l : List Nat) (dom : Nat → Option Nat) (best : Nat → Nat) (up : Nat → Option Nat) (wv : Value) (way' : List Nat), iv = .int .i64 (oi cur) ∧ FM B wr r { v with wv := wv } n ab { s with dom := dom, best := best, up := up } way' ∧
    g.Hang i s.sm best up ∧ Chain s.nx cur l ∧ (∀ j, j ∈ l → j ∈ l0) ∧ (∀ j, j ∈ l0 → j ∈ l ∨ Settled g i s.sm dom j) ∧ (∀ j, j ∉ l0 → dom j = s.dom j) ∧ Below B W wr)
    (fun iv _ => @Classical.epsilon Nat ⟨0⟩ fun k => ∃ cur l, iv = .int .i64 (oi cur) ∧ Chain s.nx cur l ∧ k = l.length)
  case atStart => exact ⟨_, l0, s.dom, s.best, s.up, v.wv, way, rfl, H.out, HH.out, HC.out, fun _ h => h, fun _ h => .inl h, fun _ _ => rfl, Below.refl _ _⟩
  case round =>
    obtain ⟨cur, l, dom, best, up, wv, way', rfl, hF, hH, hCh, hsub, hdone, hold, hbr⟩ := hrel
    have HF := hid' hF
    have HHg := hid' hH
    have HCh := hid' hCh
    have HS := hid' hsub
    have HD := hid' hdone
    have HO := hid' hold
    have HB := hid' hbr
    cases l with
    | nil =>
      have e : cur = none := hCh
      subst e
      have d6 := hF.c6
      have dw := hF.rq.cell hpn
      have df := hF.rq.fro p
      clear hF hH hCh hsub hdone hold hbr
      simp only [oi_none]
      go_wp2_with fail
      go_end0
      obtain ⟨F1, B1⟩ := HF.out.put_wt p none
      refine ⟨rfl, wv, way', dom, best, up, F1, HHg.out, fun j hj => ?_, HO.out, HB.out.trans B1⟩
      rcases HD.out j hj with e | e
      · cases e
      · exact e
    | cons j l =>
      obtain ⟨e, hch2⟩ := hCh
      subst e
      have HC2 := hid' hch2
      obtain ⟨hij, hjn, hsj, hsemi⟩ := HL.out j (hsub j (by simp))
      have hjl0 := hsub j (by simp)
      have d2 := hF.c2
      have dd := hF.rd.cell hjn
      have df := hF.rd.fro j
      obtain ⟨F1, B1⟩ := hF.put_dom j (some p)
      rw [oi_some] at F1 B1
      have HL40 := hid' (least40 (i := i) hn hB F1 hH hjn)
      have HB1 := hid' (hbr.trans B1)
      clear hF hH hch2 hsub hdone hold hbr F1 B1
      simp only [oi_some]
      go_upto_region 4 with fail
      generalize wr.setCell ⟨v.g2, j, none⟩ (.int .i64 p) = w1 at *
      go_upto_region 5 with (go_at_call 40; refine HL40.out.mono ?_; rintro e1 w2 ⟨x, b2, u2, wy, wv2, rfl, hF2, hH2, hX, hB2⟩; have hxn : x < n := (by rw [← hn]; exact hX.lt); have c1 := hF2.c1; have cs := hF2.rs.cell hxn; have d2' := hF2.c2; have dd' := hF2.rd.cell hjn; have df' := hF2.rd.fro j; have HF2 := hid' hF2; have HH2 := hid' hH2; have HX := hid' hX; have HB2 := hid' (HB1.out.trans hB2); clear hF2 hH2 hX hB2)
      by_cases hlt : s.sm x < p
      · go_upto_region 2 with fail
        obtain ⟨F3, B3⟩ := HF2.out.put_dom j (some x)
        rw [oi_some] at F3 B3
        have HF3 := hid' F3
        have HB3 := hid' (HB2.out.trans B3)
        have HDJ : Hid ((Dfs.upd (Dfs.upd dom j (some p)) j (some x)) j = some (if s.sm x < p then x else p)) := by
          unfold Hid
          rw [Dfs.upd_same, if_pos hlt]
        have HDN : Hid (∀ k, k ≠ j → (Dfs.upd (Dfs.upd dom j (some p)) j (some x)) k = dom k) := fun k hk => by rw [Dfs.upd_ne _ _ hk, Dfs.upd_ne _ _ hk]
        clear F3 B3 HF2 HB2
        dsimp only at HF3
        generalize Dfs.upd (Dfs.upd dom j (some p)) j (some x) = dom2 at *
        generalize w2.setCell ⟨v.g2, j, none⟩ (.int .i64 x) = w3 at *
        have HST : Hid (Settled g i s.sm dom2 j) := settle_one h0 hij (by omega) hsemi (by rw [hsj]; exact HPE.out) HX.out (by rw [← HPE.out]; exact HDJ.out)
        have c7 := HF3.out.c7
        have cx := HF3.out.rx.cell hjn
        dsimp only at cx
        clear c1 cs d2' dd' df'
        go_wp2_with fail
        go_roundw
        case rel =>
          refine ⟨s.nx j, l, dom2, b2, u2, _, _, rfl, HF3.out, HH2.out, HC2.out, fun k hk => HS.out k (by simp [hk]), fun k hk => ?_, fun k hk => ?_, HB3.out⟩
          · by_cases e : k = j
            · subst e; exact .inr HST.out
            · rcases HD.out k hk with e2 | e2
              · rcases List.mem_cons.1 e2 with e3 | e3
                · exact absurd e3 e
                · exact .inl e3
              · exact .inr (e2.congr (HDN.out k e))
          · rw [HDN.out k (fun e => hk (e ▸ hjl0))]
            exact HO.out k hk
        case measure =>
          rw [chain_msr rfl HC2.out, chain_msr (z := (j : Int)) (o := some j) rfl HCh.out]
          simp
      · go_upto_region 2 with fail
        have HF3 := HF2
        have HB3 := HB2
        have HDJ : Hid ((Dfs.upd dom j (some p)) j = some (if s.sm x < p then x else p)) := by
          unfold Hid
          rw [Dfs.upd_same, if_neg hlt]
        have HDN : Hid (∀ k, k ≠ j → (Dfs.upd dom j (some p)) k = dom k) := fun k hk => Dfs.upd_ne _ _ hk
        clear HF2 HB2
        generalize Dfs.upd dom j (some p) = dom2 at *
        generalize w2 = w3 at *
        have HST : Hid (Settled g i s.sm dom2 j) := settle_one h0 hij (by omega) hsemi (by rw [hsj]; exact HPE.out) HX.out (by rw [← HPE.out]; exact HDJ.out)
        have c7 := HF3.out.c7
        have cx := HF3.out.rx.cell hjn
        dsimp only at cx
        clear c1 cs d2' dd' df'
        go_wp2_with fail
        go_roundw
        case rel =>
          refine ⟨s.nx j, l, dom2, b2, u2, _, _, rfl, HF3.out, HH2.out, HC2.out, fun k hk => HS.out k (by simp [hk]), fun k hk => ?_, fun k hk => ?_, HB3.out⟩
          · by_cases e : k = j
            · subst e; exact .inr HST.out
            · rcases HD.out k hk with e2 | e2
              · rcases List.mem_cons.1 e2 with e3 | e3
                · exact absurd e3 e
                · exact .inl e3
              · exact .inr (e2.congr (HDN.out k e))
          · rw [HDN.out k (fun e => hk (e ▸ hjl0))]
            exact HO.out k hk
        case measure =>
          rw [chain_msr rfl HC2.out, chain_msr (z := (j : Int)) (o := some j) rfl HCh.out]
          simp
end Go.Proofs.Ytgkaeoieclegjaa
