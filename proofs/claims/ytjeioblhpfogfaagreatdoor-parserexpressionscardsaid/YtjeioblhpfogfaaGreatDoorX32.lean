/- The document's parser: operators. -/
import Derived.Test.YtjeioblhpfogfaaGreatDoorX30
import Derived.Test.YtjeioblhpfogfaaGreatDoorX31
set_option linter.unusedVariables false
set_option linter.unusedSimpArgs false
set_option maxRecDepth 20000
set_option maxHeartbeats 8000000
namespace Go.Proofs.YtjeioblhpfogfaaGreatDoor
open Go.RowKit

/-- How much the document's reader has still to do. -/
def msr (p : Nat) (toks : List Tk) (w : World) : Nat := match w.cell? ⟨p, 1, none⟩, w.cell? ⟨p, 2, none⟩ with
  | some (.int _ n), some (.bool b) => 2 * (toks.length - n.toNat) + (if b = true then 0 else 1)
  | _, _ => 0
theorem RS.msr {w : World} {p k : Nat} {toks : List Tk} {tv : Value} {b : Bool} {q : Int} (h : RS w p toks tv k b q) : msr p toks w = 2 * (toks.length - k) + (if b = true then 0 else 1) := by
  obtain ⟨_, c1, c2, _⟩ := h.cells
  unfold Go.Proofs.YtjeioblhpfogfaaGreatDoor.msr
  rw [c1, c2]
  simp
theorem level_l {w : World} {p k : Nat} {toks : List Tk} {tv : Value} {b : Bool} {q l : Int} (hW : TokW toks) (hl : levF (signAt toks k) = l) (h : RS w p toks tv k b q) :
    Calls Tryz.prog 95 #[.pointer (some ⟨p, 0, none⟩)] w fun e w' => e = .returned (.int .i64 l) ∧ Below w.heap.size w w' := by
  rw [← hl]
  exact level95 hW h
theorem lev_text {toks : List Tk} {k : Nat} (h : k < toks.length) (hc : ¬ levF (signAt toks k) = 0) : signAt toks k = (tk toks k).text := by
  rw [sign_of h] at hc ⊢
  split at hc
  · rename_i h1
    rw [if_pos h1]
  · exact absurd lev_none hc
theorem levFrom_in4 (sx : ByteArray) : ∀ l : List (ByteArray × Int), (∀ e ∈ l, 4 ≤ e.2) → ¬ levFrom sx l = 0 → 4 ≤ levFrom sx l
  | [], _, h => absurd rfl h
  | e :: r, hp, h => by
    rw [levFrom] at h ⊢
    split
    · exact hp e (List.mem_cons_self ..)
    · rename_i hn
      rw [if_neg hn] at h
      exact levFrom_in4 sx r (fun x hx => hp x (List.mem_cons_of_mem _ hx)) h
theorem lev_twoD {sx : ByteArray} (h : ¬ sx = ⟨#[38, 38]⟩) (h2 : ¬ sx = ⟨#[124, 124]⟩) (h0 : ¬ levF sx = 0) : ¬ levF sx ≤ 3 := by
  unfold levF at h0 ⊢
  have e1 : ¬ ((⟨#[124, 124]⟩ : ByteArray).toList == sx.toList) = true := fun e => h2 (by
    rw [beq_iff_eq, toList_data, toList_data] at e
    cases sx with
    | mk d =>
      cases d
      simp at e
      subst e
      rfl)
  have e2 : ¬ ((⟨#[38, 38]⟩ : ByteArray).toList == sx.toList) = true := fun e => h (by
    rw [beq_iff_eq, toList_data, toList_data] at e
    cases sx with
    | mk d =>
      cases d
      simp at e
      subst e
      rfl)
  unfold opTab at h0 ⊢
  rw [levFrom, if_neg e1, levFrom, if_neg e2] at h0 ⊢
  have := levFrom_in4 sx _ (by
    intro p hp
    simp only [List.mem_cons, List.not_mem_nil, or_false] at hp
    rcases hp with h | h | h | h | h | h | h | h | h | h | h | h | h | h | h | h <;> subst h <;> decide) h0
  omega
theorem binary51 {w : World} {p k : Nat} {toks : List Tk} {tv : Value} {b : Bool} {q : Int} {lv : Int} (hW : TokW toks) (hT : TokOk toks) (hv1 : 1 ≤ lv) (hv2 : lv ≤ 12) {N : Nat} (ih : EH N p toks tv) (hN : (toks.length - k) * 8 + 5 ≤ N) (h : RS w p toks tv k b q) :
    Calls Tryz.prog 51 #[.pointer (some ⟨p, 0, none⟩), .int .i64 lv] w (RP p toks tv (.bin lv) k b q w) := by
  have H0 := hid' h
  have K0 := hid' (Kp.rfl p w)
  have hf0 := fld42_0
  have hf1 := fld42_1
  have hf4 := fld42_4
  have HI := hid' (by omega : (toks.length - k) * 8 + 4 < N)
  have HI2 : Hid (∀ j, k + 1 ≤ j → (toks.length - j) * 8 + 5 < N) := fun j hj => by have := h.at_; omega
  have HK0 := hid' h.at_
  clear h
  go_enter Tryz.func51, Tryz.ntmps51
  go_wp2_with (first
    | (go_at_call 94; (with_reducible refine (ih.un HI.out H1.out).mono ?_); rintro e w2 ⟨kd2, st2, nu2, fl2, ao2, m2, cap2, ps2, ks2, k2, b2, q2, rfl, hk, hr, hT, ho⟩; have H2 := hid' hr; have K2 := hid' (K1.out.trans hk); have Xa_2 := hid' (Xa_1.out.kp H1.out hk); have Tt2_2 : Hid (Kb [w.heap.size] w.heap.size w2 (.slice ao2 m2 cap2) ks2) := hid' (Kb.of hT K1.out.size (all_cons Xa_1.out.lt all0)); have O2 := hid' ho; clear hk hr hT ho)
    | (go_at_call 21; (with_reducible refine (now21 (H0.out.alloc _)).mono ?_); rintro e w1 ⟨rfl, hb⟩; have H1 := hid' ((H0.out.alloc _).below hb); have K1 := hid' ((K0.out.alloc _).trans (Kp.of_below hb)); have Xa_1 : Hid (Bx w1 (w.heap.size) ⟨0, ⟨#[]⟩, 0, false, 0⟩ (.slice none 0 0)) := hid' ((Bx.newAt ⟨0, ⟨#[]⟩, 0, false, 0⟩ (.slice none 0 0) (by simp)).below hb); clear hb))
  have LBn : Hid (w.heap.size ≤ w2.heap.size) := hid' K2.out.size
  have LTan : Hid (w.heap.size < w2.heap.size) := hid' Xa_2.out.lt
  have NEan : ¬ w.heap.size = w2.heap.size := Nat.ne_of_lt LTan.out
  have NEna : ¬ w2.heap.size = w.heap.size := Nat.ne_of_gt LTan.out
  go_loopw [] (fun wr => ∃ (kd : Int) (st : ByteArray) (nu : Int) (fl : Bool) (ao : Option Addr) (m cap : Nat) (ps : Int) (ks : List Tr) (k' : Nat) (b' : Bool) (q' : Int), RS wr p toks tv k' b' q' ∧ Kp p w wr ∧ Bx wr (w.heap.size) ⟨0, ⟨#[]⟩, 0, false, 0⟩ (.slice none 0 0) ∧ Bx wr (w2.heap.size) ⟨kd, st, nu, fl, ps⟩ (.slice ao m cap) ∧ Kb [w2.heap.size, w.heap.size] w.heap.size wr (.slice ao m cap) ks ∧ k ≤ k' ∧ (b' = false → k + 1 ≤ k') ∧ At toks b q (body toks (.bin lv) k) b' q' (body toks (.binR lv (tk toks k).pos [Tr.node ⟨kd, st, nu, fl, ps⟩ ks]) k')) (fun wr => msr p toks wr)
  case atStart =>
    exact ⟨_, _, _, _, _, _, _, _, _, _, _, _, (H2.out.alloc _), (K2.out.alloc _), (Xa_2.out.alloc _), (Bx.newAt ⟨kd2, st2, nu2, fl2, ps2⟩ (.slice ao2 m2 cap2) (by simp)), (Tt2_2.out.boxAt (g := w2.heap.size) (by simp) _), O2.out.le, fun hb => O2.out.on hT trivial HK0.out hb, ((At.start (toks := toks) (b := b) (q := q) (body_bin toks lv k)).call O2.out).last⟩
  case round =>
    obtain ⟨kd, st, nu, fl, ao, m, cap, ps, ks, k', b', q', hR, hKp, hXa, hXn, hTz, hle, hon, hA⟩ := hrel
    have Hr := hid' hR
    have Kr := hid' hKp
    have Xa_r := hid' hXa
    have Xn_r := hid' hXn
    have Tz_r := hid' hTz
    have LE := hid' hle
    have ON := hid' hon
    have AA := hid' hA
    obtain ⟨rra, rrb, rrc, rrd, rrl⟩ := hR.cells
    obtain ⟨ara, arb, arc, ard, are, arf, arz, arl⟩ := hXa.six
    obtain ⟨nra, nrb, nrc, nrd, nre, nrf, nrz, nrl⟩ := hXn.six
    clear hR hKp hXa hXn hTz hle hon hA
    cases b' with
    | true =>
      go_wp2
      refine ret_bx (bx := w.heap.size) (x := ⟨kd, st, nu, fl, ps⟩) (kv := (.slice ao m cap)) (Xa_r.out.set6 ⟨kd, st, nu, fl, ps⟩ (.slice ao m cap)) (fun W c0 c1 c2 c3 c4 c5 => by simp [results, Tryz.results51, go_sem, c0, c1, c2, c3, c4, c5]) rfl ?_
      refine ⟨_, _, _, _, _, _, _, _, _, _, _, _, rfl, (Kr.out.set6 (Nat.le_refl _) ⟨kd, st, nu, fl, ps⟩ (.slice ao m cap)), (Hr.out.set6 Xa_r.out ⟨kd, st, nu, fl, ps⟩ (.slice ao m cap)), (Tz_r.out.set6 (by simp) ⟨kd, st, nu, fl, ps⟩ (.slice ao m cap)).to, ⟨LE.out, ?_⟩⟩
      exact AA.out.any
    | false =>
      obtain ⟨l, hl⟩ : ∃ l, levF (signAt toks k') = l := ⟨_, rfl⟩
      have HL := hid' hl
      have hlb := lev_bounds (signAt toks k')
      rw [hl] at hlb
      obtain ⟨hl1, hl2⟩ := hlb
      clear hl
      by_cases h1 : l < lv
      · go_wp2_with (first
          | (go_at_call 95; (with_reducible refine (level_l hW HL.out Hr.out).mono ?_); rintro e w3 ⟨rfl, hb⟩; have H3 := hid' (Hr.out.below hb); have K3 := hid' (Kr.out.trans (Kp.of_below hb)); have Xa_3 := hid' (Xa_r.out.below hb); have Xn_3 := hid' (Xn_r.out.below hb); have Tz_3 := hid' (Tz_r.out.below hb); obtain ⟨a3a, a3b, a3c, a3d, a3e, a3f, a3z, a3l⟩ := Xa_3.out.six; obtain ⟨n3a, n3b, n3c, n3d, n3e, n3f, n3z, n3l⟩ := Xn_3.out.six; clear hb))
        refine ret_bx (bx := w.heap.size) (x := ⟨kd, st, nu, fl, ps⟩) (kv := (.slice ao m cap)) (Xa_3.out.set6 ⟨kd, st, nu, fl, ps⟩ (.slice ao m cap)) (fun W c0 c1 c2 c3 c4 c5 => by simp [results, Tryz.results51, go_sem, c0, c1, c2, c3, c4, c5]) rfl ?_
        refine ⟨_, _, _, _, _, _, _, _, _, _, _, _, rfl, (K3.out.set6 (Nat.le_refl _) ⟨kd, st, nu, fl, ps⟩ (.slice ao m cap)), (H3.out.set6 Xa_3.out ⟨kd, st, nu, fl, ps⟩ (.slice ao m cap)), (Tz_3.out.set6 (by simp) ⟨kd, st, nu, fl, ps⟩ (.slice ao m cap)).to, ⟨LE.out, ?_⟩⟩
        have A := AA.out
        rw [body_binR] at A
        exact A.yes (by rw [HL.out]; exact .inl h1)
      have h0 : ¬ l = 0 := by omega
      have h0' : (l == 0) = false := by simp [h0]
      have HNZ : Hid (¬ levF (signAt toks k') = 0) := hid' (by rw [HL.out]; exact h0)
      have HTX := hid' (lev_text Hr.out.at_ HNZ.out)
      have HN := hid' (sign_on hT (fun e1 => HNZ.out (by rw [e1]; exact lev_none)))
      have hl3 : 1 ≤ l := by omega
      by_cases a1 : (tk toks k').text = ⟨#[38, 38]⟩
      · have HIF := hid' (if_pos (c := l ≤ 3) (by have hl4 : l = 3 := (by rw [← HL.out, HTX.out, a1]; simp [levF, levFrom, opTab, toList_data]); omega) : (if l ≤ 3 then (11 : Int) else 10) = 11)
        go_wp2_with (first
          | (go_at_call 51; (with_reducible refine (ih.bi (by omega) (by omega) (HI2.out _ (by have := LE.out; omega)) H5.out).mono ?_); rintro e w6 ⟨kd6, st6, nu6, fl6, ao6, m6, cap6, ps6, ks6, k6, b6, q6, rfl, hk, hr, hT, ho⟩; have H6 := hid' hr; have K6 := hid' (K5.out.trans hk); have Xa_6 := hid' (Xa_5.out.kp H5.out hk); have Xn_6 := hid' (Xn_5.out.kp H5.out hk); have Tz_6 := hid' (Tz_5.out.kp H0.out.lt hk); have Tt6_6 : Hid (Kb [w2.heap.size, w.heap.size] w.heap.size w6 (.slice ao6 m6 cap6) ks6) := hid' (Kb.of hT K5.out.size (all_cons Xn_5.out.lt (all_cons Xa_5.out.lt all0))); have O6 := hid' ho; obtain ⟨a6a, a6b, a6c, a6d, a6e, a6f, a6z, a6l⟩ := Xa_6.out.six; obtain ⟨n6a, n6b, n6c, n6d, n6e, n6f, n6z, n6l⟩ := Xn_6.out.six; clear hk hr hT ho)
          | (go_at_call 54; (with_reducible refine (next54 H4.out HN.out).mono ?_); rintro e w5 ⟨rfl, hk, hr⟩; have H5 := hid' hr; have K5 := hid' (K4.out.trans hk); have Xa_5 := hid' (Xa_4.out.kp H4.out hk); have Xn_5 := hid' (Xn_4.out.kp H4.out hk); have Tz_5 := hid' (Tz_4.out.kp H0.out.lt hk); clear hk hr)
          | (go_at_call 21; (with_reducible refine (now21 H3.out).mono ?_); rintro e w4 ⟨rfl, hb⟩; have H4 := hid' (H3.out.below hb); have K4 := hid' (K3.out.trans (Kp.of_below hb)); have Xa_4 := hid' (Xa_3.out.below hb); have Xn_4 := hid' (Xn_3.out.below hb); have Tz_4 := hid' (Tz_3.out.below hb); clear hb)
          | (go_at_call 95; (with_reducible refine (level_l hW HL.out Hr.out).mono ?_); rintro e w3 ⟨rfl, hb⟩; have H3 := hid' (Hr.out.below hb); have K3 := hid' (Kr.out.trans (Kp.of_below hb)); have Xa_3 := hid' (Xa_r.out.below hb); have Xn_3 := hid' (Xn_r.out.below hb); have Tz_3 := hid' (Tz_r.out.below hb); clear hb))
        go_roundw
        case rel =>
          refine ⟨_, _, _, _, _, _, _, _, _, _, _, _, (((H6.out.set6 Xn_6.out ⟨11, ⟨#[38, 38]⟩, 0, false, (tk toks k).pos⟩ (.slice (some ⟨w6.heap.size + 1, 0, none⟩) 2 2)).alloc _).alloc _), (((K6.out.set6 LBn.out ⟨11, ⟨#[38, 38]⟩, 0, false, (tk toks k).pos⟩ (.slice (some ⟨w6.heap.size + 1, 0, none⟩) 2 2)).alloc _).alloc _), (((Xa_6.out.off6 (Nat.ne_of_lt LTan.out) ⟨11, ⟨#[38, 38]⟩, 0, false, (tk toks k).pos⟩ (.slice (some ⟨w6.heap.size + 1, 0, none⟩) 2 2)).alloc _).alloc _), (((Xn_6.out.set6 ⟨11, ⟨#[38, 38]⟩, 0, false, (tk toks k).pos⟩ (.slice (some ⟨w6.heap.size + 1, 0, none⟩) 2 2)).alloc _).alloc _), (Kb.two (g := w6.heap.size + 1) (x := ⟨kd, st, nu, fl, ps⟩) (y := ⟨kd6, st6, nu6, fl6, ps6⟩) ((Tz_6.out.set6 (by simp) ⟨11, ⟨#[38, 38]⟩, 0, false, (tk toks k).pos⟩ (.slice (some ⟨w6.heap.size + 1, 0, none⟩) 2 2)).boxAt (g := w6.heap.size) (by simp) _) ((Tt6_6.out.set6 (by simp) ⟨11, ⟨#[38, 38]⟩, 0, false, (tk toks k).pos⟩ (.slice (some ⟨w6.heap.size + 1, 0, none⟩) 2 2)).boxAt (g := w6.heap.size) (by simp) _) ((K6.out.set6 LBn.out ⟨11, ⟨#[38, 38]⟩, 0, false, (tk toks k).pos⟩ (.slice (some ⟨w6.heap.size + 1, 0, none⟩) 2 2)).alloc _).size (all_cons (Bx.newAt ⟨kd6, st6, nu6, fl6, ps6⟩ (.slice ao6 m6 cap6) (by simp)).lt (all_cons ((Xn_6.out.set6 ⟨11, ⟨#[38, 38]⟩, 0, false, (tk toks k).pos⟩ (.slice (some ⟨w6.heap.size + 1, 0, none⟩) 2 2)).alloc _).lt (all_cons ((Xa_6.out.off6 (Nat.ne_of_lt LTan.out) ⟨11, ⟨#[38, 38]⟩, 0, false, (tk toks k).pos⟩ (.slice (some ⟨w6.heap.size + 1, 0, none⟩) 2 2)).alloc _).lt all0))) (by simp)).less (Nat.le_refl _) (fun b hb => List.mem_cons_of_mem _ hb), (by have := LE.out; have := O6.out.le; omega), fun _ => (by have := LE.out; have := O6.out.le; omega), ?_⟩
          have A := AA.out
          rw [body_binR] at A
          have A2 := A.not (by rw [HL.out]; omega)
          rw [HL.out] at A2
          have A3 := (A2.call O6.out).last
          rw [HTX.out, HIF.out, a1] at A3
          exact A3
        case measure =>
          rw [RS.msr (((H6.out.set6 Xn_6.out ⟨11, ⟨#[38, 38]⟩, 0, false, (tk toks k).pos⟩ (.slice (some ⟨w6.heap.size + 1, 0, none⟩) 2 2)).alloc _).alloc _), Hr.out.msr]
          have := O6.out.le
          have := HN.out
          split <;> simp <;> omega
      by_cases a2 : (tk toks k').text = ⟨#[124, 124]⟩
      · have HIF := hid' (if_pos (c := l ≤ 3) (by have hl4 : l = 2 := (by rw [← HL.out, HTX.out, a2]; simp [levF, levFrom, opTab, toList_data]); omega) : (if l ≤ 3 then (11 : Int) else 10) = 11)
        go_wp2_with (first
          | (go_at_call 51; (with_reducible refine (ih.bi (by omega) (by omega) (HI2.out _ (by have := LE.out; omega)) H5.out).mono ?_); rintro e w6 ⟨kd6, st6, nu6, fl6, ao6, m6, cap6, ps6, ks6, k6, b6, q6, rfl, hk, hr, hT, ho⟩; have H6 := hid' hr; have K6 := hid' (K5.out.trans hk); have Xa_6 := hid' (Xa_5.out.kp H5.out hk); have Xn_6 := hid' (Xn_5.out.kp H5.out hk); have Tz_6 := hid' (Tz_5.out.kp H0.out.lt hk); have Tt6_6 : Hid (Kb [w2.heap.size, w.heap.size] w.heap.size w6 (.slice ao6 m6 cap6) ks6) := hid' (Kb.of hT K5.out.size (all_cons Xn_5.out.lt (all_cons Xa_5.out.lt all0))); have O6 := hid' ho; obtain ⟨a6a, a6b, a6c, a6d, a6e, a6f, a6z, a6l⟩ := Xa_6.out.six; obtain ⟨n6a, n6b, n6c, n6d, n6e, n6f, n6z, n6l⟩ := Xn_6.out.six; clear hk hr hT ho)
          | (go_at_call 54; (with_reducible refine (next54 H4.out HN.out).mono ?_); rintro e w5 ⟨rfl, hk, hr⟩; have H5 := hid' hr; have K5 := hid' (K4.out.trans hk); have Xa_5 := hid' (Xa_4.out.kp H4.out hk); have Xn_5 := hid' (Xn_4.out.kp H4.out hk); have Tz_5 := hid' (Tz_4.out.kp H0.out.lt hk); clear hk hr)
          | (go_at_call 21; (with_reducible refine (now21 H3.out).mono ?_); rintro e w4 ⟨rfl, hb⟩; have H4 := hid' (H3.out.below hb); have K4 := hid' (K3.out.trans (Kp.of_below hb)); have Xa_4 := hid' (Xa_3.out.below hb); have Xn_4 := hid' (Xn_3.out.below hb); have Tz_4 := hid' (Tz_3.out.below hb); clear hb)
          | (go_at_call 95; (with_reducible refine (level_l hW HL.out Hr.out).mono ?_); rintro e w3 ⟨rfl, hb⟩; have H3 := hid' (Hr.out.below hb); have K3 := hid' (Kr.out.trans (Kp.of_below hb)); have Xa_3 := hid' (Xa_r.out.below hb); have Xn_3 := hid' (Xn_r.out.below hb); have Tz_3 := hid' (Tz_r.out.below hb); clear hb))
        go_roundw
        case rel =>
          refine ⟨_, _, _, _, _, _, _, _, _, _, _, _, (((H6.out.set6 Xn_6.out ⟨11, ⟨#[124, 124]⟩, 0, false, (tk toks k).pos⟩ (.slice (some ⟨w6.heap.size + 1, 0, none⟩) 2 2)).alloc _).alloc _), (((K6.out.set6 LBn.out ⟨11, ⟨#[124, 124]⟩, 0, false, (tk toks k).pos⟩ (.slice (some ⟨w6.heap.size + 1, 0, none⟩) 2 2)).alloc _).alloc _), (((Xa_6.out.off6 (Nat.ne_of_lt LTan.out) ⟨11, ⟨#[124, 124]⟩, 0, false, (tk toks k).pos⟩ (.slice (some ⟨w6.heap.size + 1, 0, none⟩) 2 2)).alloc _).alloc _), (((Xn_6.out.set6 ⟨11, ⟨#[124, 124]⟩, 0, false, (tk toks k).pos⟩ (.slice (some ⟨w6.heap.size + 1, 0, none⟩) 2 2)).alloc _).alloc _), (Kb.two (g := w6.heap.size + 1) (x := ⟨kd, st, nu, fl, ps⟩) (y := ⟨kd6, st6, nu6, fl6, ps6⟩) ((Tz_6.out.set6 (by simp) ⟨11, ⟨#[124, 124]⟩, 0, false, (tk toks k).pos⟩ (.slice (some ⟨w6.heap.size + 1, 0, none⟩) 2 2)).boxAt (g := w6.heap.size) (by simp) _) ((Tt6_6.out.set6 (by simp) ⟨11, ⟨#[124, 124]⟩, 0, false, (tk toks k).pos⟩ (.slice (some ⟨w6.heap.size + 1, 0, none⟩) 2 2)).boxAt (g := w6.heap.size) (by simp) _) ((K6.out.set6 LBn.out ⟨11, ⟨#[124, 124]⟩, 0, false, (tk toks k).pos⟩ (.slice (some ⟨w6.heap.size + 1, 0, none⟩) 2 2)).alloc _).size (all_cons (Bx.newAt ⟨kd6, st6, nu6, fl6, ps6⟩ (.slice ao6 m6 cap6) (by simp)).lt (all_cons ((Xn_6.out.set6 ⟨11, ⟨#[124, 124]⟩, 0, false, (tk toks k).pos⟩ (.slice (some ⟨w6.heap.size + 1, 0, none⟩) 2 2)).alloc _).lt (all_cons ((Xa_6.out.off6 (Nat.ne_of_lt LTan.out) ⟨11, ⟨#[124, 124]⟩, 0, false, (tk toks k).pos⟩ (.slice (some ⟨w6.heap.size + 1, 0, none⟩) 2 2)).alloc _).lt all0))) (by simp)).less (Nat.le_refl _) (fun b hb => List.mem_cons_of_mem _ hb), (by have := LE.out; have := O6.out.le; omega), fun _ => (by have := LE.out; have := O6.out.le; omega), ?_⟩
          have A := AA.out
          rw [body_binR] at A
          have A2 := A.not (by rw [HL.out]; omega)
          rw [HL.out] at A2
          have A3 := (A2.call O6.out).last
          rw [HTX.out, HIF.out, a2] at A3
          exact A3
        case measure =>
          rw [RS.msr (((H6.out.set6 Xn_6.out ⟨11, ⟨#[124, 124]⟩, 0, false, (tk toks k).pos⟩ (.slice (some ⟨w6.heap.size + 1, 0, none⟩) 2 2)).alloc _).alloc _), Hr.out.msr]
          have := O6.out.le
          have := HN.out
          split <;> simp <;> omega
      obtain ⟨tx, ht⟩ : ∃ tx, (tk toks k').text = tx := ⟨_, rfl⟩
      have t1 := toList_ne' a1
      have t2 := toList_ne' a2
      rw [ht] at t1 t2
      have HIF : Hid ((if l ≤ 3 then (11 : Int) else 10) = 10) := hid' (if_neg (by rw [← HL.out, HTX.out]; exact lev_twoD a1 a2 (by rw [← HTX.out]; exact HNZ.out)))
      go_wp2_with (first
        | (go_at_call 51; (with_reducible refine (ih.bi (by omega) (by omega) (HI2.out _ (by have := LE.out; omega)) H5.out).mono ?_); rintro e w6 ⟨kd6, st6, nu6, fl6, ao6, m6, cap6, ps6, ks6, k6, b6, q6, rfl, hk, hr, hT, ho⟩; have H6 := hid' hr; have K6 := hid' (K5.out.trans hk); have Xa_6 := hid' (Xa_5.out.kp H5.out hk); have Xn_6 := hid' (Xn_5.out.kp H5.out hk); have Tz_6 := hid' (Tz_5.out.kp H0.out.lt hk); have Tt6_6 : Hid (Kb [w2.heap.size, w.heap.size] w.heap.size w6 (.slice ao6 m6 cap6) ks6) := hid' (Kb.of hT K5.out.size (all_cons Xn_5.out.lt (all_cons Xa_5.out.lt all0))); have O6 := hid' ho; obtain ⟨a6a, a6b, a6c, a6d, a6e, a6f, a6z, a6l⟩ := Xa_6.out.six; obtain ⟨n6a, n6b, n6c, n6d, n6e, n6f, n6z, n6l⟩ := Xn_6.out.six; clear hk hr hT ho)
        | (go_at_call 54; (with_reducible refine (next54 H4.out HN.out).mono ?_); rintro e w5 ⟨rfl, hk, hr⟩; have H5 := hid' hr; have K5 := hid' (K4.out.trans hk); have Xa_5 := hid' (Xa_4.out.kp H4.out hk); have Xn_5 := hid' (Xn_4.out.kp H4.out hk); have Tz_5 := hid' (Tz_4.out.kp H0.out.lt hk); clear hk hr)
        | (go_at_call 21; (with_reducible refine (now21 H3.out).mono ?_); rintro e w4 ⟨rfl, hb⟩; have H4 := hid' (H3.out.below hb); have K4 := hid' (K3.out.trans (Kp.of_below hb)); have Xa_4 := hid' (Xa_3.out.below hb); have Xn_4 := hid' (Xn_3.out.below hb); have Tz_4 := hid' (Tz_3.out.below hb); clear hb)
        | (go_at_call 95; (with_reducible refine (level_l hW HL.out Hr.out).mono ?_); rintro e w3 ⟨rfl, hb⟩; have H3 := hid' (Hr.out.below hb); have K3 := hid' (Kr.out.trans (Kp.of_below hb)); have Xa_3 := hid' (Xa_r.out.below hb); have Xn_3 := hid' (Xn_r.out.below hb); have Tz_3 := hid' (Tz_r.out.below hb); clear hb))
      go_roundw
      case rel =>
        refine ⟨_, _, _, _, _, _, _, _, _, _, _, _, (((H6.out.set6 Xn_6.out ⟨10, tx, 0, false, (tk toks k).pos⟩ (.slice (some ⟨w6.heap.size + 1, 0, none⟩) 2 2)).alloc _).alloc _), (((K6.out.set6 LBn.out ⟨10, tx, 0, false, (tk toks k).pos⟩ (.slice (some ⟨w6.heap.size + 1, 0, none⟩) 2 2)).alloc _).alloc _), (((Xa_6.out.off6 (Nat.ne_of_lt LTan.out) ⟨10, tx, 0, false, (tk toks k).pos⟩ (.slice (some ⟨w6.heap.size + 1, 0, none⟩) 2 2)).alloc _).alloc _), (((Xn_6.out.set6 ⟨10, tx, 0, false, (tk toks k).pos⟩ (.slice (some ⟨w6.heap.size + 1, 0, none⟩) 2 2)).alloc _).alloc _), (Kb.two (g := w6.heap.size + 1) (x := ⟨kd, st, nu, fl, ps⟩) (y := ⟨kd6, st6, nu6, fl6, ps6⟩) ((Tz_6.out.set6 (by simp) ⟨10, tx, 0, false, (tk toks k).pos⟩ (.slice (some ⟨w6.heap.size + 1, 0, none⟩) 2 2)).boxAt (g := w6.heap.size) (by simp) _) ((Tt6_6.out.set6 (by simp) ⟨10, tx, 0, false, (tk toks k).pos⟩ (.slice (some ⟨w6.heap.size + 1, 0, none⟩) 2 2)).boxAt (g := w6.heap.size) (by simp) _) ((K6.out.set6 LBn.out ⟨10, tx, 0, false, (tk toks k).pos⟩ (.slice (some ⟨w6.heap.size + 1, 0, none⟩) 2 2)).alloc _).size (all_cons (Bx.newAt ⟨kd6, st6, nu6, fl6, ps6⟩ (.slice ao6 m6 cap6) (by simp)).lt (all_cons ((Xn_6.out.set6 ⟨10, tx, 0, false, (tk toks k).pos⟩ (.slice (some ⟨w6.heap.size + 1, 0, none⟩) 2 2)).alloc _).lt (all_cons ((Xa_6.out.off6 (Nat.ne_of_lt LTan.out) ⟨10, tx, 0, false, (tk toks k).pos⟩ (.slice (some ⟨w6.heap.size + 1, 0, none⟩) 2 2)).alloc _).lt all0))) (by simp)).less (Nat.le_refl _) (fun b hb => List.mem_cons_of_mem _ hb), (by have := LE.out; have := O6.out.le; omega), fun _ => (by have := LE.out; have := O6.out.le; omega), ?_⟩
        have A := AA.out
        rw [body_binR] at A
        have A2 := A.not (by rw [HL.out]; omega)
        rw [HL.out] at A2
        have A3 := (A2.call O6.out).last
        rw [HTX.out, HIF.out, ht] at A3
        exact A3
      case measure =>
        rw [RS.msr (((H6.out.set6 Xn_6.out ⟨10, tx, 0, false, (tk toks k).pos⟩ (.slice (some ⟨w6.heap.size + 1, 0, none⟩) 2 2)).alloc _).alloc _), Hr.out.msr]
        have := O6.out.le
        have := HN.out
        split <;> simp <;> omega
end Go.Proofs.YtjeioblhpfogfaaGreatDoor
