/- The document's parser: what follows a primary. -/
import Derived.Test.YtjeioblhpfogfaaGreatDoorX32
import Derived.Deep.RegionWith
set_option linter.unusedVariables false
set_option linter.unusedSimpArgs false
set_option maxRecDepth 20000
set_option maxHeartbeats 8000000
namespace Go.Proofs.YtjeioblhpfogfaaGreatDoor
open Go.RowKit

theorem postfix140 {w : World} {p k : Nat} {toks : List Tk} {tv : Value} {b : Bool} {q : Int} (hW : TokW toks) (hT : TokOk toks) {N : Nat} (ih : EH N p toks tv) (hN : (toks.length - k) * 8 + 3 ≤ N) (h : RS w p toks tv k b q) :
    Calls Tryz.prog 140 #[.pointer (some ⟨p, 0, none⟩)] w (RP p toks tv .post k b q w) := by
  have H0 := hid' h
  have K0 := hid' (Kp.rfl p w)
  have hf0 := fld42_0
  have hf1 := fld42_1
  have hf4 := fld42_4
  have HI := hid' (by omega : (toks.length - k) * 8 + 2 < N)
  have HI2 : Hid (∀ j, k + 1 ≤ j → (toks.length - j) * 8 + 6 < N) := fun j hj => by have := h.at_; omega
  clear h
  go_enter Tryz.func140, Tryz.ntmps140
  go_wp2_with (first
    | (go_at_call 196; (with_reducible refine (ih.pr HI.out H1.out).mono ?_); rintro e w2 ⟨kd2, st2, nu2, fl2, ao2, m2, cap2, ps2, ks2, k2, b2, q2, rfl, hk, hr, hT, ho⟩; have H2 := hid' hr; have K2 := hid' (K1.out.trans hk); have Xa_2 := hid' (Xa_1.out.kp H1.out hk); have Tt2_2 : Hid (Kb [w.heap.size] w.heap.size w2 (.slice ao2 m2 cap2) ks2) := hid' (Kb.of hT K1.out.size (all_cons Xa_1.out.lt all0)); have O2 := hid' ho; clear hk hr hT ho)
    | (go_at_call 21; (with_reducible refine (now21 (H0.out.alloc _)).mono ?_); rintro e w1 ⟨rfl, hb⟩; have H1 := hid' ((H0.out.alloc _).below hb); have K1 := hid' ((K0.out.alloc _).trans (Kp.of_below hb)); have Xa_1 : Hid (Bx w1 (w.heap.size) ⟨0, ⟨#[]⟩, 0, false, 0⟩ (.slice none 0 0)) := hid' ((Bx.newAt ⟨0, ⟨#[]⟩, 0, false, 0⟩ (.slice none 0 0) (by simp)).below hb); clear hb))
  have LBn : Hid (w.heap.size ≤ w2.heap.size) := hid' K2.out.size
  have LTan : Hid (w.heap.size < w2.heap.size) := hid' Xa_2.out.lt
  have NEan : ¬ w.heap.size = w2.heap.size := Nat.ne_of_lt LTan.out
  have NEna : ¬ w2.heap.size = w.heap.size := Nat.ne_of_gt LTan.out
  go_loopw [] (fun wr => ∃ (kd : Int) (st : ByteArray) (nu : Int) (fl : Bool) (ao : Option Addr) (m cap : Nat) (ps : Int) (ks : List Tr) (k' : Nat) (b' : Bool) (q' : Int), RS wr p toks tv k' b' q' ∧ Kp p w wr ∧ Bx wr (w.heap.size) ⟨0, ⟨#[]⟩, 0, false, 0⟩ (.slice none 0 0) ∧ Bx wr (w2.heap.size) ⟨kd, st, nu, fl, ps⟩ (.slice ao m cap) ∧ Kb [w2.heap.size, w.heap.size] w.heap.size wr (.slice ao m cap) ks ∧ k ≤ k' ∧ At toks b q (body toks .post k) b' q' (body toks (.postR (tk toks k).pos [Tr.node ⟨kd, st, nu, fl, ps⟩ ks]) k')) (fun wr => msr p toks wr)
  case atStart =>
    exact ⟨_, _, _, _, _, _, _, _, _, _, _, _, (H2.out.alloc _), (K2.out.alloc _), (Xa_2.out.alloc _), (Bx.newAt ⟨kd2, st2, nu2, fl2, ps2⟩ (.slice ao2 m2 cap2) (by simp)), (Tt2_2.out.boxAt (g := w2.heap.size) (by simp) _), O2.out.le, ((At.start (toks := toks) (b := b) (q := q) (body_post toks k)).call O2.out).last⟩
  case round =>
    obtain ⟨kd, st, nu, fl, ao, m, cap, ps, ks, k', b', q', hR, hKp, hXa, hXn, hTz, hle, hA⟩ := hrel
    have Hr := hid' hR
    have Kr := hid' hKp
    have Xa_r := hid' hXa
    have Xn_r := hid' hXn
    have Tz_r := hid' hTz
    have LE := hid' hle
    rw [body_postR] at hA
    have AA := hid' hA
    obtain ⟨rra, rrb, rrc, rrd, rrl⟩ := hR.cells
    obtain ⟨ara, arb, arc, ard, are, arf, arz, arl⟩ := hXa.six
    obtain ⟨nra, nrb, nrc, nrd, nre, nrf, nrz, nrl⟩ := hXn.six
    clear hR hKp hXa hXn hTz hle hA
    cases b' with
    | true =>
      go_wp2
      refine ret_bx (bx := w.heap.size) (x := ⟨kd, st, nu, fl, ps⟩) (kv := (.slice ao m cap)) (Xa_r.out.set6 ⟨kd, st, nu, fl, ps⟩ (.slice ao m cap)) (fun W c0 c1 c2 c3 c4 c5 => by simp [results, Tryz.results140, go_sem, c0, c1, c2, c3, c4, c5]) rfl ?_
      refine ⟨_, _, _, _, _, _, _, _, _, _, _, _, rfl, (Kr.out.set6 (Nat.le_refl _) ⟨kd, st, nu, fl, ps⟩ (.slice ao m cap)), (Hr.out.set6 Xa_r.out ⟨kd, st, nu, fl, ps⟩ (.slice ao m cap)), (Tz_r.out.set6 (by simp) ⟨kd, st, nu, fl, ps⟩ (.slice ao m cap)).to, ⟨LE.out, ?_⟩⟩
      exact AA.out.any
    | false =>
      by_cases a0 : signAt toks k' = ⟨#[91]⟩
      · have t0 := dec_yes a0
        have HQ := hid' a0
        have HN := hid' (hT.sign a0 (by simp))
        clear a0
        go_wp2_with (first
          | (go_at_call 80; (with_reducible refine (take80 ⟨#[93]⟩ hW hT rfl (by simp) (H5.out.alloc _)).mono ?_); rintro e w6 ⟨rfl, hk, hr⟩; have H6 := hid' hr; have K6 := hid' ((K5.out.alloc _).trans hk); have Xa_6 : Hid (Bx w6 (w.heap.size) ⟨0, ⟨#[]⟩, 0, false, 0⟩ (.slice none 0 0)) := hid' ((Xa_5.out.alloc _).kp (H5.out.alloc _) hk); have Xn_6 : Hid (Bx w6 (w2.heap.size) ⟨kd, st, nu, fl, ps⟩ (.slice ao m cap)) := hid' ((Xn_5.out.alloc _).kp (H5.out.alloc _) hk); have Xc_6 : Hid (Bx w6 (w5.heap.size) ⟨kd5, st5, nu5, fl5, ps5⟩ (.slice ao5 m5 cap5)) := hid' ((Bx.newAt ⟨kd5, st5, nu5, fl5, ps5⟩ (.slice ao5 m5 cap5) (by simp)).kp (H5.out.alloc _) hk); have LBc : Hid (w.heap.size ≤ w5.heap.size) := hid' (by have := K5.out.size; omega); have LTac := hid' (Xa_5.out.lt); have NEac : ¬ w.heap.size = w5.heap.size := Nat.ne_of_lt LTac.out; have NEca : ¬ w5.heap.size = w.heap.size := Nat.ne_of_gt LTac.out; have LTnc := hid' (Xn_5.out.lt); have NEnc : ¬ w2.heap.size = w5.heap.size := Nat.ne_of_lt LTnc.out; have NEcn : ¬ w5.heap.size = w2.heap.size := Nat.ne_of_gt LTnc.out; have Tz_6 : Hid (Kb [w5.heap.size, w2.heap.size, w.heap.size] w.heap.size w6 (.slice ao m cap) ks) := hid' ((Tz_5.out.boxAt (g := w5.heap.size) (by simp) _).kp H0.out.lt hk); have Tt5_6 : Hid (Kb [w5.heap.size, w2.heap.size, w.heap.size] w.heap.size w6 (.slice ao5 m5 cap5) ks5) := hid' ((Tt5_5.out.boxAt (g := w5.heap.size) (by simp) _).kp H0.out.lt hk); obtain ⟨n6a, n6b, n6c, n6d, n6e, n6f, n6z, n6l⟩ := Xn_6.out.six; obtain ⟨c6a, c6b, c6c, c6d, c6e, c6f, c6z, c6l⟩ := Xc_6.out.six; clear hk hr)
          | (go_at_call 25; (with_reducible refine (ih.ex (HI2.out _ (by have := LE.out; omega)) H4.out).mono ?_); rintro e w5 ⟨kd5, st5, nu5, fl5, ao5, m5, cap5, ps5, ks5, k5, b5, q5, rfl, hk, hr, hT, ho⟩; have H5 := hid' hr; have K5 := hid' (K4.out.trans hk); have Xa_5 := hid' (Xa_4.out.kp H4.out hk); have Xn_5 := hid' (Xn_4.out.kp H4.out hk); have Tz_5 := hid' (Tz_4.out.kp H0.out.lt hk); have Tt5_5 : Hid (Kb [w2.heap.size, w.heap.size] w.heap.size w5 (.slice ao5 m5 cap5) ks5) := hid' (Kb.of hT K4.out.size (all_cons Xn_4.out.lt (all_cons Xa_4.out.lt all0))); have O5 := hid' ho; clear hk hr hT ho)
          | (go_at_call 54; (with_reducible refine (next54 H3.out HN.out).mono ?_); rintro e w4 ⟨rfl, hk, hr⟩; have H4 := hid' hr; have K4 := hid' (K3.out.trans hk); have Xa_4 := hid' (Xa_3.out.kp H3.out hk); have Xn_4 := hid' (Xn_3.out.kp H3.out hk); have Tz_4 := hid' (Tz_3.out.kp H0.out.lt hk); clear hk hr)
          | (go_at_call 42; (with_reducible refine (mark_b ⟨#[91]⟩ _ hW rfl (by simp) t0 Hr.out).mono ?_); rintro e w3 ⟨rfl, hb⟩; have H3 := hid' (Hr.out.below hb); have K3 := hid' (Kr.out.trans (Kp.of_below hb)); have Xa_3 := hid' (Xa_r.out.below hb); have Xn_3 := hid' (Xn_r.out.below hb); have Tz_3 := hid' (Tz_r.out.below hb); clear hb))
        go_roundw
        case rel =>
          refine ⟨_, _, _, _, _, _, _, _, _, _, _, _, ((H6.out.set6 Xn_6.out ⟨5, ⟨#[]⟩, 0, false, (tk toks k).pos⟩ (.slice (some ⟨w6.heap.size, 0, none⟩) 2 2)).alloc _), ((K6.out.set6 LBn.out ⟨5, ⟨#[]⟩, 0, false, (tk toks k).pos⟩ (.slice (some ⟨w6.heap.size, 0, none⟩) 2 2)).alloc _), ((Xa_6.out.off6 (Nat.ne_of_lt LTan.out) ⟨5, ⟨#[]⟩, 0, false, (tk toks k).pos⟩ (.slice (some ⟨w6.heap.size, 0, none⟩) 2 2)).alloc _), ((Xn_6.out.set6 ⟨5, ⟨#[]⟩, 0, false, (tk toks k).pos⟩ (.slice (some ⟨w6.heap.size, 0, none⟩) 2 2)).alloc _), (Kb.two (g := w6.heap.size) (x := ⟨kd, st, nu, fl, ps⟩) (y := ⟨kd5, st5, nu5, fl5, ps5⟩) (Tz_6.out.set6 (by simp) ⟨5, ⟨#[]⟩, 0, false, (tk toks k).pos⟩ (.slice (some ⟨w6.heap.size, 0, none⟩) 2 2)) (Tt5_6.out.set6 (by simp) ⟨5, ⟨#[]⟩, 0, false, (tk toks k).pos⟩ (.slice (some ⟨w6.heap.size, 0, none⟩) 2 2)) (K6.out.set6 LBn.out ⟨5, ⟨#[]⟩, 0, false, (tk toks k).pos⟩ (.slice (some ⟨w6.heap.size, 0, none⟩) 2 2)).size (all_cons (Xc_6.out.off6 (Nat.ne_of_gt LTnc.out) ⟨5, ⟨#[]⟩, 0, false, (tk toks k).pos⟩ (.slice (some ⟨w6.heap.size, 0, none⟩) 2 2)).lt (all_cons (Xn_6.out.set6 ⟨5, ⟨#[]⟩, 0, false, (tk toks k).pos⟩ (.slice (some ⟨w6.heap.size, 0, none⟩) 2 2)).lt (all_cons (Xa_6.out.off6 (Nat.ne_of_lt LTan.out) ⟨5, ⟨#[]⟩, 0, false, (tk toks k).pos⟩ (.slice (some ⟨w6.heap.size, 0, none⟩) 2 2)).lt all0))) (by simp)).less (Nat.le_refl _) (fun b hb => List.mem_cons_of_mem _ hb), (by have := LE.out; have := O5.out.le; have := le_takK toks ⟨#[93]⟩ k5; omega), ?_⟩
          exact ((AA.out.yes HQ.out).call O5.out).take.last
        case measure =>
          rw [RS.msr ((H6.out.set6 Xn_6.out ⟨5, ⟨#[]⟩, 0, false, (tk toks k).pos⟩ (.slice (some ⟨w6.heap.size, 0, none⟩) 2 2)).alloc _), Hr.out.msr]
          have := O5.out.le
          have := le_takK toks ⟨#[93]⟩ k5
          have := HN.out
          split <;> simp <;> omega
      have t0 := dec_no a0
      by_cases a1 : signAt toks k' = ⟨#[46]⟩
      · have t1 := dec_yes a1
        have t2 : decide (signAt toks k' = ⟨#[45, 62]⟩) = false := by rw [a1]; simp
        have HQ := hid' a1
        have HA0 := hid' a0
        have HN := hid' (hT.sign a1 (by simp))
        clear a1 a0
        go_wp2_with (first
          | (go_at_call 54; (with_reducible refine (next54 H5.out HN.out).mono ?_); rintro e w6 ⟨rfl, hk, hr⟩; have H6 := hid' hr; have K6 := hid' (K5.out.trans hk); have Xa_6 := hid' (Xa_5.out.kp H5.out hk); have Xn_6 := hid' (Xn_5.out.kp H5.out hk); have Tz_6 := hid' (Tz_5.out.kp H0.out.lt hk); obtain ⟨n6a, n6b, n6c, n6d, n6e, n6f, n6z, n6l⟩ := Xn_6.out.six; clear hk hr)
          | (go_at_call 42; (with_reducible refine (mark_b ⟨#[45, 62]⟩ _ hW rfl (by simp) t2 H4.out).mono ?_); rintro e w5 ⟨rfl, hb⟩; have H5 := hid' (H4.out.below hb); have K5 := hid' (K4.out.trans (Kp.of_below hb)); have Xa_5 := hid' (Xa_4.out.below hb); have Xn_5 := hid' (Xn_4.out.below hb); have Tz_5 := hid' (Tz_4.out.below hb); clear hb)
          | (go_at_call 42; (with_reducible refine (mark_b ⟨#[46]⟩ _ hW rfl (by simp) t1 H3.out).mono ?_); rintro e w4 ⟨rfl, hb⟩; have H4 := hid' (H3.out.below hb); have K4 := hid' (K3.out.trans (Kp.of_below hb)); have Xa_4 := hid' (Xa_3.out.below hb); have Xn_4 := hid' (Xn_3.out.below hb); have Tz_4 := hid' (Tz_3.out.below hb); clear hb)
          | (go_at_call 42; (with_reducible refine (mark_b ⟨#[91]⟩ _ hW rfl (by simp) t0 Hr.out).mono ?_); rintro e w3 ⟨rfl, hb⟩; have H3 := hid' (Hr.out.below hb); have K3 := hid' (Kr.out.trans (Kp.of_below hb)); have Xa_3 := hid' (Xa_r.out.below hb); have Xn_3 := hid' (Xn_r.out.below hb); have Tz_3 := hid' (Tz_r.out.below hb); clear hb))
        first
          | go_region_with (first
              | (go_at_call 44; (with_reducible refine (named44 hT (H6.out.drew)).mono ?_); rintro e w7 ⟨rfl, hk, hr⟩; have H7 := hid' hr; have K7 := hid' ((K6.out.drew).trans hk); have Xa_7 := hid' ((Xa_6.out.drew).kp (H6.out.drew) hk); have Xn_7 := hid' ((Xn_6.out.drew).kp (H6.out.drew) hk); have Tz_7 := hid' ((Tz_6.out.drew).kp H0.out.lt hk); obtain ⟨n7a, n7b, n7c, n7d, n7e, n7f, n7z, n7l⟩ := Xn_7.out.six; obtain ⟨a7a, a7b, a7c, a7d, a7e, a7f, a7z, a7l⟩ := Xa_7.out.six; clear hk hr)
              | (go_at_call 44; (with_reducible refine (named44 hT ((H6.out.alloc _).drew)).mono ?_); rintro e w7 ⟨rfl, hk, hr⟩; have H7 := hid' hr; have K7 := hid' (((K6.out.alloc _).drew).trans hk); have Xa_7 : Hid (Bx w7 (w.heap.size) ⟨0, ⟨#[]⟩, 0, false, 0⟩ (.slice none 0 0)) := hid' (((Xa_6.out.alloc _).drew).kp ((H6.out.alloc _).drew) hk); have Xn_7 : Hid (Bx w7 (w2.heap.size) ⟨kd, st, nu, fl, ps⟩ (.slice ao m cap)) := hid' (((Xn_6.out.alloc _).drew).kp ((H6.out.alloc _).drew) hk); have Tz_7 : Hid (Kb [w2.heap.size, w.heap.size] w.heap.size w7 (.slice ao m cap) ks) := hid' (((Tz_6.out.alloc _).drew).kp H0.out.lt hk); have Tr_7 : Hid (Kb [w2.heap.size, w.heap.size] w.heap.size w7 (.slice (some ⟨w6.heap.size, 0, none⟩) 1 1) [Tr.node ⟨kd, st, nu, fl, ps⟩ ks]) := hid' (((Kb.one (g := w6.heap.size) (x := ⟨kd, st, nu, fl, ps⟩) Tz_6.out K6.out.size (all_cons Xn_6.out.lt (all_cons Xa_6.out.lt all0)) (by simp)).drew).kp H0.out.lt hk); obtain ⟨n7a, n7b, n7c, n7d, n7e, n7f, n7z, n7l⟩ := Xn_7.out.six; obtain ⟨a7a, a7b, a7c, a7d, a7e, a7f, a7z, a7l⟩ := Xa_7.out.six; have MB : True := True.intro; clear hk hr))
          | fail
        all_goals
          go_wp2
          first
            | (have := MB
               go_roundw
               case rel =>
                 refine ⟨_, _, _, _, _, _, _, _, _, _, _, _, (H7.out.set6 Xn_7.out ⟨6, (namT toks (k' + 1)), 0, false, (tk toks k).pos⟩ (.slice (some ⟨w6.heap.size, 0, none⟩) 1 1)), (K7.out.set6 LBn.out ⟨6, (namT toks (k' + 1)), 0, false, (tk toks k).pos⟩ (.slice (some ⟨w6.heap.size, 0, none⟩) 1 1)), (Xa_7.out.off6 (Nat.ne_of_lt LTan.out) ⟨6, (namT toks (k' + 1)), 0, false, (tk toks k).pos⟩ (.slice (some ⟨w6.heap.size, 0, none⟩) 1 1)), (Xn_7.out.set6 ⟨6, (namT toks (k' + 1)), 0, false, (tk toks k).pos⟩ (.slice (some ⟨w6.heap.size, 0, none⟩) 1 1)), (Tr_7.out.set6 (by simp) ⟨6, (namT toks (k' + 1)), 0, false, (tk toks k).pos⟩ (.slice (some ⟨w6.heap.size, 0, none⟩) 1 1)), (by have := LE.out; have := le_namK toks (k' + 1); omega), ?_⟩
                 exact ((AA.out.not HA0.out).yes HQ.out).nam.last
               case measure =>
                 rw [RS.msr (H7.out.set6 Xn_7.out ⟨6, (namT toks (k' + 1)), 0, false, (tk toks k).pos⟩ (.slice (some ⟨w6.heap.size, 0, none⟩) 1 1)), Hr.out.msr]
                 have := le_namK toks (k' + 1)
                 have := HN.out
                 split <;> simp <;> omega)
            | (go_roundw
               case rel =>
                 refine ⟨_, _, _, _, _, _, _, _, _, _, _, _, ((H7.out.set6 Xn_7.out ⟨6, (namT toks (k' + 1)), 0, false, (tk toks k).pos⟩ (.slice (some ⟨w7.heap.size, 0, none⟩) 1 1)).alloc _), ((K7.out.set6 LBn.out ⟨6, (namT toks (k' + 1)), 0, false, (tk toks k).pos⟩ (.slice (some ⟨w7.heap.size, 0, none⟩) 1 1)).alloc _), ((Xa_7.out.off6 (Nat.ne_of_lt LTan.out) ⟨6, (namT toks (k' + 1)), 0, false, (tk toks k).pos⟩ (.slice (some ⟨w7.heap.size, 0, none⟩) 1 1)).alloc _), ((Xn_7.out.set6 ⟨6, (namT toks (k' + 1)), 0, false, (tk toks k).pos⟩ (.slice (some ⟨w7.heap.size, 0, none⟩) 1 1)).alloc _), (Kb.one (g := w7.heap.size) (x := ⟨kd, st, nu, fl, ps⟩) (Tz_7.out.set6 (by simp) ⟨6, (namT toks (k' + 1)), 0, false, (tk toks k).pos⟩ (.slice (some ⟨w7.heap.size, 0, none⟩) 1 1)) (K7.out.set6 LBn.out ⟨6, (namT toks (k' + 1)), 0, false, (tk toks k).pos⟩ (.slice (some ⟨w7.heap.size, 0, none⟩) 1 1)).size (all_cons (Xn_7.out.set6 ⟨6, (namT toks (k' + 1)), 0, false, (tk toks k).pos⟩ (.slice (some ⟨w7.heap.size, 0, none⟩) 1 1)).lt (all_cons (Xa_7.out.off6 (Nat.ne_of_lt LTan.out) ⟨6, (namT toks (k' + 1)), 0, false, (tk toks k).pos⟩ (.slice (some ⟨w7.heap.size, 0, none⟩) 1 1)).lt all0)) (by simp)), (by have := LE.out; have := le_namK toks (k' + 1); omega), ?_⟩
                 exact ((AA.out.not HA0.out).yes HQ.out).nam.last
               case measure =>
                 rw [RS.msr ((H7.out.set6 Xn_7.out ⟨6, (namT toks (k' + 1)), 0, false, (tk toks k).pos⟩ (.slice (some ⟨w7.heap.size, 0, none⟩) 1 1)).alloc _), Hr.out.msr]
                 have := le_namK toks (k' + 1)
                 have := HN.out
                 split <;> simp <;> omega)
      have t1 := dec_no a1
      by_cases a2 : signAt toks k' = ⟨#[45, 62]⟩
      · have t2 := dec_yes a2
        have HQ := hid' a2
        have HA0 := hid' a0
        have HA1 := hid' a1
        have HN := hid' (hT.sign a2 (by simp))
        clear a2 a1 a0
        go_wp2_with (first
          | (go_at_call 54; (with_reducible refine (next54 H6.out HN.out).mono ?_); rintro e w7 ⟨rfl, hk, hr⟩; have H7 := hid' hr; have K7 := hid' (K6.out.trans hk); have Xa_7 := hid' (Xa_6.out.kp H6.out hk); have Xn_7 := hid' (Xn_6.out.kp H6.out hk); have Tz_7 := hid' (Tz_6.out.kp H0.out.lt hk); obtain ⟨n7a, n7b, n7c, n7d, n7e, n7f, n7z, n7l⟩ := Xn_7.out.six; clear hk hr)
          | (go_at_call 42; (with_reducible refine (mark_b ⟨#[45, 62]⟩ _ hW rfl (by simp) t2 H5.out).mono ?_); rintro e w6 ⟨rfl, hb⟩; have H6 := hid' (H5.out.below hb); have K6 := hid' (K5.out.trans (Kp.of_below hb)); have Xa_6 := hid' (Xa_5.out.below hb); have Xn_6 := hid' (Xn_5.out.below hb); have Tz_6 := hid' (Tz_5.out.below hb); clear hb)
          | (go_at_call 42; (with_reducible refine (mark_b ⟨#[45, 62]⟩ _ hW rfl (by simp) t2 H4.out).mono ?_); rintro e w5 ⟨rfl, hb⟩; have H5 := hid' (H4.out.below hb); have K5 := hid' (K4.out.trans (Kp.of_below hb)); have Xa_5 := hid' (Xa_4.out.below hb); have Xn_5 := hid' (Xn_4.out.below hb); have Tz_5 := hid' (Tz_4.out.below hb); clear hb)
          | (go_at_call 42; (with_reducible refine (mark_b ⟨#[46]⟩ _ hW rfl (by simp) t1 H3.out).mono ?_); rintro e w4 ⟨rfl, hb⟩; have H4 := hid' (H3.out.below hb); have K4 := hid' (K3.out.trans (Kp.of_below hb)); have Xa_4 := hid' (Xa_3.out.below hb); have Xn_4 := hid' (Xn_3.out.below hb); have Tz_4 := hid' (Tz_3.out.below hb); clear hb)
          | (go_at_call 42; (with_reducible refine (mark_b ⟨#[91]⟩ _ hW rfl (by simp) t0 Hr.out).mono ?_); rintro e w3 ⟨rfl, hb⟩; have H3 := hid' (Hr.out.below hb); have K3 := hid' (Kr.out.trans (Kp.of_below hb)); have Xa_3 := hid' (Xa_r.out.below hb); have Xn_3 := hid' (Xn_r.out.below hb); have Tz_3 := hid' (Tz_r.out.below hb); clear hb))
        first
          | go_region_with (first
              | (go_at_call 44; (with_reducible refine (named44 hT (H7.out.drew)).mono ?_); rintro e w8 ⟨rfl, hk, hr⟩; have H8 := hid' hr; have K8 := hid' ((K7.out.drew).trans hk); have Xa_8 := hid' ((Xa_7.out.drew).kp (H7.out.drew) hk); have Xn_8 := hid' ((Xn_7.out.drew).kp (H7.out.drew) hk); have Tz_8 := hid' ((Tz_7.out.drew).kp H0.out.lt hk); obtain ⟨n8a, n8b, n8c, n8d, n8e, n8f, n8z, n8l⟩ := Xn_8.out.six; obtain ⟨a8a, a8b, a8c, a8d, a8e, a8f, a8z, a8l⟩ := Xa_8.out.six; clear hk hr)
              | (go_at_call 44; (with_reducible refine (named44 hT ((H7.out.alloc _).drew)).mono ?_); rintro e w8 ⟨rfl, hk, hr⟩; have H8 := hid' hr; have K8 := hid' (((K7.out.alloc _).drew).trans hk); have Xa_8 : Hid (Bx w8 (w.heap.size) ⟨0, ⟨#[]⟩, 0, false, 0⟩ (.slice none 0 0)) := hid' (((Xa_7.out.alloc _).drew).kp ((H7.out.alloc _).drew) hk); have Xn_8 : Hid (Bx w8 (w2.heap.size) ⟨kd, st, nu, fl, ps⟩ (.slice ao m cap)) := hid' (((Xn_7.out.alloc _).drew).kp ((H7.out.alloc _).drew) hk); have Tz_8 : Hid (Kb [w2.heap.size, w.heap.size] w.heap.size w8 (.slice ao m cap) ks) := hid' (((Tz_7.out.alloc _).drew).kp H0.out.lt hk); have Tr_8 : Hid (Kb [w2.heap.size, w.heap.size] w.heap.size w8 (.slice (some ⟨w7.heap.size, 0, none⟩) 1 1) [Tr.node ⟨kd, st, nu, fl, ps⟩ ks]) := hid' (((Kb.one (g := w7.heap.size) (x := ⟨kd, st, nu, fl, ps⟩) Tz_7.out K7.out.size (all_cons Xn_7.out.lt (all_cons Xa_7.out.lt all0)) (by simp)).drew).kp H0.out.lt hk); obtain ⟨n8a, n8b, n8c, n8d, n8e, n8f, n8z, n8l⟩ := Xn_8.out.six; obtain ⟨a8a, a8b, a8c, a8d, a8e, a8f, a8z, a8l⟩ := Xa_8.out.six; have MB : True := True.intro; clear hk hr))
          | fail
        all_goals
          go_wp2
          first
            | (have := MB
               go_roundw
               case rel =>
                 refine ⟨_, _, _, _, _, _, _, _, _, _, _, _, (H8.out.set6 Xn_8.out ⟨7, (namT toks (k' + 1)), 0, false, (tk toks k).pos⟩ (.slice (some ⟨w7.heap.size, 0, none⟩) 1 1)), (K8.out.set6 LBn.out ⟨7, (namT toks (k' + 1)), 0, false, (tk toks k).pos⟩ (.slice (some ⟨w7.heap.size, 0, none⟩) 1 1)), (Xa_8.out.off6 (Nat.ne_of_lt LTan.out) ⟨7, (namT toks (k' + 1)), 0, false, (tk toks k).pos⟩ (.slice (some ⟨w7.heap.size, 0, none⟩) 1 1)), (Xn_8.out.set6 ⟨7, (namT toks (k' + 1)), 0, false, (tk toks k).pos⟩ (.slice (some ⟨w7.heap.size, 0, none⟩) 1 1)), (Tr_8.out.set6 (by simp) ⟨7, (namT toks (k' + 1)), 0, false, (tk toks k).pos⟩ (.slice (some ⟨w7.heap.size, 0, none⟩) 1 1)), (by have := LE.out; have := le_namK toks (k' + 1); omega), ?_⟩
                 exact (((AA.out.not HA0.out).not HA1.out).yes HQ.out).nam.last
               case measure =>
                 rw [RS.msr (H8.out.set6 Xn_8.out ⟨7, (namT toks (k' + 1)), 0, false, (tk toks k).pos⟩ (.slice (some ⟨w7.heap.size, 0, none⟩) 1 1)), Hr.out.msr]
                 have := le_namK toks (k' + 1)
                 have := HN.out
                 split <;> simp <;> omega)
            | (go_roundw
               case rel =>
                 refine ⟨_, _, _, _, _, _, _, _, _, _, _, _, ((H8.out.set6 Xn_8.out ⟨7, (namT toks (k' + 1)), 0, false, (tk toks k).pos⟩ (.slice (some ⟨w8.heap.size, 0, none⟩) 1 1)).alloc _), ((K8.out.set6 LBn.out ⟨7, (namT toks (k' + 1)), 0, false, (tk toks k).pos⟩ (.slice (some ⟨w8.heap.size, 0, none⟩) 1 1)).alloc _), ((Xa_8.out.off6 (Nat.ne_of_lt LTan.out) ⟨7, (namT toks (k' + 1)), 0, false, (tk toks k).pos⟩ (.slice (some ⟨w8.heap.size, 0, none⟩) 1 1)).alloc _), ((Xn_8.out.set6 ⟨7, (namT toks (k' + 1)), 0, false, (tk toks k).pos⟩ (.slice (some ⟨w8.heap.size, 0, none⟩) 1 1)).alloc _), (Kb.one (g := w8.heap.size) (x := ⟨kd, st, nu, fl, ps⟩) (Tz_8.out.set6 (by simp) ⟨7, (namT toks (k' + 1)), 0, false, (tk toks k).pos⟩ (.slice (some ⟨w8.heap.size, 0, none⟩) 1 1)) (K8.out.set6 LBn.out ⟨7, (namT toks (k' + 1)), 0, false, (tk toks k).pos⟩ (.slice (some ⟨w8.heap.size, 0, none⟩) 1 1)).size (all_cons (Xn_8.out.set6 ⟨7, (namT toks (k' + 1)), 0, false, (tk toks k).pos⟩ (.slice (some ⟨w8.heap.size, 0, none⟩) 1 1)).lt (all_cons (Xa_8.out.off6 (Nat.ne_of_lt LTan.out) ⟨7, (namT toks (k' + 1)), 0, false, (tk toks k).pos⟩ (.slice (some ⟨w8.heap.size, 0, none⟩) 1 1)).lt all0)) (by simp)), (by have := LE.out; have := le_namK toks (k' + 1); omega), ?_⟩
                 exact (((AA.out.not HA0.out).not HA1.out).yes HQ.out).nam.last
               case measure =>
                 rw [RS.msr ((H8.out.set6 Xn_8.out ⟨7, (namT toks (k' + 1)), 0, false, (tk toks k).pos⟩ (.slice (some ⟨w8.heap.size, 0, none⟩) 1 1)).alloc _), Hr.out.msr]
                 have := le_namK toks (k' + 1)
                 have := HN.out
                 split <;> simp <;> omega)
      have t2 := dec_no a2
      have HA0 := hid' a0
      have HA1 := hid' a1
      have HA2 := hid' a2
      clear a0 a1 a2
      go_wp2_with (first
        | (go_at_call 42; (with_reducible refine (mark_b ⟨#[45, 62]⟩ _ hW rfl (by simp) t2 H4.out).mono ?_); rintro e w5 ⟨rfl, hb⟩; have H5 := hid' (H4.out.below hb); have K5 := hid' (K4.out.trans (Kp.of_below hb)); have Xa_5 := hid' (Xa_4.out.below hb); have Xn_5 := hid' (Xn_4.out.below hb); have Tz_5 := hid' (Tz_4.out.below hb); obtain ⟨a5a, a5b, a5c, a5d, a5e, a5f, a5z, a5l⟩ := Xa_5.out.six; obtain ⟨n5a, n5b, n5c, n5d, n5e, n5f, n5z, n5l⟩ := Xn_5.out.six; clear hb)
        | (go_at_call 42; (with_reducible refine (mark_b ⟨#[46]⟩ _ hW rfl (by simp) t1 H3.out).mono ?_); rintro e w4 ⟨rfl, hb⟩; have H4 := hid' (H3.out.below hb); have K4 := hid' (K3.out.trans (Kp.of_below hb)); have Xa_4 := hid' (Xa_3.out.below hb); have Xn_4 := hid' (Xn_3.out.below hb); have Tz_4 := hid' (Tz_3.out.below hb); clear hb)
        | (go_at_call 42; (with_reducible refine (mark_b ⟨#[91]⟩ _ hW rfl (by simp) t0 Hr.out).mono ?_); rintro e w3 ⟨rfl, hb⟩; have H3 := hid' (Hr.out.below hb); have K3 := hid' (Kr.out.trans (Kp.of_below hb)); have Xa_3 := hid' (Xa_r.out.below hb); have Xn_3 := hid' (Xn_r.out.below hb); have Tz_3 := hid' (Tz_r.out.below hb); clear hb))
      refine ret_bx (bx := w.heap.size) (x := ⟨kd, st, nu, fl, ps⟩) (kv := (.slice ao m cap)) (Xa_5.out.set6 ⟨kd, st, nu, fl, ps⟩ (.slice ao m cap)) (fun W c0 c1 c2 c3 c4 c5 => by simp [results, Tryz.results140, go_sem, c0, c1, c2, c3, c4, c5]) rfl ?_
      refine ⟨_, _, _, _, _, _, _, _, _, _, _, _, rfl, (K5.out.set6 (Nat.le_refl _) ⟨kd, st, nu, fl, ps⟩ (.slice ao m cap)), (H5.out.set6 Xa_5.out ⟨kd, st, nu, fl, ps⟩ (.slice ao m cap)), (Tz_5.out.set6 (by simp) ⟨kd, st, nu, fl, ps⟩ (.slice ao m cap)).to, ⟨LE.out, ?_⟩⟩
      exact ((AA.out.not HA0.out).not HA1.out).not HA2.out
end Go.Proofs.YtjeioblhpfogfaaGreatDoor
