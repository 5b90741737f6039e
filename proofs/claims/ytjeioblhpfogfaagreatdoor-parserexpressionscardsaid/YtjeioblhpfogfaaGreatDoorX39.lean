/- The document's parser: lists. -/
import Derived.Test.YtjeioblhpfogfaaGreatDoorX30
import Derived.Test.YtjeioblhpfogfaaGreatDoorX32
import Derived.Test.YtjeioblhpfogfaaGreatDoorX33
import Derived.Test.YtjeioblhpfogfaaGreatDoorX34
import Derived.Test.YtjeioblhpfogfaaGreatDoorX35
import Derived.Test.YtjeioblhpfogfaaGreatDoorX38
set_option linter.unusedVariables false
set_option linter.unusedSimpArgs false
set_option maxRecDepth 20000
set_option maxHeartbeats 8000000
namespace Go.Proofs.YtjeioblhpfogfaaGreatDoor
open Go.RowKit

theorem em3 (toks : List Tk) (k : Nat) (en : ByteArray) : (decide (signAt toks k = en) = true) ∨ (decide (signAt toks k = en) = false ∧ decide (signAt toks (takK toks ⟨#[44]⟩ k) = en) = true) ∨ (decide (signAt toks k = en) = false ∧ decide (signAt toks (takK toks ⟨#[44]⟩ k) = en) = false) := by
  by_cases h : signAt toks k = en
  · exact .inl (dec_yes h)
  · by_cases h2 : signAt toks (takK toks ⟨#[44]⟩ k) = en
    · exact .inr (.inl ⟨dec_no h, dec_yes h2⟩)
    · exact .inr (.inr ⟨dec_no h, dec_no h2⟩)
theorem RS.grown {w w' : World} {p k : Nat} {toks : List Tk} {tv : Value} {b : Bool} {q : Int} {L : List Nat} {B : Nat} {v : Value} {cs : List Nc} (h : RS w p toks tv k b q) (ho : OwN L B w v cs) (hg : w.grownBy w' v.ownBlock) : RS w' p toks tv k b q := by
  refine ⟨?_, own_grown h.tok ho.row (by decide) hg, h.at_, h.few⟩
  rw [hg.block p (lt_of_heap h.head) (fun e => by
    obtain ⟨_, cs', f, e1⟩ := own_type ho.row p e.symm
    rw [h.head] at e1
    cases e1)]
  exact h.head
theorem Kp.grown {p : Nat} {W w w' : World} {L : List Nat} {v : Value} {cs : List Nc} (h : Kp p W w) (ho : OwN L W.heap.size w v cs) (hg : w.grownBy w' v.ownBlock) : Kp p W w' := Kept.grown h hg (fun k e hk => absurd hk (by have := (own_type ho.row k e).1; omega))
/-- No list goes on with its end. -/
theorem mark_kd {toks : List Tk} {k : Nat} {sx : ByteArray} (h : signAt toks k = sx) (hs : ¬ sx = ⟨#[]⟩) : ((tk toks k).kind = 4 ∨ (tk toks k).kind = 3) ∧ (tk toks k).text = sx := by
  unfold signAt at h
  unfold tk
  cases e : toks[k]? with
  | none => rw [e] at h; exact absurd h.symm hs
  | some t =>
    rw [e] at h
    simp only at h
    split at h
    · rename_i hk
      exact ⟨hk, h⟩
    · exact absurd h.symm hs
theorem items_bad {toks : List Tk} {k : Nat} {en : ByteArray} (acc : List Tr) (hen : en = ⟨#[41]⟩ ∨ en = ⟨#[125]⟩) (h : signAt toks k = en) : Red toks (body toks (.items en acc) k) (.wrong toks k) := by
  have h0 : ¬ en = ⟨#[]⟩ := by rcases hen with rfl | rfl <;> simp
  obtain ⟨hk, ht⟩ := mark_kd h h0
  have hu : body toks .un k = .call .post k .back := by
    rw [body_un, h, if_neg (by rcases hen with rfl | rfl <;> simp), if_neg (by rcases hen with rfl | rfl <;> simp), if_neg (by rcases hen with rfl | rfl <;> simp)]
  have hpm : body toks .prim k = .wrong toks k := by
    rw [body_prim, h, ht, if_neg (by rcases hen with rfl | rfl <;> simp), if_neg (by omega), if_neg (by omega), if_neg (by omega), if_neg (by omega), if_neg (by rcases hen with rfl | rfl <;> simp)]
  refine Red.wrong (c := .expr) (Red.wrong (c := .cond) (Red.wrong (c := .bin 2) (Red.wrong (c := .un) ?_)))
  rw [hu]
  refine Red.wrong (c := .post) (Red.wrong (c := .prim) ?_)
  rw [hpm]
  exact Red.rfl
theorem list127 {w : World} {p k : Nat} {toks : List Tk} {tv : Value} {b : Bool} {q : Int} {en : ByteArray} (hW : TokW toks) (hT : TokOk toks) (hen : en = ⟨#[41]⟩ ∨ en = ⟨#[125]⟩) {N : Nat} (ih : EH N p toks tv) (hN : (toks.length - k) * 8 + 7 ≤ N) (h : RS w p toks tv k b q) :
    Calls Tryz.prog 127 #[.pointer (some ⟨p, 0, none⟩), .string en] w (RL p toks tv en k b q w) := by
  have H0 := hid' h
  have K0 := hid' (Kp.rfl p w)
  have hlow : lowB en = false := by rcases hen with rfl | rfl <;> rfl
  have hne0 : ¬ en = ⟨#[]⟩ := by rcases hen with rfl | rfl <;> simp
  have hcom : ¬ (⟨#[44]⟩ : ByteArray) = en := by rcases hen with rfl | rfl <;> simp
  have HEN : Hid (lowB en = false ∧ (¬ en = ⟨#[]⟩) ∧ (¬ (⟨#[44]⟩ : ByteArray) = en) ∧ (en = ⟨#[41]⟩ ∨ en = ⟨#[125]⟩)) := hid' ⟨hlow, hne0, hcom, hen⟩
  have HI : Hid (∀ j, k ≤ j → (toks.length - j) * 8 + 6 < N) := fun j hj => by have := h.at_; omega
  have hfew := h.few
  obtain ⟨i25, hi, hz0, hz1, hz2⟩ := info_parts info25
  obtain ⟨r0a, r0b, r0c, r0d, r0l⟩ := h.cells
  have HK0 := hid' h.at_
  clear h hlow hne0 hcom hen
  go_enter Tryz.func127, Tryz.ntmps127
  go_wp2_with fail
  go_loopw [5] (fun v wr => ∃ (cs : List Nc) (k' : Nat) (b' : Bool) (q' : Int), RS wr p toks tv k' b' q' ∧ Kp p w wr ∧ OwN [] w.heap.size wr v cs ∧ k ≤ k' ∧ (cs.length ≤ k' + 1 ∧ (b' = false → cs.length ≤ k')) ∧ ((cs = [] ∧ k' = k ∧ b' = b ∧ q' = q) ∨ (b = false ∧ ¬ signAt toks k = en ∧ (b' = false → ¬ signAt toks k' = en) ∧ At toks b q (body toks (.items en []) k) b' q' (body toks (.items en (ncT cs)) k')))) (fun _ wr => msr p toks wr)
  case atStart => exact ⟨[], k, b, q, H0.out, K0.out, OwN.nil _ _ _, Nat.le_refl _, ⟨Nat.zero_le _, fun _ => Nat.zero_le _⟩, .inl ⟨rfl, rfl, rfl, rfl⟩⟩
  case round =>
    obtain ⟨cs, k', b', q', hR, hKp, hOw, hle, hcl, hJ⟩ := hrel
    have Hr := hid' hR
    have Kr := hid' hKp
    have OW := hid' hOw
    have LE := hid' hle
    have JJ := hid' hJ
    have hcl2 : cs.length ≤ 1000001 := by have := hR.at_; have := hcl.1; omega
    have CL := hid' hcl
    clear hcl
    obtain ⟨rra, rrb, rrc, rrd, rrl⟩ := hR.cells
    obtain ⟨lo, lc, hlv⟩ := own_shape hOw.row
    subst hlv
    clear hR hKp hOw hle hJ
    -- the end: behind the loop
    cases b' with
    | true =>
      go_wp2_with (first
        | (go_at_call 80; (with_reducible refine (take80 en hW hT HEN.out.1 HEN.out.2.1 Hr.out).mono ?_); rintro e w1 ⟨rfl, hk, hr⟩; have H1 := hid' hr; have K1 := hid' (Kr.out.trans hk); have O1 := hid' (OW.out.kp H0.out.lt hk); clear hk hr))
      go_ret
      refine ⟨_, _, _, ncT cs, _, _, _, rfl, K1.out, H1.out, O1.out.to.to, (by have := LE.out; have := le_takK toks en k'; omega), fun b0 q0 g0 f A => ?_⟩
      have hb1 : takB toks en k' true = true := by unfold takB; split <;> rfl
      have hq1 : takQ toks en k' true q' = q' := by
        unfold takQ noQ
        split
        · rfl
        · rw [if_pos rfl]
      rw [hb1, hq1]
      rcases JJ.out with ⟨_, _, e3, e4⟩ | ⟨e1, e2, _, hA⟩
      · rw [e4]
        rw [← e3] at A
        exact A.any
      · subst e1
        rw [if_neg e2] at A
        have o : OutD toks (.items en []) k false q k' true q' [] := ⟨LE.out, hA.any⟩
        exact ((A.call o).any : At toks b0 q0 g0 true q' (f (ncT cs) (takK toks en k')))
    | false =>
      by_cases a0 : signAt toks k' = en
      · -- the mark at once
        have t0 := dec_yes a0
        have HA0 := hid' a0
        clear a0
        go_wp2_with (first
          | (go_at_call 80; (with_reducible refine (take80 en hW hT HEN.out.1 HEN.out.2.1 H1.out).mono ?_); rintro e w2 ⟨rfl, hk, hr⟩; have H2 := hid' hr; have K2 := hid' (K1.out.trans hk); have O2 := hid' (O1.out.kp H0.out.lt hk); clear hk hr)
          | (go_at_call 42; (with_reducible refine (mark_b en _ hW HEN.out.1 HEN.out.2.1 t0 Hr.out).mono ?_); rintro e w1 ⟨rfl, hb⟩; have H1 := hid' (Hr.out.below hb); have K1 := hid' (Kr.out.trans (Kp.of_below hb)); have O1 := hid' (OW.out.below hb); clear hb))
        go_ret
        refine ⟨_, _, _, ncT cs, _, _, _, rfl, K2.out, H2.out, O2.out.to.to, (by have := LE.out; have := le_takK toks en k'; omega), fun b0 q0 g0 f A => ?_⟩
        rcases JJ.out with ⟨e1, e2, e3, e4⟩ | ⟨_, _, e3, _⟩
        · have hk1 : takK toks en k' = k' + 1 := by unfold takK; rw [if_pos HA0.out]
          have hb1 : takB toks en k' false = false := by unfold takB; rw [if_pos HA0.out]
          have hq1 : takQ toks en k' false q' = q' := by unfold takQ; rw [if_pos HA0.out]
          rw [hk1, hb1, hq1, e1, e3, e4, e2]
          rw [← e2] at A
          rw [← e2]
          exact A.yes HA0.out
        · exact absurd HA0.out (e3 (by simp))
      · have t0 := dec_no a0
        have HA0 := hid' a0
        have HJ : Hid (b = false ∧ ¬ signAt toks k = en ∧ At toks b q (body toks (.items en []) k) false q' (body toks (.items en (ncT cs)) k')) := by
          rcases JJ.out with ⟨e1, e2, e3, e4⟩ | ⟨e1, e2, _, hA⟩
          · refine ⟨e3.symm, by rw [← e2]; exact a0, ?_⟩
            rw [e1, e2, e3, e4]
            exact At.rfl
          · exact ⟨e1, e2, hA⟩
        clear a0 JJ
        go_wp2_with (first
          | (refine wpList_append_own_at _ rfl (.tmp 17) (.tmp 20) 23 rfl w.heap.size 25 i25 (.agg #[.int .i64 0, .string ⟨#[]⟩, .int .u32 0, .bool false, .slice none 0 0, .int .i64 0]) 6 64 Tryz.underlying23 hi hz0 hz1 hz2 rfl (by decide) (.slice lo cs.length lc) cs.length (ncC cs) (by simp [Act.eval]) (O2.out.alloc _).row ⟨w2.heap.size, 0, none⟩ 1 1 [.int .i64 kd2, .string st2, .int .u32 nu2, .bool fl2, .slice ao2 m2 cap2, .int .i64 ps2] (by simp [Act.eval]) rfl (cells6' (by simp [go_sem]) (by simp [go_sem]) (by simp [go_sem]) (by simp [go_sem]) (by simp [go_sem]) (by simp [go_sem])) (fun u hu => by simp at hu; rcases hu with rfl | rfl | rfl | rfl | rfl | rfl <;> rfl) (by unfold maxLen; omega) (by omega) (by have := K2.out.size; simp; omega) ?_; intro v' w3 hown2 hgrow _ hloc; have O3 := hid' ((O2.out.alloc _).push (x := ⟨kd2, st2, nu2, fl2, ps2⟩) (T2.out.alloc _) (by have := SZ2.out; simp; omega) K1.out.size (fun b hb => by cases hb) O1.out.lt hown2 hgrow hloc); have H3 := hid' ((H2.out.alloc _).grown (O2.out.alloc _) hgrow); have K3 := hid' ((K2.out.alloc _).grown (O2.out.alloc _) hgrow); obtain ⟨lo3, lc3, hlv3⟩ := own_shape hown2; subst hlv3; clear hown2 hgrow hloc; rcases em3 toks k2 en with t1 | ⟨t1, t2⟩ | ⟨t1, t2⟩)
          | (go_at_call 47; (with_reducible refine (no47 H6.out).mono ?_); rintro e w7 ⟨rfl, hk, hr⟩; have H7 := hid' hr; have K7 := hid' (K6.out.trans hk); have O7 := hid' (O6.out.kp H0.out.lt hk); clear hk hr)
          | (go_at_call 42; (with_reducible refine (mark_b en _ hW HEN.out.1 HEN.out.2.1 t2 H5.out).mono ?_); rintro e w6 ⟨rfl, hb⟩; have H6 := hid' (H5.out.below hb); have K6 := hid' (K5.out.trans (Kp.of_below hb)); have O6 := hid' (O5.out.below hb); clear hb)
          | (go_at_call 80; (with_reducible refine (take80 en hW hT HEN.out.1 HEN.out.2.1 H4.out).mono ?_); rintro e w5 ⟨rfl, hk, hr⟩; have H5 := hid' hr; have K5 := hid' (K4.out.trans hk); have O5 := hid' (O4.out.kp H0.out.lt hk); clear hk hr)
          | (go_at_call 80; (with_reducible refine (take80 ⟨#[44]⟩ hW hT rfl (by simp) H4.out).mono ?_); rintro e w5 ⟨rfl, hk, hr⟩; have H5 := hid' hr; have K5 := hid' (K4.out.trans hk); have O5 := hid' (O4.out.kp H0.out.lt hk); clear hk hr)
          | (go_at_call 42; (with_reducible refine (mark_b en _ hW HEN.out.1 HEN.out.2.1 t1 H3.out).mono ?_); rintro e w4 ⟨rfl, hb⟩; have H4 := hid' (H3.out.below hb); have K4 := hid' (K3.out.trans (Kp.of_below hb)); have O4 := hid' (O3.out.below hb); clear hb)
          | (go_at_call 25; (with_reducible refine (ih.ex (HI.out _ LE.out) H1.out).mono ?_); rintro e w2 ⟨kd2, st2, nu2, fl2, ao2, m2, cap2, ps2, ks2, k2, b2, q2, rfl, hk, hr, hT2, ho⟩; have H2 := hid' hr; have K2 := hid' (K1.out.trans hk); have T2 := hid' hT2; have OUT2 := hid' ho; have O2 := hid' (O1.out.kp H0.out.lt hk); have SZ2 : Hid (w1.heap.size ≤ w2.heap.size) := hid' hk.size; clear hk hr hT2 ho)
          | (go_at_call 42; (with_reducible refine (mark_b en _ hW HEN.out.1 HEN.out.2.1 t0 Hr.out).mono ?_); rintro e w1 ⟨rfl, hb⟩; have H1 := hid' (Hr.out.below hb); have K1 := hid' (Kr.out.trans (Kp.of_below hb)); have O1 := hid' (OW.out.below hb); clear hb))
        all_goals
          have A2 : At toks b q (body toks (.items en []) k) b2 q2 (if signAt toks k2 = ⟨#[44]⟩ then .call (.items en (ncT (cs ++ [⟨⟨kd2, st2, nu2, fl2, ps2⟩, .slice ao2 m2 cap2, ks2⟩]))) (k2 + 1) .back else eat toks en k2 fun k2 => .back (ncT (cs ++ [⟨⟨kd2, st2, nu2, fl2, ps2⟩, .slice ao2 m2 cap2, ks2⟩])) k2) := by
            have A1 := HJ.out.2.2
            rw [body_items] at A1
            have A2 := A1.call OUT2.out
            rw [ncT_snoc]
            exact A2
          have HA2 := hid' A2
          clear A2
        · go_ret
          have hq1 : signAt toks k2 = en := by simpa using t1
          have A3 := (HA2.out.not (fun e => HEN.out.2.2.1 (by rw [← e, hq1]))).take
          refine ⟨_, _, _, ncT (cs ++ [⟨⟨kd2, st2, nu2, fl2, ps2⟩, .slice ao2 m2 cap2, ks2⟩]), _, _, _, rfl, K5.out, H5.out, O5.out.to.to, (by have := LE.out; have := OUT2.out.le; have := le_takK toks en k2; omega), fun b0 q0 g0 f A => ?_⟩
          have o : OutD toks (.items en []) k b q (takK toks en k2) (takB toks en k2 b2) (takQ toks en k2 b2 q2) (ncT (cs ++ [⟨⟨kd2, st2, nu2, fl2, ps2⟩, .slice ao2 m2 cap2, ks2⟩])) := ⟨(by have := LE.out; have := OUT2.out.le; have := le_takK toks en k2; omega), A3⟩
          exact (A.not HJ.out.2.1).call o
        · go_roundw
          case rel =>
            have hq1 : ¬ signAt toks k2 = en := by simpa using t1
            have hq2 : signAt toks (takK toks ⟨#[44]⟩ k2) = en := by simpa using t2
            have hsg : signAt toks k2 = ⟨#[44]⟩ := Classical.byContradiction fun hn => hq1 (by
              unfold takK at hq2
              rw [if_neg hn] at hq2
              exact hq2)
            refine ⟨cs ++ [⟨⟨kd2, st2, nu2, fl2, ps2⟩, .slice ao2 m2 cap2, ks2⟩], _, _, _, H7.out, K7.out, (by simpa using O7.out), (by have := LE.out; have := OUT2.out.le; have := le_takK toks ⟨#[44]⟩ k2; omega), ⟨(by have := CL.out.2 (by simp); have := OUT2.out.le; have := le_takK toks ⟨#[44]⟩ k2; simp; omega), fun e => by cases e⟩, .inr ⟨HJ.out.1, HJ.out.2.1, fun e => (by cases e), ?_⟩⟩
            have hk3 : takK toks ⟨#[44]⟩ k2 = k2 + 1 := by unfold takK; rw [if_pos hsg]
            have hb3 : takB toks ⟨#[44]⟩ k2 b2 = b2 := by unfold takB; rw [if_pos hsg]
            have hq3 : takQ toks ⟨#[44]⟩ k2 b2 q2 = q2 := by unfold takQ; rw [if_pos hsg]
            rw [hk3] at hq2
            rw [hk3, hb3, hq3]
            exact ((HA2.out.yes hsg).last.red (items_bad _ HEN.out.2.2.2 hq2)).no
          case measure =>
            rw [RS.msr H7.out, Hr.out.msr]
            have := OUT2.out.le
            have := le_takK toks ⟨#[44]⟩ k2
            simp
            omega
        · go_roundw
          case rel =>
            have hq1 : ¬ signAt toks k2 = en := by simpa using t1
            have hq2 : ¬ signAt toks (takK toks ⟨#[44]⟩ k2) = en := by simpa using t2
            have hon : takB toks ⟨#[44]⟩ k2 b2 = false → k' + 1 ≤ takK toks ⟨#[44]⟩ k2 := fun e => by
              have h1 := le_takK toks ⟨#[44]⟩ k2
              have h2 : b2 = false := by
                unfold takB at e
                split at e
                · exact e
                · cases e
              have h3 := OUT2.out.on hT trivial Hr.out.at_ h2
              dsimp only [loP] at h3
              omega
            refine ⟨cs ++ [⟨⟨kd2, st2, nu2, fl2, ps2⟩, .slice ao2 m2 cap2, ks2⟩], _, _, _, H6.out, K6.out, (by simpa using O6.out), (by have := LE.out; have := OUT2.out.le; have := le_takK toks ⟨#[44]⟩ k2; omega), ⟨(by have := CL.out.2 (by simp); have := OUT2.out.le; have := le_takK toks ⟨#[44]⟩ k2; simp; omega), fun e => (by have := CL.out.2 (by simp); have := hon e; simp; omega)⟩, .inr ⟨HJ.out.1, HJ.out.2.1, fun _ => hq2, ?_⟩⟩
            by_cases hsg : signAt toks k2 = ⟨#[44]⟩
            · have hk3 : takK toks ⟨#[44]⟩ k2 = k2 + 1 := by unfold takK; rw [if_pos hsg]
              have hb3 : takB toks ⟨#[44]⟩ k2 b2 = b2 := by unfold takB; rw [if_pos hsg]
              have hq3 : takQ toks ⟨#[44]⟩ k2 b2 q2 = q2 := by unfold takQ; rw [if_pos hsg]
              rw [hk3, hb3, hq3]
              exact (HA2.out.yes hsg).last
            · have hb3 : takB toks ⟨#[44]⟩ k2 b2 = true := by unfold takB; rw [if_neg hsg]
              have hq3 : takQ toks ⟨#[44]⟩ k2 b2 q2 = noQ toks k2 b2 q2 := by unfold takQ; rw [if_neg hsg]
              rw [hb3, hq3]
              have A3 := HA2.out.not hsg
              unfold eat at A3
              exact (A3.not hq1).no
          case measure =>
            have hon : takB toks ⟨#[44]⟩ k2 b2 = false → k' + 1 ≤ takK toks ⟨#[44]⟩ k2 := fun e => by
              have h1 := le_takK toks ⟨#[44]⟩ k2
              have h2 : b2 = false := by
                unfold takB at e
                split at e
                · exact e
                · cases e
              have h3 := OUT2.out.on hT trivial Hr.out.at_ h2
              dsimp only [loP] at h3
              omega
            rw [RS.msr H6.out, Hr.out.msr]
            have := OUT2.out.le
            have := le_takK toks ⟨#[44]⟩ k2
            have := H6.out.at_
            cases hbb : takB toks ⟨#[44]⟩ k2 b2 with
            | true => simp; omega
            | false =>
              have := hon hbb
              simp
              omega
end Go.Proofs.YtjeioblhpfogfaaGreatDoor
namespace Go.Proofs.YtjeioblhpfogfaaGreatDoor
open Go.RowKit

theorem unary94 {w : World} {p k : Nat} {toks : List Tk} {tv : Value} {b : Bool} {q : Int} (hW : TokW toks) (hT : TokOk toks) {N : Nat} (ih : EH N p toks tv) (hN : (toks.length - k) * 8 + 4 ≤ N) (h : RS w p toks tv k b q) :
    Calls Tryz.prog 94 #[.pointer (some ⟨p, 0, none⟩)] w (RP p toks tv .un k b q w) := by
  by_cases a0 : signAt toks k = ⟨#[45]⟩
  · exact unary94_m0 hW hT (dec_yes a0) ih hN h
  by_cases a1 : signAt toks k = ⟨#[126]⟩
  · exact unary94_m1 hW hT (dec_no a0) (dec_yes a1) ih hN h
  by_cases a2 : signAt toks k = ⟨#[33]⟩
  · exact unary94_m2 hW hT (dec_no a0) (dec_no a1) (dec_yes a2) ih hN h
  by_cases a3 : signAt toks k = ⟨#[38]⟩
  · exact unary94_m3 hW hT (dec_no a0) (dec_no a1) (dec_no a2) (dec_yes a3) ih hN h
  cases hc : castB toks k with
  | true => exact unary94_c hW hT (dec_no a0) (dec_no a1) (dec_no a2) (dec_no a3) hc ih hN h
  | false =>
    by_cases a4 : signAt toks k = ⟨#[115, 105, 122, 101, 111, 102]⟩
    · cases hc2 : castB toks (k + 1) with
      | true => exact unary94_st hW hT (dec_no a0) (dec_no a1) (dec_no a2) (dec_no a3) hc (dec_yes a4) hc2 ih hN h
      | false => exact unary94_se hW hT (dec_no a0) (dec_no a1) (dec_no a2) (dec_no a3) hc (dec_yes a4) hc2 ih hN h
    · exact unary94_p hW hT (dec_no a0) (dec_no a1) (dec_no a2) (dec_no a3) hc (dec_no a4) ih hN h
theorem primary196 {w : World} {p k : Nat} {toks : List Tk} {tv : Value} {b : Bool} {q : Int} (hW : TokW toks) (hT : TokOk toks) {N : Nat} (ih : EH N p toks tv) (hN : (toks.length - k) * 8 + 2 ≤ N) (h : RS w p toks tv k b q) :
    Calls Tryz.prog 196 #[.pointer (some ⟨p, 0, none⟩)] w (RP p toks tv .prim k b q w) := by
  have hca : k + 1 < toks.length → ∀ {w : World}, RS w p toks tv k b q → Calls Tryz.prog 232 #[.pointer (some ⟨p, 0, none⟩)] w (RC p toks tv k b q w) := fun hn w h => called232 hW hT hn ih (by omega) h
  have hkd := hW.kds k
  have hnx : ¬ (tk toks k).kind = 1 → k + 1 < toks.length := hT.next _ h.at_
  cases hx : tk toks k with
  | mk kd tx nm un ps fi =>
    have hxk : (tk toks k).kind = kd := by rw [hx]
    have hxt : (tk toks k).text = tx := by rw [hx]
    rw [hxk] at hkd hnx
    have hsg : ∀ s : ByteArray, lowB s = true → ¬ kd = 3 → decide (signAt toks k = s) = false := fun s hs h3 => dec_no fun e => h3 (by rw [← hxk]; exact ((word_sign hW h.at_ hs).2 e).1)
    have hsm : ¬ kd = 4 → decide (signAt toks k = ⟨#[40]⟩) = false := fun h4 => dec_no fun e => h4 (by rw [← hxk]; exact ((mark_sign hW h.at_ rfl (by simp)).2 e).1)
    by_cases e5 : kd = 5
    · subst e5
      exact primary196_num hW hT hx h
    by_cases e6 : kd = 6
    · subst e6
      exact primary196_chr hW hT hx h
    by_cases e7 : kd = 7
    · subst e7
      exact primary196_str hW hT hx h
    by_cases e2 : kd = 2
    · subst e2
      have hn := hnx (by decide)
      cases hy : tk toks (k + 1) with
      | mk kd2 ty nm2 un2 ps2 fi2 =>
        by_cases h4 : kd2 = 4
        · subst h4
          by_cases hty : ty = ⟨#[40]⟩
          · subst hty
            exact primary196_nc hW hT hx (hsg _ rfl (by decide)) (hsg _ rfl (by decide)) hy (hca hn) h
          · exact primary196_n4 hW hT hx (hsg _ rfl (by decide)) (hsg _ rfl (by decide)) hy (toList_ne' hty) (fun e => hty (by have := ((mark_sign hW hn rfl (by simp)).2 e).2; rw [hy] at this; exact this)) h
        · exact primary196_nn hW hT hx (hsg _ rfl (by decide)) (hsg _ rfl (by decide)) hy (by simpa using h4) (fun e => h4 (by have := ((mark_sign hW hn rfl (by simp)).2 e).1; rw [hy] at this; exact this)) h
    have hno : ∀ (t0 : decide (signAt toks k = ⟨#[103, 101, 116, 98, 121, 116, 101]⟩) = false) (t1 : decide (signAt toks k = ⟨#[112, 117, 116, 98, 121, 116, 101]⟩) = false) (t2 : decide (signAt toks k = ⟨#[40]⟩) = false), Calls Tryz.prog 196 #[.pointer (some ⟨p, 0, none⟩)] w (RP p toks tv .prim k b q w) := fun t0 t1 t2 =>
      primary196_no hW hT hx (by simpa using e5) (by simpa using e6) (by simpa using e7) (by simpa using e2) t0 t1 t2 (fun e => by
        have h134 : kd = 1 ∨ kd = 3 ∨ kd = 4 := by omega
        rcases h134 with h1 | h3 | h4
        · have := hW.en k (by rw [hxk]; exact h1)
          rw [hxt] at this
          rw [this] at e
          rcases e with e | e <;> simp at e
        · rcases e with e | e
          · have h1 := (word_sign (s := ⟨#[103, 101, 116, 98, 121, 116, 101]⟩) hW h.at_ rfl).1 ⟨by rw [hxk]; exact h3, by rw [hxt]; exact e⟩
            simp [h1] at t0
          · have h1 := (word_sign (s := ⟨#[112, 117, 116, 98, 121, 116, 101]⟩) hW h.at_ rfl).1 ⟨by rw [hxk]; exact h3, by rw [hxt]; exact e⟩
            simp [h1] at t1
        · have := hW.mrk k (by rw [hxk]; exact h4)
          rw [hxt] at this
          rcases e with e | e <;> rw [e] at this <;> cases this) h
    by_cases e3 : kd = 3
    · subst e3
      by_cases g0 : signAt toks k = ⟨#[103, 101, 116, 98, 121, 116, 101]⟩
      · exact primary196_get hW hT hx (dec_yes g0) ih (hca (hnx (by decide))) h
      by_cases g1 : signAt toks k = ⟨#[112, 117, 116, 98, 121, 116, 101]⟩
      · exact primary196_put hW hT hx (dec_no g0) (dec_yes g1) ih (hca (hnx (by decide))) h
      exact hno (dec_no g0) (dec_no g1) (hsm (by decide))
    by_cases e4 : kd = 4
    · subst e4
      by_cases g0 : signAt toks k = ⟨#[40]⟩
      · exact primary196_par hW hT hx (hsg _ rfl (by decide)) (hsg _ rfl (by decide)) (dec_yes g0) ih hN h
      · exact hno (hsg _ rfl (by decide)) (hsg _ rfl (by decide)) (dec_no g0)
    exact hno (hsg _ rfl e3) (hsg _ rfl e3) (hsm e4)
theorem eh {p : Nat} {toks : List Tk} {tv : Value} (hW : TokW toks) (hT : TokOk toks) (N : Nat) : EH N p toks tv := by
  induction N with
  | zero => exact ⟨fun h => by omega, fun h => by omega, fun _ _ h => by omega, fun h => by omega, fun h => by omega, fun _ _ _ h => by omega, fun _ h => by omega⟩
  | succ N ih =>
    refine ⟨fun hm h => ?_, fun hm h => ?_, fun h1 h2 hm h => ?_, fun hm h => ?_, fun hm h => ?_, fun hp hB hK hm h => ?_, fun he hm h => ?_⟩
    · exact expr25 hW hT ih (by omega) h
    · exact unary94 hW hT ih (by omega) h
    · exact binary51 hW hT h1 h2 ih (by omega) h
    · exact postfix140 hW hT ih (by omega) h
    · exact primary196 hW hT ih (by omega) h
    · rename_i w k b q B0 kd st nu fl ao m cap ps fr ks
      cases b with
      | true => exact chosen50_bad (b := true) hW hT hp hB hK h
      | false =>
        by_cases a : signAt toks k = ⟨#[63]⟩
        · exact chosen50_yes (b := true) hW hT hp hB hK (dec_yes a) ih (by omega) h
        · exact chosen50_no (b := true) hW hT hp hB hK (dec_no a) h
    · exact list127 hW hT he ih (by omega) h
end Go.Proofs.YtjeioblhpfogfaaGreatDoor
