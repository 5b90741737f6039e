/- Steps: a program; initial values; operators whose last operand was read. -/
import Derived.Test.YtjeioblhpfogfaaGreatDoorX21
import Derived.Test.YtjeioblhpfogfaaGreatDoorX22
set_option linter.unusedVariables false
set_option linter.unusedSimpArgs false
set_option maxRecDepth 20000
set_option maxHeartbeats 8000000
namespace Go.Proofs.YtjeioblhpfogfaaGreatDoor
open Go.RowKit

theorem program20 {W : World} {B p : Nat} {toks : List Tk} {s : St} (h : RdS W B p toks s) (hf : Fine toks s) :
    Calls Tryz.prog 20 #[.pointer (some ⟨p, 0, none⟩)] W (Res B p toks W (.ok { s with todo := 39 :: 40 :: s.todo, begun := ⟨⟨40, ⟨#[]⟩, 0, false, 0⟩, 0, 0⟩ :: s.begun })) := by
  obtain ⟨tv, ov, bv, dv, kvs, h⟩ := h
  obtain ⟨c0, c1, c2, c3, c4, hp⟩ := h.cells
  have f3 := h.frz 3
  obtain ⟨i68, hi, hz0, hz1, hz2⟩ := info_parts info68
  have HR := hid' h
  have HF := hid' hf
  have HY : Hid ((W.alloc (.cells #[.int .i64 40, .string ⟨#[]⟩, .int .u32 0, .bool false, .slice none 0 0, .int .i64 0, .int .i64 0, .int .i64 0] 68)).ownsRow B 68 8 bv s.begun.length (bgsC s.begun.reverse)) := World.ownsRow.alloc h.begun _
  have HLB : Hid (B ≤ W.heap.size) := by
    have := h.low
    show _ ≤ _
    omega
  have hbB : s.begun.length ≤ 100000000 := hf.begun
  clear h hf c0 c1 c2 c4
  go_enter Tryz.func20, Tryz.ntmps20
  go_wp2_with (first
    | (refine wpList_append_own _ rfl (.tmp 6) (.tmp 9) 62 rfl B 68 i68 (.agg #[.int .i64 0, .string ⟨#[]⟩, .int .u32 0, .bool false, .slice none 0 0, .int .i64 0, .int .i64 0, .int .i64 0]) 8 80 Tryz.underlying62 hi hz0 hz1 hz2 rfl (by decide) bv s.begun.length (bgsC s.begun.reverse) (by simp [Act.eval]) HY.out ⟨W.heap.size, 0, none⟩ 1 1 [.int .i64 40, .string ⟨#[]⟩, .int .u32 0, .bool false, .slice none 0 0, .int .i64 0, .int .i64 0, .int .i64 0] (by simp [Act.eval]) rfl (cells8 (by simp [go_sem]) (by simp [go_sem]) (by simp [go_sem]) (by simp [go_sem]) (by simp [go_sem]) (by simp [go_sem]) (by simp [go_sem]) (by simp [go_sem])) (fun u hu => by simp at hu; rcases hu with rfl | rfl | rfl | rfl | rfl | rfl | rfl | rfl <;> rfl) (by unfold maxLen; omega) (by omega) (by have := HLB.out; simp; omega) ?_; intro v' w6 hown2 hgrow hloc; obtain ⟨ao', cap', rfl⟩ := own_shape hown2; obtain ⟨d0, d1, d2, d3, d4, d5, d6⟩ := HR.out.cells6 (below1 W _) HY.out (.inr (.inl rfl)) hgrow; have d5 := d5 3; have HP := hid' (HR.out.pushBegun (b := ⟨⟨40, ⟨#[]⟩, 0, false, 0⟩, 0, 0⟩) (below1 W _) hgrow hown2); clear hown2 hgrow hloc))
  have H7 : Hid (RdS (w6.setCell ⟨p, 3, none⟩ (.slice ao' (s.begun.length + 1) cap')) B p toks { s with begun := ⟨⟨40, ⟨#[]⟩, 0, false, 0⟩, 0, 0⟩ :: s.begun }) := ⟨_, _, _, _, _, HP.out.1⟩
  have K7 := hid' HP.out.2
  have e7 : (w6.setCell ⟨p, 3, none⟩ (.slice ao' (s.begun.length + 1) cap')).heap.size = w6.heap.size := World.size_setCell _ _ _
  rw [← e7]
  clear HP e7 d0 d1 d2 d3 d4 d5 d6 HY
  generalize w6.setCell ⟨p, 3, none⟩ (.slice ao' (s.begun.length + 1) cap') = w7 at *
  refine (then_2 _ _ H7.out (by have := HF.out.todo; (try dsimp only); omega)).mono ?_
  rintro e w8 ⟨hk8, rfl, hR8⟩
  have H8 := hid' hR8
  have K8 := hid' (K7.out.trans hk8)
  clear hR8 hk8
  go_wp2
  go_end0
  exact ⟨K8.out, rfl, H8.out⟩

/-- The operators of a level and above, finished. -/
def finDown (lv : Int) : Nat → St → St
  | 0, s => s
  | f + 1, s => match s.begun with
    | [] => s
    | b :: l => if lv ≤ b.level then finDown lv f (finS s b l) else s
/-- Each node that was begun knows no more nodes than there are. -/
def WfB : Nat → List Bg → Prop
  | _, [] => True
  | n, b :: l => b.first ≤ n ∧ WfB b.first l
theorem WfB.mono {n m : Nat} {l : List Bg} (h : WfB n l) (hm : n ≤ m) : WfB m l := by
  cases l with
  | nil => trivial
  | cons b l => exact ⟨Nat.le_trans h.1 hm, h.2⟩
theorem WfB.fin {s : St} {b : Bg} {l : List Bg} (h : WfB s.done.length s.begun) (hb : s.begun = b :: l) : WfB (finS s b l).done.length (finS s b l).begun := by
  rw [hb] at h
  unfold finS
  simp only
  refine h.2.mono ?_
  rw [List.length_append, List.length_take]
  have := h.1
  simp
  omega
theorem finS_len (s : St) (b : Bg) (l : List Bg) : (finS s b l).done.length ≤ s.done.length + 1 := by
  unfold finS
  simp only
  rw [List.length_append, List.length_take, List.length_singleton]
  omega
/-- How many nodes are begun, as the reader's block says it. -/
def begLen (p : Nat) (w : World) : Nat := match w.cell? ⟨p, 3, none⟩ with
  | some (.slice _ n _) => n
  | _ => 0
theorem begLen_is {w : World} {B p : Nat} {toks : List Tk} {s : St} (h : RdS w B p toks s) : begLen p w = s.begun.length := by
  obtain ⟨tv, ov, bv, dv, kvs, h⟩ := h
  obtain ⟨ao, cap, e⟩ := own_shape h.begun
  unfold begLen
  rw [h.cells.2.2.2.1, e]
theorem finishDownTo137 {B p : Nat} {toks : List Tk} (lv : Int) : ∀ (f : Nat) {W : World} {s : St}, s.begun.length = f → RdS W B p toks s → Fine1 toks s → WfB s.done.length s.begun →
    Calls Tryz.prog 137 #[.pointer (some ⟨p, 0, none⟩), .int .i64 lv] W (Res B p toks W (.ok (finDown lv f s))) := by
  intro f W s hfl h hf hw
  have H0 := hid' h
  have HF := hid' hf
  have HW := hid' hw
  have HL := hid' hfl
  clear h hf hw hfl
  go_enter Tryz.func137, Tryz.ntmps137
  go_wp2_with fail
  go_loopw [] (fun wr => ∃ f' s', s'.begun.length = f' ∧ RdS wr B p toks s' ∧ KQ B p W wr ∧ WfB s'.done.length s'.begun ∧ finDown lv f' s' = finDown lv f s ∧ f' ≤ f ∧ s'.done.length + f' ≤ s.done.length + f) (fun wr => begLen p wr)
  case atStart => exact ⟨f, s, HL.out, H0.out, KQ.rfl _ _ _, HW.out, rfl, Nat.le_refl _, Nat.le_refl _⟩
  case round =>
    obtain ⟨f', s', hl', hR', hK', hw', he', hf1, hf2⟩ := hrel
    have HR := hid' hR'
    have HK := hid' hK'
    have HWF := hid' hw'
    have HE := hid' he'
    have HLF := hid' hl'
    have HF1 := hid' hf1
    have HF2 := hid' hf2
    have hbB := HF.out.begun
    have hdB := HF.out.done
    have hLL := HL.out
    obtain ⟨tv, ov, bv, dv, kvs, hRd⟩ := hR'
    cases hbg : s'.begun with
    | nil =>
      obtain ⟨c0, c1, c2, c3, c4, hp⟩ := hRd.cells
      obtain ⟨ao, cap, rfl⟩ := own_shape hRd.begun
      rw [hbg] at c3
      have HEND : Hid (finDown lv f s = s') := by
        show _ = _
        rw [← HE.out, ← HLF.out, hbg]
        rfl
      clear hRd hK' hw' he' hl' hf1 hf2 c0 c1 c2 c4
      simp only [List.length_nil] at c3
      go_wp2
      go_end0
      rw [HEND.out]
      exact ⟨HK.out, rfl, HR.out⟩
    | cons b l =>
      obtain ⟨g, cap, rfl, hcap, hg, _⟩ := hRd.top hbg
      obtain ⟨c0, c1, c2, c3, c4, hp⟩ := hRd.cells
      have hlB : l.length ≤ 300000000 := by
        have := HLF.out
        rw [hbg, List.length_cons] at this
        omega
      have HT := hid' (top_is HR.out hbg (by omega))
      have HBG := hid' hbg
      have FIRST : Hid (b.first ≤ s'.done.length) := by
        have := hw'
        rw [hbg] at this
        exact this.1
      clear hRd hK' hw' he' hl' hf1 hf2 c0 c1 c2 c4 hbg
      have hpos : (0 : Int) < (l.length : Int) + 1 := by omega
      by_cases hlv : lv ≤ b.level
      · go_wp2_with (first
          | (go_at_call 129; (with_reducible refine HT.out.mono ?_); rintro e w1 ⟨g1, o1, rfl, hb1, hT1⟩; obtain ⟨a0, a1, a2, a3, a6, af, al⟩ := hT1.cells HBG.out; have H1 := hid' (HR.out.below hb1); have K1 := hid' (HK.out.trans (KQ.of_below hb1)); clear hb1 hT1 af a0 a1 a2 a3)
          | (go_at_call 40; (with_reducible refine (finish40 H1.out HBG.out (by have := HLF.out; have := HF1.out; have := HL.out; have := HF.out.begun; omega) (by have := HF2.out; have := HL.out; have := HF.out.done; have := HF.out.begun; omega) FIRST.out).mono ?_); rintro e w2 ⟨hk2, rfl, hR2⟩; have H2 := hid' hR2; have K2 := hid' (K1.out.trans hk2); clear hR2 hk2))
        have e1 := HLF.out
        rw [HBG.out, List.length_cons] at e1
        have e2 : (finS s' b l).begun = l := rfl
        have e3 := finS_len s' b l
        have e4 := begLen_is HR.out
        have e5 := begLen_is H2.out
        rw [HBG.out, List.length_cons] at e4
        rw [e2] at e5
        refine ⟨⟨l.length, finS s' b l, rfl, H2.out, K2.out, HWF.out.fin HBG.out, ?_, ?_, ?_⟩, ?_⟩
        · rw [← HE.out, ← e1, finDown, HBG.out]
          simp only
          rw [if_pos hlv]
        · have := HF1.out
          omega
        · have := HF2.out
          omega
        · rw [e4, e5]
          omega
      · have hlv' : ¬ lv ≤ b.level := hlv
        have HEND : Hid (finDown lv f s = s') := by
          show _ = _
          have e1 := HLF.out
          rw [HBG.out, List.length_cons] at e1
          rw [← HE.out, ← e1, finDown, HBG.out]
          simp only
          rw [if_neg hlv]
        go_wp2_with (first
          | (go_at_call 129; (with_reducible refine HT.out.mono ?_); rintro e w1 ⟨g1, o1, rfl, hb1, hT1⟩; obtain ⟨a0, a1, a2, a3, a6, af, al⟩ := hT1.cells HBG.out; have H1 := hid' (HR.out.below hb1); have K1 := hid' (HK.out.trans (KQ.of_below hb1)); clear hb1 hT1 af a0 a1 a2 a3))
        go_end0
        rw [HEND.out]
        exact ⟨K1.out, rfl, H1.out⟩
end Go.Proofs.YtjeioblhpfogfaaGreatDoor
namespace Go.Proofs.YtjeioblhpfogfaaGreatDoor
open Go.RowKit

/-- The signs between two operands, and their levels. -/
def opTab : List (ByteArray × Int) := [(⟨#[124, 124]⟩, 2), (⟨#[38, 38]⟩, 3), (⟨#[124]⟩, 4), (⟨#[94]⟩, 5), (⟨#[38]⟩, 6), (⟨#[61, 61]⟩, 7), (⟨#[33, 61]⟩, 7), (⟨#[60]⟩, 8), (⟨#[62]⟩, 8), (⟨#[60, 61]⟩, 8), (⟨#[62, 61]⟩, 8), (⟨#[60, 60]⟩, 9), (⟨#[62, 62]⟩, 9), (⟨#[43]⟩, 10), (⟨#[45]⟩, 10), (⟨#[42]⟩, 11), (⟨#[47]⟩, 11), (⟨#[37]⟩, 11)]
/-- The table of operators stands in memory. -/
def OpT (w : World) : Prop := ∀ k (h : k < opTab.length), w.cell? ⟨0, k * 2, none⟩ = some (.string opTab[k].1) ∧ w.cell? ⟨0, k * 2 + 1, none⟩ = some (.int .i64 opTab[k].2)
def levFrom (sx : ByteArray) : List (ByteArray × Int) → Int
  | [] => 0
  | e :: r => if e.1.toList == sx.toList then e.2 else levFrom sx r
/-- A sign's level; 0: it is no operator. -/
def levF (sx : ByteArray) : Int := levFrom sx opTab
theorem lev_bounds (sx : ByteArray) : 0 ≤ levF sx ∧ levF sx ≤ 11 := by
  have h : ∀ l : List (ByteArray × Int), (∀ e ∈ l, 0 ≤ e.2 ∧ e.2 ≤ 11) → 0 ≤ levFrom sx l ∧ levFrom sx l ≤ 11 := by
    intro l
    induction l with
    | nil => intro _; simp [levFrom]
    | cons e r ih =>
      intro h
      rw [levFrom]
      split
      · exact h e (by simp)
      · exact ih fun e' he' => h e' (by simp [he'])
  refine h _ ?_
  intro e he
  simp [opTab] at he
  rcases he with rfl | rfl | rfl | rfl | rfl | rfl | rfl | rfl | rfl | rfl | rfl | rfl | rfl | rfl | rfl | rfl | rfl | rfl <;> simp
theorem OpT.below {w w' : World} {B : Nat} (h : OpT w) (hb : Below w.heap.size w w') (h0 : 0 < w.heap.size) : OpT w' := fun k hk => ⟨(hb.cell (p := ⟨0, k * 2, none⟩) h0).trans (h k hk).1, (hb.cell (p := ⟨0, k * 2 + 1, none⟩) h0).trans (h k hk).2⟩
theorem levelOf136 (sx : ByteArray) (w : World) (hT : OpT w) : Calls Tryz.prog 136 #[.string sx] w fun e w' => e = .returned (.int .i64 (levF sx)) ∧ Below w.heap.size w w' := by
  have HT := hid' hT
  clear hT
  go_enter Tryz.func136, Tryz.ntmps136
  go_wp2_with fail
  go_loopw [4] (fun i wr => ∃ k : Nat, k ≤ 18 ∧ i = .int .i64 (k : Nat) ∧ wr = w ∧ levFrom sx (opTab.drop k) = levF sx) (fun i _ => 18 - (intOf i).toNat)
  case atStart => exact ⟨0, Nat.zero_le _, rfl, rfl, rfl⟩
  case round =>
    obtain ⟨k, hk, rfl, rfl, hlev⟩ := hrel
    by_cases hlt : k < 18
    · have h1 : (k : Int) < 18 := by omega
      have hk' : k < opTab.length := hlt
      obtain ⟨c0, c1⟩ := HT.out k hk'
      rw [List.drop_eq_getElem_cons hk', levFrom] at hlev
      obtain ⟨tx, htx⟩ : ∃ tx, tx = opTab[k].1 := ⟨_, rfl⟩
      obtain ⟨lv, hlv⟩ : ∃ lv, lv = opTab[k].2 := ⟨_, rfl⟩
      rw [← htx, ← hlv] at hlev
      rw [← htx] at c0
      rw [← hlv] at c1
      by_cases hq : (tx.toList == sx.toList) = true
      · have HL : Hid (lv = levF sx) := by
          show _ = _
          rw [if_pos hq] at hlev
          exact hlev
        clear hlev htx hlv
        go_wp2
        go_ret
        exact ⟨by rw [← HL.out]; rfl, Below.refl _ _⟩
      · have hq' : (tx.toList == sx.toList) = false := by simpa using hq
        have HL : Hid (levFrom sx (opTab.drop (k + 1)) = levF sx) := by
          show _ = _
          rw [if_neg hq] at hlev
          exact hlev
        clear hlev htx hlv hq
        go_wp2
        exact ⟨⟨k + 1, by omega, by go_num, by trivial, HL.out⟩, by simp [intOf]; omega⟩
    · have : k = 18 := by omega
      subst this
      have HL : Hid (0 = levF sx) := hlev
      clear hlev
      go_wp2
      go_ret
      exact ⟨by rw [← HL.out]; rfl, Below.refl _ _⟩
theorem operator86_n {W : World} {B p : Nat} {toks : List Tk} {s : St} {sx : ByteArray} (h : RdS W B p toks s) (hf : Fine toks s) (hO : OpT W) (h0 : 0 < W.heap.size) (hq : signAt toks s.pl = sx) (q0 : levF sx = 0) (hw : WfB s.done.length s.begun) :
    Calls Tryz.prog 86 #[.pointer (some ⟨p, 0, none⟩)] W (Res B p toks W (.ok (finDown 1 s.begun.length s))) := by
  have H0 := hid' h
  have HF := hid' hf
  have HW := hid' hw
  have HO := hid' hO
  have K0 := hid' (KQ.rfl B p W)
  clear h hf hw hO
  go_enter Tryz.func86, Tryz.ntmps86
  go_wp2_with (first
    | (go_at_call 88; (with_reducible refine (sign_is H0.out hq (by have := HF.out.at_; have := HF.out.few; omega) (by have := HF.out.few; omega)).mono ?_); rintro e w1 ⟨rfl, hb1⟩; have O1 := hid' (HO.out.below (B := B) hb1 h0); have H1 := hid' (H0.out.below hb1); have K1 := hid' (K0.out.trans (KQ.of_below hb1)); clear hb1)
    | (go_at_call 136; (with_reducible refine (levelOf136 _ _ O1.out).mono ?_); rintro e w2 ⟨rfl, hb2⟩; have H2 := hid' (H1.out.below hb2); have K2 := hid' (K1.out.trans (KQ.of_below hb2)); clear hb2)
    | (go_at_call 137; (with_reducible refine (finishDownTo137 _ s.begun.length rfl H2.out HF.out.more HW.out).mono ?_); rintro e w3 ⟨hk3, rfl, hR3⟩; have H3 := hid' hR3; have K3 := hid' (K2.out.trans hk3); clear hR3 hk3))
  exact bodyPost_ret (results_none rfl _ _ _) rfl ⟨K3.out, rfl, H3.out⟩
theorem finDown_same (lv : Int) : ∀ (f : Nat) (s : St), (finDown lv f s).pl = s.pl ∧ (finDown lv f s).todo = s.todo ∧ (finDown lv f s).begun.length ≤ s.begun.length ∧ (finDown lv f s).done.length ≤ s.done.length + f
  | 0, s => by simp [finDown]
  | f + 1, s => by
    rw [finDown]
    split
    · simp
    · rename_i b l hb
      split
      · obtain ⟨h1, h2, h3, h4⟩ := finDown_same lv f (finS s b l)
        have := finS_len s b l
        refine ⟨h1, h2, ?_, by omega⟩
        have e : (finS s b l).begun = l := rfl
        rw [e] at h3
        rw [hb, List.length_cons]
        omega
      · simp
theorem set6_level (x : NdH) (f : Nat) (a lv : Int) : bgC ⟨x, lv, f⟩ = (bgC ⟨x, a, f⟩).set 6 (.int .i64 lv) := rfl
theorem operator86_y {W : World} {B p : Nat} {toks : List Tk} {s : St} {sx : ByteArray} {lv kd : Int} {l : List Dn} {d : Dn} (h : RdS W B p toks s) (hf : Fine toks s) (hO : OpT W) (h0 : 0 < W.heap.size) (hq : signAt toks s.pl = sx) (q0 : levF sx = lv) (h1 : 1 ≤ lv) (h2 : lv ≤ 11) (hkd : (lv ≤ 3 ∧ kd = 11) ∨ (¬ lv ≤ 3 ∧ kd = 10)) (hw : WfB s.done.length s.begun) (hd : (finDown lv s.begun.length s).done = l ++ [d]) :
    Calls Tryz.prog 86 #[.pointer (some ⟨p, 0, none⟩)] W (Res B p toks W (.ok { finDown lv s.begun.length s with pl := s.pl + 1, todo := 85 :: 86 :: s.todo, begun := ⟨⟨kd, sx, 0, false, d.start⟩, lv, l.length⟩ :: (finDown lv s.begun.length s).begun })) := by
  have H0 := hid' h
  have HF := hid' hf
  have HW := hid' hw
  have HO := hid' hO
  have HD := hid' hd
  have HLV : Hid (∀ W', OpT W' → Calls Tryz.prog 136 #[.string sx] W' fun e w' => e = .returned (.int .i64 lv) ∧ Below W'.heap.size W' w') := fun W' hO' => by
    have := levelOf136 sx W' hO'
    rw [q0] at this
    exact this
  obtain ⟨s1, hs1⟩ : ∃ s1, s1 = finDown lv s.begun.length s := ⟨_, rfl⟩
  obtain ⟨g1, g2, g3, g4⟩ := finDown_same lv s.begun.length s
  rw [← hs1] at g1 g2 g3 g4 HD ⊢
  have HS1 := hid' hs1
  have G1 := hid' g1
  have G2 := hid' g2
  have G3 := hid' g3
  have G4 := hid' g4
  have K0 := hid' (KQ.rfl B p W)
  have h3 : ¬ lv = 0 := by omega
  have h3' : (lv == 0) = false := by simpa using h3
  clear h hf hw hO hd q0 hs1 g1 g2 g3 g4
  rcases hkd with ⟨hl3, rfl⟩ | ⟨hl3, rfl⟩
  all_goals
    go_enter Tryz.func86, Tryz.ntmps86
    go_wp2_with (first
      | (go_at_call 88; (with_reducible refine (sign_is H0.out hq (by have := HF.out.at_; have := HF.out.few; omega) (by have := HF.out.few; omega)).mono ?_); rintro e w1 ⟨rfl, hb1⟩; have O1 := hid' (HO.out.below (B := B) hb1 h0); have H1 := hid' (H0.out.below hb1); have K1 := hid' (K0.out.trans (KQ.of_below hb1)); clear hb1)
      | (go_at_call 136; (with_reducible refine (HLV.out _ O1.out).mono ?_); rintro e w2 ⟨rfl, hb2⟩; have H2 := hid' (H1.out.below hb2); have K2 := hid' (K1.out.trans (KQ.of_below hb2)); clear hb2)
      | (go_at_call 137; (with_reducible refine (finishDownTo137 _ s.begun.length rfl H2.out HF.out.more HW.out).mono ?_); rintro e w3 ⟨hk3, rfl, hR3⟩; rw [← HS1.out] at hR3; have H3 := hid' hR3; have K3 := hid' (K2.out.trans hk3); clear hR3 hk3)
      | (go_at_call 92; (with_reducible refine (beginOver92 _ _ H3.out HD.out (by have := HF.out.begun; have := G3.out; omega) (by have := HF.out.done; have := HF.out.begun; have := G4.out; omega)).mono ?_); rintro e w4 ⟨hk4, rfl, hR4⟩; have H4 := hid' hR4; have K4 := hid' (K3.out.trans hk4); clear hR4 hk4)
      | (go_at_call 129; (with_reducible refine (top_is H4.out rfl (by have := HF.out.begun; have := G3.out; (try dsimp only); omega)).mono ?_); rintro e w5 ⟨g, o, rfl, hb5, hT5⟩; have T5 := hid' hT5; have K5 := hid' (K4.out.trans (KQ.of_below hb5)); obtain ⟨a0, a1, a2, a3, a6, af, al⟩ := hT5.cells rfl; have z6 := af (o + 6); clear hb5 hT5 a0 a1 a2 a3 af))
    obtain ⟨hT6, hk6⟩ := T5.out.set (j := 6) (v := .int .i64 lv) rfl (by decide) (set6_level _ _ _ lv)
    have H6 := hid' hT6.rd
    have K6 := hid' (K5.out.trans hk6)
    clear hT6 hk6 a6 z6 al T5
    generalize w5.setCell ⟨g, o + 6, none⟩ (.int .i64 lv) = w6 at *
    refine (skip_is H6.out (by have := HF.out.at_; have := HF.out.few; have := G1.out; (try dsimp only); omega)).mono ?_
    rintro e w7 ⟨hk7, rfl, hR7⟩
    have H7 := hid' hR7
    have K7 := hid' (K6.out.trans hk7)
    clear hR7 hk7
    go_wp2_with (first
      | (go_at_call 38; (with_reducible refine (then_2 _ _ H7.out (by have := HF.out.todo; have := G2.out; (try dsimp only); rw [this]; omega)).mono ?_); rintro e w8 ⟨hk8, rfl, hR8⟩; have H8 := hid' hR8; have K8 := hid' (K7.out.trans hk8); clear hR8 hk8))
    go_end0
    have R8 := H8.out
    simp only [G1.out, G2.out] at R8
    exact ⟨K8.out, rfl, R8⟩
theorem initial227_n {W : World} {B p : Nat} {toks : List Tk} {s : St} {sx : ByteArray} (h : RdS W B p toks s) (hf : Fine toks s) (hq : signAt toks s.pl = sx) (q0 : (sx.toList == [61]) = false) :
    Calls Tryz.prog 227 #[.pointer (some ⟨p, 0, none⟩)] W (Res B p toks W (.ok s)) := by
  have H0 := hid' h
  have HF := hid' hf
  have K0 := hid' (KQ.rfl B p W)
  clear h hf
  go_enter Tryz.func227, Tryz.ntmps227
  go_wp2_with (first
    | (go_at_call 88; (with_reducible refine (sign_is H0.out hq (by have := HF.out.at_; have := HF.out.few; omega) (by have := HF.out.few; omega)).mono ?_); rintro e w1 ⟨rfl, hb1⟩; have H1 := hid' (H0.out.below hb1); have K1 := hid' (K0.out.trans (KQ.of_below hb1)); clear hb1))
  first
    | (go_end0; exact ⟨K1.out, rfl, H1.out⟩)
    | exact bodyPost_ret (results_none rfl _ _ _) rfl ⟨K1.out, rfl, H1.out⟩
theorem initial227_x {W : World} {B p : Nat} {toks : List Tk} {s : St} {sx : ByteArray} (h : RdS W B p toks s) (hf : Fine toks s) (hq : signAt toks s.pl = ⟨#[61]⟩) (h1 : signAt toks (s.pl + 1) = sx) (q0 : (sx.toList == [123]) = false) :
    Calls Tryz.prog 227 #[.pointer (some ⟨p, 0, none⟩)] W (Res B p toks W (.ok { s with pl := s.pl + 1, todo := 24 :: s.todo })) := by
  have H0 := hid' h
  have HF := hid' hf
  have K0 := hid' (KQ.rfl B p W)
  clear h hf
  go_enter Tryz.func227, Tryz.ntmps227
  go_wp2_with (first
    | (go_at_call 88; (with_reducible refine (sign_is H0.out hq (by have := HF.out.at_; have := HF.out.few; omega) (by have := HF.out.few; omega)).mono ?_); rintro e w1 ⟨rfl, hb1⟩; have H1 := hid' (H0.out.below hb1); have K1 := hid' (K0.out.trans (KQ.of_below hb1)); clear hb1)
    | (go_at_call 93; (with_reducible refine (skip_is H1.out (by have := om HF; (try dsimp only); omega)).mono ?_); rintro e w2 ⟨hk2, rfl, hR2⟩; have H2 := hid' hR2; have K2 := hid' (K1.out.trans hk2); clear hR2 hk2)
    | (go_at_call 88; (with_reducible refine (sign_is H2.out h1 (by have := om HF; (try dsimp only); omega) (by have := HF.out.few; omega)).mono ?_); rintro e w3 ⟨rfl, hb3⟩; have H3 := hid' (H2.out.below hb3); have K3 := hid' (K2.out.trans (KQ.of_below hb3)); clear hb3)
    | (go_at_call 38; (with_reducible refine (then_1 _ H3.out (by have := HF.out.todo; (try dsimp only); omega)).mono ?_); rintro e w4 ⟨hk4, rfl, hR4⟩; have H4 := hid' hR4; have K4 := hid' (K3.out.trans hk4); clear hR4 hk4))
  go_end0
  exact ⟨K4.out, rfl, H4.out⟩
theorem initial227_b {W : World} {B p : Nat} {toks : List Tk} {s : St} {b : Bg} {lb : List Bg} {fl : Bool} {k : Nat} (h : RdS W B p toks s) (hf : Fine toks s) (hq : signAt toks s.pl = ⟨#[61]⟩) (h1 : signAt toks (s.pl + 1) = ⟨#[123]⟩) (hb : s.begun = b :: lb) (hfl : (b.x.flag = true ∧ k = 253) ∨ (b.x.flag = false ∧ k = 24)) :
    Calls Tryz.prog 227 #[.pointer (some ⟨p, 0, none⟩)] W (Res B p toks W (.ok { s with pl := s.pl + 1, todo := k :: s.todo })) := by
  have H0 := hid' h
  have HF := hid' hf
  have HB := hid' hb
  have HBL : Hid (lb.length ≤ 1000000000) := by
    have := hf.begun
    rw [hb, List.length_cons] at this
    show _ ≤ _
    omega
  have K0 := hid' (KQ.rfl B p W)
  clear h hf hb
  rcases hfl with ⟨hfl, rfl⟩ | ⟨hfl, rfl⟩
  all_goals
    go_enter Tryz.func227, Tryz.ntmps227
    go_wp2_with (first
      | (go_at_call 88; (with_reducible refine (sign_is H0.out hq (by have := HF.out.at_; have := HF.out.few; omega) (by have := HF.out.few; omega)).mono ?_); rintro e w1 ⟨rfl, hb1⟩; have H1 := hid' (H0.out.below hb1); have K1 := hid' (K0.out.trans (KQ.of_below hb1)); clear hb1)
      | (go_at_call 93; (with_reducible refine (skip_is H1.out (by have := om HF; (try dsimp only); omega)).mono ?_); rintro e w2 ⟨hk2, rfl, hR2⟩; have H2 := hid' hR2; have K2 := hid' (K1.out.trans hk2); clear hR2 hk2)
      | (go_at_call 88; (with_reducible refine (sign_is H2.out h1 (by have := om HF; (try dsimp only); omega) (by have := HF.out.few; omega)).mono ?_); rintro e w3 ⟨rfl, hb3⟩; have H3 := hid' (H2.out.below hb3); have K3 := hid' (K2.out.trans (KQ.of_below hb3)); clear hb3)
      | (go_at_call 129; (with_reducible refine (top_is H3.out HB.out HBL.out).mono ?_); rintro e w4 ⟨g, o, rfl, hb4, hT4⟩; have H4 := hid' (H3.out.below hb4); have K4 := hid' (K3.out.trans (KQ.of_below hb4)); obtain ⟨a0, a1, a2, a3, a6, af, al⟩ := hT4.cells HB.out; clear hb4 hT4 a0 a1 a2 a6 af)
      | (go_at_call 38; (with_reducible refine (then_1 _ H4.out (by have := HF.out.todo; (try dsimp only); omega)).mono ?_); rintro e w5 ⟨hk5, rfl, hR5⟩; have H5 := hid' hR5; have K5 := hid' (K4.out.trans hk5); clear hR5 hk5))
    go_end0
    exact ⟨K5.out, rfl, H5.out⟩
end Go.Proofs.YtjeioblhpfogfaaGreatDoor
