/- spell's walk. -/
import Derived.Test.YtnnnfabpceapcaaDoorSpell
namespace Go.Proofs.YtnnnfabpceapcaaDoor
open Go.RowKit
set_option linter.unusedVariables false

theorem below_drewN' (w : World) (n : Nat) : Below w.heap.size w (w.drewN n) := ⟨rfl, rfl, rfl, Nat.le_refl _, fun _ _ => rfl⟩
theorem reverse27_nil {ao : Option Addr} {c : Nat} {w : World} : Calls Tryd.prog 27 #[.slice ao 0 c] w fun e w' => e = .returned (.tuple #[]) ∧ w' = w := by
  go_enter Tryd.func27, Tryd.ntmps27
  go_wp2
  go_loopw [2, 3] (fun vi vj W => vi = .int .i64 0 ∧ vj = .int .i64 (-1) ∧ W = w) (fun _ _ _ => 0)
  case atStart => exact ⟨rfl, rfl, rfl⟩
  case round =>
    obtain ⟨rfl, rfl, rfl⟩ := hrel
    go_wp2
    go_end0
    exact ⟨rfl, rfl⟩

theorem Sp.base {W1 w2 : World} {sb H : Nat} {v : Value} {T' : List Pc} (h : Sp (Rest W1 sb v) sb T' w2) (hv : ∀ b, v.ownBlock = some b → H ≤ b) (hH : H ≤ W1.heap.size) :
    ∃ v', w2.heap[sb]? = some (.cells #[v'] 59 (0, 0)) ∧ w2.ownsRow H 56 2 v' T'.length (pcC T') ∧ ∀ b, v'.ownBlock = some b → b ≠ sb ∧ ¬ Rest W1 sb v b := by
  obtain ⟨h1, h2, h3, v', h4, h5, h6⟩ := h
  refine ⟨v', h4, ⟨h5.1, ?_⟩, h6⟩
  rcases h5.2 with h | ⟨g, cap, cur, rfl, _, r⟩
  · exact .inl h
  · refine .inr ⟨g, cap, cur, rfl, ?_, r⟩
    obtain ⟨k1, k2⟩ := h6 g rfl
    by_cases hg : g < W1.heap.size
    · by_cases hq : v.ownBlock = some g
      · exact hv g hq
      · exact absurd ⟨hg, k1, hq⟩ k2
    · omega
/-- What spell tells. -/
def spellV (L : List UInt8) : Value := if L.length ≤ 1048576 then .tuple #[.string ⟨L.toArray⟩, .bool true] else .tuple #[.string ⟨#[]⟩, .bool false]

section
variable {G : NdH → List Tr → Bool} {qt : List UInt8 → List UInt8}
theorem spell_start {w : World} {b o : Nat} {x : NdH} {kv : Value} {n cb : Nat} {ks : List Tr} {L : List UInt8} (hat : NdAt w b o x kv) (hb : b < w.heap.size) (hK : Ks cb n w kv ks) (hG : allT G (Tr.node x ks) = true) (hz : szT (Tr.node x ks) ≤ 262144) (hL : L = spellT qt (Tr.node x ks)) :
    SL G qt w w.heap.size (w.heap.size + 1 + 1) L [nod b o (Tr.node x ks)] [] (((w.alloc (.cells #[.pointer none, .slice none 0 0] 54)).alloc (.cells #[.string ⟨#[]⟩, .pointer (some ⟨b, o, none⟩)] 56)).alloc (.cells #[.slice (some ⟨w.heap.size + 1, 0, none⟩) 1 1] 59)) := by
  have hwt : wtT (Tr.node x ks) ≤ 6029312 := by unfold wtT; omega
  obtain ⟨W1, hW1⟩ : ∃ W1, W1 = w.alloc (.cells #[.pointer none, .slice none 0 0] 54) := ⟨_, rfl⟩
  obtain ⟨W2, hW2⟩ : ∃ W2, W2 = W1.alloc (.cells #[.string ⟨#[]⟩, .pointer (some ⟨b, o, none⟩)] 56) := ⟨_, rfl⟩
  have e1 : W1.heap.size = w.heap.size + 1 := by rw [hW1]; simp
  have e2 : W2.heap.size = w.heap.size + 1 + 1 := by rw [hW2]; simp [e1]
  have b1 : Below w.heap.size w W1 := by rw [hW1]; exact below1 _ _
  have b2 : Below w.heap.size w W2 := by rw [hW2]; exact b1.alloc (by omega) _
  have h54 : W1.heap[w.heap.size]? = some (.cells #[.pointer none, .slice none 0 0] 54 (0, 0)) := by rw [hW1]; exact heap_alloc_new _ _
  have h54b : W2.heap[w.heap.size]? = some (.cells #[.pointer none, .slice none 0 0] 54 (0, 0)) := by rw [hW2, (below1 W1 _).block _ (by omega)]; exact h54
  have hrow : W2.ownsRow w.heap.size 56 2 (.slice (some ⟨w.heap.size + 1, 0, none⟩) 1 1) 1 (pcC [nod b o (Tr.node x ks)]) := by
    have := World.ownsRow_lit (base := w.heap.size) (e := 56) (size := 2) W1 #[.string ⟨#[]⟩, .pointer (some ⟨b, o, none⟩)] 1 (by omega) (by unfold maxLen; omega) rfl
    rw [← hW2, e1] at this
    exact this
  rw [← hW1, ← hW2]
  refine ⟨b2.alloc (by omega) _, Nat.le_refl _, by omega, ⟨_, ?_, hrow.alloc _⟩, ⟨_, _, .inl rfl, ((below1 W2 _).block _ (by omega)).trans h54b, World.ownsRow_nil _ _ _ _⟩, fun p hp => ?_, ?_, Nat.zero_le _, ?_⟩
  · rw [← e2]
    exact heap_alloc_new _ _
  · simp at hp
    subst hp
    exact .inr ⟨b, o, x, kv, n, ks, cb, rfl, rfl, hat, hb, hK, hG⟩
  · rw [hL]
    show [] ++ (spellT qt (Tr.node x ks) ++ []) = _
    simp
  · show wtT (Tr.node x ks) + 0 ≤ _
    omega

set_option maxHeartbeats 8000000 in
theorem spell23 {w : World} {b o : Nat} {x : NdH} {kv : Value} {n cb : Nat} {ks : List Tr} (hS : SplitIs G qt) (hat : NdAt w b o x kv) (hb : b < w.heap.size) (hK : Ks cb n w kv ks) (hG : allT G (Tr.node x ks) = true) (hz : szT (Tr.node x ks) ≤ 262144) :
    Calls Tryd.prog 23 #[.pointer (some ⟨b, o, none⟩)] w fun e w' => e = .returned (spellV (spellT qt (Tr.node x ks))) ∧ Below w.heap.size w w' := by
  obtain ⟨L, hL⟩ : ∃ L, L = spellT qt (Tr.node x ks) := ⟨_, rfl⟩
  obtain ⟨m, hm⟩ := least_world (fun n W => ∃ T l, SL G qt w w.heap.size (w.heap.size + 1 + 1) L T l W ∧ wts T = n)
  have HM := hid' hm
  have HS := hid' hS
  have H0 := hid' (spell_start (qt := qt) hat hb hK hG hz hL)
  rw [← hL]
  clear hm hS hat hb hK hG hz hL
  obtain ⟨ob, hob⟩ : ∃ ob, ob = w.heap.size := ⟨_, rfl⟩
  go_enter Tryd.func23, Tryd.ntmps23
  go_wp2
  obtain ⟨W0, hW0⟩ : ∃ W0, W0 = (((w.alloc (.cells #[.pointer none, .slice none 0 0] 54)).alloc (.cells #[.string ⟨#[]⟩, .pointer (some ⟨b, o, none⟩)] 56)).alloc (.cells #[.slice (some ⟨w.heap.size + 1, 0, none⟩) 1 1] 59)) := ⟨_, rfl⟩
  rw [← hW0] at H0 ⊢
  clear hW0
  obtain ⟨sb, hsb⟩ : ∃ sb, sb = w.heap.size + 1 + 1 := ⟨_, rfl⟩
  rw [← hsb] at H0 HM ⊢
  rw [← hob] at H0 HM ⊢
  clear hsb hob
  go_loopw [6] (fun _ W => ∃ n, ∃ T l, SL G qt w ob sb L T l W ∧ wts T = n) (fun _ W => m W)
  case atStart => exact ⟨_, _, _, H0.out, rfl⟩
  case round =>
    obtain ⟨T, l, hSL, hwm⟩ := (HM.out wr hrel).1
    have HSL := hid' hSL
    have HWM := hid' hwm
    clear hrel H0 hSL hwm
    rcases List.eq_nil_or_concat T with rfl | ⟨T, p, rfl⟩
    · obtain ⟨v, h4, h5⟩ := HSL.out.todo
      obtain ⟨p1, vb, h6, h7, h8⟩ := HSL.out.out
      have c0 : wr.cell? ⟨sb, 0, none⟩ = some v := by rw [Lib.cell_of_heap h4]; rfl
      have hlt := blk_lt h4
      obtain ⟨ao, cap, rfl⟩ : ∃ ao cap, v = .slice ao 0 cap := by
        obtain ⟨_, ⟨e, _⟩ | ⟨g, cap, cur, e, _⟩⟩ := h5
        · exact ⟨_, _, e⟩
        · exact ⟨_, _, e⟩
      have hI : Lib.IsBuilder 54 5 w.heap.size ob (Lib.byteCells l) wr := by
        have hne := row_ne h8 h7 (by decide)
        rw [← Lib.byteCells_length l] at h8
        rcases h6 with rfl | rfl
        · exact .inl ⟨HSL.out.hob, vb, h7, h8, hne⟩
        · exact .inr ⟨HSL.out.hob, vb, h7, h8, hne⟩
      have HST := hid' (Tryd.Builder_String_any w.heap.size ob l wr hI HSL.out.bel.size)
      have HV : Hid (spellV L = .tuple #[.string ⟨l.toArray⟩, .bool true]) := by
        have := HSL.out.text
        show _ = _
        rw [← this]
        show spellV (l ++ []) = _
        rw [List.append_nil]
        unfold spellV
        rw [if_pos HSL.out.short]
      have HBL := hid' HSL.out.bel
      clear h4 h5 h6 h7 h8 hI HSL HWM
      go_wp2_with (go_at_call 30; (with_reducible refine HST.out.mono ?_); rintro e w1 ⟨rfl, hb1⟩; replace hb1 := hid' hb1)
      rw [HV.out]
      refine bodyPost_ret (v := .tuple #[.string ⟨l.toArray⟩, .bool true]) (by simp [results, Tryd.results23, go_sem]) rfl ⟨rfl, ?_⟩
      exact HBL.out.trans hb1.out
    · rw [List.concat_eq_append] at HSL HWM
      obtain ⟨g, cap, h4, hgl, hcap, hmx, d0, d1, hown, hgs⟩ := HSL.out.last
      have c0 : wr.cell? ⟨sb, 0, none⟩ = some (.slice (some ⟨g, 0, none⟩) (T.length + 1) cap) := by rw [Lib.cell_of_heap h4]; rfl
      have f0 : wr.frozen? ⟨sb, 0, none⟩ = false := Lib.frozen_of_heap h4 0
      have hlt := blk_lt h4
      have hfew := HSL.out.few
      have hTl := len_le_wts (T ++ [p])
      rw [List.length_append, List.length_singleton] at hTl
      have hTb : T.length ≤ 100000000 := by omega
      clear hTl
      have HP : Hid (∀ o, SL G qt w ob sb (l ++ txts (spellT qt) T.reverse) T l ((wr.setCell ⟨sb, 0, none⟩ (.slice (some ⟨g, 0, none⟩) T.length cap)).alloc o)) := fun o => HSL.out.popped h4 hown hgs o
      have HT := hid' HSL.out.textOf
      have hval := HSL.out.val p (by simp)
      have HBL := hid' HSL.out.bel
      have HSH := HSL.out.short
      rw [wts_append] at HWM hfew
      have HFEW := hid' hfew
      clear HSL h4 hown hgs hfew
      rcases hval with hp | ⟨b', o', x', kv', n', ks', cb', hp, ht, hat', hb', hK', hG'⟩
      · have hpp : pcP p = .pointer none := by unfold pcP; rw [hp]; rfl
        have hpl : pcL (spellT qt) p = lst p.text := by unfold pcL; rw [hp]
        rw [hpp] at d1
        rw [hpl] at HT
        have hw1 : wtP p = 1 := by unfold wtP; rw [hp]
        have hwp : wts [p] = 1 := by show wtP p + 0 = 1; omega
        rw [hwp] at HWM HFEW
        generalize p.text = s at *
        clear hp hpp hpl hw1 hwp
        have hsl := hid' (lst_len s)
        go_wp2
        obtain ⟨W1, hW1⟩ : ∃ W1, W1 = ((wr.setCell ⟨sb, 0, none⟩ (.slice (some ⟨g, 0, none⟩) T.length cap)).alloc (.cells #[.string s, .pointer none] 56)) := ⟨_, rfl⟩
        have e0 : W1.cell? ⟨wr.heap.size, 0, none⟩ = some (.string s) := by rw [hW1]; simp [go_sem]
        have el : wr.heap.size < W1.heap.size := by rw [hW1]; simp
        have HP1 : Hid (SL G qt w ob sb (l ++ txts (spellT qt) T.reverse) T l W1) := by rw [hW1]; exact HP.out _
        rw [← hW1]
        clear hW1 HP c0 f0 d0 d1
        obtain ⟨p1, vb, h6, h7, h8⟩ := HP1.out.out
        have hI : Lib.IsBuilder 54 5 w.heap.size ob (Lib.byteCells l) W1 := by
          have hne := row_ne h8 h7 (by decide)
          rw [← Lib.byteCells_length l] at h8
          rcases h6 with rfl | rfl
          · exact .inl ⟨HP1.out.hob, vb, h7, h8, hne⟩
          · exact .inr ⟨HP1.out.hob, vb, h7, h8, hne⟩
        have HLN : Hid (∀ k, Calls Tryd.prog 28 #[.pointer (some ⟨ob, 0, none⟩)] (W1.drewN k) fun e w' => e = .returned (.int .i64 (l.length : Int)) ∧ w' = W1.drewN k) := fun k => by
          have := Tryd.Builder_Len w.heap.size ob (Lib.byteCells l) (W1.drewN k) hI
          rw [Lib.byteCells_length] at this
          exact this
        have HWR : Hid (∀ k, l.length + s.size ≤ 1099511627776 → Calls Tryd.prog 29 #[.pointer (some ⟨ob, 0, none⟩), .string s] (W1.drewN k) fun e w' => e = .returned (.tuple #[.int .i64 (s.size : Int), .nilIface]) ∧ (∃ vb', w'.heap[ob]? = some (.cells #[.pointer (some ⟨ob, 0, none⟩), vb'] 54 (0, 0)) ∧ w'.ownsRow w.heap.size 5 1 vb' (l ++ lst s).length (Lib.byteCells (l ++ lst s))) ∧ On (fun k => k ≠ ob ∧ vb.ownBlock ≠ some k) (W1.drewN k) w') := fun k hk => writeString29 (w := W1.drewN k) s h6 h7 h8 hk HP1.out.bel.size
        have HV7 := hid' h7
        clear hI h6 h7 h8
        by_cases hfit : 1048576 < l.length + s.size
        · have HV : Hid (spellV L = .tuple #[.string ⟨#[]⟩, .bool false]) := by
            show _ = _
            unfold spellV
            rw [if_neg]
            rw [HT.out, List.length_append, List.length_append, hsl.out]
            omega
          have HB1 : Hid (∀ k, Below w.heap.size w (W1.drewN k)) := fun k => HP1.out.bel.trans ((below_drewN' W1 k).mono HP1.out.bel.size)
          have hgt : (1048576 : Int) - (l.length : Int) < (s.size : Int) := by omega
          go_quiet (exact Calls.quiet_of_same (HLN.out _))
          go_wp2
          rw [HV.out]
          exact bodyPost_ret (v := .tuple #[.string ⟨#[]⟩, .bool false]) (by simp [results, Tryd.results23, go_sem]) rfl ⟨rfl, HB1.out _⟩
        · have hgt : ¬ (1048576 : Int) - (l.length : Int) < (s.size : Int) := by omega
          go_quiet (exact Calls.quiet_of_same (HLN.out _))
          go_wp2_with (go_at_call 29; refine (HWR.out _ (by omega)).mono ?_; rintro e w2 ⟨rfl, ⟨vb', k1, k2⟩, k3⟩; replace k1 := hid' k1; replace k2 := hid' k2; replace k3 := hid' k3)
          have HN := SL.wrote (HP1.out.next (below_drewN' W1 _)) HV7.out k3.out k1.out k2.out (by rw [List.length_append, hsl.out]; omega)
          rw [← HT.out] at HN
          have hd := (HM.out w2 ⟨_, _, _, HN, rfl⟩).2 _ ⟨_, _, HN, rfl⟩
          have := HWM.out
          exact ⟨⟨_, _, _, HN, rfl⟩, by omega⟩
      · have hpp : pcP p = .pointer (some ⟨b', o', none⟩) := by unfold pcP; rw [hp]; rfl
        have hpl : pcL (spellT qt) p = spellN qt x' ks' (ks'.map (spellT qt)) := by unfold pcL; rw [hp, ht]; exact spellT_node qt x' ks'
        have hw1 : wtP p = 20 + 23 * szL ks' := by unfold wtP; rw [hp, ht]; exact wtT_node x' ks'
        have hwp : wts [p] = 20 + 23 * szL ks' := by show wtP p + 0 = _; omega
        rw [hpp] at d1
        rw [hpl] at HT
        rw [hwp] at HWM HFEW
        rw [allT_node, Bool.and_eq_true] at hG'
        have hTs := len_le_wts T
        generalize p.text = s at *
        clear hp hpp hpl hw1 hwp ht
        obtain ⟨W1, hW1⟩ : ∃ W1, W1 = ((wr.setCell ⟨sb, 0, none⟩ (.slice (some ⟨g, 0, none⟩) T.length cap)).alloc (.cells #[.string s, .pointer (some ⟨b', o', none⟩)] 56)) := ⟨_, rfl⟩
        have HP1 : Hid (SL G qt w ob sb (l ++ txts (spellT qt) T.reverse) T l W1) := by rw [hW1]; exact HP.out _
        obtain ⟨v, hv4, hSp, hA, hob, hvb⟩ := HP1.out.sp
        have J : Job G (Rest W1 sb v) sb T w W1 b' o' x' kv' n' cb' ks' := ⟨HP1.out.bel, hA, hSp, hat', hb', hK', hG'.2, by have := HFEW.out; omega⟩
        have HSPL := hid' (HS.out _ _ _ _ _ _ _ _ _ _ _ _ J hG'.1)
        have HV4 := hid' hv4
        have HVB := hid' hvb
        have hbl : w.heap.size ≤ W1.heap.size := HP1.out.bel.size
        clear hv4 hSp hA hob hvb J hat' hb' hK' hG' hTs
        rw [hW1] at HSPL
        go_wp2_with (first
          | (go_at_call 26; refine HSPL.out.mono ?_; rintro e w2 ⟨rfl, P, q1, q2, q3⟩; replace q1 := hid' q1; replace q2 := hid' q2; replace q3 := hid' q3; rw [← hW1] at q1 q2; clear hW1 HP c0 f0 d0 d1; obtain ⟨v', r1, r2, r3⟩ := q1.out.base HVB.out hbl; have hPl := len_le_wts P; have hPw := q3.out.wt; have hff := HFEW.out; have hlt2 := blk_lt r1; have c2 : w2.cell? ⟨sb, 0, none⟩ = some v' := by { rw [Lib.cell_of_heap r1]; rfl }; replace r1 := hid' r1; replace r2 := hid' r2; replace r3 := hid' r3; refine of_mark ?_))
        unfold Mark
        rw [List.length_append] at r2
        by_cases hP0 : P = []
        · subst hP0
          obtain ⟨ao, cap', hc', rfl⟩ : ∃ ao cap', T.length ≤ cap' ∧ v' = .slice ao T.length cap' := by
            obtain ⟨_, ⟨e, e2⟩ | ⟨g', cap', cur, e, _, _, hc, _⟩⟩ := r2.out
            · have e3 : T.length + 0 = 0 := e2
              exact ⟨none, 0, by omega, by rw [e, show T.length = 0 by omega]⟩
            · exact ⟨_, cap', hc, e⟩
          have HN : Hid (SL G qt w ob sb L T l w2) := by
            have hr := r2.out
            simp only [List.append_nil, List.length_nil, Nat.add_zero] at hr
            have := HP1.out.after (P := []) HV4.out q2.out q3.out (by omega) r1.out (by simp only [List.append_nil, List.reverse_nil]; exact hr)
            rw [← HT.out] at this
            simp only [List.append_nil, List.reverse_nil] at this
            exact this
          have HD : Hid (m w2 < m wr) := by
            have hd := (HM.out w2 ⟨_, _, _, HN.out, rfl⟩).2 _ ⟨_, _, HN.out, rfl⟩
            have := HWM.out
            show _ < _
            omega
          clear r1 r2 r3 q1 q2 q3 HP1 HV4
          go_wp2_with (go_at_call 27; refine reverse27_nil.mono ?_; rintro e w3 ⟨rfl, rfl⟩)
          all_goals exact ⟨⟨_, _, _, HN.out, rfl⟩, HD.out⟩
        · have hPp : 0 < P.length := List.length_pos_iff.2 hP0
          obtain ⟨g', cap', hc', hm', rfl⟩ : ∃ g' cap', T.length + P.length ≤ cap' ∧ cap' ≤ maxLen ∧ v' = .slice (some ⟨g', 0, none⟩) (T.length + P.length) cap' := by
            obtain ⟨_, ⟨e, e2⟩ | ⟨g', cap', cur, e, _, _, hc, hm', _⟩⟩ := r2.out
            · omega
            · exact ⟨_, cap', hc, hm', e⟩
          have HRV : Hid (∀ off c, off = T.length * 2 → Calls Tryd.prog 27 #[.slice (some ⟨g', off, none⟩) P.length c] w2 fun e w' => e = .returned (.tuple #[]) ∧ SL G qt w ob sb L (T ++ P.reverse) l w') := fun off c ho => by
            have hrow : w2.ownsRow w.heap.size 56 2 (.slice (some ⟨g', 0, none⟩) (T ++ P).length cap') (T ++ P).length (pcC (T ++ P)) := by rw [List.length_append]; exact r2.out
            refine (reverse27 (c := c) (row_base hrow) ho (by rw [List.length_append]; omega)).mono fun e w' hq => ⟨hq.1, ?_⟩
            obtain ⟨_, k2, k3⟩ := hq
            obtain ⟨n1, n2⟩ := r3.out g' rfl
            have hown' : w'.ownsRow w.heap.size 56 2 (.slice (some ⟨g', 0, none⟩) (T ++ P).length cap') (T ++ P.reverse).length (pcC (T ++ P.reverse)) := by
              have hge := (hrow.lt g' rfl).1
              have el : (T ++ P.reverse).length = (T ++ P).length := by simp
              rw [el]
              obtain ⟨z1, ⟨z2, z3⟩ | ⟨g2, cap2, cur2, z2, _, z4⟩⟩ := k2
              · cases z2
              · injection z2 with y1 y2 y3
                injection y1 with y1
                injection y1 with y1
                subst y1 y3
                exact ⟨z1, .inr ⟨_, _, cur2, rfl, hge, z4⟩⟩
            have := HP1.out.after HV4.out (q2.out.grown k3 (fun k e => by injection e with e; subst e; exact n2)) q3.out (by omega) ((k3.block sb (blk_lt r1.out) (fun e => n1 (Option.some.inj e).symm)).trans r1.out) (by rw [← List.length_append] ; exact hown')
            rw [← HT.out] at this
            exact this
          have HD : Hid (∀ w3, SL G qt w ob sb L (T ++ P.reverse) l w3 → m w3 < m wr) := fun w3 h => by
            have hd := (HM.out w3 ⟨_, _, _, h, rfl⟩).2 _ ⟨_, _, h, rfl⟩
            have := HWM.out
            rw [wts_append, wts_rev] at hd
            omega
          clear r1 r2 r3 q1 q2 q3 HP1 HV4
          go_wp2_with (go_at_call 27; refine (HRV.out _ _ (by first | rfl | omega)).mono ?_; rintro e w3 ⟨rfl, hN⟩; replace hN := hid' hN)
          all_goals exact ⟨⟨_, _, _, hN.out, rfl⟩, HD.out _ hN.out⟩
end
end Go.Proofs.YtnnnfabpceapcaaDoor
