/- The speller: texts, nodes, lists of nodes. -/
import Derived.Test.YtnnnfabpceapcaaDoorText
namespace Go.Proofs.YtnnnfabpceapcaaDoor
open Go.RowKit
set_option linter.unusedVariables false

theorem Sp.cell {A : Nat → Prop} {sb : Nat} {T : List Pc} {w : World} (h : Sp A sb T w) : ∃ v, w.heap[sb]? = some (.cells #[v] 59 (0, 0)) ∧ w.cell? ⟨sb, 0, none⟩ = some v := by
  obtain ⟨h1, h2, h3, v, h4, h5, h6⟩ := h
  exact ⟨v, h4, by simp [World.cell?, h4]⟩

set_option maxHeartbeats 4000000 in
theorem say50 {A : Nat → Prop} {sb tb : Nat} {T : List Pc} {w : World} {ts : List ByteArray} (h : Sp A sb T w) (hA : A tb) (hts : ∀ i (h : i < ts.length), w.cell? ⟨tb, i, none⟩ = some (.string ts[i])) (hT : T.length + ts.length ≤ 1099511627776) :
    Calls Tryd.prog 50 #[.pointer (some ⟨sb, 0, none⟩), .slice (some ⟨tb, 0, none⟩) ts.length ts.length] w fun e w' => e = .returned (.tuple #[]) ∧ Sp A sb (T ++ ts.map txt) w' ∧ On A w w' := by
  obtain ⟨i0, hi, hz0, hz1, hz2⟩ := info_parts info56'
  have htb := h.lt tb hA
  have HTS := hid' hts
  have HS := hid' h
  clear hts h
  go_enter Tryd.func50, Tryd.ntmps50
  go_wp2
  go_loopw [8] (fun i W => ∃ j : Nat, j ≤ ts.length ∧ i = .int .i64 j ∧ Hid (Sp A sb (T ++ (ts.take j).map txt) W ∧ On A w W)) (fun i _ => ts.length - (intOf i).toNat)
  case atStart => exact ⟨0, Nat.zero_le _, rfl, by simpa using HS.out, On.rfl _ _⟩
  case round =>
    obtain ⟨j, hj, rfl, HR⟩ := hrel
    by_cases hlt : j < ts.length
    · obtain ⟨⟨h1, h2, h3, v, h4, h5, h6⟩, hon⟩ := HR.out
      have c0 : wr.cell? ⟨sb, 0, none⟩ = some v := by simp [World.cell?, h4]
      have ct : wr.cell? ⟨tb, j, none⟩ = some (.string ts[j]) := (hon.cell hA htb).trans (HTS.out j hlt)
      have htb' : tb < wr.heap.size := Nat.lt_of_lt_of_le htb hon.size
      obtain ⟨T', hT'⟩ : ∃ T', T' = T ++ (ts.take j).map txt := ⟨_, rfl⟩
      have hTl : T'.length ≤ 1099511627776 := by rw [hT', List.length_append, List.length_map, List.length_take]; omega
      have hTn : Hid (T ++ (ts.take (j + 1)).map txt = T' ++ [txt ts[j]]) := by
        show _ = _
        rw [hT', take_next ts j hlt, List.map_append, List.append_assoc]
        rfl
      rw [← hT'] at h5
      have H4 := hid' h4
      have H6 := hid' h6
      have H1 := hid' h1
      have HON := hid' hon
      have hvl := pcC_length T'
      clear h4 h6 h1 hT' hon HR
      generalize ts[j] = s at *
      go_wp2_with (at_builtin; refine of_mark ?_)
      unfold Mark
      refine wpList_append_lies _ rfl _ _ 57 rfl 0 56 i0 (.agg #[.string ⟨#[]⟩, .pointer none]) 2 24 Tryd.underlying57 hi hz0 hz1 hz2 rfl (by decide) v T'.length (pcC T') rfl (h5.alloc _) ⟨wr.heap.size, 0, none⟩ 1 1 [.string s, .pointer none] rfl rfl (cells2 (by simp [go_sem]) (by simp [go_sem])) (fun u hu => by simp at hu; rcases hu with rfl | rfl <;> rfl) (by decide) (by unfold maxLen; omega) (by omega) (by omega) (wr.heap.size + 1) (by simp) ?_
      intro g cap w2 hown hgrow hloc hgl
      have HP := hid' (Sp.push (p := txt s) H1.out h2 h3 H4.out H6.out (below1 _ _) hown hgrow (hloc.imp id (fun e => by simpa using e)))
      have hb2 : w2.heap[sb]? = some (.cells #[v] 59 (0, 0)) := by
        rw [hgrow.block sb (by simp; omega) (fun e => (H6.out sb e.symm).1 rfl), (below1 _ _).block sb h3, H4.out]
      have hfz : w2.frozen? ⟨sb, 0, none⟩ = false := by simp [World.frozen?, hb2]
      have hc2 : w2.cell? ⟨sb, 0, none⟩ = some v := by simp [World.cell?, hb2]
      have hl2 : sb < w2.heap.size := by have := hgrow.size; simp at this; omega
      clear hown hgrow hloc hb2
      go_wp2
      exact ⟨⟨j + 1, by omega, by go_num, by rw [hTn.out]; exact HP.out.1, HON.out.trans HP.out.2⟩, by simp [intOf]; omega⟩
    · have e : j = ts.length := by omega
      subst e
      have HE : Hid (Sp A sb (T ++ ts.map txt) wr ∧ On A w wr) := by
        have := HR.out
        rw [List.take_length] at this
        exact this
      go_wp2
      go_end0
      exact ⟨rfl, HE.out⟩

theorem cells_str (w : World) (ts : List ByteArray) : ∀ i (h : i < ts.length), (w.alloc (.cells (ts.map Value.string).toArray 9)).cell? ⟨w.heap.size, i, none⟩ = some (.string ts[i]) := by
  intro i hi
  have : (w.alloc (.cells (ts.map Value.string).toArray 9)).heap[w.heap.size]? = some (.cells (ts.map Value.string).toArray 9 (0, 0)) := heap_alloc_new w _
  rw [cell_of_row _ _ _ _ _ _ this]
  simp [hi]

section
variable {G : NdH → List Tr → Bool} {sp : Tr → List UInt8} {A : Nat → Prop} {sb : Nat} {T : List Pc} {w w0 : World}
/-- A call lays pieces that say a text. -/
def Laid (G : NdH → List Tr → Bool) (sp : Tr → List UInt8) (w0 : World) (A : Nat → Prop) (sb : Nat) (T : List Pc) (w : World) (L : List UInt8) (n : Nat) (e : Ending) (w' : World) : Prop :=
  e = .returned (.tuple #[]) ∧ ∃ P, Sp A sb (T ++ P) w' ∧ On A w w' ∧ Says G sp w0 P L n
theorem says_txts : ∀ (ts : List ByteArray), Says G sp w0 (ts.map txt) (ts.map lst).flatten ts.length
  | [] => Says.nil
  | s :: r => ((Says.txt s).append (says_txts r)).more (by simp; omega)
/-- Texts that the caller lays out himself. -/
theorem say_new (G : NdH → List Tr → Bool) (sp : Tr → List UInt8) (w0 : World) (ts : List ByteArray) (h : Sp A sb T w) (hT : T.length + ts.length ≤ 1099511627776) (tb m : Nat) (e1 : tb = w.heap.size) (e2 : m = ts.length) :
    Calls Tryd.prog 50 #[.pointer (some ⟨sb, 0, none⟩), .slice (some ⟨tb, 0, none⟩) m m] (w.alloc (.cells (ts.map Value.string).toArray 9)) (Laid G sp w0 A sb T w (ts.map lst).flatten ts.length) := by
  subst e1 e2
  refine (say50 (h.also _) (.inr rfl) (cells_str w ts) hT).mono fun e w' hq => ⟨hq.1, ts.map txt, hq.2.1.less (fun k hk => .inl hk), ?_, says_txts ts⟩
  have h1 : On A w (w.alloc (.cells (ts.map Value.string).toArray 9)) := (On.rfl _ _).alloc _
  exact h1.trans (hq.2.2.less (fun k hk => .inl hk))
theorem put_new {b o : Nat} {x : NdH} {kv : Value} {i cb : Nat} {ks : List Tr} (hat : NdAt w0 b o x kv) (hb : b < w0.heap.size) (hK : Ks cb i w0 kv ks) (hG : allT G (Tr.node x ks) = true) (h : Sp A sb T w) (hT : T.length ≤ 1099511627776) :
    Calls Tryd.prog 55 #[.pointer (some ⟨sb, 0, none⟩), .pointer (some ⟨b, o, none⟩)] w (Laid G sp w0 A sb T w (sp (Tr.node x ks)) (wtT (Tr.node x ks))) :=
  (put55 (Tr.node x ks) h hT).mono fun e w' hq => ⟨hq.1, _, hq.2.1, hq.2.2, Says.nod hat hb hK hG⟩

/-- Kids' weights, and one for what stands between. -/
def wtL : List Tr → Nat
  | [] => 0
  | t :: r => wtT t + 1 + wtL r
theorem wtL_append : ∀ (a b : List Tr), wtL (a ++ b) = wtL a + wtL b
  | [], b => by show wtL b = 0 + wtL b; omega
  | t :: r, b => by
    show wtT t + 1 + wtL (r ++ b) = wtT t + 1 + wtL r + wtL b
    rw [wtL_append r b]
    omega
theorem wtL_le : ∀ (l : List Tr), wtL l ≤ 23 * szL l
  | [] => Nat.zero_le _
  | t :: r => by
    have := wtL_le r
    have := szT_pos t
    show wtT t + 1 + wtL r ≤ 23 * szL (t :: r)
    rw [szL_cons]
    unfold wtT
    omega
theorem joinL_snoc (sep : List UInt8) : ∀ (l : List (List UInt8)) (a : List UInt8), joinL sep (l ++ [a]) = joinL sep l ++ ((if l.isEmpty then [] else sep) ++ a)
  | [], a => rfl
  | [b], a => rfl
  | b :: c :: r, a => by
    show b ++ (sep ++ joinL sep ((c :: r) ++ [a])) = b ++ (sep ++ joinL sep (c :: r)) ++ (sep ++ a)
    rw [joinL_snoc sep (c :: r) a]
    simp [List.append_assoc]
theorem allL_get {G : NdH → List Tr → Bool} {ks : List Tr} (h : allL G ks = true) (j : Nat) (hj : j < ks.length) : allT G ks[j] = true := by
  unfold allL at h
  rw [List.all_eq_true] at h
  exact h _ (List.mem_map.2 ⟨_, List.getElem_mem hj, rfl⟩)

set_option maxHeartbeats 4000000 in
theorem list56 {kv : Value} {n cb : Nat} {ks : List Tr} (bt : ByteArray) (hw : Below w0.heap.size w0 w) (hA : ∀ k, k < w0.heap.size → A k) (hK : Ks cb n w0 kv ks) (hG : allL G ks = true) (h : Sp A sb T w) (hT : T.length + wtL ks ≤ 549755813888) :
    Calls Tryd.prog 56 #[.pointer (some ⟨sb, 0, none⟩), kv, .string bt] w (Laid G sp w0 A sb T w (joinL (lst bt) (ks.map sp)) (wtL ks)) := by
  obtain ⟨hkl, ao, cap, rfl⟩ := hK.shape
  have HK := hid' hK
  have HS := hid' h
  have HG := hid' hG
  have HW := hid' hw
  clear hK h hG hw
  go_enter Tryd.func56, Tryd.ntmps56
  go_wp2
  go_loopw [9] (fun i W => ∃ j : Nat, j ≤ ks.length ∧ i = .int .i64 j ∧ Hid (∃ P, Sp A sb (T ++ P) W ∧ On A w W ∧ Says G sp w0 P (joinL (lst bt) ((ks.take j).map sp)) (wtL (ks.take j)))) (fun i _ => ks.length - (intOf i).toNat)
  case atStart => exact ⟨0, Nat.zero_le _, rfl, [], by simpa using HS.out, On.rfl _ _, Says.nil⟩
  case round =>
    obtain ⟨j, hj, rfl, HR⟩ := hrel
    by_cases hlt : j < ks.length
    · obtain ⟨P, hS, hon, hSay⟩ := HR.out
      obtain ⟨m', b, off, x', kv', ks', hm', rfl, ⟨hbl, hbn⟩, hke, hat, hK'⟩ := HK.out.kid j hlt
      have hGk : allT G (Tr.node x' ks') = true := by rw [← hke]; exact allL_get HG.out j hlt
      have hwt : wtL (ks.take (j + 1)) = wtL (ks.take j) + (wtT (Tr.node x' ks') + 1) := by
        rw [take_next ks j hlt, wtL_append, hke]
        rfl
      have hwl : wtL (ks.take (j + 1)) ≤ wtL ks := by
        have := wtL_append (ks.take (j + 1)) (ks.drop (j + 1))
        rw [List.take_append_drop] at this
        omega
      have hjn : joinL (lst bt) ((ks.take (j + 1)).map sp) = joinL (lst bt) ((ks.take j).map sp) ++ ((if j = 0 then [] else lst bt) ++ sp (Tr.node x' ks')) := by
        rw [take_next ks j hlt, List.map_append, hke]
        show joinL (lst bt) (_ ++ [sp (Tr.node x' ks')]) = _
        rw [joinL_snoc]
        congr 2
        by_cases h0 : j = 0
        · subst h0
          rfl
        · rw [if_neg h0, if_neg]
          simp
          exact ⟨h0, fun e => by rw [e] at hlt; simp at hlt⟩
      have hPl := Nat.le_trans (len_le_wts P) hSay.wt
      have HF : Hid (∀ (P' : List Pc) (W' : World) (c : Nat), Sp A sb (T ++ P ++ P') W' → On A wr W' → Says G sp w0 P' ((if j = 0 then [] else lst bt) ++ sp (Tr.node x' ks')) c → c ≤ wtT (Tr.node x' ks') + 1 → ∃ P, Sp A sb (T ++ P) W' ∧ On A w W' ∧ Says G sp w0 P (joinL (lst bt) ((ks.take (j + 1)).map sp)) (wtL (ks.take (j + 1)))) :=
        fun P' W' c k1 k2 k3 k4 => ⟨P ++ P', by rw [← List.append_assoc]; exact k1, hon.trans k2, ((hSay.append k3).is hjn.symm).more (by omega)⟩
      have HSP : Hid (Sp A sb (T ++ P) wr) := hS
      have hPL : (T ++ P).length + 1 ≤ 1099511627776 := by rw [List.length_append]; omega
      generalize T ++ P = T1 at *
      have HPUT : Hid (∀ (T2 : List Pc) (W : World), Sp A sb T2 W → T2.length ≤ 1099511627776 → Calls Tryd.prog 55 #[.pointer (some ⟨sb, 0, none⟩), .pointer (some ⟨b, off + j * 6, none⟩)] W (Laid G sp w0 A sb T2 W (sp (Tr.node x' ks')) (wtT (Tr.node x' ks')))) := fun T2 W k1 k2 => put_new hat hbl hK' hGk k1 k2
      clear hke hat hK' hGk hwt hwl hjn hSay hS hon HR
      cases hbt : bt.toList == [] with
      | true =>
        have hb0 : Hid ((if j = 0 then [] else lst bt) = []) := by
          show _ = _
          split
          · rfl
          · rw [← lst_eq]; simpa using hbt
        by_cases h0 : j = 0
        · subst h0
          go_wp2_with (go_at_call 55; refine (HPUT.out T1 wr HSP.out (by omega)).mono ?_; rintro e w1 ⟨rfl, hq⟩; replace hq := hid' hq)
          obtain ⟨P', k1, k2, k3⟩ := hq.out
          exact ⟨⟨1, by omega, by go_num, HF.out P' w1 _ k1 k2 (k3.is (by rw [hb0.out]; rfl)) (Nat.le_succ _)⟩, by simp [intOf]; omega⟩
        · go_wp2_with (go_at_call 55; refine (HPUT.out T1 wr HSP.out (by omega)).mono ?_; rintro e w1 ⟨rfl, hq⟩; replace hq := hid' hq)
          obtain ⟨P', k1, k2, k3⟩ := hq.out
          exact ⟨⟨j + 1, by omega, by go_num, HF.out P' w1 _ k1 k2 (k3.is (by rw [hb0.out]; rfl)) (Nat.le_succ _)⟩, by simp [intOf]; omega⟩
      | false =>
        by_cases h0 : j = 0
        · subst h0
          rw [if_pos rfl] at HF
          go_wp2_with (go_at_call 55; refine (HPUT.out T1 wr HSP.out (by omega)).mono ?_; rintro e w1 ⟨rfl, hq⟩; replace hq := hid' hq)
          obtain ⟨P', k1, k2, k3⟩ := hq.out
          exact ⟨⟨1, by omega, by go_num, HF.out P' w1 _ k1 k2 (k3.is rfl) (Nat.le_succ _)⟩, by simp [intOf]; omega⟩
        · rw [if_neg h0] at HF
          go_wp2_with (first
            | (go_at_call 50; refine (say_new G sp w0 [bt] HSP.out (by simpa using hPL) _ _ rfl rfl).mono ?_; rintro e w1 ⟨rfl, P1, a1, a2, a3⟩; have hP1 : (T1 ++ P1).length ≤ 1099511627776 := by { have := a3.wt; have := len_le_wts P1; rw [List.length_append]; simp at *; omega }; replace a1 := hid' a1; replace a2 := hid' a2; replace a3 := hid' a3)
            | (go_at_call 55; refine (HPUT.out (T1 ++ P1) w1 a1.out hP1).mono ?_; rintro e w2 ⟨rfl, hq⟩; replace hq := hid' hq))
          obtain ⟨P', k1, k2, k3⟩ := hq.out
          exact ⟨⟨j + 1, by omega, by go_num, HF.out (P1 ++ P') w2 _ (by rw [← List.append_assoc]; exact k1) (a2.out.trans k2) (((a3.out.append k3)).is (by simp)) (by simp; omega)⟩, by simp [intOf]; omega⟩
    · have e : j = ks.length := by omega
      subst e
      have HE : Hid (∃ P, Sp A sb (T ++ P) wr ∧ On A w wr ∧ Says G sp w0 P (joinL (lst bt) (ks.map sp)) (wtL ks)) := by
        have := HR.out
        rw [List.take_length] at this
        exact this
      go_wp2
      go_end0
      exact ⟨rfl, HE.out⟩
end
end Go.Proofs.YtnnnfabpceapcaaDoor
