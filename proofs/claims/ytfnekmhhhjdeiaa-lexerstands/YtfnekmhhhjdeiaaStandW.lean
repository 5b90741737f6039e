/- The law of more blanks ahead of tokens. -/
import Derived.Test.YtfnekmhhhjdeiaaStand
import Derived.Test.YtfnekmhhhjdeiaaSame
import Derived.Test.YtfnekmhhhjdeiaaRQuote
import Derived.Lib.AppendStr
import Derived.Laws.OwnMore
import Derived.Deep.DeepCutAuto
import Derived.Deep.CutBlock
namespace Go.Proofs.Ytfnekmhhhjdeiaa
open Go.RowKit
set_option linter.unusedVariables false

theorem rowB_str {w : World} {B : Nat} {v : Value} {l : List UInt8} {s : ByteArray} (h : w.ownsRow B 5 1 v (l.length + s.size) (vals l ++ Lib.strCells s)) : RowB w B v (l ++ lst s) := by
  unfold RowB
  rw [vals_append, List.length_append, lst_len]
  exact h

/-- In the midst of the law's first loop. -/
structure StM (w1 : World) (l : List UInt8) (e : Nat) (ts : List TT) (O : List UInt8) (k at' : Nat) (tx : List UInt8) (v : Value) (W : World) : Prop where
  own : RowB W w1.heap.size v tx
  below : Below w1.heap.size w1 W
  out : O = tx ++ outT l e at' k (ts.drop k)
  rest : k < ts.length → allAt l at' = .ok (ts.drop k)
  fin : k = ts.length → at' = l.length
  len : tx.length ≤ at' + 2 * k
  hat : at' ≤ l.length

/-- What stands at a place: the next token, and where the rest begins. -/
theorem rest_at {l : List UInt8} {at' k : Nat} {ts : List TT} (ha : at' ≤ l.length) (hk : k < ts.length) (h : allAt l at' = .ok (ts.drop k)) :
    ∃ a b, ts[k].2 = (at' + a, at' + b) ∧ a ≤ b ∧ at' + b ≤ l.length ∧ gap (l.drop at') = (a, true) ∧ (ts[k].1.kind = 1 ↔ a = b) ∧ (k + 1 < ts.length → allAt l (at' + b) = .ok (ts.drop (k + 1))) ∧ (k + 1 = ts.length → at' + b = l.length) := by
  have hcons : ts.drop k = ts[k] :: ts.drop (k + 1) := List.drop_eq_getElem_cons hk
  match hn : nextF (l.drop at') with
  | .error p => rw [allAt_err ha hn] at h; cases h
  | .ok (t, a, b) =>
    obtain ⟨hg, hab, hbl, hk1, hkl, hlt, hke, hr⟩ := next_ok hn
    rw [List.length_drop] at hbl hkl
    by_cases ht : t.kind = 1
    · rw [allAt_end ha hn ht] at h
      have h2 := Except.ok.inj h
      rw [hcons] at h2
      obtain ⟨h3, h4⟩ := List.cons.inj h2
      have hl : ts.length = k + 1 := by
        have := congrArg List.length h4
        rw [List.length_drop] at this
        simp at this
        omega
      have hkd : ts[k].1.kind = 1 := by rw [← h3]; exact ht
      have hb := hke ht
      refine ⟨a, b, by rw [← h3], hab, by omega, hg, ⟨fun _ => by omega, fun _ => hkd⟩, fun h => by omega, fun _ => ?_⟩
      have := hkl.1 ht
      omega
    · rw [allAt_more ha hn ht] at h
      have hl2 := hlt ht
      match hr1 : allAt l (at' + b) with
      | .error e => rw [hr1] at h; cases h
      | .ok m =>
        rw [hr1] at h
        have h2 : (t, at' + a, at' + b) :: m = ts.drop k := Except.ok.inj h
        rw [hcons] at h2
        obtain ⟨h3, h4⟩ := List.cons.inj h2
        have hne : m ≠ [] := all_ne (by omega) hr1
        have hkn : ¬ ts[k].1.kind = 1 := by rw [← h3]; exact ht
        refine ⟨a, b, by rw [← h3], hab, by omega, hg, ⟨fun q => absurd q hkn, fun q => by omega⟩, fun _ => by rw [← h4]; exact hr1, fun q => ?_⟩
        have := congrArg List.length h4
        rw [List.length_drop] at this
        exact absurd (List.eq_nil_of_length_eq_zero (by omega)) hne

/-- A gap alone has one token. -/
theorem gap_one {l : List UInt8} {a : Nat} (h : gap l = (a, true)) (ha : a ≤ l.length) : allF (l.take a) = .ok [(⟨1, [], 0, false⟩, a, a)] := by
  have hl : (l.take a).length = a := by rw [List.length_take]; omega
  have hg : gap (l.take a) = (a, true) := by
    by_cases hlt : a = l.length
    · rw [hlt, List.take_of_length_le (Nat.le_refl _), ← hlt]; exact h
    · have hne : l.drop a ≠ [] := fun e => by
        have := congrArg List.length e
        rw [List.length_drop, List.length_nil] at this
        omega
      have := gap_cut (Y := l.drop a) (Z := []) hne (show gap [] = (0, true) from rfl) _ (l.take a) (Nat.le_refl _) (by rw [List.take_append_drop, h, hl])
      rw [List.append_nil, hl] at this
      exact this
  have hn := next_some hg (t := ⟨1, [], 0, false⟩) (n := 0) (by rw [List.drop_eq_nil_of_le (by omega)]; rfl)
  have := allAt_end (l := l.take a) (k := 0) (Nat.zero_le _) (by rw [List.drop_zero]; exact hn) rfl
  show allAt _ 0 = _
  rw [this]
  simp
theorem lst_mid (s : ByteArray) (p q : Nat) : lst (s.extract p q) = ((lst s).drop p).take (q - p) := ext_data s p q
theorem mid_size (s : ByteArray) (p q : Nat) (h : q ≤ s.size) : (s.extract p q).size = q - p := by rw [ByteArray.size_extract]; omega


theorem all_own {s : ByteArray} {ts : List TT} (h : OkA s ts) (m : Int) (w : World) (hm : HM m w) :
    Calls Try.prog 12 #[.string s] w fun e w' => ∃ g cap, e = .returned (.tuple #[.slice (some ⟨g, 0, none⟩) ts.length cap, .int .i64 0, .int .i64 0]) ∧ OwnT w' w.heap.size (.slice (some ⟨g, 0, none⟩) ts.length cap) ts ∧ w.heap.size ≤ g ∧ g < w'.heap.size ∧ ts.length ≤ cap ∧ Below w.heap.size w w' := by
  refine (all12 s h.1 m w hm).mono ?_
  rintro e w' ⟨h1, hb⟩
  rcases h1 with ⟨p, hp, _⟩ | ⟨ts', v, hv, rfl, hO⟩
  · rw [h.2] at hp; cases hp
  · rw [h.2] at hv
    have hts : ts = ts' := Except.ok.inj hv
    subst hts
    have hO' := hO
    obtain ⟨_, ⟨rfl, h0⟩ | ⟨g, cap, cur, rfl, hg1, hg2, hg3, _⟩⟩ := hO
    · exact absurd (List.eq_nil_of_length_eq_zero h0) (all_ne (Nat.zero_le _) h.2)
    · exact ⟨g, cap, rfl, hO', hg1, (Array.getElem?_eq_some_iff.1 hg2).1, hg3, hb⟩
theorem cells_set2 {p q : Nat} : ∀ (L : List TT) (k : Nat) (hk : k < L.length), ((cellsT L).set (k * 6 + 4) (.int .i64 (p : Nat))).set (k * 6 + 5) (.int .i64 (q : Nat)) = cellsT (L.set k (L[k].1, p, q))
  | a :: r, 0, hk => rfl
  | a :: r, k + 1, hk => by
    have ih := cells_set2 (p := p) (q := q) r k (by simpa using hk)
    have e : cellsT (a :: r) = cellsT1 a ++ cellsT r := rfl
    have l6 : (cellsT1 a).length = 6 := rfl
    rw [e, List.set_append_right _ _ (by rw [l6]; omega), l6, show (k + 1) * 6 + 4 - 6 = k * 6 + 4 by omega, List.set_append_right _ _ (by rw [l6]; omega), l6, show (k + 1) * 6 + 5 - 6 = k * 6 + 5 by omega, ih]
    rfl
/-- The first k places are the others'. -/
def mixT (ts ts' : List TT) (k : Nat) : List TT := ts.take k ++ ts'.drop k
theorem mixT_len {ts ts' : List TT} (h : ts'.length = ts.length) {k : Nat} (hk : k ≤ ts.length) : (mixT ts ts' k).length = ts.length := by
  unfold mixT
  rw [List.length_append, List.length_take, List.length_drop]
  omega
theorem mixT_get {ts ts' : List TT} (h : ts'.length = ts.length) {k : Nat} (hk : k < ts.length) : (mixT ts ts' k)[k]'(by rw [mixT_len h (by omega)]; exact hk) = ts'[k] := by
  unfold mixT
  rw [List.getElem_append_right (by rw [List.length_take]; omega)]
  simp only [List.length_take, List.getElem_drop]
  congr 1
  omega
theorem mixT_set {ts ts' : List TT} (h : ts'.length = ts.length) {k : Nat} (hk : k < ts.length) (hf : ts'[k].1 = ts[k].1) : (mixT ts ts' k).set k (ts'[k].1, ts[k].2.1, ts[k].2.2) = mixT ts ts' (k + 1) := by
  have e : (ts'[k].1, ts[k].2.1, ts[k].2.2) = ts[k] := by rw [hf]
  rw [e]
  unfold mixT
  rw [List.set_append_right _ _ (by rw [List.length_take]; omega), List.length_take, show k - min k ts.length = 0 by omega, List.drop_eq_getElem_cons (show k < ts'.length by omega), List.set_cons_zero]
  rw [← List.take_append_getElem hk, List.append_assoc]
  rfl
theorem OwnT.put {w : World} {B g cap : Nat} {L : List TT} (h : OwnT w B (.slice (some ⟨g, 0, none⟩) L.length cap) L) {k : Nat} (hk : k < L.length) (p q : Nat) :
    OwnT ((w.setCell ⟨g, k * 6 + 4, none⟩ (.int .i64 (p : Nat))).setCell ⟨g, k * 6 + 5, none⟩ (.int .i64 (q : Nat))) B (.slice (some ⟨g, 0, none⟩) L.length cap) (L.set k (L[k].1, p, q)) := by
  have h1 := (World.ownsRow.stored h (k * 6 + 4) (.int .i64 (p : Nat))).1
  have h2 := (World.ownsRow.stored h1 (k * 6 + 5) (.int .i64 (q : Nat))).1
  rw [cells_set2 L k hk] at h2
  unfold OwnT
  rw [List.length_set]
  exact h2
theorem HM.drewN' {m : Int} {w : World} (h : HM m w) (n : Nat) : HM m (w.drewN n) := h.below ⟨rfl, rfl, rfl, Nat.le_refl _, fun _ _ => rfl⟩

/-- A token's block. -/
def TB (W : World) (b : Nat) (c : Array Value) : Prop := W.heap[b]? = some (.cells c 24)
theorem row_tag {W : World} {B n j : Nat} {v : Value} {xs : List Value} (h : W.ownsRow B 5 1 v n xs) (hj : v.ownBlock = some j) : ∃ cur, W.heap[j]? = some (.cells cur 5) := by
  obtain ⟨_, ⟨rfl, _⟩ | ⟨g, cap, cur, rfl, _, hg2, _⟩⟩ := h
  · cases hj
  · have : g = j := Option.some.inj hj
    subst this
    exact ⟨cur, hg2⟩
theorem TB.stay {W W' : World} {B b : Nat} {c : Array Value} {v : Value} {l : List UInt8} (h : TB W b c) (hr : RowB W B v l) (hg : W.grownBy W' v.ownBlock) : TB W' b c := by
  obtain ⟨_, _, _, _, g5⟩ := hg
  have hb : b < W.heap.size := (Array.getElem?_eq_some_iff.1 h).1
  refine (g5 b hb (fun e => ?_)).trans h
  obtain ⟨cur, hc⟩ := row_tag hr (by first | exact e | exact e.symm)
  unfold TB at h
  rw [hc] at h
  injection h with h
  injection h with _ h2
  cases h2
theorem TB.cell {W : World} {b : Nat} {c : Array Value} (h : TB W b c) (i : Nat) : W.cell? ⟨b, i, none⟩ = c[i]? := by
  unfold TB at h
  simp [World.cell?, h]
theorem TB.lt {W : World} {b : Nat} {c : Array Value} (h : TB W b c) : b < W.heap.size := (Array.getElem?_eq_some_iff.1 h).1
abbrev tokC (kd : Nat) (tk : ByteArray) (nu : Nat) (un : Bool) (p q : Nat) : Array Value := #[.int .i64 (kd : Int), .string tk, .int .u32 (nu : Int), .bool un, .int .i64 (p : Int), .int .i64 (q : Int)]

set_option maxRecDepth 20000 in
set_option maxHeartbeats 8000000 in
theorem stands7_ok (s : ByteArray) (e : Nat) (he : e ≤ 255) (ts : List TT) (h : OkA s ts) (m : Int) (w : World) (hm : HM m w) :
    Calls Try.prog 7 #[.string s, .int .u8 (e : Int)] w fun e w' => e = .returned (.bool true) ∧ Below w.heap.size w w' := by
  have hlen := lst_len s
  have hsz := h.1
  have hne := all_ne (Nat.zero_le _) h.2
  have htl : ts.length ≤ 65537 := by
    have h1 := all_bound _ 0 ts (Nat.zero_le _) (Nat.le_refl _) h.2
    rw [lst_len] at h1
    omega
  have h12 := fun w => all_good h m w
  obtain ⟨O, hO⟩ : ∃ O, O = outT (lst s) e 0 0 ts := ⟨_, rfl⟩
  obtain ⟨i0, hi, hz0, hz1, hz2⟩ := info_parts info5'
  have hst := stand_all (l := lst s) (e := e) _ 0 0 ts (Nat.zero_le _) (Nat.le_refl _) h.2
  rw [← hO] at hst
  obtain ⟨⟨ts', hts', hfst⟩, _⟩ := hst
  have HO := hid hO
  have HT := hid hts'
  have HFS := hid hfst
  have HA0 : Hid (allAt (lst s) 0 = .ok ts) := h.2
  have hpos : 0 < ts.length := by
    cases ts with
    | nil => exact absurd rfl hne
    | cons a t => simp
  replace hm := hid hm
  clear hO hts' hfst hne h
  go_enter Try.func7, Try.ntmps7
  go_upto_block 0 with (go_at_call 12; (with_reducible refine (h12 _ hm.out).mono ?_); rintro e w1 ⟨g1, cap1, rfl, hc1, hl1, hg1, hb1⟩; have hm1 := hid (hm.out.below hb1); replace hc1 := hid hc1; replace hb1 := hid hb1)
  go_cut [8, 9] (fun v a wx => ∃ at' tx, a = .int .i64 (at' : Nat) ∧ StM w1 (lst s) e ts O ts.length at' tx v wx)
  case first =>
    go_wp2_with fail
    go_loopw [8, 9, 10] (fun v a i wr => ∃ (k at' : Nat) (tx : List UInt8), k ≤ ts.length ∧ i = .int .i64 (k : Nat) ∧ a = .int .i64 (at' : Nat) ∧ StM w1 (lst s) e ts O k at' tx v wr) (fun _ _ i _ => ts.length - (intOf i).toNat)
    case atStart => exact ⟨0, 0, [], Nat.zero_le _, rfl, rfl, ⟨⟨rfl, .inr ⟨w1.heap.size, 0, #[], rfl, Nat.le_refl _, heap_alloc_new w1 _, Nat.le_refl _, by unfold maxLen; omega, rfl, rfl⟩⟩, below_box _ _, by rw [HO.out]; rfl, fun _ => HA0.out, fun q => by omega, by simp, Nat.zero_le _⟩⟩
    case round =>
      obtain ⟨k, at', tx, hk, rfl, rfl, hM⟩ := hrel
      have HM0 := hid hM
      clear hM
      by_cases hlt : k < ts.length
      · obtain ⟨a, b, hx2, hab, hbl, hg, hkd, hnx, hfin⟩ := rest_at HM0.out.hat hlt (HM0.out.rest hlt)
        obtain ⟨t0, t1, t2, t3, t4, t5⟩ := tok_at hc1.out hg1 HM0.out.below hlt
        have hcons : ts.drop k = ts[k] :: ts.drop (k + 1) := List.drop_eq_getElem_cons hlt
        have hout := HM0.out.out
        rw [hcons] at hout
        generalize ts[k] = x at *
        obtain ⟨⟨kd, txt, nu, un⟩, ps, en⟩ := x
        dsimp only at hx2 hkd t0 t1 t2 t3 t4 t5
        obtain ⟨rfl, rfl⟩ := Prod.mk.inj hx2
        obtain ⟨p, hp⟩ : ∃ p, p = at' + a := ⟨_, rfl⟩
        obtain ⟨q, hq⟩ : ∃ q, q = at' + b := ⟨_, rfl⟩
        rw [← hp] at t4 hout
        rw [← hq] at t5 hout hbl hnx hfin
        simp only [outT] at hout
        have hpa : p - at' = a := by omega
        have hap : at' ≤ p := by omega
        have hpq : p ≤ q := by omega
        have hqs : q ≤ s.size := by omega
        have hkpq : kd = 1 ↔ p = q := by rw [hkd]; omega
        have hOk : OkA (s.extract at' p) [(⟨1, [], 0, false⟩, a, a)] := ⟨by rw [mid_size _ _ _ (by omega)]; omega, by rw [lst_mid, hpa]; exact gap_one hg (by rw [List.length_drop]; omega)⟩
        have h12p := fun w => all_good hOk m w
        have e1 : s.extract at' p = s.extract at' p := rfl
        have hs1 := mid_size s at' p (by omega)
        have hs2 := mid_size s p q hqs
        have L1 := hid (lst_mid s at' p)
        have L2 := hid (lst_mid s p q)
        have hrowlt := fun j hj => (World.ownsRow.lt HM0.out.own j hj)
        have hsr := HM0.out.below.size
        have HR := hid (show q ≤ s.size ∧ tx.length ≤ at' + 2 * k ∧ (k + 1 < ts.length → allAt (lst s) q = .ok (ts.drop (k + 1))) ∧ (k + 1 = ts.length → q = (lst s).length) from ⟨hqs, HM0.out.len, hnx, hfin⟩)
        have HOUT := hid hout
        have hmr := hid (hm1.out.below HM0.out.below)
        have a1 : (at' : Int) ≤ p := by omega
        have a2 : (p : Int) ≤ q := by omega
        have a3 : (q : Int) ≤ s.size := by omega
        have a4 : (p : Int) ≤ s.size := by omega
        have hk12 : (((q : Int) == (p : Int)) = true ∧ ((kd : Int) == 1) = true) ∨ (((q : Int) == (p : Int)) = false ∧ ((kd : Int) == 1) = false) := by
          by_cases hk1 : kd = 1
          · exact .inl ⟨by simp; omega, by simp; omega⟩
          · exact .inr ⟨by simp; omega, by simp; omega⟩
        have hlen3 := HM0.out.len
        clear hkpq hkd hnx hfin hout hcons hx2 hg hbl hpa hOk hp hq hab e1
        obtain ⟨tk, htk⟩ : ∃ tk, tk = strL txt := ⟨_, rfl⟩
        rw [← htk] at t1
        clear htk
        rcases hk12 with ⟨b1, b2⟩ | ⟨b1, b2⟩
        · go_wp2_with (first
            | (go_at_call 12; (with_reducible refine (h12p _ (hmr.out.alloc _)).mono ?_); rintro e2 w2 ⟨g2, cap2, rfl, _, _, _, hb2⟩; have T2 : TB w2 wr.heap.size (tokC kd tk nu un p q) := (hb2.block wr.heap.size (by simp)).trans (heap_alloc_new wr _); have z4 := T2.cell 4; have z5 := T2.cell 5; have hs3 := T2.lt; replace T2 := hid T2; replace hb2 := hid (below_box2 hb2))
            | (at_builtin; refine of_mark ?_))
          unfold Mark
          have O2 : RowB w2 w1.heap.size u8 tx := own_below HM0.out.own hb2.out
          have B2 : Below w1.heap.size w1 w2 := HM0.out.below.trans (hb2.out.mono hsr)
          refine Lib.wpList_append_own_string _ rfl _ _ 36 9 rfl w1.heap.size 5 i0 Try.underlying36 Try.underlying9 hi hz0 hz1 hz2 _ _ _ rfl O2 (s.extract at' p) rfl (by rw [hs1]; unfold maxLen; omega) (by rw [hs1]; omega) (by omega) ?_
          intro v3 w3 hown3 hgrow3 _
          have O3 := hid (rowB_str hown3)
          have B3 : Hid (Below w1.heap.size w1 w3) := B2.grown hgrow3 (by omega) (fun j hj => (World.ownsRow.lt O2 j hj).1)
          have T3 := T2.out.stay O2 hgrow3
          have l3 : (tx ++ lst (s.extract at' p)).length = tx.length + (p - at') := by rw [List.length_append, lst_len, hs1]
          have y4 := T3.cell 4
          have y5 := T3.cell 5
          have hs4 := T3.lt
          replace T3 := hid T3
          clear hown3 hgrow3 O2 B2 z4 z5 hb2 h12p T2 hs3
          by_cases hin : (k + e) % 3 = 0
          · have hin2 : ((k : Int) + (e : Int)) % 3 = 0 := by omega
            have hin1 : ((k : Int) + (e : Int)).tmod 3 = 0 := (Int.tmod_eq_emod_of_nonneg (by omega)).trans hin2
            have HI : Hid (insE e k = [32, 9]) := if_pos hin
            have hb3 := B3.out.size
            go_wp2_with (at_builtin; refine of_mark ?_)
            unfold Mark
            refine Lib.wpList_append_own_string _ rfl _ _ 36 9 rfl w1.heap.size 5 i0 Try.underlying36 Try.underlying9 hi hz0 hz1 hz2 _ _ _ rfl O3.out ⟨#[32, 9]⟩ rfl (by rw [l3]; show _ + 2 ≤ _; unfold maxLen; omega) (by rw [l3]; show _ + 2 ≤ _; omega) (by omega) ?_
            intro v4 w4 hown4 hgrow4 _
            have O4 := hid (rowB_str hown4)
            have B4 : Hid (Below w1.heap.size w1 w4) := B3.out.grown hgrow4 (by omega) (fun j hj => (World.ownsRow.lt O3.out j hj).1)
            have T4 := T3.out.stay O3.out hgrow4
            have l4 : (tx ++ lst (s.extract at' p) ++ lst ⟨#[32, 9]⟩).length = tx.length + (p - at') + 2 := by rw [List.length_append, l3]; rfl
            have x4 := T4.cell 4
            have x5 := T4.cell 5
            have hs5 := T4.lt
            have hb4 := B4.out.size
            replace T4 := hid T4
            clear hown4 hgrow4 y4 y5 hs4 hb3
            go_wp2_with (at_builtin; refine of_mark ?_)
            unfold Mark
            refine Lib.wpList_append_own_string _ rfl _ _ 36 9 rfl w1.heap.size 5 i0 Try.underlying36 Try.underlying9 hi hz0 hz1 hz2 _ _ _ rfl O4.out (s.extract p q) rfl (by rw [l4, hs2]; unfold maxLen; omega) (by rw [l4, hs2]; omega) (by omega) ?_
            intro v5 w5 hown5 hgrow5 _
            have O5 := hid (rowB_str hown5)
            have B5 : Hid (Below w1.heap.size w1 w5) := B4.out.grown hgrow5 (by omega) (fun j hj => (World.ownsRow.lt O4.out j hj).1)
            have T5 := T4.out.stay O4.out hgrow5
            have v5' := T5.cell 5
            have hs6 := T5.lt
            clear hown5 hgrow5 x4 x5 hs5 hb4
            go_wp2
            go_roundw
            case rel =>
              refine ⟨k + 1, q, tx ++ lst (s.extract at' p) ++ lst ⟨#[32, 9]⟩ ++ lst (s.extract p q), by omega, vi (by omega), rfl, ⟨O5.out, B5.out, ?_, HR.out.2.2.1, HR.out.2.2.2, ?_, by rw [lst_len]; exact HR.out.1⟩⟩
              · rw [HOUT.out, L1.out, L2.out, HI.out, show lst ⟨#[32, 9]⟩ = [32, 9] from rfl]
                simp only [List.append_assoc]
              · rw [List.length_append, l4, lst_len, hs2]
                omega
            case measure => simp [intOf]; omega
          · have hin2 : ¬ ((k : Int) + (e : Int)) % 3 = 0 := by omega
            have hin1 : (((k : Int) + (e : Int)).tmod 3 == 0) = false := by
              rw [Int.tmod_eq_emod_of_nonneg (by omega)]
              simpa using hin2
            have HI : Hid (insE e k = []) := if_neg hin
            have hb3 := B3.out.size
            go_wp2_with (at_builtin; refine of_mark ?_)
            unfold Mark
            refine Lib.wpList_append_own_string _ rfl _ _ 36 9 rfl w1.heap.size 5 i0 Try.underlying36 Try.underlying9 hi hz0 hz1 hz2 _ _ _ rfl O3.out (s.extract p q) rfl (by rw [l3, hs2]; unfold maxLen; omega) (by rw [l3, hs2]; omega) (by omega) ?_
            intro v5 w5 hown5 hgrow5 _
            have O5 := hid (rowB_str hown5)
            have B5 : Hid (Below w1.heap.size w1 w5) := B3.out.grown hgrow5 (by omega) (fun j hj => (World.ownsRow.lt O3.out j hj).1)
            have T5 := T3.out.stay O3.out hgrow5
            have v5' := T5.cell 5
            have hs6 := T5.lt
            clear hown5 hgrow5 y4 y5 hs4 hb3
            go_wp2
            go_roundw
            case rel =>
              refine ⟨k + 1, q, tx ++ lst (s.extract at' p) ++ lst (s.extract p q), by omega, vi (by omega), rfl, ⟨O5.out, B5.out, ?_, HR.out.2.2.1, HR.out.2.2.2, ?_, by rw [lst_len]; exact HR.out.1⟩⟩
              · rw [HOUT.out, L1.out, L2.out, HI.out]
                simp only [List.append_assoc, List.nil_append]
              · rw [List.length_append, l3, lst_len, hs2]
                omega
            case measure => simp [intOf]; omega
        · go_wp2_with (first
            | (go_at_call 12; (with_reducible refine (h12p _ (hmr.out.alloc _)).mono ?_); rintro e2 w2 ⟨g2, cap2, rfl, _, _, _, hb2⟩; have T2 : TB w2 wr.heap.size (tokC kd tk nu un p q) := (hb2.block wr.heap.size (by simp)).trans (heap_alloc_new wr _); have z4 := T2.cell 4; have z5 := T2.cell 5; have hs3 := T2.lt; replace T2 := hid T2; replace hb2 := hid (below_box2 hb2))
            | (at_builtin; refine of_mark ?_))
          unfold Mark
          have O2 : RowB w2 w1.heap.size u8 tx := own_below HM0.out.own hb2.out
          have B2 : Below w1.heap.size w1 w2 := HM0.out.below.trans (hb2.out.mono hsr)
          refine Lib.wpList_append_own_string _ rfl _ _ 36 9 rfl w1.heap.size 5 i0 Try.underlying36 Try.underlying9 hi hz0 hz1 hz2 _ _ _ rfl O2 (s.extract at' p) rfl (by rw [hs1]; unfold maxLen; omega) (by rw [hs1]; omega) (by omega) ?_
          intro v3 w3 hown3 hgrow3 _
          have O3 := hid (rowB_str hown3)
          have B3 : Hid (Below w1.heap.size w1 w3) := B2.grown hgrow3 (by omega) (fun j hj => (World.ownsRow.lt O2 j hj).1)
          have T3 := T2.out.stay O2 hgrow3
          have l3 : (tx ++ lst (s.extract at' p)).length = tx.length + (p - at') := by rw [List.length_append, lst_len, hs1]
          have y4 := T3.cell 4
          have y5 := T3.cell 5
          have hs4 := T3.lt
          replace T3 := hid T3
          clear hown3 hgrow3 O2 B2 z4 z5 hb2 h12p T2 hs3
          by_cases hin : (k + e) % 3 = 0
          · have hin2 : ((k : Int) + (e : Int)) % 3 = 0 := by omega
            have hin1 : ((k : Int) + (e : Int)).tmod 3 = 0 := (Int.tmod_eq_emod_of_nonneg (by omega)).trans hin2
            have HI : Hid (insE e k = [32, 9]) := if_pos hin
            have hb3 := B3.out.size
            go_wp2_with (at_builtin; refine of_mark ?_)
            unfold Mark
            refine Lib.wpList_append_own_string _ rfl _ _ 36 9 rfl w1.heap.size 5 i0 Try.underlying36 Try.underlying9 hi hz0 hz1 hz2 _ _ _ rfl O3.out ⟨#[32, 9]⟩ rfl (by rw [l3]; show _ + 2 ≤ _; unfold maxLen; omega) (by rw [l3]; show _ + 2 ≤ _; omega) (by omega) ?_
            intro v4 w4 hown4 hgrow4 _
            have O4 := hid (rowB_str hown4)
            have B4 : Hid (Below w1.heap.size w1 w4) := B3.out.grown hgrow4 (by omega) (fun j hj => (World.ownsRow.lt O3.out j hj).1)
            have T4 := T3.out.stay O3.out hgrow4
            have l4 : (tx ++ lst (s.extract at' p) ++ lst ⟨#[32, 9]⟩).length = tx.length + (p - at') + 2 := by rw [List.length_append, l3]; rfl
            have x4 := T4.cell 4
            have x5 := T4.cell 5
            have hs5 := T4.lt
            have hb4 := B4.out.size
            replace T4 := hid T4
            clear hown4 hgrow4 y4 y5 hs4 hb3
            go_wp2_with (at_builtin; refine of_mark ?_)
            unfold Mark
            refine Lib.wpList_append_own_string _ rfl _ _ 36 9 rfl w1.heap.size 5 i0 Try.underlying36 Try.underlying9 hi hz0 hz1 hz2 _ _ _ rfl O4.out (s.extract p q) rfl (by rw [l4, hs2]; unfold maxLen; omega) (by rw [l4, hs2]; omega) (by omega) ?_
            intro v5 w5 hown5 hgrow5 _
            have O5 := hid (rowB_str hown5)
            have B5 : Hid (Below w1.heap.size w1 w5) := B4.out.grown hgrow5 (by omega) (fun j hj => (World.ownsRow.lt O4.out j hj).1)
            have T5 := T4.out.stay O4.out hgrow5
            have v5' := T5.cell 5
            have hs6 := T5.lt
            clear hown5 hgrow5 x4 x5 hs5 hb4
            go_wp2
            go_roundw
            case rel =>
              refine ⟨k + 1, q, tx ++ lst (s.extract at' p) ++ lst ⟨#[32, 9]⟩ ++ lst (s.extract p q), by omega, vi (by omega), rfl, ⟨O5.out, B5.out, ?_, HR.out.2.2.1, HR.out.2.2.2, ?_, by rw [lst_len]; exact HR.out.1⟩⟩
              · rw [HOUT.out, L1.out, L2.out, HI.out, show lst ⟨#[32, 9]⟩ = [32, 9] from rfl]
                simp only [List.append_assoc]
              · rw [List.length_append, l4, lst_len, hs2]
                omega
            case measure => simp [intOf]; omega
          · have hin2 : ¬ ((k : Int) + (e : Int)) % 3 = 0 := by omega
            have hin1 : (((k : Int) + (e : Int)).tmod 3 == 0) = false := by
              rw [Int.tmod_eq_emod_of_nonneg (by omega)]
              simpa using hin2
            have HI : Hid (insE e k = []) := if_neg hin
            have hb3 := B3.out.size
            go_wp2_with (at_builtin; refine of_mark ?_)
            unfold Mark
            refine Lib.wpList_append_own_string _ rfl _ _ 36 9 rfl w1.heap.size 5 i0 Try.underlying36 Try.underlying9 hi hz0 hz1 hz2 _ _ _ rfl O3.out (s.extract p q) rfl (by rw [l3, hs2]; unfold maxLen; omega) (by rw [l3, hs2]; omega) (by omega) ?_
            intro v5 w5 hown5 hgrow5 _
            have O5 := hid (rowB_str hown5)
            have B5 : Hid (Below w1.heap.size w1 w5) := B3.out.grown hgrow5 (by omega) (fun j hj => (World.ownsRow.lt O3.out j hj).1)
            have T5 := T3.out.stay O3.out hgrow5
            have v5' := T5.cell 5
            have hs6 := T5.lt
            clear hown5 hgrow5 y4 y5 hs4 hb3
            go_wp2
            go_roundw
            case rel =>
              refine ⟨k + 1, q, tx ++ lst (s.extract at' p) ++ lst (s.extract p q), by omega, vi (by omega), rfl, ⟨O5.out, B5.out, ?_, HR.out.2.2.1, HR.out.2.2.2, ?_, by rw [lst_len]; exact HR.out.1⟩⟩
              · rw [HOUT.out, L1.out, L2.out, HI.out]
                simp only [List.append_assoc, List.nil_append]
              · rw [List.length_append, l3, lst_len, hs2]
                omega
            case measure => simp [intOf]; omega
      · have : k = ts.length := by omega
        subst this
        go_wp2
        go_meet
        case rel => exact ⟨at', tx, rfl, HM0.out⟩
  case rest =>
    obtain ⟨at', tx, rfl, hM⟩ := hcut
    have hfinal := hM.out
    rw [List.drop_length] at hfinal
    have hOtx : O = tx := by rw [hfinal]; simp [outT]
    have hat := hM.fin rfl
    rw [hlen] at hat
    subst hat
    have htxl := hM.len
    have hcv := conv_own hM.own
    have HB := hid hM.below
    have hTX := HT.out
    rw [hOtx] at hTX
    have hm2 := hid (hm1.out.below hM.below)
    have hlt' : ts'.length = ts.length := by have := congrArg List.length HFS.out; simpa using this
    have hsw := hM.below.size
    clear hM hfinal HO HA0
    have hsS := strL_size tx
    by_cases hlong : tx.length ≤ 65536
    · have hOk : OkA (strL tx) ts' := ⟨by rw [hsS]; exact hlong, by rw [lst_strL]; exact hTX⟩
      have h12o := fun w => all_own hOk m w
      rw [hlt'] at h12o
      have HF2 : Hid (∀ k (h : k < ts.length), (ts'[k]'(by omega)).1 = ts[k].1) := fun k h => by
        have := congrArg (fun L : List Tok => L[k]?) HFS.out
        simp only [List.getElem?_map, List.getElem?_eq_getElem h, List.getElem?_eq_getElem (show k < ts'.length by omega), Option.map_some, Option.some.injEq] at this
        exact this
      go_wp2_with (go_at_call 12; (with_reducible refine (h12o _ hm2.out).mono ?_); rintro e2 w3 ⟨g3, cap3, rfl, ho3, hg3, hg3', hcap3, hb3⟩)
      have B3 : Hid (Below w1.heap.size w1 w3) := HB.out.trans (hb3.mono hsw)
      have HO3 : Hid (OwnT w3 wc.heap.size (.slice (some ⟨g3, 0, none⟩) ts.length cap3) (mixT ts ts' 0)) := by
        have e : mixT ts ts' 0 = ts' := by unfold mixT; simp
        rw [e]
        exact ho3
      clear ho3 hb3 h12o
      go_loopw [19] (fun i wr => ∃ k : Nat, k ≤ ts.length ∧ i = .int .i64 (k : Nat) ∧ OwnT wr wc.heap.size (.slice (some ⟨g3, 0, none⟩) ts.length cap3) (mixT ts ts' k) ∧ Below w1.heap.size w1 wr ∧ g3 < wr.heap.size) (fun i _ => ts.length - (intOf i).toNat)
      case atStart => exact ⟨0, Nat.zero_le _, rfl, HO3.out, B3.out, hg3'⟩
      case round =>
        obtain ⟨k, hk, rfl, hO, hBw, hgw⟩ := hrel
        have HOW := hid hO
        have HBW := hid hBw
        by_cases hlt : k < ts.length
        · obtain ⟨t0, t1, t2, t3, t4, t5⟩ := tok_at hc1.out hg1 hBw hlt
          have hml := mixT_len hlt' hk
          have hO2 : OwnT wr wc.heap.size (.slice (some ⟨g3, 0, none⟩) (mixT ts ts' k).length cap3) (mixT ts ts' k) := by rw [hml]; exact hO
          have hput := hO2.put (k := k) (by omega) ts[k].2.1 ts[k].2.2
          rw [mixT_get hlt' hlt, mixT_set hlt' hlt (HF2.out k hlt), hml] at hput
          have f4 := World.ownsRow.frozenAt hO2 (k * 6 + 4)
          have f5 := World.ownsRow.frozenAt hO2 (k * 6 + 5)
          have c4 := World.ownsRow.cellAt hO2 (k * 6 + 4) (by omega)
          have c5 := World.ownsRow.cellAt hO2 (k * 6 + 5) (by omega)
          have d4 := cellsT_at (mixT ts ts' k) k (by omega) 4 (by omega)
          have d5 := cellsT_at (mixT ts ts' k) k (by omega) 5 (by omega)
          obtain ⟨o4, c4'⟩ : ∃ x : Int, wr.cell? ⟨g3, k * 6 + 4, none⟩ = some (.int .i64 x) := ⟨_, (c4.trans d4).trans rfl⟩
          obtain ⟨o5, c5'⟩ : ∃ x : Int, wr.cell? ⟨g3, k * 6 + 5, none⟩ = some (.int .i64 x) := ⟨_, (c5.trans d5).trans rfl⟩
          have K2 : Below w1.heap.size w1 ((wr.setCell ⟨g3, k * 6 + 4, none⟩ (.int .i64 (ts[k].2.1 : Nat))).setCell ⟨g3, k * 6 + 5, none⟩ (.int .i64 (ts[k].2.2 : Nat))) := (hBw.setCell (by show w1.heap.size ≤ g3; omega) _).setCell (by show w1.heap.size ≤ g3; omega) _
          have HPUT := hid hput
          have HK2 := hid K2
          have g1lt : g1 < wr.heap.size := Nat.lt_of_lt_of_le hg1 hBw.size
          have g13 : g1 ≠ g3 := by omega
          clear hO hBw hput hO2 K2 d4 d5 c4 c5 hml t0 t1 t2 t3
          generalize ts[k].2.1 = P at *
          generalize ts[k].2.2 = Q at *
          go_wp2
          go_roundw
          case rel => exact ⟨k + 1, by omega, vi (by omega), HPUT.out, HK2.out, by simp [World.setCell]; exact hgw⟩
          case measure => simp [intOf]; omega
        · have : k = ts.length := by omega
          subst this
          have emix : mixT ts ts' ts.length = ts := by unfold mixT; rw [List.take_of_length_le (Nat.le_refl _), List.drop_eq_nil_of_le (by omega), List.append_nil]
          rw [emix] at hO
          have hcm : Hid (∀ j u, (cellsT ts)[j]? = some u → wr.cell? ⟨g3, j, none⟩ = some u) := fun j u hj => by
            have := World.ownsRow.cells hO (g := g3) rfl j u hj
            rw [Addr.add_lit, Nat.zero_add] at this
            exact this
          have hcl : Hid (∀ j u, (cellsT ts)[j]? = some u → wr.cell? ⟨g1, j, none⟩ = some u) := fun j u hj => (hBw.cell (p := ⟨g1, j, none⟩) hg1).trans (hc1.out j u hj)
          have g1lt : g1 < wr.heap.size := Nat.lt_of_lt_of_le hg1 hBw.size
          have hmw := hid (hm1.out.below hBw)
          clear hO hBw emix
          go_wp2_with (first
            | (go_at_call 14; (with_reducible refine (same14 (by omega) hcl.out hcm.out g1lt hgw).mono ?_); rintro e2 w4 ⟨rfl, n4, rfl⟩)
            | (go_at_call 11; (with_reducible refine (awake11 m _ (hmw.out.drewN' _)).mono ?_); rintro e2 w5 ⟨rfl, hb5⟩; replace hb5 := hid hb5))
          go_ret
          have B6 : Below w1.heap.size w1 (wr.drewN n4) := HBW.out.trans ⟨rfl, rfl, rfl, Nat.le_refl _, fun _ _ => rfl⟩
          exact ⟨rfl, below_then hb1.out (B6.trans (hb5.out.mono HBW.out.size))⟩
    · have hlong2 : (65536 : Int) < ((strL tx).size : Int) := by rw [hsS]; omega
      have h12L := fun w => all12_long (strL tx) (by rw [hsS]; exact hlong) w
      go_wp2_with (first
        | (go_at_call 12; (with_reducible refine (h12L _).mono ?_); rintro e2 w3 ⟨rfl, rfl⟩)
        | (go_at_call 11; (with_reducible refine (awake11 m _ hm2.out).mono ?_); rintro e2 w4 ⟨rfl, hb4⟩; replace hb4 := hid hb4))
      go_ret
      exact ⟨rfl, below_then hb1.out (HB.out.trans (hb4.out.mono hsw))⟩

set_option maxRecDepth 20000 in
set_option maxHeartbeats 2000000 in
theorem stands7 (s : ByteArray) (e : Nat) (he : e ≤ 255) (m : Int) (w : World) (hm : HM m w) :
    Calls Try.prog 7 #[.string s, .int .u8 (e : Int)] w fun e w' => e = .returned (.bool true) ∧ Below w.heap.size w w' := by
  rcases all_any s with ⟨ts, h⟩ | h
  · exact stands7_ok s e he ts h m w hm
  · obtain ⟨p, c, hc, h12⟩ := all_bad h
    have hc0 : (c != 0) = true := by rcases hc with rfl | rfl <;> rfl
    have hc1 : ¬ c = 0 := by omega
    clear hc
    replace hm := hid hm
    go_enter Try.func7, Try.ntmps7
    go_wp2_with (first
      | (go_at_call 12; (with_reducible refine (h12 m _ hm.out).mono ?_); rintro e2 w1 ⟨rfl, hb1⟩; have hm1 := hid (hm.out.below hb1); replace hb1 := hid hb1)
      | (go_at_call 11; (with_reducible refine (awake11 m _ hm1.out).mono ?_); rintro e2 w4 ⟨rfl, hb4⟩; replace hb4 := hid hb4))
    go_ret
    exact ⟨rfl, below_then hb1.out hb4.out⟩
end Go.Proofs.Ytfnekmhhhjdeiaa
