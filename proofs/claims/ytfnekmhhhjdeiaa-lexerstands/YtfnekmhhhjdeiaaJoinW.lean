/- The law of two sources with a newline between. -/
import Derived.Test.YtfnekmhhhjdeiaaJoin
import Derived.Test.YtfnekmhhhjdeiaaWake
namespace Go.Proofs.Ytfnekmhhhjdeiaa
open Go.RowKit
set_option linter.unusedVariables false

/-- A source is read, as these tokens. -/
def OkA (s : ByteArray) (ts : List TT) : Prop := s.size ≤ 65536 ∧ allF (lst s) = .ok ts
theorem all_ne {l : List UInt8} {k : Nat} {ts : List TT} (hk : k ≤ l.length) (h : allAt l k = .ok ts) : ts ≠ [] := by
  intro e
  subst e
  unfold allAt at h
  rw [show l.length + 1 - k = l.length - k + 1 by omega] at h
  unfold allG at h
  split at h
  · cases h
  · split at h
    · cases h
    · split at h <;> cases h
theorem all_good {s : ByteArray} {ts : List TT} (h : OkA s ts) (m : Int) (w : World) (hm : HM m w) :
    Calls Try.prog 12 #[.string s] w fun e w' => ∃ g cap, e = .returned (.tuple #[.slice (some ⟨g, 0, none⟩) ts.length cap, .int .i64 0, .int .i64 0]) ∧ (∀ j u, (cellsT ts)[j]? = some u → w'.cell? ⟨g, j, none⟩ = some u) ∧ ts.length ≤ cap ∧ g < w'.heap.size ∧ Below w.heap.size w w' := by
  refine (all12 s h.1 m w hm).mono ?_
  rintro e w' ⟨h1, hb⟩
  rcases h1 with ⟨p, hp, _⟩ | ⟨ts', v, hv, rfl, hO⟩
  · rw [h.2] at hp; cases hp
  · rw [h.2] at hv
    have hts : ts = ts' := Except.ok.inj hv
    subst hts
    have hO' := hO
    obtain ⟨_, ⟨rfl, h0⟩ | ⟨g, cap, cur, rfl, hg1, hg2, hg3, _⟩⟩ := hO
    · exact absurd (List.eq_nil_of_length_eq_zero h0) (all_ne (Nat.zero_le _) h.2)
    · have hc := World.ownsRow.cells hO' (g := g) rfl
      exact ⟨g, cap, rfl, fun j u hj => by have := hc j u hj; rw [Addr.add_lit, Nat.zero_add] at this; exact this, hg3, (Array.getElem?_eq_some_iff.1 hg2).1, hb⟩
theorem all_bad {s : ByteArray} (h : ∀ ts, ¬ OkA s ts) : ∃ p c : Int, (c = 3 ∨ c = 70) ∧ ∀ (m : Int) (w : World), HM m w →
    Calls Try.prog 12 #[.string s] w fun e w' => e = .returned (.tuple #[.slice none 0 0, .int .i64 p, .int .i64 c]) ∧ Below w.heap.size w w' := by
  by_cases hs : s.size ≤ 65536
  · match hA : allF (lst s) with
    | .ok ts => exact absurd ⟨hs, hA⟩ (h ts)
    | .error p =>
      refine ⟨p, 70, .inr rfl, fun m w hm => (all12 s hs m w hm).mono ?_⟩
      rintro e w' ⟨h1, hb⟩
      rcases h1 with ⟨q, hq, rfl⟩ | ⟨ts', v, hv, _⟩
      · rw [hA] at hq
        have : p = q := Except.error.inj hq
        subst this
        exact ⟨rfl, hb⟩
      · rw [hA] at hv; cases hv
  · exact ⟨0, 3, .inl rfl, fun m w hm => (all12_long s hs w).mono fun e w' ⟨he, hw⟩ => ⟨he, hw ▸ Below.refl _ _⟩⟩
theorem all_any (s : ByteArray) : (∃ ts, OkA s ts) ∨ ∀ ts, ¬ OkA s ts := by
  by_cases h : ∃ ts, OkA s ts
  · exact .inl h
  · exact .inr fun ts ht => h ⟨ts, ht⟩
theorem all_call (s : ByteArray) (m : Int) (w : World) (hm : HM m w) : Calls Try.prog 12 #[.string s] w fun e w' => ∃ v p c, e = .returned (.tuple #[v, .int .i64 p, .int .i64 c]) ∧ Below w.heap.size w w' := by
  rcases all_any s with ⟨ts, h⟩ | h
  · exact (all_good h m w hm).mono fun e w' ⟨g, cap, he, _, _, _, hb⟩ => ⟨_, _, _, he, hb⟩
  · obtain ⟨p, c, _, hc⟩ := all_bad h
    exact (hc m w hm).mono fun e w' ⟨he, hb⟩ => ⟨_, _, _, he, hb⟩

set_option maxHeartbeats 4000000 in
theorem joins8_a (a b : ByteArray) (h : ∀ ts, ¬ OkA a ts) (m : Int) (w : World) (hm : HM m w) : Calls Try.prog 8 #[.string a, .string b] w fun e w' => e = .returned (.bool true) ∧ Below w.heap.size w w' := by
  obtain ⟨p, c, hc, hA⟩ := all_bad h
  have hA := hA m w hm
  have hB := fun w hm => all_call b m w hm
  replace hm := hid hm
  rcases hc with rfl | rfl
  all_goals go_enter Try.func8, Try.ntmps8
  all_goals go_wp2_with (first
    | (go_at_call 12; (with_reducible refine hA.mono ?_); rintro e w1 ⟨rfl, hb1⟩; have hm1 := hid (hm.out.below hb1); replace hb1 := hid hb1)
    | (go_at_call 12; (with_reducible refine (hB _ hm1.out).mono ?_); rintro e w2 ⟨v2, p2, c2, rfl, hb2⟩; have hm2 := hid (hm1.out.below hb2); replace hb2 := hid hb2)
    | (go_at_call 11; (with_reducible refine (awake11 m _ hm2.out).mono ?_); rintro e w3 ⟨rfl, hb3⟩; replace hb3 := hid hb3))
  all_goals go_ret
  all_goals exact ⟨rfl, below_then (below_then hb1.out hb2.out) hb3.out⟩

set_option maxHeartbeats 4000000 in
theorem joins8_b (a b : ByteArray) (l : List TT) (ha : OkA a l) (h : ∀ ts, ¬ OkA b ts) (m : Int) (w : World) (hm : HM m w) : Calls Try.prog 8 #[.string a, .string b] w fun e w' => e = .returned (.bool true) ∧ Below w.heap.size w w' := by
  obtain ⟨p, c, hc, hB⟩ := all_bad h
  have hA := all_good ha m w hm
  have hB := fun w hm => hB m w hm
  replace hm := hid hm
  rcases hc with rfl | rfl
  all_goals go_enter Try.func8, Try.ntmps8
  all_goals go_wp2_with (first
    | (go_at_call 12; (with_reducible refine hA.mono ?_); rintro e w1 ⟨g, cap, rfl, hg, hcap, hgl, hb1⟩; have hm1 := hid (hm.out.below hb1); replace hb1 := hid hb1; clear hg)
    | (go_at_call 12; (with_reducible refine (hB _ hm1.out).mono ?_); rintro e w2 ⟨rfl, hb2⟩; have hm2 := hid (hm1.out.below hb2); replace hb2 := hid hb2)
    | (go_at_call 11; (with_reducible refine (awake11 m _ hm2.out).mono ?_); rintro e w3 ⟨rfl, hb3⟩; replace hb3 := hid hb3))
  all_goals go_ret
  all_goals exact ⟨rfl, below_then (below_then hb1.out hb2.out) hb3.out⟩

abbrev nl : ByteArray := ⟨#[10]⟩
theorem lst_join (a b : ByteArray) : lst (a ++ nl ++ b) = lst a ++ 10 :: lst b := by
  unfold lst
  rw [ByteArray.data_append, ByteArray.data_append, Array.toList_append, Array.toList_append, List.append_assoc]
  rfl
theorem size_join (a b : ByteArray) : (a ++ nl ++ b).size = a.size + 1 + b.size := by
  rw [← lst_len, lst_join, List.length_append, List.length_cons, lst_len, lst_len]
  omega
theorem ok_join {a b : ByteArray} {l n : List TT} (ha : OkA a l) (hb : OkA b n) (hs : (a ++ nl ++ b).size ≤ 65536) : OkA (a ++ nl ++ b) (l.dropLast ++ n.map (shiftT (a.size + 1))) := by
  refine ⟨hs, ?_⟩
  unfold allF
  rw [lst_join, ← lst_len a]
  exact all_join hb.2 _ 0 l (Nat.zero_le _) (Nat.le_refl _) ha.2

set_option maxHeartbeats 4000000 in
theorem joins8_long (a b : ByteArray) (l n : List TT) (ha : OkA a l) (hb : OkA b n) (hs : ¬ (a ++ nl ++ b).size ≤ 65536) (m : Int) (w : World) (hm : HM m w) : Calls Try.prog 8 #[.string a, .string b] w fun e w' => e = .returned (.bool true) ∧ Below w.heap.size w w' := by
  have hA := all_good ha m w hm
  have hB := fun w hm => all_good hb m w hm
  have hS := fun w => all12_long (a ++ nl ++ b) hs w
  rw [size_join] at hs
  have sa := ha.1
  have sb := hb.1
  have hgt : (65536 : Int) < (a.size : Int) + b.size + 1 := by omega
  replace hm := hid hm
  go_enter Try.func8, Try.ntmps8
  go_wp2_with (first
    | (go_at_call 12; (with_reducible refine hA.mono ?_); rintro e w1 ⟨g, cap, rfl, hg, hcap, hgl, hb1⟩; have hm1 := hid (hm.out.below hb1); replace hb1 := hid hb1; clear hg)
    | (go_at_call 12; (with_reducible refine (hB _ hm1.out).mono ?_); rintro e w2 ⟨g2, cap2, rfl, hg2, hcap2, hgl2, hb2⟩; have hm2 := hid (hm1.out.below hb2); replace hb2 := hid hb2; clear hg2)
    | (go_at_call 12; (with_reducible refine (hS _).mono ?_); rintro e w3 ⟨rfl, rfl⟩)
    | (go_at_call 11; (with_reducible refine (awake11 m _ hm2.out).mono ?_); rintro e w4 ⟨rfl, hb4⟩; replace hb4 := hid hb4))
  go_ret
  exact ⟨rfl, below_then (below_then hb1.out hb2.out) hb4.out⟩

theorem all_bound {l : List UInt8} : ∀ (N k : Nat) (ts : List TT), k ≤ l.length → l.length - k ≤ N → allAt l k = .ok ts → ts.length ≤ l.length - k + 1
  | N, k, ts, hk, hN, h => by
    match hn : nextF (l.drop k) with
    | .error p => rw [allAt_err hk hn] at h; cases h
    | .ok (t, a, b) =>
      have hok := next_ok hn
      rw [List.length_drop] at hok
      by_cases ht : t.kind = 1
      · rw [allAt_end hk hn ht] at h
        rw [← Except.ok.inj h]
        simp
      · rw [allAt_more hk hn ht] at h
        have h2 := hok.2.2.2.2.2.1 ht
        match hr : allAt l (k + b) with
        | .error e => rw [hr] at h; cases h
        | .ok m' =>
          rw [hr] at h
          have hm : [(t, k + a, k + b)] ++ m' = ts := Except.ok.inj h
          match N with
          | 0 => omega
          | N + 1 =>
            have ih := all_bound N (k + b) m' (by omega) (by omega) hr
            rw [← hm, List.length_append, List.length_singleton]
            omega
theorem all_pos {l : List UInt8} : ∀ (N k : Nat) (ts : List TT), k ≤ l.length → l.length - k ≤ N → allAt l k = .ok ts → ∀ x ∈ ts, x.2.1 ≤ l.length ∧ x.2.2 ≤ l.length
  | N, k, ts, hk, hN, h => by
    match hn : nextF (l.drop k) with
    | .error p => rw [allAt_err hk hn] at h; cases h
    | .ok (t, a, b) =>
      have hok := next_ok hn
      rw [List.length_drop] at hok
      by_cases ht : t.kind = 1
      · rw [allAt_end hk hn ht] at h
        rw [← Except.ok.inj h]
        intro x hx
        simp at hx
        subst hx
        dsimp only
        omega
      · rw [allAt_more hk hn ht] at h
        have h2 := hok.2.2.2.2.2.1 ht
        match hr : allAt l (k + b) with
        | .error e => rw [hr] at h; cases h
        | .ok m' =>
          rw [hr] at h
          have hm : [(t, k + a, k + b)] ++ m' = ts := Except.ok.inj h
          match N with
          | 0 => omega
          | N + 1 =>
            have ih := all_pos N (k + b) m' (by omega) (by omega) hr
            rw [← hm]
            intro x hx
            rw [List.singleton_append] at hx
            rcases List.mem_cons.1 hx with rfl | hx
            · dsimp only; omega
            · exact ih x hx

theorem cellsT_at : ∀ (l : List TT) (i : Nat) (h : i < l.length) (j : Nat), j < 6 → (cellsT l)[i * 6 + j]? = (cellsT1 l[i])[j]?
  | [], i, h, _, _ => by simp at h
  | x :: r, 0, h, j, hj => by
    have e : cellsT (x :: r) = cellsT1 x ++ cellsT r := rfl
    rw [e, Nat.zero_mul, Nat.zero_add, List.getElem?_append_left (by exact hj)]
    rfl
  | x :: r, i + 1, h, j, hj => by
    have e : cellsT (x :: r) = cellsT1 x ++ cellsT r := rfl
    have hl : (cellsT1 x).length = 6 := rfl
    rw [e, List.getElem?_append_right (by rw [hl]; omega), hl, show (i + 1) * 6 + j - 6 = i * 6 + j by omega, cellsT_at r i (by simpa using h) j hj]
    rfl
/-- A token's six cells. -/
def TokAt (w : World) (g o : Nat) (x : TT) : Prop := w.cell? ⟨g, o, none⟩ = some (.int .i64 (x.1.kind : Nat)) ∧ w.cell? ⟨g, o + 1, none⟩ = some (.string (strL x.1.text)) ∧ w.cell? ⟨g, o + 2, none⟩ = some (.int .u32 (x.1.num : Nat)) ∧ w.cell? ⟨g, o + 3, none⟩ = some (.bool x.1.uns) ∧
  w.cell? ⟨g, o + 4, none⟩ = some (.int .i64 (x.2.1 : Nat)) ∧ w.cell? ⟨g, o + 5, none⟩ = some (.int .i64 (x.2.2 : Nat))
theorem tok_at {w w' : World} {g : Nat} {ts : List TT} (h : ∀ j u, (cellsT ts)[j]? = some u → w.cell? ⟨g, j, none⟩ = some u) (hg : g < w.heap.size) (hb : Below w.heap.size w w') {i : Nat} (hi : i < ts.length) : TokAt w' g (i * 6) ts[i] := by
  have hc : ∀ o, w'.cell? ⟨g, o, none⟩ = w.cell? ⟨g, o, none⟩ := fun o => hb.cell (p := ⟨g, o, none⟩) hg
  unfold TokAt
  simp only [hc]
  refine ⟨h _ _ ?_, h _ _ ?_, h _ _ ?_, h _ _ ?_, h _ _ ?_, h _ _ ?_⟩
  · have := cellsT_at ts i hi 0 (by omega); exact this
  · have := cellsT_at ts i hi 1 (by omega); exact this
  · have := cellsT_at ts i hi 2 (by omega); exact this
  · have := cellsT_at ts i hi 3 (by omega); exact this
  · have := cellsT_at ts i hi 4 (by omega); exact this
  · have := cellsT_at ts i hi 5 (by omega); exact this

set_option maxRecDepth 20000 in
set_option maxHeartbeats 8000000 in
theorem joins8_ok (a b : ByteArray) (l n T : List TT) (p q : Nat) (hl : l.length = p + 1) (hn : n.length = q + 1) (hT : T.length = p + (q + 1)) (hp : p ≤ 65536) (hq : q ≤ 65536)
    (hTl : ∀ k (h : k < p) (h1 : k < T.length) (h2 : k < l.length), T[k] = l[k]) (hTn : ∀ r (h : r < q + 1) (h1 : p + r < T.length) (h2 : r < n.length), T[p + r] = shiftT (a.size + 1) n[r])
    (hpos : ∀ x ∈ n, x.2.1 ≤ 65536 ∧ x.2.2 ≤ 65536)
    (ha : OkA a l) (hb : OkA b n) (hO : OkA (a ++ nl ++ b) T) (m : Int) (w : World) (hm : HM m w) : Calls Try.prog 8 #[.string a, .string b] w fun e w' => e = .returned (.bool true) ∧ Below w.heap.size w w' := by
  have hA := all_good ha m w hm
  have hB := fun w hm => all_good hb m w hm
  have hS := fun w hm => all_good hO m w hm
  rw [hl] at hA
  rw [hn] at hB
  rw [hT] at hS
  have sa := ha.1
  have sb := hb.1
  replace hm := hid hm
  replace hl := hid hl
  replace hn := hid hn
  replace hT := hid hT
  replace hTl := hid hTl
  replace hTn := hid hTn
  replace hpos := hid hpos
  go_enter Try.func8, Try.ntmps8
  go_wp2_with (first
    | (go_at_call 12; (with_reducible refine hA.mono ?_); rintro e w1 ⟨g, cap, rfl, hg, hcap, hgl, hb1⟩; have hm1 := hid (hm.out.below hb1); replace hb1 := hid hb1; replace hg := hid hg)
    | (go_at_call 12; (with_reducible refine (hB _ hm1.out).mono ?_); rintro e w2 ⟨g2, cap2, rfl, hg2, hcap2, hgl2, hb2⟩; have hm2 := hid (hm1.out.below hb2); replace hb2 := hid hb2; replace hg2 := hid hg2)
    | (go_at_call 12; (with_reducible refine (hS _ hm2.out).mono ?_); rintro e w3 ⟨g3, cap3, rfl, hg3, hcap3, hgl3, hb3⟩; have hm3 := hid (hm2.out.below hb3); replace hb3 := hid hb3; replace hg3 := hid hg3))
  all_goals first
    | (exfalso; simp only [beq_iff_eq] at *; omega)
    | skip
  clear hA hB hS
  have hs12 := hb2.out.size
  have hs23 := hb3.out.size
  go_loopw [14] (fun i wr => ∃ k : Nat, k ≤ p + (q + 1) ∧ i = .int .i64 k ∧ Below w3.heap.size w3 wr) (fun i _ => p + (q + 1) - (intOf i).toNat)
  case atStart => exact ⟨0, Nat.zero_le _, rfl, Below.refl _ _⟩
  case round =>
    obtain ⟨k, hk, rfl, hB⟩ := hrel
    have HB := hid hB
    have hsr := hB.size
    clear hB
    by_cases hlt : k < p + (q + 1)
    · have hkT : k < T.length := by rw [hT.out]; exact hlt
      obtain ⟨t0, t1, t2, t3, t4, t5⟩ := tok_at hg3.out hgl3 HB.out hkT
      by_cases hkp : k < p
      · have hkl : k < l.length := by rw [hl.out]; omega
        have hB2 : Below w1.heap.size w1 wr := below_then hb2.out (below_then hb3.out HB.out)
        obtain ⟨s0, s1, s2, s3, s4, s5⟩ := tok_at hg.out hgl hB2 hkl
        have e := hTl.out k hkp hkT hkl
        rw [e] at t0 t1 t2 t3 t4 t5
        generalize l[k] = x at *
        clear e hB2
        obtain ⟨⟨kd, tx, nu, un⟩, ps, en⟩ := x
        dsimp only at s0 s1 s2 s3 s4 s5 t0 t1 t2 t3 t4 t5
        generalize strL tx = X at *
        have hgr : g < wr.heap.size := by omega
        go_wp2
        go_quiet (fail)
        go_wp2
        exact ⟨⟨k + 1, by omega, vi (by omega), (HB.out.alloc HB.out.size _).trans ⟨rfl, rfl, rfl, Nat.le_refl _, fun _ _ => rfl⟩⟩, by simp [intOf]; omega⟩
      · obtain ⟨r, rfl⟩ : ∃ r, k = p + r := ⟨k - p, by omega⟩
        have hrn : r < n.length := by rw [hn.out]; omega
        have hB2 : Below w2.heap.size w2 wr := below_then hb3.out HB.out
        obtain ⟨s0, s1, s2, s3, s4, s5⟩ := tok_at hg2.out hgl2 hB2 hrn
        have e := hTn.out r (by omega) hkT hrn
        have hps := hpos.out n[r] (List.getElem_mem hrn)
        rw [e] at t0 t1 t2 t3 t4 t5
        generalize n[r] = x at *
        clear e hB2
        obtain ⟨⟨kd, tx, nu, un⟩, ps, en⟩ := x
        dsimp only [shiftT] at s0 s1 s2 s3 s4 s5 t0 t1 t2 t3 t4 t5 hps
        generalize strL tx = X at *
        have hgr : g2 < wr.heap.size := by omega
        have hix : ((p : Int) + (r : Int) - ((p : Int) + 1) + 1).toNat = r := by omega
        go_wp2
        exact ⟨⟨p + r + 1, by omega, vi (by omega), (HB.out.alloc HB.out.size _).alloc (by (have := HB.out.size); simp; omega) _⟩, by simp [intOf]; omega⟩
    · obtain rfl : k = p + (q + 1) := by omega
      have hm4 := hid (hm3.out.below HB.out)
      go_wp2_with (go_at_call 11; (with_reducible refine (awake11 m _ hm4.out).mono ?_); rintro e w5 ⟨rfl, hb5⟩; replace hb5 := hid hb5)
      go_ret
      exact ⟨rfl, below_then (below_then hb1.out hb2.out) (below_then hb3.out (below_then HB.out hb5.out))⟩

theorem joins8 (a b : ByteArray) (m : Int) (w : World) (hm : HM m w) : Calls Try.prog 8 #[.string a, .string b] w fun e w' => e = .returned (.bool true) ∧ Below w.heap.size w w' := by
  rcases all_any a with ⟨l, ha⟩ | ha
  · rcases all_any b with ⟨n, hb⟩ | hb
    · by_cases hs : (a ++ nl ++ b).size ≤ 65536
      · have hO := ok_join ha hb hs
        have hl1 := all_ne (Nat.zero_le _) ha.2
        have hn1 := all_ne (Nat.zero_le _) hb.2
        obtain ⟨p, hp⟩ : ∃ p, l.length = p + 1 := ⟨l.length - 1, by have := List.length_pos_iff.2 hl1; omega⟩
        obtain ⟨q, hq⟩ : ∃ q, n.length = q + 1 := ⟨n.length - 1, by have := List.length_pos_iff.2 hn1; omega⟩
        have bl := all_bound _ 0 l (Nat.zero_le _) (Nat.le_refl _) ha.2
        have bn := all_bound _ 0 n (Nat.zero_le _) (Nat.le_refl _) hb.2
        have bp := all_pos _ 0 n (Nat.zero_le _) (Nat.le_refl _) hb.2
        have sa := ha.1
        have sb := hb.1
        rw [lst_len] at bl bn bp
        refine joins8_ok a b l n _ p q hp hq (by rw [List.length_append, List.length_dropLast, List.length_map]; omega) (by omega) (by omega) ?_ ?_ (fun x hx => by have := bp x hx; omega) ha hb hO m w hm
        · intro k h h1 h2
          have e : (l.dropLast ++ n.map (shiftT (a.size + 1)))[k]? = some l[k] := by
            rw [List.getElem?_append_left (by rw [List.length_dropLast]; omega), List.getElem?_dropLast, if_pos (by omega), List.getElem?_eq_getElem h2]
          obtain ⟨_, e⟩ := List.getElem?_eq_some_iff.1 e
          exact e
        · intro r h h1 h2
          have e : (l.dropLast ++ n.map (shiftT (a.size + 1)))[p + r]? = some (shiftT (a.size + 1) n[r]) := by
            rw [List.getElem?_append_right (by rw [List.length_dropLast]; omega), List.length_dropLast, hp, show p + r - (p + 1 - 1) = r by omega, List.getElem?_map, List.getElem?_eq_getElem h2]
            rfl
          obtain ⟨_, e⟩ := List.getElem?_eq_some_iff.1 e
          exact e
      · exact joins8_long a b l n ha hb hs m w hm
    · exact joins8_b a b l ha hb m w hm
  · exact joins8_a a b ha m w hm
end Go.Proofs.Ytfnekmhhhjdeiaa
