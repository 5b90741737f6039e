/- All, by the program. -/
import Derived.Test.YtfnekmhhhjdeiaaAllP
namespace Go.Proofs.Ytfnekmhhhjdeiaa
open Go.RowKit
set_option linter.unusedVariables false

theorem all12_long (s : ByteArray) (hs : ¬ s.size ≤ 65536) (w : World) : Calls Try.prog 12 #[.string s] w fun e w' => e = .returned (.tuple #[.slice none 0 0, .int .i64 0, .int .i64 3]) ∧ w' = w := by
  have h : (65536 : Int) < s.size := by omega
  go_enter Try.func12, Try.ntmps12
  go_wp2
  exact bodyPost_ret (v := .tuple #[.slice none 0 0, .int .i64 0, .int .i64 3]) (by simp [results, Try.results12, go_sem]) rfl ⟨rfl, rfl⟩

set_option maxRecDepth 20000 in
set_option maxHeartbeats 8000000 in
theorem all12 (s : ByteArray) (hs : s.size ≤ 65536) (m : Int) (w : World) (hm : HM m w) :
    Calls Try.prog 12 #[.string s] w fun e w' => AllR w.heap.size w' (allF (lst s)) e ∧ Below w.heap.size w w' := by
  have hlen := lst_len s
  have hs' : (s.size : Int) ≤ 65536 := by omega
  obtain ⟨X, hX⟩ : ∃ X, X = allF (lst s) := ⟨_, rfl⟩
  rw [← hX]
  replace hX := hid hX
  replace hm := hid hm
  obtain ⟨i24, hi24, hz0, hz1, hz2⟩ := info_parts info24'
  go_enter Try.func12, Try.ntmps12
  go_wp2
  go_loopw [5, 6] (fun v i wr => ∃ (k : Nat) (a : List TT), k ≤ s.size ∧ a.length ≤ k ∧ i = .int .i64 k ∧ X = prep a (allAt (lst s) k) ∧ OwnT wr w.heap.size v a ∧ Below w.heap.size w wr) (fun _ i _ => s.size - (intOf i).toNat)
  case atStart => exact ⟨0, [], Nat.zero_le _, Nat.le_refl _, rfl, by rw [prep_nil]; exact hX.out, ⟨rfl, .inl ⟨rfl, rfl⟩⟩, Below.refl _ _⟩
  case round =>
    obtain ⟨k, a, hk, hak, rfl, hU, hO, hB⟩ := hrel
    have HU := hid hU
    have HO := hid hO
    have HB := hid hB
    clear hU hO hB
    have hN := next9 s k hk (by omega) m wr (hm.out.below HB.out)
    match hn : nextF ((lst s).drop k) with
    | .error p =>
      rw [hn] at hN
      simp only [nextV, zeroV] at hN
      have hF := HU.out
      rw [allAt_err (by omega) hn] at hF
      have hF2 : Hid (X = .error (k + p)) := hF
      clear hF hn
      obtain ⟨q, hq⟩ : ∃ q, q = k + p := ⟨_, rfl⟩
      rw [← hq] at hN hF2
      clear hq
      go_wp2_with (go_at_call 9; (with_reducible refine hN.mono ?_); rintro e w1 ⟨rfl, hb1⟩; replace hb1 := hid hb1)
      exact bodyPost_ret (v := .tuple #[.slice none 0 0, .int .i64 (q : Int), .int .i64 70]) (by simp [results, Try.results12, go_sem]) rfl ⟨.inl ⟨q, hF2.out, rfl⟩, below_more (HB.out.trans (hb1.out.mono HB.out.size)) _⟩
    | .ok (t, x, y) =>
      have hok := next_ok hn
      rw [List.length_drop, hlen] at hok
      rw [hn] at hN
      simp only [nextV, tokV] at hN
      obtain ⟨q, hq⟩ : ∃ q, q = k + x := ⟨_, rfl⟩
      obtain ⟨r, hr⟩ : ∃ r, r = k + y := ⟨_, rfl⟩
      rw [← hq, ← hr] at hN
      have hrs : r ≤ s.size := by omega
      by_cases ht : t.kind = 1
      · have hF := HU.out
        rw [allAt_end (by omega) hn ht, ← hq, ← hr] at hF
        have hF2 : Hid (X = .ok (a ++ [(t, q, r)])) := hF
        have ht' : (t.kind : Int) = 1 := by omega
        clear hF hn hq hr hok ht
        go_wp2_with (first
          | (go_at_call 9; (with_reducible refine hN.mono ?_); rintro e w1 ⟨rfl, hb1⟩; replace hb1 := hid hb1)
          | (at_builtin; refine of_mark ?_))
        unfold Mark
        have HO1 : Hid (OwnT w1 w.heap.size u5 a) := own_below HO.out hb1.out
        have HB1 : Hid (Below w.heap.size w w1) := HB.out.trans (hb1.out.mono HB.out.size)
        refine wpList_append_own _ rfl _ _ 30 rfl w.heap.size 24 i24 zeroV 6 48 Try.underlying30 hi24 hz0 hz1 hz2 rfl (by decide) _ _ _ rfl (World.ownsRow.alloc (World.ownsRow.alloc HO1.out _) _) ⟨w1.heap.size + 1, 0, none⟩ 1 1 [.int .i64 1, .string (strL t.text), .int .u32 (t.num : Nat), .bool t.uns, .int .i64 (q : Nat), .int .i64 (r : Nat)] rfl rfl (tok_six (by simp [go_sem]) (by simp [go_sem]) (by simp [go_sem]) (by simp [go_sem]) (by simp [go_sem]) (by simp [go_sem])) ?c2 ?c3 ?c4 ?c5 ?_
        case c2 => intro u hu; simp at hu; rcases hu with rfl | rfl | rfl | rfl | rfl | rfl <;> rfl
        case c3 => unfold maxLen; omega
        case c4 => omega
        case c5 => have := HB1.out.size; simp; omega
        intro v' w3 hown2 hgrow _
        have HB3 : Hid (Below w.heap.size w w3) := (((HB1.out.alloc HB1.out.size _).alloc (by (have := HB1.out.size); simp; omega) _).grown hgrow (by (have := HB1.out.size); simp; omega) (fun k hk => (HO1.out.lt k hk).1))
        have HO3 : Hid (OwnT w3 w.heap.size v' (a ++ [(t, q, r)])) := by
          show w3.ownsRow _ _ _ _ _ _
          rw [cellsT_append, List.length_append]
          have e : cellsT [(t, q, r)] = [.int .i64 1, .string (strL t.text), .int .u32 (t.num : Nat), .bool t.uns, .int .i64 (q : Nat), .int .i64 (r : Nat)] := by simp [cellsT, cellsT1, ht']
          rw [e]
          exact hown2
        have c0 : w3.cell? ⟨w1.heap.size, 0, none⟩ = some (.int .i64 1) := hgrow.cell (by simp [go_sem]) (fun e => by have := (HO1.out.lt _ e.symm).2; simp at this)
        have c5 : w3.cell? ⟨w1.heap.size, 5, none⟩ = some (.int .i64 (r : Nat)) := hgrow.cell (by simp [go_sem]) (fun e => by have := (HO1.out.lt _ e.symm).2; simp at this)
        clear hown2 hgrow
        go_wp2
        exact bodyPost_ret (v := .tuple #[v', .int .i64 0, .int .i64 0]) (by simp [results, Try.results12, go_sem]) rfl ⟨.inr ⟨_, v', hF2.out, rfl, HO3.out⟩, HB3.out⟩
      · have hF := HU.out
        rw [allAt_more (by omega) hn ht, prep_prep, ← hq, ← hr] at hF
        have hF2 : Hid (X = prep (a ++ [(t, q, r)]) (allAt (lst s) r)) := hF
        have ht' : ((t.kind : Int) == 1) = false := by simp; omega
        have hlt := hok.2.2.2.2.2.1 ht
        have hkr : k < r := by omega
        clear hF hn hq hr hok ht hlt
        go_wp2_with (first
          | (go_at_call 9; (with_reducible refine hN.mono ?_); rintro e w1 ⟨rfl, hb1⟩; replace hb1 := hid hb1)
          | (at_builtin; refine of_mark ?_))
        unfold Mark
        have HO1 : Hid (OwnT w1 w.heap.size u5 a) := own_below HO.out hb1.out
        have HB1 : Hid (Below w.heap.size w w1) := HB.out.trans (hb1.out.mono HB.out.size)
        refine wpList_append_own _ rfl _ _ 30 rfl w.heap.size 24 i24 zeroV 6 48 Try.underlying30 hi24 hz0 hz1 hz2 rfl (by decide) _ _ _ rfl (World.ownsRow.alloc (World.ownsRow.alloc HO1.out _) _) ⟨w1.heap.size + 1, 0, none⟩ 1 1 [.int .i64 (t.kind : Nat), .string (strL t.text), .int .u32 (t.num : Nat), .bool t.uns, .int .i64 (q : Nat), .int .i64 (r : Nat)] rfl rfl (tok_six (by simp [go_sem]) (by simp [go_sem]) (by simp [go_sem]) (by simp [go_sem]) (by simp [go_sem]) (by simp [go_sem])) ?c2 ?c3 ?c4 ?c5 ?_
        case c2 => intro u hu; simp at hu; rcases hu with rfl | rfl | rfl | rfl | rfl | rfl <;> rfl
        case c3 => unfold maxLen; omega
        case c4 => omega
        case c5 => have := HB1.out.size; simp; omega
        intro v' w3 hown2 hgrow _
        have HB3 : Hid (Below w.heap.size w w3) := (((HB1.out.alloc HB1.out.size _).alloc (by (have := HB1.out.size); simp; omega) _).grown hgrow (by (have := HB1.out.size); simp; omega) (fun k hk => (HO1.out.lt k hk).1))
        have HO3 : Hid (OwnT w3 w.heap.size v' (a ++ [(t, q, r)])) := by
          show w3.ownsRow _ _ _ _ _ _
          rw [cellsT_append, List.length_append]
          have e : cellsT [(t, q, r)] = [.int .i64 (t.kind : Nat), .string (strL t.text), .int .u32 (t.num : Nat), .bool t.uns, .int .i64 (q : Nat), .int .i64 (r : Nat)] := by rfl
          rw [e]
          exact hown2
        have c0 : w3.cell? ⟨w1.heap.size, 0, none⟩ = some (.int .i64 (t.kind : Nat)) := hgrow.cell (by simp [go_sem]) (fun e => by have := (HO1.out.lt _ e.symm).2; simp at this)
        have c5 : w3.cell? ⟨w1.heap.size, 5, none⟩ = some (.int .i64 (r : Nat)) := hgrow.cell (by simp [go_sem]) (fun e => by have := (HO1.out.lt _ e.symm).2; simp at this)
        clear hown2 hgrow
        go_wp2
        go_roundw
        case rel => exact ⟨r, a ++ [(t, q, r)], hrs, by simp; omega, rfl, hF2.out, HO3.out, HB3.out⟩
        case measure => simp [intOf]; omega
end Go.Proofs.Ytfnekmhhhjdeiaa
