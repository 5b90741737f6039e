/- The literal of any bytes is read as these, and nothing is left. -/
import Derived.Test.YtfnekmhhhjdeiaaBuild
import Derived.Test.YtfnekmhhhjdeiaaWake
namespace Go.Proofs.Ytfnekmhhhjdeiaa
open Go.RowKit
set_option linter.unusedVariables false

theorem u8_of {c : UInt8} {n : Nat} (h : c.toNat = n) (d : UInt8) (hd : d.toNat = n) : c = d := UInt8.toNat_inj.1 (by rw [h, hd])
theorem hd_hex (n : Nat) (h : n < 16) : hexv (hd n) = n := by
  have h' : ∀ n : Fin 16, hexv (hd n.val) = n.val := by decide +kernel
  exact h' ⟨n, h⟩
/-- A quoted byte is read as this byte. -/
theorem unit_qb (c : UInt8) (r : List UInt8) : unitF 34 (qb c ++ r) = some (c, (qb c).length) := by
  unfold qb
  by_cases h10 : c.toNat = 10
  · rw [if_pos h10, u8_of h10 10 rfl]; rfl
  · rw [if_neg h10]
    by_cases h9 : c.toNat = 9
    · rw [if_pos h9, u8_of h9 9 rfl]; rfl
    · rw [if_neg h9]
      by_cases h13 : c.toNat = 13
      · rw [if_pos h13, u8_of h13 13 rfl]; rfl
      · rw [if_neg h13]
        by_cases h0 : c.toNat = 0
        · rw [if_pos h0, u8_of h0 0 rfl]; rfl
        · rw [if_neg h0]
          by_cases h2 : c.toNat = 34 ∨ c.toNat = 92
          · rw [if_pos h2]
            rcases h2 with h | h
            · rw [u8_of h 34 rfl]; rfl
            · rw [u8_of h 92 rfl]; rfl
          · rw [if_neg h2]
            cases hp : plainB c
            · rw [if_neg (by simp)]
              have hc := c.toNat_lt
              have e1 := hd_hex (c.toNat / 16) (by omega)
              have e2 := hd_hex (c.toNat % 16) (by omega)
              show escF (120 :: hd (c.toNat / 16) :: hd (c.toNat % 16) :: r) = some (c, 4)
              generalize hd (c.toNat / 16) = x at *
              generalize hd (c.toNat % 16) = y at *
              show (if hexv x < 16 ∧ hexv y < 16 then some ((hexv x * 16 + hexv y).toUInt8, 4) else none) = _
              rw [if_pos (by omega), e1, e2, show c.toNat / 16 * 16 + c.toNat % 16 = c.toNat by omega]
              rw [show c.toNat.toUInt8 = c by simp]
            · rw [if_pos rfl]
              show unitF 34 (c :: r) = some (c, 1)
              simp only [unitF]
              rw [if_neg (by rw [hp]; simp; omega), if_neg (by omega)]
theorem units_flat : ∀ (l : List UInt8), units 34 (l.flatMap qb ++ [34]) = (l, (l.flatMap qb).length)
  | [] => by
    show units 34 [34] = ([], 0)
    exact units_none rfl
  | c :: r => by
    have h := unit_qb c (r.flatMap qb ++ [34])
    have e : (c :: r).flatMap qb ++ [34] = qb c ++ (r.flatMap qb ++ [34]) := by simp
    rw [e, units_some h, List.drop_left, units_flat r]
    simp
theorem next_quote (l : List UInt8) : nextF (quoteL l) = .ok (⟨7, l, 0, false⟩, 0, (quoteL l).length) := by
  have e : quoteL l = 34 :: (l.flatMap qb ++ [34]) := rfl
  have hg : gap (quoteL l) = (0, true) := gap_here (by rw [e]; exact step_here rfl rfl (by rfl) (by rfl))
  have hr : readF (quoteL l) = some (⟨7, l, 0, false⟩, (quoteL l).length) := by
    have h1 : readF (quoteL l) = textF (quoteL l) := by rw [e]; rfl
    have h2 : (quoteL l).drop 1 = l.flatMap qb ++ [34] := rfl
    rw [h1]
    unfold textF
    rw [h2, units_flat]
    have h3 : (quoteL l).drop (1 + (l.flatMap qb).length) = [34] := by
      rw [← List.drop_drop, h2, List.drop_left]
    rw [h3, if_pos (by decide)]
    have h4 : (quoteL l).length = (l.flatMap qb).length + 2 := by rw [e]; simp
    rw [h4]
  have hn := next_some hg (by rw [List.drop_zero]; exact hr)
  rw [hn, Nat.zero_add]

theorem str_same (s : ByteArray) : ((strL (lst s)).toList == s.toList) = true := by rw [strL_lst]; simp

set_option maxHeartbeats 4000000 in
theorem back6 (s : ByteArray) (hs : s.size ≤ 1048576) (m : Int) (w : World) (hm : HM m w) : Calls Try.prog 6 #[.string s] w fun e w' => e = .returned (.bool true) ∧ Below w.heap.size w w' := by
  have hq := quote19 s hs w
  have hlen := lst_len s
  have hql : (quoteL (lst s)).length ≤ 4 * s.size + 2 := by
    have := flat_len (lst s)
    unfold quoteL
    simp only [List.length_append, List.length_cons, List.length_nil]
    omega
  obtain ⟨Q, hQ⟩ : ∃ Q, Q = strL (quoteL (lst s)) := ⟨_, rfl⟩
  have hQs : Q.size = (quoteL (lst s)).length := by rw [hQ, strL_size]
  have hQl : lst Q = quoteL (lst s) := by rw [hQ, lst_strL]
  have hN := fun w hm => next9 Q 0 (Nat.zero_le _) (by omega) m w hm
  rw [List.drop_zero, hQl, next_quote] at hN
  simp only [nextV, tokV, Nat.zero_add, ← hQs] at hN
  rw [← hQ] at hq
  have hN' : ∀ w, HM m w → Calls Try.prog 9 #[.string Q, .int .i64 0] w fun e w' => e = .returned (.tuple #[.agg #[.int .i64 7, .string (strL (lst s)), .int .u32 0, .bool false, .int .i64 0, .int .i64 (Q.size : Int)], .int .i64 0, .int .i64 0]) ∧ Below w.heap.size w w' := hN
  have hss := str_same s
  replace hm := hid hm
  clear hN hQ hQs hQl hql
  go_enter Try.func6, Try.ntmps6
  go_wp2_with (first
    | (go_at_call 19; (with_reducible refine hq.mono ?_); rintro e w1 ⟨rfl, hb1⟩; have hm1 := hid (hm.out.below hb1); replace hb1 := hid hb1)
    | (go_at_call 9; (with_reducible refine (hN' _ hm1.out).mono ?_); rintro e w2 ⟨rfl, hb2⟩; have hm2 := hid (hm1.out.below hb2); replace hb2 := hid hb2)
    | (go_at_call 11; (with_reducible refine (awake11 m _ (hm2.out.alloc _)).mono ?_); rintro e w3 ⟨rfl, hb3⟩; replace hb3 := hid hb3))
  go_ret
  exact ⟨rfl, below_then (below_then hb1.out hb2.out) (below_box2 hb3.out)⟩
end Go.Proofs.Ytfnekmhhhjdeiaa
