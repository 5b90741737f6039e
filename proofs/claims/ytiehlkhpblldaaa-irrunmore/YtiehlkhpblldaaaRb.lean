/- at, wordOf, layWord. -/
import Derived.Test.YtiehlkhpblldaaaRa
import Derived.Deep.MidRow
namespace Go.Proofs.Ytiehlkhpblldaaa
open Go.RowKit Go.Maps
set_option linter.unusedVariables false
set_option linter.unusedSimpArgs false
section
variable {C : Cst} {W0 W W' : World} {r : Nat} {s s' : St} {x : Vs} {t : Tp}
/-- What the first k of some bytes say, the lowest first. -/
def wordK (l : List Int) : Nat → Int
  | 0 => 0
  | k + 1 => bits BinOp.or IntKind.u32 (wordK l k) (l.getD k 0 % 4294967296 * 2 ^ (8 * k) % 4294967296)
set_option maxRecDepth 20000 in
set_option maxHeartbeats 8000000 in
theorem wordOf71 {kb o n cap : Nat} {l : List Int} (hn : l.length = n) (hn4 : n ≤ 4) (hb : ∀ k (h : k < l.length), 0 ≤ l[k] ∧ l[k] < 256) (hc : ∀ k (h : k < l.length), W.cell? ⟨kb, o + k, none⟩ = some (.int .u8 l[k])) :
    Calls Try.prog 71 #[.slice (some ⟨kb, o, none⟩) n cap] W fun e w' => e = .returned (.int .u32 (wordK l n)) ∧ Below W.heap.size W w' := by
  have HC := hid' hc
  have HBY := hid' hb
  clear hc hb
  go_enter Try.func71, Try.ntmps71
  go_wp2
  go_loopw [3, 8] (fun u i wr => ∃ k : Nat, k ≤ n ∧ i = .int .i64 k ∧ u = .int .u32 (wordK l k) ∧ Below W.heap.size W wr) (fun _ i _ => n - (intOf i).toNat)
  case atStart => exact ⟨0, Nat.zero_le _, rfl, rfl, Below.refl _ _⟩
  case round =>
    obtain ⟨k, hk, rfl, rfl, hbw⟩ := hrel
    have HB := hid' hbw
    by_cases hlt : k < n
    · have hlt2 : k < l.length := by omega
      have hk8 : IntKind.i64.wrap (8 * (k : Int)) = 8 * (k : Int) := by simp [IntKind.wrap, IntKind.bits, IntKind.signed]; omega
      have c1 : wr.cell? ⟨kb, o + k, none⟩ = some (.int .u8 l[k]) := keep_cell (HC.out k hlt2) hbw
      have HE : Hid (wordK l (k + 1) = bits BinOp.or IntKind.u32 (wordK l k) (l[k] % 4294967296 * 2 ^ (8 * k) % 4294967296)) := by unfold Hid; simp [wordK, hlt2]
      clear hbw
      go_wp2
      refine ⟨⟨k + 1, by omega, by go_num, by rw [HE.out], HB.out⟩, ?_⟩
      simp [intOf]; omega
    · have e : k = n := by omega
      subst e
      go_wp2
      go_ret
      exact ⟨rfl, HB.out⟩

theorem setCells_snoc (b : Nat) : ∀ (vs : List Value) (o : Nat) (w : World) (v : Value), w.setCells b o (vs ++ [v]) = (w.setCells b o vs).setCell ⟨b, o + vs.length, none⟩ v
  | [], o, w, v => rfl
  | u :: vs, o, w, v => by
    show (w.setCell ⟨b, o, none⟩ u).setCells b (o + 1) (vs ++ [v]) = _
    rw [setCells_snoc b vs (o + 1) _ v]
    simp only [List.length_cons, World.setCells]
    rw [show o + 1 + vs.length = o + (vs.length + 1) by omega]
/-- A word's bytes, the lowest first. -/
def layL (w : Int) (n : Nat) : List Int := (List.range n).map (fun k => w / 2 ^ (8 * k) % 256)
theorem layL_len (w : Int) (n : Nat) : (layL w n).length = n := by simp [layL]
theorem layL_succ (w : Int) (n : Nat) : layL w (n + 1) = layL w n ++ [w / 2 ^ (8 * n) % 256] := by simp [layL, List.range_succ]
set_option maxRecDepth 20000 in
set_option maxHeartbeats 8000000 in
theorem layWord72 {kb o n cap : Nat} {w : Int} (hw : 0 ≤ w ∧ w < 4294967296) (hn4 : n ≤ 4) (hc : ∀ k, k < n → (W.cell? ⟨kb, o + k, none⟩).isSome = true) (hf : ∀ k, W.frozen? ⟨kb, k, none⟩ = false) :
    Calls Try.prog 72 #[.slice (some ⟨kb, o, none⟩) n cap, .int .u32 w] W fun e w' => e = .returned (.tuple #[]) ∧ w' = W.setCells kb o (flat bcel (layL w n)) := by
  have HC := hid' hc
  have HF := hid' hf
  clear hc hf
  go_enter Try.func72, Try.ntmps72
  go_wp2
  go_loopw [7] (fun i wr => ∃ k : Nat, k ≤ n ∧ i = .int .i64 k ∧ wr = W.setCells kb o (flat bcel (layL w k))) (fun i _ => n - (intOf i).toNat)
  case atStart => exact ⟨0, Nat.zero_le _, rfl, rfl⟩
  case round =>
    obtain ⟨k, hk, rfl, hwr⟩ := hrel
    have HW := hid' hwr
    by_cases hlt : k < n
    · have hk8 : IntKind.i64.wrap (8 * (k : Int)) = 8 * (k : Int) := by simp [IntKind.wrap, IntKind.bits, IntKind.signed]; omega
      obtain ⟨v0, hv0⟩ : ∃ v, wr.cell? ⟨kb, o + k, none⟩ = some v := by
        rw [hwr]
        exact Option.isSome_iff_exists.1 (World.isSome_setCells kb _ o W ⟨kb, o + k, none⟩ (HC.out k hlt))
      have hf0 : wr.frozen? ⟨kb, o + k, none⟩ = false := by
        rw [hwr, World.frozen?_setCells]; exact HF.out _
      have HS : Hid (wr.setCell ⟨kb, o + k, none⟩ (.int .u8 (w / 2 ^ (8 * k) % 256)) = W.setCells kb o (flat bcel (layL w (k + 1)))) := by
        unfold Hid
        rw [layL_succ, flat_append, show flat bcel [w / 2 ^ (8 * k) % 256] = [.int .u8 (w / 2 ^ (8 * k) % 256)] from rfl, setCells_snoc, flat_length by1, layL_len, Nat.mul_one, ← hwr]
      clear hwr
      go_wp2
      refine ⟨⟨k + 1, by omega, by go_num, HS.out⟩, ?_⟩
      simp [intOf]; omega
    · have e : k = n := by omega
      subst e
      clear hwr
      go_wp2
      go_end0
      exact ⟨rfl, HW.out⟩

/-- Where bytes lie: on the stack (true) or among the globals, and how far from its beginning. -/
def atF (s : St) (a : Int) (n : Int) : Option (Bool × Nat) :=
  if s.low ≤ a ∧ a + n ≤ 8388608 then some (true, (a - (8388608 - (s.sk.length : Int))).toNat)
  else if 16777216 ≤ a ∧ a + n ≤ 16777216 + (s.gl.length : Int) then some (false, (a - 16777216).toNat) else none
/-- What at tells. -/
def AtR (s : St) (x : Vs) (a : Int) (n : Nat) (v : Value) : Prop :=
  (atF s a n = none ∧ v = .slice none 0 0) ∨
  (∃ o kb cap cap', atF s a n = some (true, o) ∧ v = .slice (some ⟨kb, o, none⟩) n cap' ∧ x.kv = .slice (some ⟨kb, 0, none⟩) s.sk.length cap ∧ o + n ≤ s.sk.length) ∨
  (∃ o kb cap cap', atF s a n = some (false, o) ∧ v = .slice (some ⟨kb, o, none⟩) n cap' ∧ x.gv = .slice (some ⟨kb, 0, none⟩) s.gl.length cap ∧ o + n ≤ s.gl.length)
set_option maxRecDepth 20000 in
set_option maxHeartbeats 8000000 in
theorem at70 (h : RunM C W0 r W s x t) {a : Int} {n : Nat} (ha : 0 ≤ a ∧ a < 4294967296) (hn : 0 < n ∧ n ≤ 4) (hl : 0 ≤ s.low ∧ s.low ≤ 8388608) (hL : s.sk.length ≤ 16777216) (hL2 : 8388608 - s.low ≤ s.sk.length) (hG : s.gl.length ≤ 65536) :
    Calls Try.prog 70 #[.pointer (some ⟨r, 6, none⟩), .int .u32 a, .int .i64 n] W fun e w' => ∃ v, e = .returned v ∧ AtR s x a n v ∧ w' = W := by
  have c8 : W.cell? ⟨r, 8, none⟩ = some (.int .i64 s.low) := h.cell 8
  have c6 : W.cell? ⟨r, 6, none⟩ = some x.gv := h.cell 6
  have e1 : IntKind.i64.wrap a = a := by simp [IntKind.wrap, IntKind.bits, IntKind.signed]; omega
  have e2 : IntKind.i64.wrap (a + (n : Int)) = a + n := by simp [IntKind.wrap, IntKind.bits, IntKind.signed]; omega
  by_cases g : s.low ≤ a ∧ a + n ≤ 8388608
  · obtain ⟨g1, g2⟩ := g
    have HA : Hid (atF s a n = some (true, (a - (8388608 - (s.sk.length : Int))).toNat)) := by unfold Hid atF; rw [if_pos ⟨g1, g2⟩]
    have h43 := bytes43 h hL (a := a) (b := a + n) (by omega) (by omega) g2
    have en : (a + (n : Int) - a).toNat = n := by omega
    rw [en] at h43
    clear h
    go_enter Try.func70, Try.ntmps70
    go_wp2_with (go_at_call 43; refine h43.mono ?_; rintro e3 w3 ⟨v, kb, cap, rfl, ⟨ao, cp, rfl, hv⟩, hk, rfl⟩)
    go_ret
    refine ⟨_, rfl, .inr (.inl ⟨_, kb, cap, cp, HA.out, ?_, (hk hn.1).1, by omega⟩), rfl⟩
    first
      | rfl
      | (rw [hv hn.1]; rfl)
  · have g' : (s.low ≤ a ∧ a + (n : Int) ≤ 8388608) = False := eq_false g
    by_cases k : 16777216 ≤ a ∧ a + n ≤ 16777216 + (s.gl.length : Int)
    · obtain ⟨k1, k2⟩ := k
      have HA : Hid (atF s a n = some (false, (a - 16777216).toNat)) := by unfold Hid atF; rw [if_neg g, if_pos ⟨k1, k2⟩]
      obtain ⟨m, hm⟩ : ∃ m, s.gl.length = m + 1 := ⟨s.gl.length - 1, by omega⟩
      have hgs := h.rows.gs
      rw [hm] at hgs
      obtain ⟨gb, gcap, egv, hgc⟩ := own_form2 hgs
      rw [← hm] at egv hgc
      have HG := hid' egv
      rw [egv] at c6
      have e3 : IntKind.i64.wrap (16777216 + (s.gl.length : Int)) = 16777216 + (s.gl.length : Int) := by simp [IntKind.wrap, IntKind.bits, IntKind.signed]; omega
      have e4 : IntKind.i64.wrap (a - 16777216) = a - 16777216 := by simp [IntKind.wrap, IntKind.bits, IntKind.signed]; omega
      have e5 : IntKind.i64.wrap (a + (n : Int) - 16777216) = a + n - 16777216 := by simp [IntKind.wrap, IntKind.bits, IntKind.signed]; omega
      have e6 : (a + (n : Int) - 16777216).toNat - (a - 16777216).toNat = n := by omega
      have e7 : ¬ gcap = (a - 16777216).toNat := by omega
      clear hm hgs egv h
      by_cases q : s.low ≤ a
      · have q2 : ¬ a + (n : Int) ≤ 8388608 := fun e => g ⟨q, e⟩
        clear g g'
        go_enter Try.func70, Try.ntmps70
        go_wp2
        go_ret
        exact ⟨_, rfl, .inr (.inr ⟨_, gb, gcap, _, HA.out, rfl, HG.out, by omega⟩), rfl⟩
      · exfalso; omega
    · have HA : Hid (atF s a n = none) := by unfold Hid atF; rw [if_neg g, if_neg k]
      obtain ⟨go, gcap, egv, hgc⟩ := own_len h.rows.gs
      rw [egv] at c6
      have e3 : IntKind.i64.wrap (16777216 + (s.gl.length : Int)) = 16777216 + (s.gl.length : Int) := by simp [IntKind.wrap, IntKind.bits, IntKind.signed]; omega
      clear egv h
      by_cases q : s.low ≤ a
      · have q2 : ¬ a + (n : Int) ≤ 8388608 := fun e => g ⟨q, e⟩
        by_cases p : 16777216 ≤ a
        · have p2 : ¬ a + (n : Int) ≤ 16777216 + (s.gl.length : Int) := fun e => k ⟨p, e⟩
          clear g g' k
          go_enter Try.func70, Try.ntmps70
          go_wp2
          go_ret
          exact ⟨_, rfl, .inl ⟨HA.out, rfl⟩, rfl⟩
        · clear g g' k
          go_enter Try.func70, Try.ntmps70
          go_wp2
          go_ret
          exact ⟨_, rfl, .inl ⟨HA.out, rfl⟩, rfl⟩
      · by_cases p : 16777216 ≤ a
        · exfalso; omega
        · clear g g' k
          go_enter Try.func70, Try.ntmps70
          go_wp2
          go_ret
          exact ⟨_, rfl, .inl ⟨HA.out, rfl⟩, rfl⟩
end
end Go.Proofs.Ytiehlkhpblldaaa
