/- All: plain mathematics. -/
import Derived.Test.YtjeioblhpfogfaaGreatDoorX08
import Derived.Test.YtjeioblhpfogfaaGreatDoorX40
import Derived.Test.YtjeioblhpfogfaaGreatDoorX46
set_option linter.unusedVariables false
set_option linter.unusedSimpArgs false
set_option maxRecDepth 20000
set_option maxHeartbeats 8000000
namespace Go.Proofs.YtjeioblhpfogfaaGreatDoorLx
open Go.RowKit

/-- A token with its place. -/
abbrev TT := Tok × Nat × Nat
def allG : Nat → List UInt8 → Nat → Except Nat (List TT)
  | 0, _, _ => .ok []
  | f + 1, l, k =>
    match nextF (l.drop k) with
    | .error p => .error (k + p)
    | .ok (t, a, b) => if t.kind = 1 then .ok [(t, k + a, k + b)] else
      match allG f l (k + b) with
      | .error e => .error e
      | .ok r => .ok ((t, k + a, k + b) :: r)

theorem next_ok {l : List UInt8} {t : Tok} {a b : Nat} (h : nextF l = .ok (t, a, b)) : gap l = (a, true) ∧ a ≤ b ∧ b ≤ l.length ∧ 1 ≤ t.kind ∧ (t.kind = 1 ↔ a = l.length) ∧ (¬ t.kind = 1 → a < b) ∧ (t.kind = 1 → b = a) ∧ readF (l.drop a) = some (t, b - a) := by
  unfold nextF at h
  split at h
  · rename_i hg
    split at h
    · cases h
    · rename_i t' n hr
      have h' : (t', (gap l).1, (gap l).1 + n) = (t, a, b) := Except.ok.inj h
      simp only [Prod.mk.injEq] at h'
      obtain ⟨rfl, rfl, rfl⟩ := h'
      have h1 := readF_len hr
      have h2 := gap_len l
      have hnil : l.drop (gap l).1 = [] ↔ (gap l).1 = l.length := by
        rw [List.drop_eq_nil_iff]; omega
      rw [List.length_drop] at h1
      refine ⟨by rw [← hg], by omega, by omega, h1.1, h1.2.2.1.trans hnil, fun hk => ?_, fun hk => ?_, ?_⟩
      · have := h1.2.2.2 (fun e => hk (h1.2.2.1.2 e)); omega
      · have := hnil.1 (h1.2.2.1.1 hk); omega
      · rw [Nat.add_sub_cancel_left]; exact hr
  · cases h
theorem allG_fuel : ∀ (f g : Nat) (l : List UInt8) (k : Nat), k ≤ l.length → l.length + 1 - k ≤ f → l.length + 1 - k ≤ g → allG f l k = allG g l k
  | 0, g, l, k, hk, hf, hg => by omega
  | f + 1, 0, l, k, hk, hf, hg => by omega
  | f + 1, g + 1, l, k, hk, hf, hg => by
    unfold allG
    match h : nextF (l.drop k) with
    | .error p => rfl
    | .ok (t, a, b) =>
      have h1 := next_ok h
      rw [List.length_drop] at h1
      dsimp only
      split
      · rfl
      · rename_i hk1
        have := h1.2.2.2.2.2.1 hk1
        rw [allG_fuel f g l (k + b) (by omega) (by omega) (by omega)]
/-- The tokens from a place on. -/
def allAt (l : List UInt8) (k : Nat) : Except Nat (List TT) := allG (l.length + 1 - k) l k
theorem allAt_err {l : List UInt8} {k p : Nat} (hk : k ≤ l.length) (h : nextF (l.drop k) = .error p) : allAt l k = .error (k + p) := by
  unfold allAt
  rw [show l.length + 1 - k = l.length - k + 1 by omega]
  unfold allG
  rw [h]
theorem allAt_end {l : List UInt8} {k a b : Nat} {t : Tok} (hk : k ≤ l.length) (h : nextF (l.drop k) = .ok (t, a, b)) (ht : t.kind = 1) : allAt l k = .ok [(t, k + a, k + b)] := by
  unfold allAt
  rw [show l.length + 1 - k = l.length - k + 1 by omega]
  unfold allG
  rw [h]
  dsimp only
  rw [if_pos ht]
/-- More tokens ahead of those. -/
def prep (a : List TT) : Except Nat (List TT) → Except Nat (List TT)
  | .error e => .error e
  | .ok r => .ok (a ++ r)
theorem prep_prep (a b : List TT) (x : Except Nat (List TT)) : prep a (prep b x) = prep (a ++ b) x := by cases x <;> simp [prep]
theorem prep_nil (x : Except Nat (List TT)) : prep [] x = x := by cases x <;> rfl
theorem allAt_more {l : List UInt8} {k a b : Nat} {t : Tok} (hk : k ≤ l.length) (h : nextF (l.drop k) = .ok (t, a, b)) (ht : ¬ t.kind = 1) : allAt l k = prep [(t, k + a, k + b)] (allAt l (k + b)) := by
  have h1 := next_ok h
  rw [List.length_drop] at h1
  have h2 := h1.2.2.2.2.2.1 ht
  unfold allAt
  rw [show l.length + 1 - k = l.length - k + 1 by omega]
  conv => lhs; unfold allG
  rw [h]
  dsimp only
  rw [if_neg ht, allG_fuel (l.length - k) (l.length + 1 - (k + b)) l (k + b) (by omega) (by omega) (by omega)]
  cases allG (l.length + 1 - (k + b)) l (k + b) <;> rfl
def allF (l : List UInt8) : Except Nat (List TT) := allAt l 0

def cellsT1 (x : TT) : List Value := [.int .i64 (x.1.kind : Nat), .string (strL x.1.text), .int .u32 (x.1.num : Nat), .bool x.1.uns, .int .i64 (x.2.1 : Nat), .int .i64 (x.2.2 : Nat)]
def cellsT (l : List TT) : List Value := l.flatMap cellsT1
theorem cellsT_append (l m : List TT) : cellsT (l ++ m) = cellsT l ++ cellsT m := by simp [cellsT]
theorem info24' : (Tryz.prog.info? 42).map (fun i => (i.zero, i.size, i.bytes)) = some (some zeroV, 6, 48) := by kernel_rfl
theorem tok_six {w : World} {g : Nat} {a b c d e f : Value} (h0 : w.cell? ⟨g, 0, none⟩ = some a) (h1 : w.cell? ⟨g, 1, none⟩ = some b) (h2 : w.cell? ⟨g, 2, none⟩ = some c) (h3 : w.cell? ⟨g, 3, none⟩ = some d) (h4 : w.cell? ⟨g, 4, none⟩ = some e) (h5 : w.cell? ⟨g, 5, none⟩ = some f) :
    ∀ (j : Nat) (u : Value), [a, b, c, d, e, f][j]? = some u → w.cell? ((⟨g, 0, none⟩ : Addr).add j) = some u := by
  intro j u hj
  rw [Addr.add_lit]
  match j, hj with
  | 0, hj => simp at hj; subst hj; simpa using h0
  | 1, hj => simp at hj; subst hj; simpa using h1
  | 2, hj => simp at hj; subst hj; simpa using h2
  | 3, hj => simp at hj; subst hj; simpa using h3
  | 4, hj => simp at hj; subst hj; simpa using h4
  | 5, hj => simp at hj; subst hj; simpa using h5
/-- Tokens in a slice of a call's own. -/
def OwnT (w : World) (B : Nat) (v : Value) (l : List TT) : Prop := w.ownsRow B 42 6 v l.length (cellsT l)
theorem own_below {w w' : World} {B e z n : Nat} {v : Value} {xs : List Value} (h : w.ownsRow B e z v n xs) (hb : Below w.heap.size w w') : w'.ownsRow B e z v n xs := by
  obtain ⟨h1, h2, h3, h4, h5⟩ := hb
  exact h.kept (row := none) ⟨h1, h2, h3, h4, fun k hk _ => h5 k hk⟩ (by cases v.ownBlock <;> simp)
/-- What All answers. -/
def AllR (B : Nat) (w' : World) (r : Except Nat (List TT)) (e : Ending) : Prop :=
  (∃ p : Nat, r = .error p ∧ e = .returned (.tuple #[.slice none 0 0, .int .i64 (p : Int), .int .i64 70])) ∨ (∃ ts v, r = .ok ts ∧ e = .returned (.tuple #[v, .int .i64 0, .int .i64 0]) ∧ OwnT w' B v ts)
end Go.Proofs.YtjeioblhpfogfaaGreatDoorLx
namespace Go.Proofs.YtjeioblhpfogfaaGreatDoorLx
open Go.RowKit

theorem all12_long (s : ByteArray) (hs : ¬ s.size ≤ 65536) (w : World) : Calls Tryz.prog 35 #[.string s] w fun e w' => e = .returned (.tuple #[.slice none 0 0, .int .i64 0, .int .i64 3]) ∧ w' = w := by
  have h : (65536 : Int) < s.size := by omega
  go_enter Tryz.func35, Tryz.ntmps35
  go_wp2
  exact bodyPost_ret (v := .tuple #[.slice none 0 0, .int .i64 0, .int .i64 3]) (by simp [results, Tryz.results35, go_sem]) rfl ⟨rfl, rfl⟩

theorem all12 (s : ByteArray) (hs : s.size ≤ 65536) (m : Int) (w : World) (hm : HM m w) :
    Calls Tryz.prog 35 #[.string s] w fun e w' => AllR w.heap.size w' (allF (lst s)) e ∧ Below w.heap.size w w' := by
  have hlen := lst_len s
  have hs' : (s.size : Int) ≤ 65536 := by omega
  obtain ⟨X, hX⟩ : ∃ X, X = allF (lst s) := ⟨_, rfl⟩
  rw [← hX]
  replace hX := hid hX
  replace hm := hid hm
  obtain ⟨i24, hi24, hz0, hz1, hz2⟩ := info_parts info24'
  go_enter Tryz.func35, Tryz.ntmps35
  go_wp2
  go_loopw [5, 6] (fun v i wr => ∃ (k : Nat) (a : List TT), k ≤ s.size ∧ a.length ≤ k ∧ i = .int .i64 k ∧ X = prep a (allAt (lst s) k) ∧ OwnT wr w.heap.size v a ∧ Below w.heap.size w wr) (fun _ i _ => s.size - (intOf i).toNat)
  case atStart => exact ⟨0, [], Nat.zero_le _, Nat.le_refl _, rfl, by rw [prep_nil]; exact hX.out, ⟨rfl, .inl ⟨rfl, rfl⟩⟩, Below.refl _ _⟩
  case round =>
    obtain ⟨k, a, hk, hak, rfl, hU, hO, hB⟩ := hrel
    have HU := hid hU
    have HO := hid hO
    have HB := hid hB
    clear hU hO hB
    have hN := next9 s k hk (by omega) m wr (hm.out.below HB.out)
    match hn : nextF ((lst s).drop k) with
    | .error p =>
      rw [hn] at hN
      simp only [nextV, zeroV] at hN
      have hF := HU.out
      rw [allAt_err (by omega) hn] at hF
      have hF2 : Hid (X = .error (k + p)) := hF
      clear hF hn
      obtain ⟨q, hq⟩ : ∃ q, q = k + p := ⟨_, rfl⟩
      rw [← hq] at hN hF2
      clear hq
      go_wp2_with (go_at_call 71; (with_reducible refine hN.mono ?_); rintro e w1 ⟨rfl, hb1⟩; replace hb1 := hid hb1)
      exact bodyPost_ret (v := .tuple #[.slice none 0 0, .int .i64 (q : Int), .int .i64 70]) (by simp [results, Tryz.results35, go_sem]) rfl ⟨.inl ⟨q, hF2.out, rfl⟩, below_more (HB.out.trans (hb1.out.mono HB.out.size)) _⟩
    | .ok (t, x, y) =>
      have hok := next_ok hn
      rw [List.length_drop, hlen] at hok
      rw [hn] at hN
      simp only [nextV, tokV] at hN
      obtain ⟨q, hq⟩ : ∃ q, q = k + x := ⟨_, rfl⟩
      obtain ⟨r, hr⟩ : ∃ r, r = k + y := ⟨_, rfl⟩
      rw [← hq, ← hr] at hN
      have hrs : r ≤ s.size := by omega
      by_cases ht : t.kind = 1
      · have hF := HU.out
        rw [allAt_end (by omega) hn ht, ← hq, ← hr] at hF
        have hF2 : Hid (X = .ok (a ++ [(t, q, r)])) := hF
        have ht' : (t.kind : Int) = 1 := by omega
        clear hF hn hq hr hok ht
        go_wp2_with (first
          | (go_at_call 71; (with_reducible refine hN.mono ?_); rintro e w1 ⟨rfl, hb1⟩; replace hb1 := hid hb1)
          | (at_builtin; refine of_mark ?_))
        unfold Mark
        have HO1 : Hid (OwnT w1 w.heap.size u5 a) := own_below HO.out hb1.out
        have HB1 : Hid (Below w.heap.size w w1) := HB.out.trans (hb1.out.mono HB.out.size)
        refine wpList_append_own _ rfl _ _ 37 rfl w.heap.size 42 i24 zeroV 6 48 Tryz.underlying37 hi24 hz0 hz1 hz2 rfl (by decide) _ _ _ rfl (World.ownsRow.alloc (World.ownsRow.alloc HO1.out _) _) ⟨w1.heap.size + 1, 0, none⟩ 1 1 [.int .i64 1, .string (strL t.text), .int .u32 (t.num : Nat), .bool t.uns, .int .i64 (q : Nat), .int .i64 (r : Nat)] rfl rfl (tok_six (by simp [go_sem]) (by simp [go_sem]) (by simp [go_sem]) (by simp [go_sem]) (by simp [go_sem]) (by simp [go_sem])) ?c2 ?c3 ?c4 ?c5 ?_
        case c2 => intro u hu; simp at hu; rcases hu with rfl | rfl | rfl | rfl | rfl | rfl <;> rfl
        case c3 => unfold maxLen; omega
        case c4 => omega
        case c5 => have := HB1.out.size; simp; omega
        intro v' w3 hown2 hgrow _
        have HB3 : Hid (Below w.heap.size w w3) := (((HB1.out.alloc HB1.out.size _).alloc (by (have := HB1.out.size); simp; omega) _).grown hgrow (by (have := HB1.out.size); simp; omega) (fun k hk => (HO1.out.lt k hk).1))
        have HO3 : Hid (OwnT w3 w.heap.size v' (a ++ [(t, q, r)])) := by
          show w3.ownsRow _ _ _ _ _ _
          rw [cellsT_append, List.length_append]
          have e : cellsT [(t, q, r)] = [.int .i64 1, .string (strL t.text), .int .u32 (t.num : Nat), .bool t.uns, .int .i64 (q : Nat), .int .i64 (r : Nat)] := by simp [cellsT, cellsT1, ht']
          rw [e]
          exact hown2
        have c0 : w3.cell? ⟨w1.heap.size, 0, none⟩ = some (.int .i64 1) := hgrow.cell (by simp [go_sem]) (fun e => by have := (HO1.out.lt _ e.symm).2; simp at this)
        have c5 : w3.cell? ⟨w1.heap.size, 5, none⟩ = some (.int .i64 (r : Nat)) := hgrow.cell (by simp [go_sem]) (fun e => by have := (HO1.out.lt _ e.symm).2; simp at this)
        clear hown2 hgrow
        go_wp2
        exact bodyPost_ret (v := .tuple #[v', .int .i64 0, .int .i64 0]) (by simp [results, Tryz.results35, go_sem]) rfl ⟨.inr ⟨_, v', hF2.out, rfl, HO3.out⟩, HB3.out⟩
      · have hF := HU.out
        rw [allAt_more (by omega) hn ht, prep_prep, ← hq, ← hr] at hF
        have hF2 : Hid (X = prep (a ++ [(t, q, r)]) (allAt (lst s) r)) := hF
        have ht' : ((t.kind : Int) == 1) = false := by simp; omega
        have hlt := hok.2.2.2.2.2.1 ht
        have hkr : k < r := by omega
        clear hF hn hq hr hok ht hlt
        go_wp2_with (first
          | (go_at_call 71; (with_reducible refine hN.mono ?_); rintro e w1 ⟨rfl, hb1⟩; replace hb1 := hid hb1)
          | (at_builtin; refine of_mark ?_))
        unfold Mark
        have HO1 : Hid (OwnT w1 w.heap.size u5 a) := own_below HO.out hb1.out
        have HB1 : Hid (Below w.heap.size w w1) := HB.out.trans (hb1.out.mono HB.out.size)
        refine wpList_append_own _ rfl _ _ 37 rfl w.heap.size 42 i24 zeroV 6 48 Tryz.underlying37 hi24 hz0 hz1 hz2 rfl (by decide) _ _ _ rfl (World.ownsRow.alloc (World.ownsRow.alloc HO1.out _) _) ⟨w1.heap.size + 1, 0, none⟩ 1 1 [.int .i64 (t.kind : Nat), .string (strL t.text), .int .u32 (t.num : Nat), .bool t.uns, .int .i64 (q : Nat), .int .i64 (r : Nat)] rfl rfl (tok_six (by simp [go_sem]) (by simp [go_sem]) (by simp [go_sem]) (by simp [go_sem]) (by simp [go_sem]) (by simp [go_sem])) ?c2 ?c3 ?c4 ?c5 ?_
        case c2 => intro u hu; simp at hu; rcases hu with rfl | rfl | rfl | rfl | rfl | rfl <;> rfl
        case c3 => unfold maxLen; omega
        case c4 => omega
        case c5 => have := HB1.out.size; simp; omega
        intro v' w3 hown2 hgrow _
        have HB3 : Hid (Below w.heap.size w w3) := (((HB1.out.alloc HB1.out.size _).alloc (by (have := HB1.out.size); simp; omega) _).grown hgrow (by (have := HB1.out.size); simp; omega) (fun k hk => (HO1.out.lt k hk).1))
        have HO3 : Hid (OwnT w3 w.heap.size v' (a ++ [(t, q, r)])) := by
          show w3.ownsRow _ _ _ _ _ _
          rw [cellsT_append, List.length_append]
          have e : cellsT [(t, q, r)] = [.int .i64 (t.kind : Nat), .string (strL t.text), .int .u32 (t.num : Nat), .bool t.uns, .int .i64 (q : Nat), .int .i64 (r : Nat)] := by rfl
          rw [e]
          exact hown2
        have c0 : w3.cell? ⟨w1.heap.size, 0, none⟩ = some (.int .i64 (t.kind : Nat)) := hgrow.cell (by simp [go_sem]) (fun e => by have := (HO1.out.lt _ e.symm).2; simp at this)
        have c5 : w3.cell? ⟨w1.heap.size, 5, none⟩ = some (.int .i64 (r : Nat)) := hgrow.cell (by simp [go_sem]) (fun e => by have := (HO1.out.lt _ e.symm).2; simp at this)
        clear hown2 hgrow
        go_wp2
        go_roundw
        case rel => exact ⟨r, a ++ [(t, q, r)], hrs, by simp; omega, rfl, hF2.out, HO3.out, HB3.out⟩
        case measure => simp [intOf]; omega
end Go.Proofs.YtjeioblhpfogfaaGreatDoorLx
namespace Go.Proofs.YtjeioblhpfogfaaGreatDoorLx
open Go.RowKit

end Go.Proofs.YtjeioblhpfogfaaGreatDoorLx
namespace Go.Proofs.YtjeioblhpfogfaaGreatDoorLx
open Go.RowKit

theorem next10 (s : ByteArray) (k : Nat) (hk : k ≤ s.size) (hs : s.size < 4294967281) (m : Int) (w : World) (hm : HM m w) :
    Calls Tryz.prog 34 #[.string s, .int .i64 (k : Int)] w fun e w' => e = .returned (nextV k (nextF ((lst s).drop k))) ∧ Below w.heap.size w w' := by
  have hk' : (k : Int) ≤ s.size := by omega
  have hlen := lst_len s
  have hsk := gap23 s k hk hs
  have hgl := gap_len ((lst s).drop k)
  rw [List.length_drop, hlen] at hgl
  obtain ⟨g, b, hg⟩ : ∃ g b, gap ((lst s).drop k) = (g, b) := ⟨_, _, rfl⟩
  rw [hg] at hsk hgl
  obtain ⟨p, hp⟩ : ∃ p, p = k + g := ⟨_, rfl⟩
  simp only [← hp] at hsk
  have hps : (p : Int) ≤ s.size := by simp only at hgl; omega
  replace hp := hid hp
  clear hm
  cases b
  · have hN := next_bad hg
    generalize nextF ((lst s).drop k) = N at hN ⊢
    subst hN
    go_enter Tryz.func34, Tryz.ntmps34
    go_wp2_with (go_at_call 69; (with_reducible refine (hsk _).mono ?_); rintro e w1 ⟨rfl, rfl⟩)
    refine bodyPost_ret (v := .tuple #[zeroV, .int .i64 (p : Int), .int .i64 70]) (by simp [results, Tryz.results34, go_sem, zeroV]) rfl ⟨?_, below_box _ _⟩
    rw [hp.out]; rfl
  · have hd : (lst s).drop p = ((lst s).drop k).drop g := by rw [List.drop_drop, hp.out]
    by_cases hlt : p < s.size
    · have hlt' : (p : Int) < s.size := by omega
      have htk := token24 s p hlt hs
      cases hR : readF ((lst s).drop p) with
      | none =>
        rw [hR] at htk
        rw [hd] at hR
        have hN := next_none hg hR
        generalize nextF ((lst s).drop k) = N at hN ⊢
        subst hN
        clear hd hR
        go_enter Tryz.func34, Tryz.ntmps34
        go_wp2_with (first
          | (go_at_call 69; (with_reducible refine (hsk _).mono ?_); rintro e w1 ⟨rfl, rfl⟩)
          | (go_at_call 70; (with_reducible refine (htk _).mono ?_); rintro e w1 ⟨⟨q0, q1, q2, q3, q4, q5, rfl⟩, hb1⟩; obtain ⟨⟨k0, k1, k2, k3, k4, k5⟩, hz, hB, hlz⟩ := zkept hb1; have z0 := hz 0; have z1 := hz 1; have z2 := hz 2; have z3 := hz 3; have z4 := hz 4; have z5 := hz 5; clear hz))
        refine bodyPost_ret (v := .tuple #[zeroV, .int .i64 (p : Int), .int .i64 70]) (by simp [results, Tryz.results34, go_sem, zeroV, k0, k1, k2, k3, k4, k5, hlz]) rfl ⟨?_, ?_⟩
        · rw [hp.out]; rfl
        · exact below_set6a hB _ _ _ _ _ _ _
      | some q =>
        obtain ⟨t, n⟩ := q
        rw [hR] at htk
        rw [hd] at hR
        have hN := next_some hg hR
        generalize nextF ((lst s).drop k) = N at hN ⊢
        subst hN
        clear hd hR
        simp only [TokP, tokV] at htk
        obtain ⟨q, hq⟩ : ∃ q, q = p + n := ⟨_, rfl⟩
        rw [← hq] at htk
        replace hq := hid hq
        go_enter Tryz.func34, Tryz.ntmps34
        go_wp2_with (first
          | (go_at_call 69; (with_reducible refine (hsk _).mono ?_); rintro e w1 ⟨rfl, rfl⟩)
          | (go_at_call 70; (with_reducible refine (htk _).mono ?_); rintro e w1 ⟨rfl, hb1⟩; obtain ⟨⟨k0, k1, k2, k3, k4, k5⟩, hz, hB, hlz⟩ := zkept hb1; have z0 := hz 0; have z1 := hz 1; have z2 := hz 2; have z3 := hz 3; have z4 := hz 4; have z5 := hz 5; clear hz))
        refine bodyPost_ret (v := .tuple #[tokV t (p : Int) (q : Int), .int .i64 0, .int .i64 0]) (by simp [results, Tryz.results34, go_sem, tokV, k0, k1, k2, k3, k4, k5, hlz]) rfl ⟨?_, ?_⟩
        · rw [hq.out, hp.out, Nat.add_assoc]; rfl
        · exact below_set6a hB _ _ _ _ _ _ _
    · have hnil := lst_nil s p (by omega)
      rw [hd] at hnil
      have hN := next_some hg (show readF (((lst s).drop k).drop g) = some (⟨1, [], 0, false⟩, 0) by rw [hnil]; rfl)
      generalize nextF ((lst s).drop k) = N at hN ⊢
      subst hN
      clear hd hnil
      go_enter Tryz.func34, Tryz.ntmps34
      go_wp2_with (go_at_call 69; (with_reducible refine (hsk _).mono ?_); rintro e w1 ⟨rfl, rfl⟩)
      refine bodyPost_ret (v := .tuple #[tokV ⟨1, [], 0, false⟩ (p : Int) (p : Int), .int .i64 0, .int .i64 0]) (by simp [results, Tryz.results34, go_sem, tokV, strL]) rfl ⟨?_, below_box _ _⟩
      rw [hp.out]; rfl
end Go.Proofs.YtjeioblhpfogfaaGreatDoorLx
namespace Go.Proofs.YtjeioblhpfogfaaGreatDoorLx
open Go.RowKit

theorem all13_long (s : ByteArray) (hs : ¬ s.size ≤ 65536) (w : World) : Calls Tryz.prog 18 #[.string s] w fun e w' => e = .returned (.tuple #[.slice none 0 0, .int .i64 0, .int .i64 3]) ∧ w' = w := by
  have h : (65536 : Int) < s.size := by omega
  go_enter Tryz.func18, Tryz.ntmps18
  go_wp2
  exact bodyPost_ret (v := .tuple #[.slice none 0 0, .int .i64 0, .int .i64 3]) (by simp [results, Tryz.results18, go_sem]) rfl ⟨rfl, rfl⟩

theorem all13 (s : ByteArray) (hs : s.size ≤ 65536) (m : Int) (w : World) (hm : HM m w) :
    Calls Tryz.prog 18 #[.string s] w fun e w' => AllR w.heap.size w' (allF (lst s)) e ∧ Below w.heap.size w w' := by
  have hlen := lst_len s
  have hs' : (s.size : Int) ≤ 65536 := by omega
  obtain ⟨X, hX⟩ : ∃ X, X = allF (lst s) := ⟨_, rfl⟩
  rw [← hX]
  replace hX := hid hX
  replace hm := hid hm
  obtain ⟨i24, hi24, hz0, hz1, hz2⟩ := info_parts info24'
  go_enter Tryz.func18, Tryz.ntmps18
  go_wp2
  go_loopw [5, 6] (fun v i wr => ∃ (k : Nat) (a : List TT), k ≤ s.size ∧ a.length ≤ k ∧ i = .int .i64 k ∧ X = prep a (allAt (lst s) k) ∧ OwnT wr w.heap.size v a ∧ Below w.heap.size w wr) (fun _ i _ => s.size - (intOf i).toNat)
  case atStart => exact ⟨0, [], Nat.zero_le _, Nat.le_refl _, rfl, by rw [prep_nil]; exact hX.out, ⟨rfl, .inl ⟨rfl, rfl⟩⟩, Below.refl _ _⟩
  case round =>
    obtain ⟨k, a, hk, hak, rfl, hU, hO, hB⟩ := hrel
    have HU := hid hU
    have HO := hid hO
    have HB := hid hB
    clear hU hO hB
    have hN := next10 s k hk (by omega) m wr (hm.out.below HB.out)
    match hn : nextF ((lst s).drop k) with
    | .error p =>
      rw [hn] at hN
      simp only [nextV, zeroV] at hN
      have hF := HU.out
      rw [allAt_err (by omega) hn] at hF
      have hF2 : Hid (X = .error (k + p)) := hF
      clear hF hn
      obtain ⟨q, hq⟩ : ∃ q, q = k + p := ⟨_, rfl⟩
      rw [← hq] at hN hF2
      clear hq
      go_wp2_with (go_at_call 34; (with_reducible refine hN.mono ?_); rintro e w1 ⟨rfl, hb1⟩; replace hb1 := hid hb1)
      exact bodyPost_ret (v := .tuple #[.slice none 0 0, .int .i64 (q : Int), .int .i64 70]) (by simp [results, Tryz.results18, go_sem]) rfl ⟨.inl ⟨q, hF2.out, rfl⟩, below_more (HB.out.trans (hb1.out.mono HB.out.size)) _⟩
    | .ok (t, x, y) =>
      have hok := next_ok hn
      rw [List.length_drop, hlen] at hok
      rw [hn] at hN
      simp only [nextV, tokV] at hN
      obtain ⟨q, hq⟩ : ∃ q, q = k + x := ⟨_, rfl⟩
      obtain ⟨r, hr⟩ : ∃ r, r = k + y := ⟨_, rfl⟩
      rw [← hq, ← hr] at hN
      have hrs : r ≤ s.size := by omega
      by_cases ht : t.kind = 1
      · have hF := HU.out
        rw [allAt_end (by omega) hn ht, ← hq, ← hr] at hF
        have hF2 : Hid (X = .ok (a ++ [(t, q, r)])) := hF
        have ht' : (t.kind : Int) = 1 := by omega
        clear hF hn hq hr hok ht
        go_wp2_with (first
          | (go_at_call 34; (with_reducible refine hN.mono ?_); rintro e w1 ⟨rfl, hb1⟩; replace hb1 := hid hb1)
          | (at_builtin; refine of_mark ?_))
        unfold Mark
        have HO1 : Hid (OwnT w1 w.heap.size u5 a) := own_below HO.out hb1.out
        have HB1 : Hid (Below w.heap.size w w1) := HB.out.trans (hb1.out.mono HB.out.size)
        refine wpList_append_own _ rfl _ _ 37 rfl w.heap.size 42 i24 zeroV 6 48 Tryz.underlying37 hi24 hz0 hz1 hz2 rfl (by decide) _ _ _ rfl (World.ownsRow.alloc (World.ownsRow.alloc HO1.out _) _) ⟨w1.heap.size + 1, 0, none⟩ 1 1 [.int .i64 1, .string (strL t.text), .int .u32 (t.num : Nat), .bool t.uns, .int .i64 (q : Nat), .int .i64 (r : Nat)] rfl rfl (tok_six (by simp [go_sem]) (by simp [go_sem]) (by simp [go_sem]) (by simp [go_sem]) (by simp [go_sem]) (by simp [go_sem])) ?c2 ?c3 ?c4 ?c5 ?_
        case c2 => intro u hu; simp at hu; rcases hu with rfl | rfl | rfl | rfl | rfl | rfl <;> rfl
        case c3 => unfold maxLen; omega
        case c4 => omega
        case c5 => have := HB1.out.size; simp; omega
        intro v' w3 hown2 hgrow _
        have HB3 : Hid (Below w.heap.size w w3) := (((HB1.out.alloc HB1.out.size _).alloc (by (have := HB1.out.size); simp; omega) _).grown hgrow (by (have := HB1.out.size); simp; omega) (fun k hk => (HO1.out.lt k hk).1))
        have HO3 : Hid (OwnT w3 w.heap.size v' (a ++ [(t, q, r)])) := by
          show w3.ownsRow _ _ _ _ _ _
          rw [cellsT_append, List.length_append]
          have e : cellsT [(t, q, r)] = [.int .i64 1, .string (strL t.text), .int .u32 (t.num : Nat), .bool t.uns, .int .i64 (q : Nat), .int .i64 (r : Nat)] := by simp [cellsT, cellsT1, ht']
          rw [e]
          exact hown2
        have c0 : w3.cell? ⟨w1.heap.size, 0, none⟩ = some (.int .i64 1) := hgrow.cell (by simp [go_sem]) (fun e => by have := (HO1.out.lt _ e.symm).2; simp at this)
        have c5 : w3.cell? ⟨w1.heap.size, 5, none⟩ = some (.int .i64 (r : Nat)) := hgrow.cell (by simp [go_sem]) (fun e => by have := (HO1.out.lt _ e.symm).2; simp at this)
        clear hown2 hgrow
        go_wp2
        exact bodyPost_ret (v := .tuple #[v', .int .i64 0, .int .i64 0]) (by simp [results, Tryz.results18, go_sem]) rfl ⟨.inr ⟨_, v', hF2.out, rfl, HO3.out⟩, HB3.out⟩
      · have hF := HU.out
        rw [allAt_more (by omega) hn ht, prep_prep, ← hq, ← hr] at hF
        have hF2 : Hid (X = prep (a ++ [(t, q, r)]) (allAt (lst s) r)) := hF
        have ht' : ((t.kind : Int) == 1) = false := by simp; omega
        have hlt := hok.2.2.2.2.2.1 ht
        have hkr : k < r := by omega
        clear hF hn hq hr hok ht hlt
        go_wp2_with (first
          | (go_at_call 34; (with_reducible refine hN.mono ?_); rintro e w1 ⟨rfl, hb1⟩; replace hb1 := hid hb1)
          | (at_builtin; refine of_mark ?_))
        unfold Mark
        have HO1 : Hid (OwnT w1 w.heap.size u5 a) := own_below HO.out hb1.out
        have HB1 : Hid (Below w.heap.size w w1) := HB.out.trans (hb1.out.mono HB.out.size)
        refine wpList_append_own _ rfl _ _ 37 rfl w.heap.size 42 i24 zeroV 6 48 Tryz.underlying37 hi24 hz0 hz1 hz2 rfl (by decide) _ _ _ rfl (World.ownsRow.alloc (World.ownsRow.alloc HO1.out _) _) ⟨w1.heap.size + 1, 0, none⟩ 1 1 [.int .i64 (t.kind : Nat), .string (strL t.text), .int .u32 (t.num : Nat), .bool t.uns, .int .i64 (q : Nat), .int .i64 (r : Nat)] rfl rfl (tok_six (by simp [go_sem]) (by simp [go_sem]) (by simp [go_sem]) (by simp [go_sem]) (by simp [go_sem]) (by simp [go_sem])) ?c2 ?c3 ?c4 ?c5 ?_
        case c2 => intro u hu; simp at hu; rcases hu with rfl | rfl | rfl | rfl | rfl | rfl <;> rfl
        case c3 => unfold maxLen; omega
        case c4 => omega
        case c5 => have := HB1.out.size; simp; omega
        intro v' w3 hown2 hgrow _
        have HB3 : Hid (Below w.heap.size w w3) := (((HB1.out.alloc HB1.out.size _).alloc (by (have := HB1.out.size); simp; omega) _).grown hgrow (by (have := HB1.out.size); simp; omega) (fun k hk => (HO1.out.lt k hk).1))
        have HO3 : Hid (OwnT w3 w.heap.size v' (a ++ [(t, q, r)])) := by
          show w3.ownsRow _ _ _ _ _ _
          rw [cellsT_append, List.length_append]
          have e : cellsT [(t, q, r)] = [.int .i64 (t.kind : Nat), .string (strL t.text), .int .u32 (t.num : Nat), .bool t.uns, .int .i64 (q : Nat), .int .i64 (r : Nat)] := by rfl
          rw [e]
          exact hown2
        have c0 : w3.cell? ⟨w1.heap.size, 0, none⟩ = some (.int .i64 (t.kind : Nat)) := hgrow.cell (by simp [go_sem]) (fun e => by have := (HO1.out.lt _ e.symm).2; simp at this)
        have c5 : w3.cell? ⟨w1.heap.size, 5, none⟩ = some (.int .i64 (r : Nat)) := hgrow.cell (by simp [go_sem]) (fun e => by have := (HO1.out.lt _ e.symm).2; simp at this)
        clear hown2 hgrow
        go_wp2
        go_roundw
        case rel => exact ⟨r, a ++ [(t, q, r)], hrs, by simp; omega, rfl, hF2.out, HO3.out, HB3.out⟩
        case measure => simp [intOf]; omega
end Go.Proofs.YtjeioblhpfogfaaGreatDoorLx
