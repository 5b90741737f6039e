/- The program's Same: pairs of rows of nodes, in a list. -/
import Derived.Test.YtnnnfabpceapcaaDoorSame2
import Derived.Test.YtnnnfabpceapcaaDoorRev
import Derived.Test.YtnnnfabpceapcaaDoorBuild
import Derived.Deep.CutBlock
import Derived.Deep.RegionLaw
namespace Go.Proofs.YtnnnfabpceapcaaDoor
open Go.RowKit
set_option linter.unusedVariables false

/-- A pair of rows. -/
structure Ep where
  v1 : Value
  v2 : Value
  k1 : List Tr
  k2 : List Tr
def epC : List Ep → List Value
  | [] => []
  | e :: r => e.v1 :: e.v2 :: epC r
theorem epC_length : ∀ (S : List Ep), (epC S).length = S.length * 2
  | [] => rfl
  | e :: r => by
    show (epC r).length + 1 + 1 = (r.length + 1) * 2
    rw [epC_length r]
    omega
theorem epC_append : ∀ (a b : List Ep), epC (a ++ b) = epC a ++ epC b
  | [], b => rfl
  | e :: r, b => by
    show e.v1 :: e.v2 :: epC (r ++ b) = _
    rw [epC_append r b]
    rfl
def allE (S : List Ep) : Bool := S.all fun e => sameL e.k1 e.k2
theorem allE_push (S : List Ep) (e : Ep) : allE (S ++ [e]) = (allE S && sameL e.k1 e.k2) := by unfold allE; rw [List.all_append]; simp
def wtE : List Ep → Nat
  | [] => 0
  | e :: r => 1 + 2 * szL e.k1 + wtE r
theorem wtE_append : ∀ (a b : List Ep), wtE (a ++ b) = wtE a + wtE b
  | [], b => by show wtE b = 0 + wtE b; omega
  | e :: r, b => by
    show 1 + 2 * szL e.k1 + wtE (r ++ b) = 1 + 2 * szL e.k1 + wtE r + wtE b
    rw [wtE_append r b]
    omega
theorem len_le_wtE : ∀ (S : List Ep), S.length ≤ wtE S
  | [] => Nat.le_refl _
  | e :: r => by
    have := len_le_wtE r
    show r.length + 1 ≤ 1 + 2 * szL e.k1 + wtE r
    omega
theorem wtE_one (e : Ep) : wtE [e] = 1 + 2 * szL e.k1 := by show 1 + 2 * szL e.k1 + 0 = _; omega

/-- In the midst: what is still to compare, beside the current rows. -/
structure PM (wB : World) (A : Bool) (c1 c2 : List Tr) (S : List Ep) (v : Value) (W : World) : Prop where
  own : W.ownsRow wB.heap.size 42 2 v S.length (epC S)
  rows : ∀ e ∈ S, (∃ cb n, Ks cb n wB e.v1 e.k1) ∧ (∃ cb n, Ks cb n wB e.v2 e.k2)
  bel : Below wB.heap.size wB W
  inv : A = (sameL c1 c2 && allE S)
  few : wtE S + 2 * szL c1 ≤ 1000000
section
variable {wB W W' : World} {A : Bool} {c1 c2 : List Tr} {S : List Ep} {v v' : Value}
theorem own_below {B e s n : Nat} {xs : List Value} (h : W.ownsRow B e s v n xs) (hb : Below W.heap.size W W') : W'.ownsRow B e s v n xs :=
  h.kept (row := none) ⟨hb.os, hb.tape, hb.output, hb.size, fun k hk _ => hb.block k hk⟩ (by cases hq : v.ownBlock with | none => exact .inl rfl | some k => exact .inr (by simp))
theorem PM.next (h : PM wB A c1 c2 S v W) (hb : Below W.heap.size W W') : PM wB A c1 c2 S v W' :=
  ⟨own_below h.own hb, h.rows, h.bel.trans (hb.mono h.bel.size), h.inv, h.few⟩
theorem PM.pop {e : Ep} (h : PM wB A [] [] (S ++ [e]) v W) : ∃ g cap, v = .slice (some ⟨g, 0, none⟩) (S.length + 1) cap ∧ wB.heap.size ≤ g ∧ g < W.heap.size ∧ S.length + 1 ≤ cap ∧ cap ≤ maxLen ∧ W.cell? ⟨g, S.length * 2, none⟩ = some e.v1 ∧ W.cell? ⟨g, S.length * 2 + 1, none⟩ = some e.v2 ∧
    PM wB A e.k1 e.k2 S (.slice (some ⟨g, 0, none⟩) S.length cap) W ∧ (∃ cb n, Ks cb n wB e.v1 e.k1) ∧ (∃ cb n, Ks cb n wB e.v2 e.k2) := by
  obtain ⟨hown, hrows, hbel, hI, hfew⟩ := h
  obtain ⟨r1, r2⟩ := hrows e (by simp)
  rw [List.length_append, List.length_singleton] at hown
  obtain ⟨hlen, ⟨_, h⟩ | ⟨g, cap, cur, rfl, hg, hh, hn, hm, hs, ht⟩⟩ := hown
  · omega
  rw [epC_append] at ht hlen
  have hl := epC_length S
  have he : epC [e] = [e.v1, e.v2] := rfl
  have hown' : W.ownsRow wB.heap.size 42 2 (.slice (some ⟨g, 0, none⟩) (S.length + 1) cap) (S.length + 1) (epC S ++ epC [e]) := ⟨hlen, .inr ⟨g, cap, cur, rfl, hg, hh, hn, hm, hs, ht⟩⟩
  have d0 := hown'.cellAt (S.length * 2) (by omega)
  have d1 := hown'.cellAt (S.length * 2 + 1) (by omega)
  rw [List.getElem?_append_right (by omega), hl, he] at d0 d1
  simp at d0 d1
  have hgl := (hown'.lt g rfl).2
  refine ⟨g, cap, rfl, hg, hgl, hn, hm, d0, d1, ⟨⟨hl, .inr ⟨g, cap, cur, rfl, hg, hh, by omega, hm, hs, ?_⟩⟩, fun e' he' => hrows e' (by simp [he']), hbel, ?_, ?_⟩, r1, r2⟩
  · have := congrArg (List.take (S.length * 2)) ht
    rw [List.take_take, Nat.min_eq_left (by omega), List.take_append_of_le_length (by omega), List.take_of_length_le (l := epC S) (by omega)] at this
    exact this
  · rw [allE_push, sameL_nil, Bool.true_and] at hI
    rw [hI, Bool.and_comm]
  · rw [wtE_append, wtE_one, szL_nil] at hfew
    omega
/-- The two nodes are alike: their kids are laid. -/
theorem PM.push {x1 x2 : NdH} {ks1 ks2 r1 r2 : List Tr} {kv1 kv2 : Value} {W1 : World} (h : PM wB A (Tr.node x1 ks1 :: r1) (Tr.node x2 ks2 :: r2) S v W) (he : eqN x1 x2 = true) (h1 : ∃ cb n, Ks cb n wB kv1 ks1) (h2 : ∃ cb n, Ks cb n wB kv2 ks2)
    (hb : Below W.heap.size W W1) (ho : W'.ownsRow wB.heap.size 42 2 v' (S.length + 1) (epC S ++ [kv1, kv2])) (hg : W1.grownBy W' v.ownBlock) : PM wB A r1 r2 (S ++ [⟨kv1, kv2, ks1, ks2⟩]) v' W' := by
  obtain ⟨hown, hrows, hbel, hI, hfew⟩ := h
  have hb1 := hbel.trans (hb.mono hbel.size)
  refine ⟨?_, fun e he' => ?_, hb1.grown hg hb1.size (fun k hk => (hown.lt k hk).1), ?_, ?_⟩
  · rw [List.length_append, epC_append]
    exact ho
  · rw [List.mem_append, List.mem_singleton] at he'
    rcases he' with he' | rfl
    · exact hrows e he'
    · exact ⟨h1, h2⟩
  · rw [hI, allE_push, sameL_cons, sameT_node, he, Bool.true_and, Bool.and_assoc, Bool.and_comm (sameL ks1 ks2), Bool.and_assoc]
  · rw [wtE_append, wtE_one]
    rw [szL_cons, szT_node] at hfew
    show wtE S + (1 + 2 * szL ks1) + 2 * szL r1 ≤ _
    omega
theorem PM.no {x1 x2 : NdH} {ks1 ks2 r1 r2 : List Tr} (h : PM wB A (Tr.node x1 ks1 :: r1) (Tr.node x2 ks2 :: r2) S v W) (he : eqN x1 x2 = false) : A = false := by
  rw [h.inv, sameL_cons, sameT_node, he]
  rfl

/-- In the inner loop's midst. -/
structure PI (wB : World) (A : Bool) (c1 c2 : List Tr) (S : List Ep) (v : Value) (rb : Nat) (u1 u2 : Value) (N : Nat) (W : World) : Prop where
  pm : PM wB A c1 c2 S v W
  r0 : W.cell? ⟨rb, 0, none⟩ = some u1
  r1 : W.cell? ⟨rb, 1, none⟩ = some u2
  rlt : rb < W.heap.size
  rne : v.ownBlock ≠ some rb
  wt : wtE S + 2 * szL c1 ≤ N
theorem PI.start {u1 u2 : Value} {N : Nat} (h : PM wB A c1 c2 S v W) (hN : wtE S + 2 * szL c1 ≤ N) : PI wB A c1 c2 S v W.heap.size u1 u2 N (W.alloc (.cells #[u1, u2] 42)) :=
  ⟨h.next (below1 _ _), by simp [go_sem], by simp [go_sem], by simp, fun e => by have := (h.own.lt _ e).2; omega, hN⟩
theorem PI.push {u1 u2 : Value} {N rb : Nat} {x1 x2 : NdH} {ks1 ks2 r1 r2 : List Tr} {kv1 kv2 : Value} {W1 : World} (h : PI wB A (Tr.node x1 ks1 :: r1) (Tr.node x2 ks2 :: r2) S v rb u1 u2 N W) (he : eqN x1 x2 = true) (h1 : ∃ cb n, Ks cb n wB kv1 ks1) (h2 : ∃ cb n, Ks cb n wB kv2 ks2)
    (hb : Below W.heap.size W W1) (ho : W'.ownsRow wB.heap.size 42 2 v' (S.length + 1) (epC S ++ [kv1, kv2])) (hg : W1.grownBy W' v.ownBlock) (hat : v'.ownBlock = v.ownBlock ∨ v'.ownBlock = some W1.heap.size) :
    PI wB A r1 r2 (S ++ [⟨kv1, kv2, ks1, ks2⟩]) v' rb u1 u2 N W' := by
  have hK : Kept (fun b => v.ownBlock = some b) W W' := (Kept.of_below hb).grown hg (fun k e _ => e)
  have hr : ¬ v.ownBlock = some rb := h.rne
  have hw := h.wt
  refine ⟨h.pm.push he h1 h2 hb ho hg, (hK.cell h.rlt hr).trans h.r0, (hK.cell h.rlt hr).trans h.r1, Nat.lt_of_lt_of_le h.rlt hK.size, fun e => ?_, ?_⟩
  · rcases hat with e1 | e1
    · rw [e1] at e
      exact hr e
    · rw [e1] at e
      have := Option.some.inj e
      have := hb.size
      have := h.rlt
      omega
  · rw [wtE_append, wtE_one]
    rw [szL_cons, szT_node] at hw
    show wtE S + (1 + 2 * szL ks1) + 2 * szL r1 ≤ _
    omega
end
theorem least_any {α : Type} (Q : Nat → α → Prop) : ∃ m : α → Nat, ∀ W, (∃ n, Q n W) → Q (m W) W ∧ ∀ k, Q k W → m W ≤ k := by
  have hl : ∀ (R : Nat → Prop) (n : Nat), R n → ∃ m, R m ∧ ∀ k, R k → m ≤ k := fun R n => by
    induction n using Nat.strongRecOn with
    | ind n ih =>
      intro h
      by_cases hx : ∃ k, k < n ∧ R k
      · obtain ⟨k, hk, hq⟩ := hx
        exact ih k hk hq
      · exact ⟨n, h, fun k hk => Nat.le_of_not_lt fun hl => hx ⟨k, hl, hk⟩⟩
  have h : ∀ W, ∃ m, (∃ n, Q n W) → Q m W ∧ ∀ k, Q k W → m ≤ k := fun W => by
    by_cases hx : ∃ n, Q n W
    · obtain ⟨n, hn⟩ := hx
      obtain ⟨m, h1, h2⟩ := hl (fun k => Q k W) n hn
      exact ⟨m, fun _ => ⟨h1, h2⟩⟩
    · exact ⟨0, fun h => absurd h hx⟩
  exact ⟨fun W => Classical.choose (h W), fun W => Classical.choose_spec (h W)⟩
end Go.Proofs.YtnnnfabpceapcaaDoor
