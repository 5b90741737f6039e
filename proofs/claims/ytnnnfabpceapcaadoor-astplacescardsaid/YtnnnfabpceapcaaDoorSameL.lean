/- The program's Same: pairs of rows of nodes, in a list. -/
import Derived.Test.YtnnnfabpceapcaaDoorSame2
import Derived.Test.YtnnnfabpceapcaaDoorRevBuild
import Derived.Deep.CutBlock
import Derived.Deep.RegionLaw
import Derived.Test.YtnnnfabpceapcaaDoorOwn
import Derived.Test.YtnnnfabpceapcaaDoorLawS
namespace Go.Proofs.YtnnnfabpceapcaaDoor
set_option linter.unusedSimpArgs false
open Go.RowKit
set_option linter.unusedVariables false

/-- A pair of rows. -/
structure Ep where
  v1 : Value
  v2 : Value
  k1 : List Tr
  k2 : List Tr
def epC : List Ep → List Value
  | [] => []
  | e :: r => e.v1 :: e.v2 :: epC r
theorem epC_length : ∀ (S : List Ep), (epC S).length = S.length * 2
  | [] => rfl
  | e :: r => by
    show (epC r).length + 1 + 1 = (r.length + 1) * 2
    rw [epC_length r]
    omega
theorem epC_append : ∀ (a b : List Ep), epC (a ++ b) = epC a ++ epC b
  | [], b => rfl
  | e :: r, b => by
    show e.v1 :: e.v2 :: epC (r ++ b) = _
    rw [epC_append r b]
    rfl
def allE (S : List Ep) : Bool := S.all fun e => sameL e.k1 e.k2
theorem allE_push (S : List Ep) (e : Ep) : allE (S ++ [e]) = (allE S && sameL e.k1 e.k2) := by unfold allE; rw [List.all_append]; simp
def wtE : List Ep → Nat
  | [] => 0
  | e :: r => 1 + 2 * szL e.k1 + wtE r
theorem wtE_append : ∀ (a b : List Ep), wtE (a ++ b) = wtE a + wtE b
  | [], b => by show wtE b = 0 + wtE b; omega
  | e :: r, b => by
    show 1 + 2 * szL e.k1 + wtE (r ++ b) = 1 + 2 * szL e.k1 + wtE r + wtE b
    rw [wtE_append r b]
    omega
theorem len_le_wtE : ∀ (S : List Ep), S.length ≤ wtE S
  | [] => Nat.le_refl _
  | e :: r => by
    have := len_le_wtE r
    show r.length + 1 ≤ 1 + 2 * szL e.k1 + wtE r
    omega
theorem wtE_one (e : Ep) : wtE [e] = 1 + 2 * szL e.k1 := by show 1 + 2 * szL e.k1 + 0 = _; omega

/-- In the midst: what is still to compare, beside the current rows. -/
structure PM (wB : World) (A : Bool) (c1 c2 : List Tr) (S : List Ep) (v : Value) (W : World) : Prop where
  own : W.ownsRow wB.heap.size 42 2 v S.length (epC S)
  rows : ∀ e ∈ S, (∃ cb n, Ks cb n wB e.v1 e.k1) ∧ (∃ cb n, Ks cb n wB e.v2 e.k2)
  bel : Below wB.heap.size wB W
  inv : A = (sameL c1 c2 && allE S)
  few : wtE S + 2 * szL c1 ≤ 1000000
section
variable {wB W W' : World} {A : Bool} {c1 c2 : List Tr} {S : List Ep} {v v' : Value}
theorem own_below {B e s n : Nat} {xs : List Value} (h : W.ownsRow B e s v n xs) (hb : Below W.heap.size W W') : W'.ownsRow B e s v n xs :=
  h.kept (row := none) ⟨hb.os, hb.tape, hb.output, hb.size, fun k hk _ => hb.block k hk⟩ (by cases hq : v.ownBlock with | none => exact .inl rfl | some k => exact .inr (by simp))
theorem PM.next (h : PM wB A c1 c2 S v W) (hb : Below W.heap.size W W') : PM wB A c1 c2 S v W' :=
  ⟨own_below h.own hb, h.rows, h.bel.trans (hb.mono h.bel.size), h.inv, h.few⟩
theorem PM.pop {e : Ep} (h : PM wB A [] [] (S ++ [e]) v W) : ∃ g cap, v = .slice (some ⟨g, 0, none⟩) (S.length + 1) cap ∧ wB.heap.size ≤ g ∧ g < W.heap.size ∧ S.length + 1 ≤ cap ∧ cap ≤ maxLen ∧ W.cell? ⟨g, S.length * 2, none⟩ = some e.v1 ∧ W.cell? ⟨g, S.length * 2 + 1, none⟩ = some e.v2 ∧
    PM wB A e.k1 e.k2 S (.slice (some ⟨g, 0, none⟩) S.length cap) W ∧ (∃ cb n, Ks cb n wB e.v1 e.k1) ∧ (∃ cb n, Ks cb n wB e.v2 e.k2) := by
  obtain ⟨hown, hrows, hbel, hI, hfew⟩ := h
  obtain ⟨r1, r2⟩ := hrows e (by simp)
  rw [List.length_append, List.length_singleton] at hown
  obtain ⟨hlen, ⟨_, h⟩ | ⟨g, cap, cur, rfl, hg, hh, hn, hm, hs, ht⟩⟩ := hown
  · omega
  rw [epC_append] at ht hlen
  have hl := epC_length S
  have he : epC [e] = [e.v1, e.v2] := rfl
  have hown' : W.ownsRow wB.heap.size 42 2 (.slice (some ⟨g, 0, none⟩) (S.length + 1) cap) (S.length + 1) (epC S ++ epC [e]) := ⟨hlen, .inr ⟨g, cap, cur, rfl, hg, hh, hn, hm, hs, ht⟩⟩
  have d0 := hown'.cellAt (S.length * 2) (by omega)
  have d1 := hown'.cellAt (S.length * 2 + 1) (by omega)
  rw [List.getElem?_append_right (by omega), hl, he] at d0 d1
  simp at d0 d1
  have hgl := (hown'.lt g rfl).2
  refine ⟨g, cap, rfl, hg, hgl, hn, hm, d0, d1, ⟨⟨hl, .inr ⟨g, cap, cur, rfl, hg, hh, by omega, hm, hs, ?_⟩⟩, fun e' he' => hrows e' (by simp [he']), hbel, ?_, ?_⟩, r1, r2⟩
  · have := congrArg (List.take (S.length * 2)) ht
    rw [List.take_take, Nat.min_eq_left (by omega), List.take_append_of_le_length (by omega), List.take_of_length_le (l := epC S) (by omega)] at this
    exact this
  · rw [allE_push, sameL_nil, Bool.true_and] at hI
    rw [hI, Bool.and_comm]
  · rw [wtE_append, wtE_one, szL_nil] at hfew
    omega
/-- The two nodes are alike: their kids are laid. -/
theorem PM.push {x1 x2 : NdH} {ks1 ks2 r1 r2 : List Tr} {kv1 kv2 : Value} {W1 : World} (h : PM wB A (Tr.node x1 ks1 :: r1) (Tr.node x2 ks2 :: r2) S v W) (he : eqN x1 x2 = true) (h1 : ∃ cb n, Ks cb n wB kv1 ks1) (h2 : ∃ cb n, Ks cb n wB kv2 ks2)
    (hb : Below W.heap.size W W1) (ho : W'.ownsRow wB.heap.size 42 2 v' (S.length + 1) (epC S ++ [kv1, kv2])) (hg : W1.grownBy W' v.ownBlock) : PM wB A r1 r2 (S ++ [⟨kv1, kv2, ks1, ks2⟩]) v' W' := by
  obtain ⟨hown, hrows, hbel, hI, hfew⟩ := h
  have hb1 := hbel.trans (hb.mono hbel.size)
  refine ⟨?_, fun e he' => ?_, hb1.grown hg hb1.size (fun k hk => (hown.lt k hk).1), ?_, ?_⟩
  · rw [List.length_append, epC_append]
    exact ho
  · rw [List.mem_append, List.mem_singleton] at he'
    rcases he' with he' | rfl
    · exact hrows e he'
    · exact ⟨h1, h2⟩
  · rw [hI, allE_push, sameL_cons, sameT_node, he, Bool.true_and, Bool.and_assoc, Bool.and_comm (sameL ks1 ks2), Bool.and_assoc]
  · rw [wtE_append, wtE_one]
    rw [szL_cons, szT_node] at hfew
    show wtE S + (1 + 2 * szL ks1) + 2 * szL r1 ≤ _
    omega
theorem PM.no {x1 x2 : NdH} {ks1 ks2 r1 r2 : List Tr} (h : PM wB A (Tr.node x1 ks1 :: r1) (Tr.node x2 ks2 :: r2) S v W) (he : eqN x1 x2 = false) : A = false := by
  rw [h.inv, sameL_cons, sameT_node, he]
  rfl

/-- In the inner loop's midst. -/
structure PI (wB : World) (A : Bool) (c1 c2 : List Tr) (S : List Ep) (v : Value) (rb : Nat) (u1 u2 : Value) (N : Nat) (W : World) : Prop where
  pm : PM wB A c1 c2 S v W
  r0 : W.cell? ⟨rb, 0, none⟩ = some u1
  r1 : W.cell? ⟨rb, 1, none⟩ = some u2
  rlt : rb < W.heap.size
  rne : v.ownBlock ≠ some rb
  wt : wtE S + 2 * szL c1 ≤ N
theorem PI.start {u1 u2 : Value} {N : Nat} (h : PM wB A c1 c2 S v W) (hN : wtE S + 2 * szL c1 ≤ N) : PI wB A c1 c2 S v W.heap.size u1 u2 N (W.alloc (.cells #[u1, u2] 42)) :=
  ⟨h.next (below1 _ _), by simp [go_sem], by simp [go_sem], by simp, fun e => by have := (h.own.lt _ e).2; omega, hN⟩
theorem PI.push {u1 u2 : Value} {N rb : Nat} {x1 x2 : NdH} {ks1 ks2 r1 r2 : List Tr} {kv1 kv2 : Value} {W1 : World} (h : PI wB A (Tr.node x1 ks1 :: r1) (Tr.node x2 ks2 :: r2) S v rb u1 u2 N W) (he : eqN x1 x2 = true) (h1 : ∃ cb n, Ks cb n wB kv1 ks1) (h2 : ∃ cb n, Ks cb n wB kv2 ks2)
    (hb : Below W.heap.size W W1) (ho : W'.ownsRow wB.heap.size 42 2 v' (S.length + 1) (epC S ++ [kv1, kv2])) (hg : W1.grownBy W' v.ownBlock) (hat : v'.ownBlock = v.ownBlock ∨ v'.ownBlock = some W1.heap.size) :
    PI wB A r1 r2 (S ++ [⟨kv1, kv2, ks1, ks2⟩]) v' rb u1 u2 N W' := by
  have hK : Kept (fun b => v.ownBlock = some b) W W' := (Kept.of_below hb).grown hg (fun k e _ => e)
  have hr : ¬ v.ownBlock = some rb := h.rne
  have hw := h.wt
  refine ⟨h.pm.push he h1 h2 hb ho hg, (hK.cell h.rlt hr).trans h.r0, (hK.cell h.rlt hr).trans h.r1, Nat.lt_of_lt_of_le h.rlt hK.size, fun e => ?_, ?_⟩
  · rcases hat with e1 | e1
    · rw [e1] at e
      exact hr e
    · rw [e1] at e
      have := Option.some.inj e
      have := hb.size
      have := h.rlt
      omega
  · rw [wtE_append, wtE_one]
    rw [szL_cons, szT_node] at hw
    show wtE S + (1 + 2 * szL ks1) + 2 * szL r1 ≤ _
    omega
end
theorem least_any {α : Type} (Q : Nat → α → Prop) : ∃ m : α → Nat, ∀ W, (∃ n, Q n W) → Q (m W) W ∧ ∀ k, Q k W → m W ≤ k := by
  have hl : ∀ (R : Nat → Prop) (n : Nat), R n → ∃ m, R m ∧ ∀ k, R k → m ≤ k := fun R n => by
    induction n using Nat.strongRecOn with
    | ind n ih =>
      intro h
      by_cases hx : ∃ k, k < n ∧ R k
      · obtain ⟨k, hk, hq⟩ := hx
        exact ih k hk hq
      · exact ⟨n, h, fun k hk => Nat.le_of_not_lt fun hl => hx ⟨k, hl, hk⟩⟩
  have h : ∀ W, ∃ m, (∃ n, Q n W) → Q m W ∧ ∀ k, Q k W → m ≤ k := fun W => by
    by_cases hx : ∃ n, Q n W
    · obtain ⟨n, hn⟩ := hx
      obtain ⟨m, h1, h2⟩ := hl (fun k => Q k W) n hn
      exact ⟨m, fun _ => ⟨h1, h2⟩⟩
    · exact ⟨0, fun h => absurd h hx⟩
  exact ⟨fun W => Classical.choose (h W), fun W => Classical.choose_spec (h W)⟩
end Go.Proofs.YtnnnfabpceapcaaDoor

namespace Go.Proofs.YtnnnfabpceapcaaDoor
set_option linter.unusedSimpArgs false
open Go.RowKit
set_option linter.unusedVariables false

theorem info42' : (Tryd.prog.info? 42).map (fun i => (i.zero, i.size, i.bytes)) = some (some (.agg #[.slice none 0 0, .slice none 0 0]), 2, 48) := by kernel_rfl

theorem isT_form {t : Tr} (h : isT t = true) : ∃ x ks, t = Tr.node x ks := by
  unfold isT at h
  split at h
  · exact ⟨_, _, rfl⟩
  · cases h
theorem isL_mem {l : List Tr} (h : isL l = true) : ∀ t ∈ l, isT t = true := by
  unfold isL at h
  rw [List.all_eq_true] at h
  exact fun t ht => h _ (List.mem_map.2 ⟨t, ht, rfl⟩)
/-- What holds of each kid holds of the rows. -/
theorem same_rows {P : Tr → Tr → Prop} (Q : List Tr → List Tr → Prop) (h0 : Q [] []) (h1 : ∀ t u r s, P t u → Q r s → Q (t :: r) (u :: s)) : ∀ (a b : List Tr), isL a = true → isL b = true → sameL a b = true → (∀ t ∈ a, ∀ u, isT u = true → sameT t u = true → P t u) → Q a b
  | [], [], _, _, _, _ => h0
  | [], _ :: _, _, _, h, _ => by cases h
  | _ :: _, [], _, _, h, _ => by cases h
  | t :: r, u :: s, ha, hb, h, hp => by
    rw [sameL_cons, Bool.and_eq_true] at h
    rw [isL_cons, Bool.and_eq_true] at ha hb
    exact h1 t u r s (hp t (by simp) u hb.1 h.1) (same_rows Q h0 h1 r s ha.2 hb.2 h.2 fun t' ht' => hp t' (by simp [ht']))
theorem sz_mem {l : List Tr} {t : Tr} (h : t ∈ l) : szT t ≤ szL l := by
  obtain ⟨i, hi, rfl⟩ := List.getElem_of_mem h
  exact sz_kid l i hi
theorem same_sz : ∀ (n : Nat) (t u : Tr), szT t ≤ n → isT t = true → isT u = true → sameT t u = true → szT t = szT u
  | 0, t, u, hn, _, _, _ => by have := szT_pos t; omega
  | n + 1, t, u, hn, ht, hu, h => by
    obtain ⟨x, ks, rfl⟩ := isT_form ht
    obtain ⟨y, ls, rfl⟩ := isT_form hu
    rw [sameT_node, Bool.and_eq_true] at h
    rw [isT_node] at ht hu
    rw [szT_node] at hn
    rw [szT_node, szT_node, same_rows (P := fun t u => szT t = szT u) (fun a b => szL a = szL b) rfl (fun t u r s p q => by rw [szL_cons, szL_cons, p, q]) ks ls ht hu h.2 (fun t' ht' u' hu' h' => same_sz n t' u' (by have := sz_mem ht'; omega) (isL_mem ht t' ht') hu' h')]
theorem eqN_comm (x y : NdH) (h : eqN x y = true) : eqN y x = true := by
  unfold eqN at h ⊢
  simp only [Bool.and_eq_true, decide_eq_true_eq, beq_iff_eq] at h ⊢
  exact ⟨h.1.symm, h.2.1.symm, h.2.2.1.symm, h.2.2.2.symm⟩
theorem eqN_self (x : NdH) : eqN x x = true := by unfold eqN; simp
theorem same_comm : ∀ (n : Nat) (t u : Tr), szT t ≤ n → isT t = true → isT u = true → sameT t u = true → sameT u t = true
  | 0, t, u, hn, _, _, _ => by have := szT_pos t; omega
  | n + 1, t, u, hn, ht, hu, h => by
    obtain ⟨x, ks, rfl⟩ := isT_form ht
    obtain ⟨y, ls, rfl⟩ := isT_form hu
    rw [sameT_node, Bool.and_eq_true] at h ⊢
    rw [isT_node] at ht hu
    rw [szT_node] at hn
    exact ⟨eqN_comm x y h.1, same_rows (P := fun t u => sameT u t = true) (fun a b => sameL b a = true) rfl (fun t u r s p q => by rw [sameL_cons, p, q]; rfl) ks ls ht hu h.2 (fun t' ht' u' hu' h' => same_comm n t' u' (by have := sz_mem ht'; omega) (isL_mem ht t' ht') hu' h')⟩
theorem same_self : ∀ (n : Nat) (t : Tr), szT t ≤ n → isT t = true → sameT t t = true
  | 0, t, hn, _ => by have := szT_pos t; omega
  | n + 1, t, hn, ht => by
    obtain ⟨x, ks, rfl⟩ := isT_form ht
    rw [isT_node] at ht
    rw [szT_node] at hn
    rw [sameT_node, eqN_self, Bool.true_and]
    have : ∀ (l : List Tr), (∀ t ∈ l, sameT t t = true) → sameL l l = true := fun l => by
      induction l with
      | nil => exact fun _ => rfl
      | cons t r ih =>
        intro h
        rw [sameL_cons, h t (by simp), ih (fun t' ht' => h t' (by simp [ht']))]
        rfl
    exact this ks fun t' ht' => same_self n t' (by have := sz_mem ht'; omega) (isL_mem ht t' ht')

/-- One node, in a row of its own. -/
theorem row_one {w wB : World} {b n cb : Nat} {x : NdH} {kv : Value} {ks : List Tr} (hb : Below w.heap.size w wB) (hlt : b < wB.heap.size) (hat : NdAt wB b 0 x kv) (hK : Ks cb n w kv ks) : ∃ cb n, Ks cb n wB (.slice (some ⟨b, 0, none⟩) 1 1) [Tr.node x ks] :=
  ⟨wB.heap.size, n + 1, Ks.one hlt (by omega) hat ((hK.fresh (cb' := w.heap.size + wB.heap.size) (by omega)).below hb |>.fresh (cb' := wB.heap.size) (Nat.le_refl _))⟩
theorem same_start {w w2 wB : World} {A : Bool} {x y : NdH} {kv kv' : Value} {ks ls : List Tr} {cb n cb' n' : Nat} (hA : A = sameT (Tr.node x ks) (Tr.node y ls)) (hK : Ks cb n w kv ks) (hL : Ks cb' n' w kv' ls) (hb : Below w.heap.size w w2) (hz : szL ks < 262144)
    (hwB : wB = ((w2.alloc (.cells #[.int .i64 x.kind, .string x.str, .int .u32 x.num, .bool x.flag, kv, .int .i64 x.pos] 25)).alloc (.cells #[.int .i64 y.kind, .string y.str, .int .u32 y.num, .bool y.flag, kv', .int .i64 y.pos] 25))) :
    PM wB A [] [] [⟨.slice (some ⟨w2.heap.size, 0, none⟩) 1 1, .slice (some ⟨w2.heap.size + 1, 0, none⟩) 1 1, [Tr.node x ks], [Tr.node y ls]⟩] (.slice (some ⟨w2.heap.size + 1 + 1, 0, none⟩) 1 1) (wB.alloc (.cells #[.slice (some ⟨w2.heap.size, 0, none⟩) 1 1, .slice (some ⟨w2.heap.size + 1, 0, none⟩) 1 1] 42)) := by
  have hs : wB.heap.size = w2.heap.size + 1 + 1 := by rw [hwB]; simp
  have hbB : Below w.heap.size w wB := by rw [hwB]; exact (hb.alloc hb.size _).alloc (by have := hb.size; simp; omega) _
  have na : NdAt wB w2.heap.size 0 x kv := by rw [hwB]; refine ⟨?_, ?_, ?_, ?_, ?_, ?_⟩ <;> simp [go_sem]
  have nb : NdAt wB (w2.heap.size + 1) 0 y kv' := by rw [hwB]; refine ⟨?_, ?_, ?_, ?_, ?_, ?_⟩ <;> simp [go_sem]
  refine ⟨?_, fun e he => ?_, below1 _ _, ?_, ?_⟩
  · have := World.ownsRow_lit (base := wB.heap.size) (e := 42) (size := 2) wB #[.slice (some ⟨w2.heap.size, 0, none⟩) 1 1, .slice (some ⟨w2.heap.size + 1, 0, none⟩) 1 1] 1 (Nat.le_refl _) (by unfold maxLen; omega) rfl
    rw [hs] at this ⊢
    exact this
  · rw [List.mem_singleton] at he
    subst he
    exact ⟨row_one hbB (by omega) na hK, row_one hbB (by omega) nb hL⟩
  · rw [hA, sameL_nil, Bool.true_and]
    unfold allE
    simp [sameL_cons, sameL_nil]
  · rw [wtE_one, szL_nil, szL_cons, szL_nil, szT_node]
    omega

set_option maxRecDepth 20000 in
set_option maxHeartbeats 8000000 in
/-- The loop, from its first pair on. -/
theorem same11 {cb n cb' n' : Nat} {w : World} {x y : NdH} {kv kv' : Value} {ks ls : List Tr} (hK : Ks cb n w kv ks) (hL : Ks cb' n' w kv' ls) (hz : szT (Tr.node x ks) ≤ 262144) (hz' : szT (Tr.node y ls) = szT (Tr.node x ks)) :
    Calls Tryd.prog 11 #[ndV x kv, ndV y kv'] w fun e w' => e = .returned (.bool (sameT (Tr.node x ks) (Tr.node y ls))) ∧ Below w.heap.size w w' := by
  obtain ⟨i42, hi42, hz0, hz1, hz2⟩ := info_parts info42'
  have H1 : Hid (∀ W, Below w.heap.size w W → Calls Tryd.prog 6 #[ndV x kv] W fun e w' => e = .returned (.int .i64 (szT (Tr.node x ks) : Int)) ∧ Below W.heap.size W w') := fun W hW => by
    have := size6 (x := x) (hK.below hW)
    unfold szR at this
    rw [if_pos hz] at this
    exact this
  have H2 : Hid (∀ W, Below w.heap.size w W → Calls Tryd.prog 6 #[ndV y kv'] W fun e w' => e = .returned (.int .i64 (szT (Tr.node x ks) : Int)) ∧ Below W.heap.size W w') := fun W hW => by
    have := size6 (x := y) (hL.below hW)
    unfold szR at this
    rw [hz', if_pos hz] at this
    exact this
  have hp := szT_pos (Tr.node x ks)
  have hszl : szL ks < 262144 := by rw [szT_node] at hz; omega
  obtain ⟨A, hA⟩ : ∃ A, A = sameT (Tr.node x ks) (Tr.node y ls) := ⟨_, rfl⟩
  rw [← hA]
  generalize hZ : szT (Tr.node x ks) = Z at *
  unfold ndV at H1 H2 ⊢
  have HK := hid' hK
  have HL := hid' hL
  have HA := hid' hA
  have hzz : ((Z : Int) == 0) = false := by simp; omega
  clear hK hL hA hz' hZ
  obtain ⟨W0, hW0⟩ : ∃ W0, W0 = ((w.alloc (.cells #[.int .i64 x.kind, .string x.str, .int .u32 x.num, .bool x.flag, kv, .int .i64 x.pos] 25)).alloc (.cells #[.int .i64 y.kind, .string y.str, .int .u32 y.num, .bool y.flag, kv', .int .i64 y.pos] 25)) := ⟨_, rfl⟩
  have hb0 : Below w.heap.size w W0 := by rw [hW0]; exact (below1 _ _).alloc (by simp) _
  have HBX : Hid (∀ W, Below W0.heap.size W0 W → NdAt W w.heap.size 0 x kv ∧ NdAt W (w.heap.size + 1) 0 y kv' ∧ w.heap.size + 1 < W.heap.size) := fun W h => by
    have hs0 : W0.heap.size = w.heap.size + 1 + 1 := by rw [hW0]; simp
    have na : NdAt W0 w.heap.size 0 x kv := by rw [hW0]; refine ⟨?_, ?_, ?_, ?_, ?_, ?_⟩ <;> simp [go_sem]
    have nb : NdAt W0 (w.heap.size + 1) 0 y kv' := by rw [hW0]; refine ⟨?_, ?_, ?_, ?_, ?_, ?_⟩ <;> simp [go_sem]
    exact ⟨na.below h (by omega), nb.below h (by omega), by have := h.size; omega⟩
  have HB0 := hid' hb0
  have HS0 : Hid (W0.heap.size = w.heap.size + 1 + 1) := by show _ = _; rw [hW0]; simp
  clear hb0
  go_enter Tryd.func11, Tryd.ntmps11
  go_wp2_with (first
    | (go_at_call 6; refine (H2.out w1 (below_on HB0.out hb1.out)).mono ?_; rintro e w2 ⟨rfl, hb2⟩; obtain ⟨⟨p0, p1, p2, p3, p4, p5⟩, ⟨o0, o1, o2, o3, o4, o5⟩, olt⟩ := HBX.out w2 (below_on hb1.out hb2); replace hb2 := hid' hb2)
    | (go_at_call 6; rw [← hW0]; refine (H1.out W0 HB0.out).mono ?_; rintro e w1 ⟨rfl, hb1⟩; obtain ⟨⟨a0, a1, a2, a3, a4, a5⟩, ⟨b0, b1, b2, b3, b4, b5⟩, blt⟩ := HBX.out w1 hb1; replace hb1 := hid' hb1))
  obtain ⟨wB, hwB⟩ : ∃ wB, wB = ((w2.alloc (.cells #[.int .i64 x.kind, .string x.str, .int .u32 x.num, .bool x.flag, kv, .int .i64 x.pos] 25)).alloc (.cells #[.int .i64 y.kind, .string y.str, .int .u32 y.num, .bool y.flag, kv', .int .i64 y.pos] 25)) := ⟨_, rfl⟩
  have hbw2 : Below w.heap.size w w2 := below_on HB0.out (below_on hb1.out hb2.out)
  have HST := hid' (same_start HA.out HK.out HL.out hbw2 hszl hwB)
  have HSB : Hid (∀ W, Below wB.heap.size wB W → Below w.heap.size w W) := fun W hW => by
    have hbB : Below w.heap.size w wB := by rw [hwB]; exact (hbw2.alloc hbw2.size _).alloc (by have := hbw2.size; simp; omega) _
    exact below_on hbB hW
  rw [← hwB]
  obtain ⟨c2, hc2⟩ : ∃ c2, c2 = w2.heap.size := ⟨_, rfl⟩
  rw [← hc2] at HST ⊢
  clear hwB hbw2 hb1 hb2 HBX HB0 HS0 hW0 H1 H2 HK HL HA hzz hc2 a0 a1 a2 a3 a4 a5 b0 b1 b2 b3 b4 b5 blt p0 p1 p2 p3 p4 p5 o0 o1 o2 o3 o4 o5 olt
  obtain ⟨m, hm⟩ := least_any (fun n (q : Value × World) => ∃ S, PM wB A [] [] S q.1 q.2 ∧ wtE S = n)
  have HM := hid' hm
  clear hm
  go_loopw [6] (fun v W => ∃ n, ∃ S, PM wB A [] [] S v W ∧ wtE S = n) (fun v W => m (v, W))
  case atStart => exact ⟨_, _, HST.out, rfl⟩
  case round =>
    obtain ⟨S, hP, hwm⟩ := (HM.out (u6, wr) hrel).1
    clear hrel HST
    have HWM := hid' hwm
    clear hwm
    rcases List.eq_nil_or_concat S with rfl | ⟨S, e, rfl⟩
    · obtain ⟨ao, cap, rfl⟩ : ∃ ao cap, u6 = .slice ao 0 cap := by
        obtain ⟨_, ⟨e, _⟩ | ⟨g, cap, cur, e, _⟩⟩ := hP.own
        · exact ⟨_, _, e⟩
        · exact ⟨_, _, e⟩
      have HE : Hid (A = true) := hP.inv
      have HBE := hid' (HSB.out _ hP.bel)
      clear hP
      go_wp2
      go_ret
      exact ⟨by rw [HE.out]; rfl, HBE.out⟩
    · rw [List.concat_eq_append] at hP HWM
      obtain ⟨g, cap, rfl, hg, hgl, hcap, hmx, d0, d1, hP1, ⟨kb1, kn1, hk1⟩, ⟨kb2, kn2, hk2⟩⟩ := hP.pop
      obtain ⟨hkl1, ao1, kcap1, hev1⟩ := hk1.shape
      obtain ⟨hkl2, ao2, kcap2, hev2⟩ := hk2.shape
      rw [hev1] at d0 hk1
      rw [hev2] at d1 hk2
      have hSl := len_le_wtE S
      have hfew := hP1.few
      have HP1 := hid' hP1
      have HK1 := hid' hk1
      have HK2 := hid' hk2
      rw [wtE_append, wtE_one] at HWM
      have hSb : S.length ≤ 1000000 := by omega
      clear hP hk1 hk2 hev1 hev2 hSl
      by_cases hlen : e.k1.length = e.k2.length
      rotate_left
      · have HE : Hid (A = false) := by
          show _ = _
          rw [HP1.out.inv, sameL_len _ _ hlen]
          rfl
        have HBE := hid' (HSB.out _ (HP1.out.next (below1 wr (.cells #[.slice ao1 e.k1.length kcap1, .slice ao2 e.k2.length kcap2] 42))).bel)
        go_wp2
        all_goals go_ret
        all_goals exact ⟨by rw [HE.out]; rfl, HBE.out⟩
      have HLEN := hid' hlen
      rw [← hlen] at d1 HK2
      clear hlen hkl2
      have HI0 := hid' (PI.start (u1 := .slice ao1 e.k1.length kcap1) (u2 := .slice ao2 e.k1.length kcap2) HP1.out (Nat.le_refl _))
      clear hP1 HP1 hfew
      go_wp2
      obtain ⟨rb, hrb⟩ : ∃ rb, rb = wr.heap.size := ⟨_, rfl⟩
      rw [← hrb] at HI0 ⊢
      clear hrb
      obtain ⟨wq, rfl⟩ : ∃ wq : World, wq = wr := ⟨_, rfl⟩
      go_loopw [6, 51] (fun v i wx => ∃ S' k, k ≤ e.k1.length ∧ i = .int .i64 (k : Nat) ∧ Hid (PI wB A (e.k1.drop k) (e.k2.drop k) S' v rb (.slice ao1 e.k1.length kcap1) (.slice ao2 e.k1.length kcap2) (wtE S + 2 * szL e.k1) wx)) (fun _ i _ => e.k1.length - (intOf i).toNat)
      case atStart => exact ⟨S, 0, Nat.zero_le _, rfl, HI0.out⟩
      case round =>
        obtain ⟨S', k, hk, rfl, HI⟩ := hrel
        have y0 := HI.out.r0
        have y1 := HI.out.r1
        have yl := HI.out.rlt
        by_cases hlt : k < e.k1.length
        · obtain ⟨m1, b1, off1, x1, kv1, ks1, hm1, rfl, ⟨hbl1, _⟩, hke1, hat1, hK1⟩ := HK1.out.kid k hlt
          obtain ⟨m2, b2, off2, x2, kv2, ks2, hm2, rfl, ⟨hbl2, _⟩, hke2, hat2, hK2⟩ := HK2.out.kid k (by rw [← HLEN.out]; exact hlt)
          have hdr1 : e.k1.drop k = Tr.node x1 ks1 :: e.k1.drop (k + 1) := by rw [List.drop_eq_getElem_cons hlt, hke1]
          have hdr2 : e.k2.drop k = Tr.node x2 ks2 :: e.k2.drop (k + 1) := by rw [List.drop_eq_getElem_cons (show k < e.k2.length by rw [← HLEN.out]; exact hlt), hke2]
          have HI' := HI.out
          rw [hdr1, hdr2] at HI'
          have HI2 := hid' HI'
          have hbw := HI'.pm.bel
          have HAT : Hid (∀ W, Below wr.heap.size wr W → NdAt W b1 (off1 + k * 6) x1 kv1 ∧ NdAt W b2 (off2 + k * 6) x2 kv2 ∧ b1 < W.heap.size ∧ b2 < W.heap.size) := fun W hW => by
            have h := below_on hbw hW
            exact ⟨hat1.below h hbl1, hat2.below h hbl2, Nat.lt_of_lt_of_le hbl1 h.size, Nat.lt_of_lt_of_le hbl2 h.size⟩
          have HAL : Hid (∀ q, Calls Tryd.prog 22 #[.pointer (some ⟨b1, off1 + k * 6, none⟩), .pointer (some ⟨b2, off2 + k * 6, none⟩)] (wr.drewN q) fun e w' => e = .returned (.bool (eqN x1 x2)) ∧ Below wr.heap.size wr w') := fun q => by
            obtain ⟨g1, g2, g3, g4⟩ := HAT.out (wr.drewN q) (below_dr wr q)
            exact (alike22 g1 g3 g2 g4).mono fun e w' hh => ⟨hh.1, below_on (below_dr wr q) hh.2⟩
          have HKs : Hid ((∃ cb n, Ks cb n wB kv1 ks1) ∧ (∃ cb n, Ks cb n wB kv2 ks2)) := ⟨⟨_, _, hK1⟩, ⟨_, _, hK2⟩⟩
          obtain ⟨hl1', ka1, kc1, rfl⟩ := hK1.shape
          obtain ⟨hl2', ka2, kc2, rfl⟩ := hK2.shape
          clear HI HI' hbw hat1 hat2 hK1 hK2 hke1 hke2 hdr1 hdr2
          cases hq : eqN x1 x2 with
          | false =>
            have HE : Hid (A = false) := HI2.out.pm.no hq
            have HBE : Hid (∀ W, Below wr.heap.size wr W → Below w.heap.size w W) := fun W hW => HSB.out _ (HI2.out.pm.next hW).bel
            rw [hq] at HAL
            go_wp2
            go_quiet (fail)
            go_wp2_with (go_at_call 22; refine (HAL.out _).mono ?_; rintro e5 w5 ⟨rfl, hb5⟩; replace hb5 := hid' hb5)
            go_ret
            exact ⟨by rw [HE.out]; rfl, HBE.out _ hb5.out⟩
          | true =>
            rw [hq] at HAL
            have HQ := hid' hq
            have HSl := len_le_wtE S'
            have HSw := HI2.out.wt
            have hfw := HI2.out.pm.few
            have hSl' : S'.length ≤ 1000000 := by omega
            clear hq HSl HSw hfw
            go_wp2
            go_quiet (fail)
            go_wp2_with (go_at_call 22; refine (HAL.out _).mono ?_; rintro e5 w5 ⟨rfl, hb5⟩; obtain ⟨⟨_, _, _, _, z4, _⟩, ⟨_, _, _, _, y4, _⟩, l1, l2⟩ := HAT.out w5 hb5; replace hb5 := hid' hb5)
            have hown := own_below HI2.out.pm.own hb5.out
            have hbs := (HI2.out.pm.next hb5.out).bel.size
            have HY : Hid (((w5.alloc (.cells #[.slice ka1 ks1.length kc1, .slice ka2 ks2.length kc2] 42)).drew).ownsRow wB.heap.size 42 2 u6 S'.length (epC S')) := (World.ownsRow.alloc hown _).drew
            have HBD : Hid (Below wr.heap.size wr ((w5.alloc (.cells #[.slice ka1 ks1.length kc1, .slice ka2 ks2.length kc2] 42)).drew)) := below_on hb5.out ((below1 _ _).drew)
            clear hown
            go_region_law (refine step_app rfl (.tmp 66) (.tmp 76) 43 rfl wB.heap.size 42 i42 (.agg #[.slice none 0 0, .slice none 0 0]) 2 48 Tryd.underlying43 hi42 hz0 hz1 hz2 rfl (by decide) u6 S'.length (epC S') (by simp [Act.eval]) HY.out ⟨w5.heap.size, 0, none⟩ 1 1 [.slice ka1 ks1.length kc1, .slice ka2 ks2.length kc2] (by simp [Act.eval]) rfl (cells2 (by simp [go_sem]) (by simp [go_sem])) (fun u hu => by simp at hu; rcases hu with rfl | rfl <;> rfl) (by unfold maxLen; omega) (by omega) (by simp; omega) ?_; intro v' w6 hown2 hgrow hloc)
            all_goals
              have HN : Hid (PI wB A (e.k1.drop (k + 1)) (e.k2.drop (k + 1)) (S' ++ [⟨.slice ka1 ks1.length kc1, .slice ka2 ks2.length kc2, ks1, ks2⟩]) v' rb (.slice (some ⟨b1, off1, none⟩) e.k1.length kcap1) (.slice (some ⟨b2, off2, none⟩) e.k1.length kcap2) (wtE S + 2 * szL e.k1) w6) := HI2.out.push HQ.out HKs.out.1 HKs.out.2 HBD.out hown2 hgrow hloc
              clear hown2 hgrow hloc
              try go_wp2
              exact ⟨⟨_, k + 1, by omega, by go_num, HN.out⟩, by simp [intOf]; omega⟩
        · have hke : k = e.k1.length := by omega
          have HN : Hid (PM wB A [] [] S' u6 wr ∧ wtE S' ≤ wtE S + 2 * szL e.k1) := by
            have h := HI.out
            have h2 := h.wt
            rw [hke, List.drop_length, HLEN.out, List.drop_length] at h
            rw [hke, List.drop_length, szL_nil] at h2
            exact ⟨h.pm, by omega⟩
          clear hke HI
          have HD : Hid (∀ v W, PM wB A [] [] S' v W → m (v, W) < m (.slice (some ⟨g, 0, none⟩) (S.length + 1) cap, wq)) := fun v W hPM => by
            have hd := (HM.out (v, W) ⟨_, _, hPM, rfl⟩).2 _ ⟨_, hPM, rfl⟩
            have h3 := HWM.out
            have h4 := HN.out.2
            show _ < _
            omega
          go_wp2_with fail
          exact ⟨⟨_, _, HN.out.1, rfl⟩, HD.out _ _ HN.out.1⟩
end Go.Proofs.YtnnnfabpceapcaaDoor

namespace Go.Proofs.YtnnnfabpceapcaaDoor
set_option linter.unusedSimpArgs false
open Go.RowKit
set_option linter.unusedVariables false

section
variable {cb n cb' n' : Nat} {w : World} {x y : NdH} {kv kv' : Value} {ks ls : List Tr}
set_option maxHeartbeats 2000000 in
theorem same11_ne (hK : Ks cb n w kv ks) (hL : Ks cb' n' w kv' ls) (hz : szT (Tr.node x ks) ≤ 262144) (hz' : szT (Tr.node y ls) ≤ 262144) (hne : szT (Tr.node x ks) ≠ szT (Tr.node y ls)) :
    Calls Tryd.prog 11 #[ndV x kv, ndV y kv'] w fun e w' => e = .returned (.bool false) ∧ Below w.heap.size w w' := by
  have H1 : Hid (∀ W, Below w.heap.size w W → Calls Tryd.prog 6 #[ndV x kv] W fun e w' => e = .returned (.int .i64 (szT (Tr.node x ks) : Int)) ∧ Below W.heap.size W w') := fun W hW => by
    have := size6 (x := x) (hK.below hW)
    unfold szR at this
    rw [if_pos hz] at this
    exact this
  have H2 : Hid (∀ W, Below w.heap.size w W → Calls Tryd.prog 6 #[ndV y kv'] W fun e w' => e = .returned (.int .i64 (szT (Tr.node y ls) : Int)) ∧ Below W.heap.size W w') := fun W hW => by
    have := size6 (x := y) (hL.below hW)
    unfold szR at this
    rw [if_pos hz'] at this
    exact this
  have hp := szT_pos (Tr.node x ks)
  generalize szT (Tr.node x ks) = Z at *
  generalize szT (Tr.node y ls) = Z' at *
  unfold ndV at H1 H2 ⊢
  have hzz : ((Z : Int) == 0) = false := by simp; omega
  have hzn : ((Z : Int) == (Z' : Int)) = false := by simp; omega
  clear hK hL
  obtain ⟨W0, hW0⟩ : ∃ W0, W0 = ((w.alloc (.cells #[.int .i64 x.kind, .string x.str, .int .u32 x.num, .bool x.flag, kv, .int .i64 x.pos] 25)).alloc (.cells #[.int .i64 y.kind, .string y.str, .int .u32 y.num, .bool y.flag, kv', .int .i64 y.pos] 25)) := ⟨_, rfl⟩
  have hb0 : Below w.heap.size w W0 := by rw [hW0]; exact (below1 _ _).alloc (by simp) _
  have HBX : Hid (∀ W, Below W0.heap.size W0 W → NdAt W (w.heap.size + 1) 0 y kv' ∧ w.heap.size + 1 < W.heap.size) := fun W h => by
    have hs0 : W0.heap.size = w.heap.size + 1 + 1 := by rw [hW0]; simp
    have nb : NdAt W0 (w.heap.size + 1) 0 y kv' := by rw [hW0]; refine ⟨?_, ?_, ?_, ?_, ?_, ?_⟩ <;> simp [go_sem]
    exact ⟨nb.below h (by omega), by have := h.size; omega⟩
  have HB0 := hid' hb0
  clear hb0
  go_enter Tryd.func11, Tryd.ntmps11
  go_wp2_with (first
    | (go_at_call 6; refine (H2.out w1 (below_on HB0.out hb1.out)).mono ?_; rintro e w2 ⟨rfl, hb2⟩; replace hb2 := hid' hb2)
    | (go_at_call 6; rw [← hW0]; refine (H1.out W0 HB0.out).mono ?_; rintro e w1 ⟨rfl, hb1⟩; obtain ⟨⟨b0, b1, b2, b3, b4, b5⟩, blt⟩ := HBX.out w1 hb1; replace hb1 := hid' hb1))
  all_goals go_ret
  all_goals exact ⟨rfl, below_on HB0.out (below_on hb1.out hb2.out)⟩
theorem same11_any (hK : Ks cb n w kv ks) (hL : Ks cb' n' w kv' ls) (hz : szT (Tr.node x ks) ≤ 262144) (hz' : szT (Tr.node y ls) ≤ 262144) :
    Calls Tryd.prog 11 #[ndV x kv, ndV y kv'] w fun e w' => e = .returned (.bool (sameT (Tr.node x ks) (Tr.node y ls))) ∧ Below w.heap.size w w' := by
  by_cases h : szT (Tr.node x ks) = szT (Tr.node y ls)
  · exact same11 hK hL hz h.symm
  · have : sameT (Tr.node x ks) (Tr.node y ls) = false := by
      cases hq : sameT (Tr.node x ks) (Tr.node y ls) with
      | false => rfl
      | true => exact absurd (same_sz _ _ _ (Nat.le_refl _) (by rw [isT_node]; exact hK.isL) (by rw [isT_node]; exact hL.isL) hq) h
    rw [this]
    exact same11_ne hK hL hz hz' h

set_option maxHeartbeats 4000000 in
theorem same4 (hA : ∀ W, Below w.heap.size w W → Calls Tryd.prog 10 #[] W fun e w' => e = .returned (.bool true) ∧ Below W.heap.size W w') (hK : Ks cb n w kv ks) (hL : Ks cb' n' w kv' ls) :
    Calls Tryd.prog 4 #[ndV x kv, ndV y kv'] w fun e w' => e = .returned (.bool true) ∧ Below w.heap.size w w' := by
  have tK : isT (Tr.node x ks) = true := by rw [isT_node]; exact hK.isL
  have tL : isT (Tr.node y ls) = true := by rw [isT_node]; exact hL.isL
  have h7 : Hid (∀ W, Below w.heap.size w W → Calls Tryd.prog 7 #[ndV x kv] W fun e w' => e = .returned (.int .i64 (szR (Tr.node x ks) : Int)) ∧ Below W.heap.size W w') := fun W hb => size7 (hK.below hb)
  have h7' : Hid (∀ W, Below w.heap.size w W → Calls Tryd.prog 7 #[ndV y kv'] W fun e w' => e = .returned (.int .i64 (szR (Tr.node y ls) : Int)) ∧ Below W.heap.size W w') := fun W hb => size7 (hL.below hb)
  have hsym : sameT (Tr.node y ls) (Tr.node x ks) = sameT (Tr.node x ks) (Tr.node y ls) := by
    rw [Bool.eq_iff_iff]
    exact ⟨same_comm _ _ _ (Nat.le_refl _) tL tK, same_comm _ _ _ (Nat.le_refl _) tK tL⟩
  have hself : sameT (Tr.node x ks) (Tr.node x ks) = true := same_self _ _ (Nat.le_refl _) tK
  have h12 : Hid (∀ W, Below w.heap.size w W → Calls Tryd.prog 12 #[ndV x kv, ndV y kv'] W fun e w' => e = .returned (.bool (sameT (Tr.node x ks) (Tr.node y ls))) ∧ Below W.heap.size W w') := fun W hb => same12 _ _ (hK.below hb) (hL.below hb)
  have h11 : Hid (szT (Tr.node x ks) ≤ 262144 → szT (Tr.node y ls) ≤ 262144 → ∀ W, Below w.heap.size w W → Calls Tryd.prog 11 #[ndV x kv, ndV y kv'] W fun e w' => e = .returned (.bool (sameT (Tr.node x ks) (Tr.node y ls))) ∧ Below W.heap.size W w') := fun z1 z2 W hb => same11_any (hK.below hb) (hL.below hb) z1 z2
  have h11' : Hid (szT (Tr.node x ks) ≤ 262144 → szT (Tr.node y ls) ≤ 262144 → ∀ W, Below w.heap.size w W → Calls Tryd.prog 11 #[ndV y kv', ndV x kv] W fun e w' => e = .returned (.bool (sameT (Tr.node x ks) (Tr.node y ls))) ∧ Below W.heap.size W w') := fun z1 z2 W hb => by
    rw [← hsym]
    exact same11_any (hL.below hb) (hK.below hb) z2 z1
  have h11s : Hid (szT (Tr.node x ks) ≤ 262144 → ∀ W, Below w.heap.size w W → Calls Tryd.prog 11 #[ndV x kv, ndV x kv] W fun e w' => e = .returned (.bool true) ∧ Below W.heap.size W w') := fun z1 W hb => by
    rw [← hself]
    exact same11_any (hK.below hb) (hK.below hb) z1 z1
  have HA := hid' hA
  have p1 := szT_pos (Tr.node x ks)
  have p2 := szT_pos (Tr.node y ls)
  clear hK hL hA hsym hself tK tL
  unfold szR at h7 h7'
  generalize sameT (Tr.node x ks) (Tr.node y ls) = r at *
  generalize szT (Tr.node x ks) = Z at *
  generalize szT (Tr.node y ls) = Z' at *
  unfold ndV at h7 h7' h12 h11 h11' h11s ⊢
  obtain ⟨w0, hw0⟩ : ∃ w0, w0 = (w.alloc (.cells #[.int .i64 x.kind, .string x.str, .int .u32 x.num, .bool x.flag, kv, .int .i64 x.pos] 25)).alloc (.cells #[.int .i64 y.kind, .string y.str, .int .u32 y.num, .bool y.flag, kv', .int .i64 y.pos] 25) := ⟨_, rfl⟩
  have hb0 : Below w.heap.size w w0 := by rw [hw0]; exact (below1 _ _).alloc (by simp) _
  have HBX : Hid (∀ W, Below w0.heap.size w0 W → NdAt W w.heap.size 0 x kv ∧ NdAt W (w.heap.size + 1) 0 y kv' ∧ w.heap.size + 1 < W.heap.size) := fun W h => by
    have hs0 : w0.heap.size = w.heap.size + 1 + 1 := by rw [hw0]; simp
    have na : NdAt w0 w.heap.size 0 x kv := by rw [hw0]; refine ⟨?_, ?_, ?_, ?_, ?_, ?_⟩ <;> simp [go_sem]
    have nb : NdAt w0 (w.heap.size + 1) 0 y kv' := by rw [hw0]; refine ⟨?_, ?_, ?_, ?_, ?_, ?_⟩ <;> simp [go_sem]
    exact ⟨na.below h (by omega), nb.below h (by omega), by have := h.size; omega⟩
  have HB0 := hid' hb0
  by_cases hz : Z ≤ 262144
  rotate_left
  · rw [if_neg hz] at h7
    go_enter Tryd.func4, Tryd.ntmps4
    go_wp2_with (first
      | (go_at_call 10; refine (HA.out w1 (below_on HB0.out hb1.out)).mono ?_; rintro e w2 ⟨rfl, hb2⟩; replace hb2 := hid' hb2)
      | (go_at_call 7; rw [← hw0]; refine (h7.out w0 HB0.out).mono ?_; rintro e w1 ⟨rfl, hb1⟩; replace hb1 := hid' hb1))
    go_ret
    exact ⟨rfl, below_on HB0.out (below_on hb1.out hb2.out)⟩
  rw [if_pos hz] at h7
  have hzz : ((Z : Int) == 0) = false := by simp; omega
  by_cases hz' : Z' ≤ 262144
  rotate_left
  · rw [if_neg hz'] at h7'
    go_enter Tryd.func4, Tryd.ntmps4
    go_wp2_with (first
      | (go_at_call 10; refine (HA.out w2 (below_on HB0.out (below_on hb1.out hb2.out))).mono ?_; rintro e w3 ⟨rfl, hb3⟩; replace hb3 := hid' hb3)
      | (go_at_call 7; refine (h7'.out w1 (below_on HB0.out hb1.out)).mono ?_; rintro e w2 ⟨rfl, hb2⟩; replace hb2 := hid' hb2)
      | (go_at_call 7; rw [← hw0]; refine (h7.out w0 HB0.out).mono ?_; rintro e w1 ⟨rfl, hb1⟩; obtain ⟨⟨a0, a1, a2, a3, a4, a5⟩, ⟨b0, b1, b2, b3, b4, b5⟩, blt⟩ := HBX.out w1 hb1; replace hb1 := hid' hb1))
    go_ret
    exact ⟨rfl, below_on HB0.out (below_on hb1.out (below_on hb2.out hb3.out))⟩
  rw [if_pos hz'] at h7'
  have hzz' : ((Z' : Int) == 0) = false := by simp; omega
  replace h11 := hid' (h11.out hz hz')
  replace h11' := hid' (h11'.out hz hz')
  replace h11s := hid' (h11s.out hz)
  clear hb0
  go_enter Tryd.func4, Tryd.ntmps4
  go_wp2_with (first
    | (go_at_call 7; refine (h7'.out w1 (below_on HB0.out hb1.out)).mono ?_; rintro e w2 ⟨rfl, hb2⟩; replace hb2 := hid' hb2)
    | (go_at_call 7; rw [← hw0]; refine (h7.out w0 HB0.out).mono ?_; rintro e w1 ⟨rfl, hb1⟩; obtain ⟨⟨a0, a1, a2, a3, a4, a5⟩, ⟨b0, b1, b2, b3, b4, b5⟩, blt⟩ := HBX.out w1 hb1; replace hb1 := hid' hb1))
  have hbw : Below w.heap.size w w2 := below_on HB0.out (below_on hb1.out hb2.out)
  have ha : ∀ t : After w2, Below w.heap.size w t.1 := fun t => below_on hbw t.2
  have hx : ∀ t : After w2, NdAt t.1 w.heap.size 0 x kv ∧ NdAt t.1 (w.heap.size + 1) 0 y kv' ∧ w.heap.size + 1 < t.1.heap.size := fun t => HBX.out t.1 (below_on (below_on hb1.out hb2.out) t.2)
  have H12 := fun t : After w2 => Calls.after t (h12.out t.1 (ha t))
  have H11 := fun t : After w2 => Calls.after t (h11.out t.1 (ha t))
  have H11' := fun t : After w2 => Calls.after t (h11'.out t.1 (ha t))
  have H11s := fun t : After w2 => Calls.after t (h11s.out t.1 (ha t))
  have H10 := fun t : After w2 => Calls.after t (HA.out t.1 (ha t))
  have q0 := fun t => (hx t).1.1
  have q1 := fun t => (hx t).1.2.1
  have q2 := fun t => (hx t).1.2.2.1
  have q3 := fun t => (hx t).1.2.2.2.1
  have q4 := fun t => (hx t).1.2.2.2.2.1
  have q5 := fun t => (hx t).1.2.2.2.2.2
  have r0 := fun t => (hx t).2.1.1
  have r1 := fun t => (hx t).2.1.2.1
  have r2 := fun t => (hx t).2.1.2.2.1
  have r3 := fun t => (hx t).2.1.2.2.2.1
  have r4 := fun t => (hx t).2.1.2.2.2.2.1
  have r5 := fun t => (hx t).2.1.2.2.2.2.2
  simp only [Nat.zero_add] at q1 q2 q3 q4 q5 r1 r2 r3 r4 r5
  have HBW := hid' hbw
  clear hx hbw ha h7 h7' h12 h11 h11' h11s HA HBX HB0 hw0
  have hne := after_some w2
  refine region_after 24 mixed (by kernel_rfl) ?_
  simp only [List.take_succ_cons, List.take_zero, List.drop_succ_cons, List.drop_zero]
  repeat quiet_step (first | with_reducible exact H12 _ | with_reducible exact H11 _ | with_reducible exact H11' _ | with_reducible exact H11s _ | with_reducible exact H10 _)
  refine wpQuiet_nil ?_
  intro w5 hb5
  clear H12 H11 H11' H11s H10 q0 q1 q2 q3 q4 q5 r0 r1 r2 r3 r4 r5
  have HB5 := hid' hb5
  clear hb5
  go_wp2
  go_ret
  exact ⟨rfl, below_on HBW.out HB5.out⟩
end
end Go.Proofs.YtnnnfabpceapcaaDoor
