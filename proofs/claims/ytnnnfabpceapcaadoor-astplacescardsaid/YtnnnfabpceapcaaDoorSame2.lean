/- Are trees alike? Plain, and by the document. -/
import Derived.Test.YtnnnfabpceapcaaDoorSame1
import Derived.Test.YtnnnfabpceapcaaDoorTextSt
import Derived.Test.YtnnnfabpceapcaaDoorSizes
import Derived.Test.YtnnnfabpceapcaaDoorQuiet
import Derived.Test.YtnnnfabpceapcaaDoorMay4
namespace Go.Proofs.YtnnnfabpceapcaaDoor
open Go.RowKit
set_option linter.unusedVariables false

def all2 : List (Tr → Bool) → List Tr → Bool
  | [], [] => true
  | f :: fs, t :: ts => f t && all2 fs ts
  | _, _ => false
/-- Are two trees alike, but for places? -/
def sameT : Tr → Tr → Bool
  | .slice ks [.held x] => fun u => eqN x (hdT u) && all2 (ks.map sameT) (ksT u)
  | _ => fun _ => true
def sameL (a b : List Tr) : Bool := all2 (a.map sameT) b
theorem sameT_node (x y : NdH) (ks ls : List Tr) : sameT (Tr.node x ks) (Tr.node y ls) = (eqN x y && sameL ks ls) := by
  unfold Tr.node
  rw [sameT]
  rfl
theorem sameL_nil : sameL [] [] = true := rfl
theorem sameL_cons (t u : Tr) (r s : List Tr) : sameL (t :: r) (u :: s) = (sameT t u && sameL r s) := rfl
theorem sameL_len : ∀ (a b : List Tr), a.length ≠ b.length → sameL a b = false
  | [], [], h => absurd rfl h
  | [], _ :: _, _ => rfl
  | _ :: _, [], _ => rfl
  | t :: r, u :: s, h => by
    rw [sameL_cons, sameL_len r s (fun e => h (by simp [e])), Bool.and_false]

/-- How the trees in memory are: a tree is a node. -/
theorem Ks.node {cb n : Nat} {w : World} {v : Value} {ks : List Tr} (h : Ks cb n w v ks) (i : Nat) (hi : i < ks.length) : ∃ x ls, ks[i] = Tr.node x ls := by
  obtain ⟨_, ao, cap, rfl⟩ := h.shape
  obtain ⟨_, _, _, x, _, ls, _, _, _, e, _⟩ := h.kid i hi
  exact ⟨x, ls, e⟩

/-- Trees all the way down. -/
def isT : Tr → Bool
  | .slice ks [.held x] => (ks.map isT).all id
  | _ => false
def isL (ks : List Tr) : Bool := (ks.map isT).all id
theorem isT_node (x : NdH) (ks : List Tr) : isT (Tr.node x ks) = isL ks := by unfold Tr.node; rw [isT]; rfl
theorem isL_cons (t : Tr) (r : List Tr) : isL (t :: r) = (isT t && isL r) := rfl
theorem Ks.isL {cb : Nat} {w : World} : ∀ {n : Nat} {v : Value} {ks : List Tr}, Ks cb n w v ks → isL ks = true
  | 0, _, _, h => by
    obtain ⟨rfl, _⟩ := h
    rfl
  | n + 1, v, ks, h => by
    obtain ⟨_, ao, cap, rfl⟩ := h.shape
    unfold YtnnnfabpceapcaaDoor.isL
    rw [List.all_eq_true]
    intro q hq
    obtain ⟨t, ht, rfl⟩ := List.mem_map.1 hq
    obtain ⟨i, hi, rfl⟩ := List.getElem_of_mem ht
    rw [Ks] at h
    obtain ⟨_, _, _, e0, h⟩ := h
    obtain ⟨b, off, x, kv, ks', _, _, ⟨e, _⟩, _, hk⟩ := h i hi
    rw [e]
    show isT (Tr.node x ks') = true
    rw [isT_node]
    exact Ks.isL hk

theorem mixedS : Tryd.prog.follows .mixedOrders = true := by kernel_rfl
theorem two_boxes {w : World} {a0 a1 a2 a3 a4 a5 b0 b1 b2 b3 b4 b5 : Value} {W : World} (h : Below ((w.alloc (.cells #[a0, a1, a2, a3, a4, a5] 25)).alloc (.cells #[b0, b1, b2, b3, b4, b5] 25)).heap.size ((w.alloc (.cells #[a0, a1, a2, a3, a4, a5] 25)).alloc (.cells #[b0, b1, b2, b3, b4, b5] 25)) W) :
    W.cell? ⟨w.heap.size, 4, none⟩ = some a4 ∧ W.cell? ⟨w.heap.size + 1, 4, none⟩ = some b4 ∧ w.heap.size + 1 < W.heap.size := by
  refine ⟨?_, ?_, ?_⟩
  · rw [h.cell (p := ⟨w.heap.size, 4, none⟩) (by simp; omega)]
    simp [go_sem]
  · rw [h.cell (p := ⟨w.heap.size + 1, 4, none⟩) (by simp)]
    simp [go_sem]
  · have := h.size
    simp at this
    omega

set_option maxRecDepth 20000 in
set_option maxHeartbeats 8000000 in
theorem same12 {cb cb' : Nat} : ∀ (n n' : Nat) {w : World} {x y : NdH} {kv kv' : Value} {ks ls : List Tr}, Ks cb n w kv ks → Ks cb' n' w kv' ls →
    Calls Tryd.prog 12 #[ndV x kv, ndV y kv'] w fun e w' => e = .returned (.bool (sameT (Tr.node x ks) (Tr.node y ls))) ∧ Below w.heap.size w w' := fun n => by
  induction n using Nat.strongRecOn with
  | ind n ih =>
  intro n' w x y kv kv' ks ls hK hL
  obtain ⟨hkl, ao, cap, rfl⟩ := hK.shape
  obtain ⟨hll, al, capl, rfl⟩ := hL.shape
  rw [sameT_node]
  have HK := hid' hK
  have HL := hid' hL
  have IH := hid' ih
  clear hK hL ih
  unfold ndV eqN
  obtain ⟨k, s, m, f, p⟩ := x
  obtain ⟨k', s', m', f', p'⟩ := y
  simp only
  have HB0 : Hid (Below w.heap.size w ((w.alloc (.cells #[.int .i64 k, .string s, .int .u32 m, .bool f, .slice ao ks.length cap, .int .i64 p] 25)).alloc (.cells #[.int .i64 k', .string s', .int .u32 m', .bool f', .slice al ls.length capl, .int .i64 p'] 25))) := (below1 _ _).alloc (by simp) _
  by_cases hk : k = k'
  rotate_left
  · have hk' : (k == k') = false := by simpa using hk
    rw [decide_eq_false hk, Bool.false_and, Bool.false_and]
    go_enter Tryd.func12, Tryd.ntmps12
    go_wp2
    all_goals go_ret
    all_goals exact ⟨rfl, HB0.out⟩
  subst hk
  rw [decide_eq_true rfl, Bool.true_and]
  cases hs : s.toList == s'.toList with
  | false =>
    rw [Bool.false_and, Bool.false_and]
    go_enter Tryd.func12, Tryd.ntmps12
    go_wp2
    all_goals go_ret
    all_goals exact ⟨rfl, HB0.out⟩
  | true =>
  rw [Bool.true_and]
  by_cases hm : m = m'
  rotate_left
  · have hm' : (m == m') = false := by simpa using hm
    rw [decide_eq_false hm, Bool.false_and, Bool.false_and]
    go_enter Tryd.func12, Tryd.ntmps12
    go_wp2
    all_goals go_ret
    all_goals exact ⟨rfl, HB0.out⟩
  subst hm
  rw [decide_eq_true rfl, Bool.true_and]
  cases hf : f == f' with
  | false =>
    rw [Bool.false_and]
    go_enter Tryd.func12, Tryd.ntmps12
    go_wp2
    all_goals go_ret
    all_goals exact ⟨rfl, HB0.out⟩
  | true =>
  rw [Bool.true_and]
  by_cases hlen : ks.length = ls.length
  rotate_left
  · rw [sameL_len ks ls hlen]
    go_enter Tryd.func12, Tryd.ntmps12
    go_wp2
    all_goals go_ret
    all_goals exact ⟨rfl, HB0.out⟩
  rw [← hlen] at HL HB0 ⊢
  have HLEN := hid' hlen
  clear hlen hll
  obtain ⟨X, hX⟩ : ∃ X, X = sameL ks ls := ⟨_, rfl⟩
  rw [← hX]
  replace hX := hid' hX
  obtain ⟨W0, hW0⟩ : ∃ W0, W0 = ((w.alloc (.cells #[.int .i64 k, .string s, .int .u32 m, .bool f, .slice ao ks.length cap, .int .i64 p] 25)).alloc (.cells #[.int .i64 k, .string s', .int .u32 m, .bool f', .slice al ks.length capl, .int .i64 p'] 25)) := ⟨_, rfl⟩
  have HBX : Hid (∀ W, Below W0.heap.size W0 W → W.cell? ⟨w.heap.size, 4, none⟩ = some (.slice ao ks.length cap) ∧ W.cell? ⟨w.heap.size + 1, 4, none⟩ = some (.slice al ks.length capl) ∧ w.heap.size + 1 < W.heap.size) := fun W h => by
    rw [hW0] at h
    exact two_boxes h
  rw [← hW0] at HB0
  go_enter Tryd.func12, Tryd.ntmps12
  go_wp2
  rw [← hW0]
  clear hW0
  go_loopw [5] (fun i W => ∃ j : Nat, j ≤ ks.length ∧ i = .int .i64 j ∧ Hid (X = sameL (ks.drop j) (ls.drop j)) ∧ Hid (Below W0.heap.size W0 W)) (fun i _ => ks.length - (intOf i).toNat)
  case atStart => exact ⟨0, Nat.zero_le _, rfl, hX, Below.refl _ _⟩
  case round =>
    obtain ⟨j, hj, rfl, HX, HB⟩ := hrel
    obtain ⟨e4, g4, el⟩ := HBX.out wr HB.out
    by_cases hlt : j < ks.length
    · obtain ⟨m1, b1, off1, x1, kv1, ks1, hm1, rfl, ⟨hbl1, _⟩, hke1, hat1, hK1⟩ := HK.out.kid j hlt
      obtain ⟨m2, b2, off2, x2, kv2, ks2, hm2, rfl, ⟨hbl2, _⟩, hke2, hat2, hK2⟩ := HL.out.kid j (by rw [← HLEN.out]; exact hlt)
      have hd : Hid (X = (sameT (Tr.node x1 ks1) (Tr.node x2 ks2) && sameL (ks.drop (j + 1)) (ls.drop (j + 1)))) := by
        show _ = _
        rw [HX.out, List.drop_eq_getElem_cons hlt, List.drop_eq_getElem_cons (show j < ls.length by rw [← HLEN.out]; exact hlt), hke1, hke2, sameL_cons]
      have hbw : Below w.heap.size w wr := below_on HB0.out HB.out
      have ha : ∀ t : After wr, Below w.heap.size w t.1 := fun t => below_on hbw t.2
      have H12 := fun t : After wr => Calls.after t (IH.out m1 hm1 m2 (x := x1) (y := x2) (hK1.below (ha t)) (hK2.below (ha t)))
      unfold ndV at H12
      have y4 : ∀ t : After wr, t.1.cell? ⟨w.heap.size, 4, none⟩ = some (.slice (some ⟨b1, off1, none⟩) ks.length cap) := fun t => (HBX.out t.1 (below_on HB.out t.2)).1
      have z4 : ∀ t : After wr, t.1.cell? ⟨w.heap.size + 1, 4, none⟩ = some (.slice (some ⟨b2, off2, none⟩) ks.length capl) := fun t => (HBX.out t.1 (below_on HB.out t.2)).2.1
      have n1 : ∀ t : After wr, NdAt t.1 b1 (off1 + j * 6) x1 kv1 := fun t => hat1.below (ha t) hbl1
      have n2 : ∀ t : After wr, NdAt t.1 b2 (off2 + j * 6) x2 kv2 := fun t => hat2.below (ha t) hbl2
      have q0 := fun t => (n1 t).1
      have q1 := fun t => (n1 t).2.1
      have q2 := fun t => (n1 t).2.2.1
      have q3 := fun t => (n1 t).2.2.2.1
      have q4 := fun t => (n1 t).2.2.2.2.1
      have q5 := fun t => (n1 t).2.2.2.2.2
      have r0 := fun t => (n2 t).1
      have r1 := fun t => (n2 t).2.1
      have r2 := fun t => (n2 t).2.2.1
      have r3 := fun t => (n2 t).2.2.2.1
      have r4 := fun t => (n2 t).2.2.2.2.1
      have r5 := fun t => (n2 t).2.2.2.2.2
      have HBW := hid' hbw
      clear n1 n2 hat1 hat2 hK1 hK2 hke1 hke2 HX hbw ha
      go_wp2
      have hne := after_some wr
      refine region_after 11 mixedS (by kernel_rfl) ?_
      simp only [List.take_succ_cons, List.take_zero, List.drop_succ_cons, List.drop_zero]
      repeat quiet_step (first | with_reducible exact H12 _)
      refine wpQuiet_nil ?_
      intro w5 hb5
      clear H12 y4 z4 q0 q1 q2 q3 q4 q5 r0 r1 r2 r3 r4 r5
      have HB5 := hid' hb5
      clear hb5
      cases hq : sameT (Tr.node x1 ks1) (Tr.node x2 ks2) with
      | true =>
        rw [hq] at hd
        go_wp2
        exact ⟨⟨j + 1, by omega, by go_num, hd.out, below_on HB.out HB5.out⟩, by simp [intOf]; omega⟩
      | false =>
        rw [hq] at hd
        go_wp2
        go_ret
        exact ⟨by rw [hd.out]; rfl, below_on HBW.out HB5.out⟩
    · have e : j = ks.length := by omega
      have HE : Hid (X = true) := by
        show _ = _
        rw [HX.out, e, List.drop_length, HLEN.out, List.drop_length]
        rfl
      clear e
      go_wp2
      go_ret
      exact ⟨by rw [HE.out]; rfl, below_on HB0.out HB.out⟩
end Go.Proofs.YtnnnfabpceapcaaDoor
