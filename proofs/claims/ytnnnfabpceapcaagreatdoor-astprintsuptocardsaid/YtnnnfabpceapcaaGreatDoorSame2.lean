/- Are trees alike? Plain, and by the document. -/
import Derived.Test.YtnnnfabpceapcaaGreatDoorSame1
import Derived.Test.YtnnnfabpceapcaaGreatDoorTextSt
import Derived.Test.YtnnnfabpceapcaaGreatDoorSizes
import Derived.Test.YtnnnfabpceapcaaGreatDoorQuiet
import Derived.Test.YtnnnfabpceapcaaGreatDoorMay4
namespace Go.Proofs.YtnnnfabpceapcaaGreatDoor
open Go.RowKit
set_option linter.unusedVariables false

def all2 : List (Tr → Bool) → List Tr → Bool
  | [], [] => true
  | f :: fs, t :: ts => f t && all2 fs ts
  | _, _ => false
/-- Are two trees alike, but for places? -/
def sameT : Tr → Tr → Bool
  | .slice ks [.held x] => fun u => eqN x (hdT u) && all2 (ks.map sameT) (ksT u)
  | _ => fun _ => true
def sameL (a b : List Tr) : Bool := all2 (a.map sameT) b
theorem sameT_node (x y : NdH) (ks ls : List Tr) : sameT (Tr.node x ks) (Tr.node y ls) = (eqN x y && sameL ks ls) := by
  unfold Tr.node
  rw [sameT]
  rfl
theorem sameL_nil : sameL [] [] = true := rfl
theorem sameL_cons (t u : Tr) (r s : List Tr) : sameL (t :: r) (u :: s) = (sameT t u && sameL r s) := rfl
theorem sameL_len : ∀ (a b : List Tr), a.length ≠ b.length → sameL a b = false
  | [], [], h => absurd rfl h
  | [], _ :: _, _ => rfl
  | _ :: _, [], _ => rfl
  | t :: r, u :: s, h => by
    rw [sameL_cons, sameL_len r s (fun e => h (by simp [e])), Bool.and_false]

/-- How the trees in memory are: a tree is a node. -/
theorem Ks.node {cb n : Nat} {w : World} {v : Value} {ks : List Tr} (h : Ks cb n w v ks) (i : Nat) (hi : i < ks.length) : ∃ x ls, ks[i] = Tr.node x ls := by
  obtain ⟨_, ao, cap, rfl⟩ := h.shape
  obtain ⟨_, _, _, x, _, ls, _, _, _, e, _⟩ := h.kid i hi
  exact ⟨x, ls, e⟩

/-- Trees all the way down. -/
def isT : Tr → Bool
  | .slice ks [.held x] => (ks.map isT).all id
  | _ => false
def isL (ks : List Tr) : Bool := (ks.map isT).all id
theorem isT_node (x : NdH) (ks : List Tr) : isT (Tr.node x ks) = isL ks := by unfold Tr.node; rw [isT]; rfl
theorem isL_cons (t : Tr) (r : List Tr) : isL (t :: r) = (isT t && isL r) := rfl
theorem Ks.isL {cb : Nat} {w : World} : ∀ {n : Nat} {v : Value} {ks : List Tr}, Ks cb n w v ks → isL ks = true
  | 0, _, _, h => by
    obtain ⟨rfl, _⟩ := h
    rfl
  | n + 1, v, ks, h => by
    obtain ⟨_, ao, cap, rfl⟩ := h.shape
    unfold YtnnnfabpceapcaaGreatDoor.isL
    rw [List.all_eq_true]
    intro q hq
    obtain ⟨t, ht, rfl⟩ := List.mem_map.1 hq
    obtain ⟨i, hi, rfl⟩ := List.getElem_of_mem ht
    rw [Ks] at h
    obtain ⟨_, _, _, e0, h⟩ := h
    obtain ⟨b, off, x, kv, ks', _, _, ⟨e, _⟩, _, hk⟩ := h i hi
    rw [e]
    show isT (Tr.node x ks') = true
    rw [isT_node]
    exact Ks.isL hk

theorem mixedS : Tryz.prog.follows .mixedOrders = true := by kernel_rfl
theorem two_boxes {w : World} {a0 a1 a2 a3 a4 a5 b0 b1 b2 b3 b4 b5 : Value} {W : World} (h : Below ((w.alloc (.cells #[a0, a1, a2, a3, a4, a5] 25)).alloc (.cells #[b0, b1, b2, b3, b4, b5] 25)).heap.size ((w.alloc (.cells #[a0, a1, a2, a3, a4, a5] 25)).alloc (.cells #[b0, b1, b2, b3, b4, b5] 25)) W) :
    W.cell? ⟨w.heap.size, 4, none⟩ = some a4 ∧ W.cell? ⟨w.heap.size + 1, 4, none⟩ = some b4 ∧ w.heap.size + 1 < W.heap.size := by
  refine ⟨?_, ?_, ?_⟩
  · rw [h.cell (p := ⟨w.heap.size, 4, none⟩) (by simp; omega)]
    simp [go_sem]
  · rw [h.cell (p := ⟨w.heap.size + 1, 4, none⟩) (by simp)]
    simp [go_sem]
  · have := h.size
    simp at this
    omega

end Go.Proofs.YtnnnfabpceapcaaGreatDoor
