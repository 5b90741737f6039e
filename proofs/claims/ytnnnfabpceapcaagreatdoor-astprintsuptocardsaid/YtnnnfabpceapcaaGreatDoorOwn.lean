/- The law's own tree. -/
import Derived.Test.YtnnnfabpceapcaaGreatDoorTree
import Derived.Deep.QuietTactic
import Derived.BigQuiet
namespace Go.Proofs.YtnnnfabpceapcaaGreatDoor
open Go.RowKit
set_option linter.unusedVariables false

def noS : ByteArray := ⟨#[]⟩
def ndNum : NdH := ⟨1, ⟨#[]⟩, 1, false, 0⟩
def ndVar : NdH := ⟨43, ⟨#[120]⟩, 0, false, 0⟩
def ndTyp : NdH := ⟨16, ⟨#[105, 110, 116]⟩, 0, false, 0⟩
def ndVars : NdH := ⟨42, ⟨#[]⟩, 0, false, 0⟩
def ndProg : NdH := ⟨40, ⟨#[]⟩, 0, false, 0⟩
def ownT : List Tr := [Tr.node ndVars [Tr.node ndTyp [], Tr.node ndVar [Tr.node ndNum []]]]

theorem Ks.nil_ {cb n : Nat} {w : World} : Ks cb n w (.slice none 0 0) [] := by
  cases n with
  | zero => exact ⟨rfl, _, _, rfl⟩
  | succ n => rw [Ks]; exact ⟨by simp, _, _, rfl, fun i hi => by simp at hi⟩
theorem Ks.one {cb n b : Nat} {w : World} {x : NdH} {kv : Value} {ks : List Tr} (hb : b < w.heap.size) (hne : b ≠ cb) (h : NdAt w b 0 x kv) (hk : Ks cb n w kv ks) : Ks cb (n + 1) w (.slice (some ⟨b, 0, none⟩) 1 1) [Tr.node x ks] := by
  rw [Ks]
  refine ⟨by simp, _, _, rfl, fun i hi => ?_⟩
  have : i = 0 := by simp at hi; omega
  subst this
  exact ⟨b, 0, x, kv, ks, rfl, ⟨hb, hne⟩, ⟨rfl, by simp⟩, h, hk⟩
theorem Ks.two {cb n b : Nat} {w : World} {x x' : NdH} {kv kv' : Value} {ks ks' : List Tr} (hb : b < w.heap.size) (hne : b ≠ cb) (h : NdAt w b 0 x kv) (hk : Ks cb n w kv ks) (h' : NdAt w b 6 x' kv') (hk' : Ks cb n w kv' ks') : Ks cb (n + 1) w (.slice (some ⟨b, 0, none⟩) 2 2) [Tr.node x ks, Tr.node x' ks'] := by
  rw [Ks]
  refine ⟨by simp, _, _, rfl, fun i hi => ?_⟩
  have hi' : i = 0 ∨ i = 1 := by simp at hi; omega
  rcases hi' with rfl | rfl
  · exact ⟨b, 0, x, kv, ks, rfl, ⟨hb, hne⟩, ⟨rfl, by simp⟩, h, hk⟩
  · exact ⟨b, 0, x', kv', ks', rfl, ⟨hb, hne⟩, ⟨rfl, by simp⟩, h', hk'⟩

set_option maxRecDepth 20000 in
set_option maxHeartbeats 2000000 in
theorem own21 (w : World) : Calls Tryz.prog 19 #[] w fun e w' => e = .returned (ndV ndProg (.slice (some ⟨w.heap.size + 1 + 1 + 1 + 1, 0, none⟩) 1 1)) ∧ Below w.heap.size w w' ∧ ∀ cb, cb < w.heap.size ∨ w'.heap.size ≤ cb → Ks cb 3 w' (.slice (some ⟨w.heap.size + 1 + 1 + 1 + 1, 0, none⟩) 1 1) ownT := by
  go_enter Tryz.func19, Tryz.ntmps19
  go_wp2
  refine bodyPost_ret (v := ndV ndProg (.slice (some ⟨w.heap.size + 1 + 1 + 1 + 1, 0, none⟩) 1 1)) (by simp [results, Tryz.results19, go_sem, ndV, ndProg]) rfl ⟨rfl, (((((Below.refl _ _).alloc (Nat.le_refl _) _).alloc (by simp) _).alloc (by simp <;> omega) _).alloc (by simp <;> omega) _).alloc (by simp <;> omega) _, fun cb hcb => ?_⟩
  simp at hcb
  refine Ks.one (by simp) (by omega) ?_ (Ks.two (b := w.heap.size + 1 + 1 + 1) (kv := .slice none 0 0) (kv' := .slice (some ⟨w.heap.size + 1, 0, none⟩) 1 1) (by simp) (by omega) ?_ Ks.nil_ ?_ (Ks.one (kv := .slice none 0 0) (by simp <;> omega) (by omega) ?_ Ks.nil_))
  all_goals
    refine ⟨?_, ?_, ?_, ?_, ?_, ?_⟩ <;> simp [go_sem, ndVars, ndTyp, ndVar, ndNum]
end Go.Proofs.YtnnnfabpceapcaaGreatDoor
