/- The program's Size and Depth. -/
import Derived.Test.YtnnnfabpceapcaaGreatDoorWalk
import Derived.Test.YtnnnfabpceapcaaGreatDoorCount
namespace Go.Proofs.YtnnnfabpceapcaaGreatDoor
open Go.RowKit
set_option linter.unusedVariables false

theorem Ks.fresh {w : World} {cb cb' : Nat} (hb : w.heap.size ≤ cb') : ∀ {n : Nat} {v : Value} {ks : List Tr}, Ks cb n w v ks → Ks cb' n w v ks
  | 0, _, _, h => h
  | n + 1, v, ks, h => by
    rw [Ks] at h ⊢
    obtain ⟨hl, ao, cap, rfl, h⟩ := h
    refine ⟨hl, ao, cap, rfl, fun i hi => ?_⟩
    obtain ⟨b, off, x, kv, ks', e, ⟨hlt, hne⟩, he, hc, hk⟩ := h i hi
    exact ⟨b, off, x, kv, ks', e, ⟨hlt, by omega⟩, he, hc, Ks.fresh hb hk⟩

theorem enter17 (args : Array Value) (W : World) : (callFunc 22 args).run Tryz.prog W = .ok (.enter 22 args) W := by
  simp [go_sem]
def totL : List (List Tr × Nat) → Nat
  | [] => 0
  | r :: L => szL r.1 + totL L
theorem way17 (T : Nat) : Way (fun c _ => c + 1) (fun c L => c + (totL L : Int) = (T : Int)) where
  go c x ks ts d L h := by simp only [totL, szL_cons, szT_node] at h ⊢; omega
  end_ c d L h := by simp only [totL, szL_nil] at h ⊢; omega
  none_ c ts d L h := by simp only [totL, szL_nil] at h ⊢; omega
  low c d m h0 h1 h2 := by omega

/-- How deep a row goes. -/
def cont (r : List Tr × Nat) : Int := if dpL r.1 = 0 then 0 else (r.2 : Int) - 1 + (dpL r.1 : Int)
theorem cont_nil (d : Nat) : cont ([], d) = 0 := by unfold cont; rw [if_pos dpL_nil]
def maxD : List (List Tr × Nat) → Int
  | [] => 0
  | r :: L => max (cont r) (maxD L)
theorem way19 (D : Int) : Way (fun c d => max c (d : Int)) (fun c L => 0 ≤ c ∧ max c (maxD L) = D) where
  go c x ks ts d L h := by
    simp only [maxD, cont, dpL_cons, dpT_node] at h ⊢
    rw [if_neg (by omega)] at h
    split <;> split <;> omega
  end_ c d L h := by
    simp only [maxD] at h ⊢
    rw [cont_nil] at h
    omega
  none_ c ts d L h := by
    simp only [maxD] at h ⊢
    rw [cont_nil] at h
    omega
  low c d m h0 h1 h2 := by omega

set_option maxHeartbeats 2000000 in
theorem size6 {cb n : Nat} {w : World} {x : NdH} {kv : Value} {ks : List Tr} (hK : Ks cb n w kv ks) :
    Calls Tryz.prog 10 #[ndV x kv] w fun e w' => e = .returned (.int .i64 (szR (Tr.node x ks) : Int)) ∧ Below w.heap.size w w' := by
  have hmf : ∀ (fn : Fn) (first cap : Array Value) (w : World), (Instr.makeFunc fn first cap).run Tryz.prog w = .ok (.func fn first cap) w := fun _ _ _ _ => rfl
  obtain ⟨w2, hw2⟩ : ∃ w2, w2 = (w.alloc (.cells #[.int .i64 x.kind, .string x.str, .int .u32 x.num, .bool x.flag, kv, .int .i64 x.pos] 25)).alloc (.cells #[.int .i64 0] 3) := ⟨_, rfl⟩
  have hb2 : Below w.heap.size w w2 := by rw [hw2]; exact (below1 _ _).alloc (by simp) _
  have hs2 : w2.heap.size = w.heap.size + 1 + 1 := by rw [hw2]; simp
  have hW := walk16 (w := w2) (cb := w.heap.size + 1) (n := n) (g := 22) (x := x) (kv := kv) (ks := ks) (way17 (1 + szL ks)) (by omega) (by rw [hw2]; simp [go_sem]) (by rw [hw2]; simp [go_sem]) ((hK.fresh (cb' := w.heap.size + 1) (by omega)).below hb2) (by simp only [totL, szL_cons, szL_nil, szT_node]; omega) enter17 (fun W p d c h1 h2 h3 h4 h5 h6 => see17 h1 h2 h3 h4 h5)
  have HB2 : Hid (∀ w3, Kept (fun b => b = w.heap.size + 1) w2 w3 → Below w.heap.size w w3) := fun w3 k => ⟨k.os.trans hb2.os, k.tape.trans hb2.tape, k.output.trans hb2.output, Nat.le_trans hb2.size k.size, fun j hj => (k.block j (by omega) (by omega)).trans (hb2.block j hj)⟩
  clear hK hb2
  unfold szR
  rw [szT_node]
  have hd := hid' hW
  unfold ndV at hd ⊢
  clear hW
  by_cases hle : 1 + szL ks ≤ 262144
  · rw [if_pos hle]
    rw [decide_eq_true hle] at hd
    have HLE := hid' hle
    clear hle
    go_enter Tryz.func10, Tryz.ntmps10
    go_wp2_with (go_at_call 11; rw [← hw2]; clear hw2; (with_reducible refine hd.out.mono ?_); rintro e w3 ⟨c, rfl, hc, hI, hk⟩; have HI := hid' (hI HLE.out); have HK3 := hid' (HB2.out w3 hk); clear hI hk)
    go_ret
    have h := HI.out
    simp only [totL] at h
    exact ⟨by rw [show ((1 + szL ks : Nat) : Int) = c by omega]; rfl, HK3.out⟩
  · rw [if_neg hle]
    rw [decide_eq_false hle] at hd
    clear hle
    go_enter Tryz.func10, Tryz.ntmps10
    go_wp2_with (go_at_call 11; rw [← hw2]; clear hw2; (with_reducible refine hd.out.mono ?_); rintro e w3 ⟨c, rfl, hc, hI, hk⟩; have HK3 := hid' (HB2.out w3 hk); clear hI hk)
    go_ret
    exact ⟨rfl, HK3.out⟩

theorem depth_start (x : NdH) (ks : List Tr) : (0 : Int) ≤ 0 ∧ max 0 (maxD [([Tr.node x ks], 1)]) = ((1 + dpL ks : Nat) : Int) := by
  refine ⟨Int.le_refl _, ?_⟩
  simp only [maxD, cont, dpL_cons, dpL_nil, dpT_node]
  rw [if_neg (by omega)]
  omega

end Go.Proofs.YtnnnfabpceapcaaGreatDoor
