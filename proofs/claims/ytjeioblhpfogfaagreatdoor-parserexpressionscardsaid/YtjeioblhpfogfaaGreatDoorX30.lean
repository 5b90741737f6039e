/- The document's reader: types, operators. -/
import Derived.Test.YtjeioblhpfogfaaGreatDoorX12
import Derived.Test.YtjeioblhpfogfaaGreatDoorX25
import Derived.Test.YtjeioblhpfogfaaGreatDoorX29
set_option linter.unusedVariables false
set_option linter.unusedSimpArgs false
set_option maxRecDepth 20000
set_option maxHeartbeats 8000000
namespace Go.Proofs.YtjeioblhpfogfaaGreatDoor
open Go.RowKit

theorem mark_b {w : World} {p k : Nat} {toks : List Tk} {tv : Value} {b : Bool} {q : Int} (s : ByteArray) (d : Bool) (hW : TokW toks) (hs : lowB s = false) (h0 : ¬ s = ⟨#[]⟩) (hd : decide (signAt toks k = s) = d) (h : RS w p toks tv k b q) :
    Calls Tryz.prog 42 #[.pointer (some ⟨p, 0, none⟩), .string s] w fun e w' => e = .returned (.bool d) ∧ Below w.heap.size w w' := by
  rw [← hd]
  exact mark_is s hW hs h0 h
theorem word_b {w : World} {p k : Nat} {toks : List Tk} {tv : Value} {b : Bool} {q : Int} (s : ByteArray) (d : Bool) (hW : TokW toks) (hs : lowB s = true) (hd : decide (signAt toks k = s) = d) (h : RS w p toks tv k b q) :
    Calls Tryz.prog 125 #[.pointer (some ⟨p, 0, none⟩), .string s] w fun e w' => e = .returned (.bool d) ∧ Below w.heap.size w w' := by
  rw [← hd]
  exact word_is s hW hs h
theorem dec_no {a c : ByteArray} (h : ¬ a = c) : decide (a = c) = false := by simp [h]
theorem dec_yes {a c : ByteArray} (h : a = c) : decide (a = c) = true := by simp [h]
theorem types79_0 {w : World} {p k : Nat} {toks : List Tk} {tv : Value} {b : Bool} {q : Int} (hW : TokW toks) (t0 : decide (signAt toks k = ⟨#[105, 110, 116]⟩) = true) (h : RS w p toks tv k b q) :
    Calls Tryz.prog 79 #[.pointer (some ⟨p, 0, none⟩)] w fun e w' => e = .returned (.bool true) ∧ Below w.heap.size w w' := by
  have h0 := hid' h
  clear h
  go_enter Tryz.func79, Tryz.ntmps79
  go_wp2_with (first
    | (go_at_call 125; (with_reducible refine (word_b ⟨#[105, 110, 116]⟩ _ hW rfl t0 h0.out).mono ?_); rintro e w1 ⟨rfl, hb⟩; have H1 := hid' (h0.out.below hb); have b1 := hid' (below_on (Below.refl w.heap.size w) hb); clear hb))
  go_ret
  exact ⟨rfl, b1.out⟩
theorem types79_1 {w : World} {p k : Nat} {toks : List Tk} {tv : Value} {b : Bool} {q : Int} (hW : TokW toks) (t0 : decide (signAt toks k = ⟨#[105, 110, 116]⟩) = false) (t1 : decide (signAt toks k = ⟨#[117, 105, 110, 116]⟩) = true) (h : RS w p toks tv k b q) :
    Calls Tryz.prog 79 #[.pointer (some ⟨p, 0, none⟩)] w fun e w' => e = .returned (.bool true) ∧ Below w.heap.size w w' := by
  have h0 := hid' h
  clear h
  go_enter Tryz.func79, Tryz.ntmps79
  go_wp2_with (first
    | (go_at_call 125; (with_reducible refine (word_b ⟨#[117, 105, 110, 116]⟩ _ hW rfl t1 H1.out).mono ?_); rintro e w2 ⟨rfl, hb⟩; have H2 := hid' (H1.out.below hb); have b2 := hid' (below_on b1.out hb); clear hb)
    | (go_at_call 125; (with_reducible refine (word_b ⟨#[105, 110, 116]⟩ _ hW rfl t0 h0.out).mono ?_); rintro e w1 ⟨rfl, hb⟩; have H1 := hid' (h0.out.below hb); have b1 := hid' (below_on (Below.refl w.heap.size w) hb); clear hb))
  go_ret
  exact ⟨rfl, b2.out⟩
theorem types79_2 {w : World} {p k : Nat} {toks : List Tk} {tv : Value} {b : Bool} {q : Int} (hW : TokW toks) (t0 : decide (signAt toks k = ⟨#[105, 110, 116]⟩) = false) (t1 : decide (signAt toks k = ⟨#[117, 105, 110, 116]⟩) = false) (t2 : decide (signAt toks k = ⟨#[99, 104, 97, 114]⟩) = true) (h : RS w p toks tv k b q) :
    Calls Tryz.prog 79 #[.pointer (some ⟨p, 0, none⟩)] w fun e w' => e = .returned (.bool true) ∧ Below w.heap.size w w' := by
  have h0 := hid' h
  clear h
  go_enter Tryz.func79, Tryz.ntmps79
  go_wp2_with (first
    | (go_at_call 125; (with_reducible refine (word_b ⟨#[99, 104, 97, 114]⟩ _ hW rfl t2 H2.out).mono ?_); rintro e w3 ⟨rfl, hb⟩; have H3 := hid' (H2.out.below hb); have b3 := hid' (below_on b2.out hb); clear hb)
    | (go_at_call 125; (with_reducible refine (word_b ⟨#[117, 105, 110, 116]⟩ _ hW rfl t1 H1.out).mono ?_); rintro e w2 ⟨rfl, hb⟩; have H2 := hid' (H1.out.below hb); have b2 := hid' (below_on b1.out hb); clear hb)
    | (go_at_call 125; (with_reducible refine (word_b ⟨#[105, 110, 116]⟩ _ hW rfl t0 h0.out).mono ?_); rintro e w1 ⟨rfl, hb⟩; have H1 := hid' (h0.out.below hb); have b1 := hid' (below_on (Below.refl w.heap.size w) hb); clear hb))
  go_ret
  exact ⟨rfl, b3.out⟩
theorem types79_3 {w : World} {p k : Nat} {toks : List Tk} {tv : Value} {b : Bool} {q : Int} (hW : TokW toks) (t0 : decide (signAt toks k = ⟨#[105, 110, 116]⟩) = false) (t1 : decide (signAt toks k = ⟨#[117, 105, 110, 116]⟩) = false) (t2 : decide (signAt toks k = ⟨#[99, 104, 97, 114]⟩) = false) (t3 : decide (signAt toks k = ⟨#[118, 111, 105, 100]⟩) = true) (h : RS w p toks tv k b q) :
    Calls Tryz.prog 79 #[.pointer (some ⟨p, 0, none⟩)] w fun e w' => e = .returned (.bool true) ∧ Below w.heap.size w w' := by
  have h0 := hid' h
  clear h
  go_enter Tryz.func79, Tryz.ntmps79
  go_wp2_with (first
    | (go_at_call 125; (with_reducible refine (word_b ⟨#[118, 111, 105, 100]⟩ _ hW rfl t3 H3.out).mono ?_); rintro e w4 ⟨rfl, hb⟩; have H4 := hid' (H3.out.below hb); have b4 := hid' (below_on b3.out hb); clear hb)
    | (go_at_call 125; (with_reducible refine (word_b ⟨#[99, 104, 97, 114]⟩ _ hW rfl t2 H2.out).mono ?_); rintro e w3 ⟨rfl, hb⟩; have H3 := hid' (H2.out.below hb); have b3 := hid' (below_on b2.out hb); clear hb)
    | (go_at_call 125; (with_reducible refine (word_b ⟨#[117, 105, 110, 116]⟩ _ hW rfl t1 H1.out).mono ?_); rintro e w2 ⟨rfl, hb⟩; have H2 := hid' (H1.out.below hb); have b2 := hid' (below_on b1.out hb); clear hb)
    | (go_at_call 125; (with_reducible refine (word_b ⟨#[105, 110, 116]⟩ _ hW rfl t0 h0.out).mono ?_); rintro e w1 ⟨rfl, hb⟩; have H1 := hid' (h0.out.below hb); have b1 := hid' (below_on (Below.refl w.heap.size w) hb); clear hb))
  go_ret
  exact ⟨rfl, b4.out⟩
theorem types79_4 {w : World} {p k : Nat} {toks : List Tk} {tv : Value} {b : Bool} {q : Int} (hW : TokW toks) (t0 : decide (signAt toks k = ⟨#[105, 110, 116]⟩) = false) (t1 : decide (signAt toks k = ⟨#[117, 105, 110, 116]⟩) = false) (t2 : decide (signAt toks k = ⟨#[99, 104, 97, 114]⟩) = false) (t3 : decide (signAt toks k = ⟨#[118, 111, 105, 100]⟩) = false) (t4 : decide (signAt toks k = ⟨#[115, 116, 114, 117, 99, 116]⟩) = true) (h : RS w p toks tv k b q) :
    Calls Tryz.prog 79 #[.pointer (some ⟨p, 0, none⟩)] w fun e w' => e = .returned (.bool true) ∧ Below w.heap.size w w' := by
  have h0 := hid' h
  clear h
  go_enter Tryz.func79, Tryz.ntmps79
  go_wp2_with (first
    | (go_at_call 125; (with_reducible refine (word_b ⟨#[115, 116, 114, 117, 99, 116]⟩ _ hW rfl t4 H4.out).mono ?_); rintro e w5 ⟨rfl, hb⟩; have H5 := hid' (H4.out.below hb); have b5 := hid' (below_on b4.out hb); clear hb)
    | (go_at_call 125; (with_reducible refine (word_b ⟨#[118, 111, 105, 100]⟩ _ hW rfl t3 H3.out).mono ?_); rintro e w4 ⟨rfl, hb⟩; have H4 := hid' (H3.out.below hb); have b4 := hid' (below_on b3.out hb); clear hb)
    | (go_at_call 125; (with_reducible refine (word_b ⟨#[99, 104, 97, 114]⟩ _ hW rfl t2 H2.out).mono ?_); rintro e w3 ⟨rfl, hb⟩; have H3 := hid' (H2.out.below hb); have b3 := hid' (below_on b2.out hb); clear hb)
    | (go_at_call 125; (with_reducible refine (word_b ⟨#[117, 105, 110, 116]⟩ _ hW rfl t1 H1.out).mono ?_); rintro e w2 ⟨rfl, hb⟩; have H2 := hid' (H1.out.below hb); have b2 := hid' (below_on b1.out hb); clear hb)
    | (go_at_call 125; (with_reducible refine (word_b ⟨#[105, 110, 116]⟩ _ hW rfl t0 h0.out).mono ?_); rintro e w1 ⟨rfl, hb⟩; have H1 := hid' (h0.out.below hb); have b1 := hid' (below_on (Below.refl w.heap.size w) hb); clear hb))
  go_ret
  exact ⟨rfl, b5.out⟩
theorem types79_5 {w : World} {p k : Nat} {toks : List Tk} {tv : Value} {b : Bool} {q : Int} (hW : TokW toks) (t0 : decide (signAt toks k = ⟨#[105, 110, 116]⟩) = false) (t1 : decide (signAt toks k = ⟨#[117, 105, 110, 116]⟩) = false) (t2 : decide (signAt toks k = ⟨#[99, 104, 97, 114]⟩) = false) (t3 : decide (signAt toks k = ⟨#[118, 111, 105, 100]⟩) = false) (t4 : decide (signAt toks k = ⟨#[115, 116, 114, 117, 99, 116]⟩) = false) (h : RS w p toks tv k b q) :
    Calls Tryz.prog 79 #[.pointer (some ⟨p, 0, none⟩)] w fun e w' => e = .returned (.bool false) ∧ Below w.heap.size w w' := by
  have h0 := hid' h
  clear h
  go_enter Tryz.func79, Tryz.ntmps79
  go_wp2_with (first
    | (go_at_call 125; (with_reducible refine (word_b ⟨#[115, 116, 114, 117, 99, 116]⟩ _ hW rfl t4 H4.out).mono ?_); rintro e w5 ⟨rfl, hb⟩; have H5 := hid' (H4.out.below hb); have b5 := hid' (below_on b4.out hb); clear hb)
    | (go_at_call 125; (with_reducible refine (word_b ⟨#[118, 111, 105, 100]⟩ _ hW rfl t3 H3.out).mono ?_); rintro e w4 ⟨rfl, hb⟩; have H4 := hid' (H3.out.below hb); have b4 := hid' (below_on b3.out hb); clear hb)
    | (go_at_call 125; (with_reducible refine (word_b ⟨#[99, 104, 97, 114]⟩ _ hW rfl t2 H2.out).mono ?_); rintro e w3 ⟨rfl, hb⟩; have H3 := hid' (H2.out.below hb); have b3 := hid' (below_on b2.out hb); clear hb)
    | (go_at_call 125; (with_reducible refine (word_b ⟨#[117, 105, 110, 116]⟩ _ hW rfl t1 H1.out).mono ?_); rintro e w2 ⟨rfl, hb⟩; have H2 := hid' (H1.out.below hb); have b2 := hid' (below_on b1.out hb); clear hb)
    | (go_at_call 125; (with_reducible refine (word_b ⟨#[105, 110, 116]⟩ _ hW rfl t0 h0.out).mono ?_); rintro e w1 ⟨rfl, hb⟩; have H1 := hid' (h0.out.below hb); have b1 := hid' (below_on (Below.refl w.heap.size w) hb); clear hb))
  go_ret
  exact ⟨rfl, b5.out⟩
theorem types79 {w : World} {p k : Nat} {toks : List Tk} {tv : Value} {b : Bool} {q : Int} (hW : TokW toks) (h : RS w p toks tv k b q) :
    Calls Tryz.prog 79 #[.pointer (some ⟨p, 0, none⟩)] w fun e w' => e = .returned (.bool (tyWord (signAt toks k))) ∧ Below w.heap.size w w' := by
  by_cases a0 : signAt toks k = ⟨#[105, 110, 116]⟩
  · rw [show tyWord (signAt toks k) = true by rw [a0]; simp [tyWord, toList_data]]
    exact types79_0 hW  (dec_yes a0) h
  by_cases a1 : signAt toks k = ⟨#[117, 105, 110, 116]⟩
  · rw [show tyWord (signAt toks k) = true by rw [a1]; simp [tyWord, toList_data]]
    exact types79_1 hW (dec_no a0) (dec_yes a1) h
  by_cases a2 : signAt toks k = ⟨#[99, 104, 97, 114]⟩
  · rw [show tyWord (signAt toks k) = true by rw [a2]; simp [tyWord, toList_data]]
    exact types79_2 hW (dec_no a0) (dec_no a1) (dec_yes a2) h
  by_cases a3 : signAt toks k = ⟨#[118, 111, 105, 100]⟩
  · rw [show tyWord (signAt toks k) = true by rw [a3]; simp [tyWord, toList_data]]
    exact types79_3 hW (dec_no a0) (dec_no a1) (dec_no a2) (dec_yes a3) h
  by_cases a4 : signAt toks k = ⟨#[115, 116, 114, 117, 99, 116]⟩
  · rw [show tyWord (signAt toks k) = true by rw [a4]; simp [tyWord, toList_data]]
    exact types79_4 hW (dec_no a0) (dec_no a1) (dec_no a2) (dec_no a3) (dec_yes a4) h
  rw [show tyWord (signAt toks k) = false by unfold tyWord; rw [toList_ne' a0, toList_ne' a1, toList_ne' a2, toList_ne' a3, toList_ne' a4]; rfl]
  exact types79_5 hW (dec_no a0) (dec_no a1) (dec_no a2) (dec_no a3) (dec_no a4) h
/-- What typed comes to. -/
def typK (toks : List Tk) (k : Nat) : Nat := if tyWord (signAt toks k) = true then (if signAt toks k = ⟨#[115, 116, 114, 117, 99, 116]⟩ then namK toks (k + 1) else k + 1) else k
def typB (toks : List Tk) (k : Nat) (b : Bool) : Bool := if tyWord (signAt toks k) = true then (if signAt toks k = ⟨#[115, 116, 114, 117, 99, 116]⟩ then namB toks (k + 1) b else b) else true
def typQ (toks : List Tk) (k : Nat) (b : Bool) (q : Int) : Int := if tyWord (signAt toks k) = true then (if signAt toks k = ⟨#[115, 116, 114, 117, 99, 116]⟩ then namQ toks (k + 1) b q else q) else noQ toks k b q
def typT (toks : List Tk) (k : Nat) : ByteArray := if tyWord (signAt toks k) = true then (if signAt toks k = ⟨#[115, 116, 114, 117, 99, 116]⟩ then structW (namT toks (k + 1)) else signAt toks k) else ⟨#[]⟩
theorem At.typ {toks : List Tk} {b0 b : Bool} {q0 q : Int} {g0 : Pg} {k : Nat} {f : ByteArray → Nat → Pg} (h : At toks b0 q0 g0 b q (typ toks k f)) : At toks b0 q0 g0 (typB toks k b) (typQ toks k b q) (f (typT toks k) (typK toks k)) := by
  unfold typK typB typQ typT
  unfold Go.Proofs.YtjeioblhpfogfaaGreatDoor.typ at h
  by_cases hc : tyWord (signAt toks k) = true
  · rw [if_pos hc] at h
    rw [if_pos hc, if_pos hc, if_pos hc, if_pos hc]
    by_cases hs : signAt toks k = ⟨#[115, 116, 114, 117, 99, 116]⟩
    · rw [if_pos hs] at h
      rw [if_pos hs, if_pos hs, if_pos hs, if_pos hs]
      exact h.nam
    · rw [if_neg hs] at h
      rw [if_neg hs, if_neg hs, if_neg hs, if_neg hs]
      exact h
  · rw [if_neg hc] at h
    rw [if_neg hc, if_neg hc, if_neg hc, if_neg hc]
    exact h.no
theorem ty_word {toks : List Tk} {k : Nat} (h : k < toks.length) (hc : tyWord (signAt toks k) = true) : signAt toks k = (tk toks k).text := by
  rw [sign_of h] at hc ⊢
  split at hc
  · rename_i h1
    rw [if_pos h1]
  · simp [tyWord, toList_data] at hc
end Go.Proofs.YtjeioblhpfogfaaGreatDoor
namespace Go.Proofs.YtjeioblhpfogfaaGreatDoor
open Go.RowKit

theorem RS.lt {w : World} {p k : Nat} {toks : List Tk} {tv : Value} {b : Bool} {q : Int} (h : RS w p toks tv k b q) : p < w.heap.size := lt_of_heap h.head
theorem Bx.lt {w : World} {bx : Nat} {x : NdH} {kv : Value} (h : Bx w bx x kv) : bx < w.heap.size := lt_of_heap h
theorem Bx.ne {w : World} {p k bx : Nat} {x : NdH} {kv : Value} {toks : List Tk} {tv : Value} {b : Bool} {q : Int} (h : Bx w bx x kv) (hr : RS w p toks tv k b q) : ¬ p = bx := fun e' => by
  subst e'
  have h0 := hr.head
  unfold Bx at h
  rw [h] at h0
  cases h0
/-- A box's cell is another one. -/
theorem RS.setB {w : World} {p k bx : Nat} {x : NdH} {kv : Value} {toks : List Tk} {tv : Value} {b : Bool} {q : Int} (hr : RS w p toks tv k b q) (h : Bx w bx x kv) (o : Nat) (v : Value) : RS (w.setCell ⟨bx, o, none⟩ v) p toks tv k b q := by
  have hh := setCell_heap (o := o) h v
  refine ⟨?_, ?_, hr.at_, hr.few⟩
  · rw [hh p, if_neg (h.ne hr)]
    exact hr.head
  · have ho := hr.tok
    refine ⟨ho.1, ho.2.imp id fun ⟨g, cap, cur, a1, a2, a3, a4⟩ => ⟨g, cap, cur, a1, a2, ?_, a4⟩⟩
    rw [hh g, if_neg (fun e' => by subst e'; unfold Bx at h; rw [h] at a3; cases a3)]
    exact a3
theorem Kp.setB {p bx : Nat} {W w : World} (h : Kp p W w) (hl : W.heap.size ≤ bx) (o : Nat) (v : Value) : Kp p W (w.setCell ⟨bx, o, none⟩ v) := Kept.setC h (fun hb => absurd hb (by omega)) v
theorem Bx.off {w : World} {bx c : Nat} {x : NdH} {kv : Value} (h : Bx w bx x kv) (hne : ¬ bx = c) (o : Nat) (v : Value) : Bx (w.setCell ⟨c, o, none⟩ v) bx x kv := (Below.heap_setCell _ _ _ _ hne).trans h
theorem Bx.s0 {w : World} {bx : Nat} {x : NdH} {kv : Value} (h : Bx w bx x kv) (v : Int) : Bx (w.setCell ⟨bx, 0, none⟩ (.int .i64 v)) bx { x with kind := v } kv := by
  unfold Bx
  rw [setCell_heap h _ bx, if_pos rfl]
  rfl
theorem Bx.s1 {w : World} {bx : Nat} {x : NdH} {kv : Value} (h : Bx w bx x kv) (v : ByteArray) : Bx (w.setCell ⟨bx, 1, none⟩ (.string v)) bx { x with str := v } kv := by
  unfold Bx
  rw [setCell_heap h _ bx, if_pos rfl]
  rfl
theorem Bx.s2 {w : World} {bx : Nat} {x : NdH} {kv : Value} (h : Bx w bx x kv) (v : Int) : Bx (w.setCell ⟨bx, 2, none⟩ (.int .u32 v)) bx { x with num := v } kv := by
  unfold Bx
  rw [setCell_heap h _ bx, if_pos rfl]
  rfl
theorem Bx.s3 {w : World} {bx : Nat} {x : NdH} {kv : Value} (h : Bx w bx x kv) (v : Bool) : Bx (w.setCell ⟨bx, 3, none⟩ (.bool v)) bx { x with flag := v } kv := by
  unfold Bx
  rw [setCell_heap h _ bx, if_pos rfl]
  rfl
theorem Bx.s4 {w : World} {bx : Nat} {x : NdH} {kv : Value} (h : Bx w bx x kv) (v : Value) : Bx (w.setCell ⟨bx, 4, none⟩ v) bx x v := by
  unfold Bx
  rw [setCell_heap h _ bx, if_pos rfl]
  rfl
/-- A slice is trees, no deeper than a number, in rows that a set lacks. -/
def Kx (S : Nat → Prop) : Nat → World → Value → List Tr → Prop
  | 0, _, v, ks => ks = [] ∧ ∃ ao cap, v = .slice ao 0 cap
  | n + 1, w, v, ks => ks.length ≤ 9223372036854775807 ∧ ∃ ao cap, v = .slice ao ks.length cap ∧ ∀ i (h : i < ks.length), ∃ b off x kv ks', ao = some ⟨b, off, none⟩ ∧ (b < w.heap.size ∧ ¬ S b) ∧ (ks[i] = Tr.node x ks' ∧ ks.length ≤ cap) ∧ NdAt w b (off + i * 6) x kv ∧ Kx S n w kv ks'
theorem Kx.kept {S : Nat → Prop} {w w' : World} (hb : Kept S w w') : ∀ {n : Nat} {v : Value} {ks : List Tr}, Kx S n w v ks → Kx S n w' v ks
  | 0, _, _, h => h
  | n + 1, v, ks, h => by
    rw [Kx] at h ⊢
    obtain ⟨hl, ao, cap, rfl, h⟩ := h
    refine ⟨hl, ao, cap, rfl, fun i hi => ?_⟩
    obtain ⟨b, off, x, kv, ks', e, ⟨hlt, hne⟩, he, hc, hk⟩ := h i hi
    exact ⟨b, off, x, kv, ks', e, ⟨Nat.lt_of_lt_of_le hlt hb.size, hne⟩, he, hc.kept hb hlt hne, Kx.kept hb hk⟩
theorem Kx.less {S S' : Nat → Prop} {w : World} (hs : ∀ b, b < w.heap.size → S' b → S b) : ∀ {n : Nat} {v : Value} {ks : List Tr}, Kx S n w v ks → Kx S' n w v ks
  | 0, _, _, h => h
  | n + 1, v, ks, h => by
    rw [Kx] at h ⊢
    obtain ⟨hl, ao, cap, rfl, h⟩ := h
    refine ⟨hl, ao, cap, rfl, fun i hi => ?_⟩
    obtain ⟨b, off, x, kv, ks', e, ⟨hlt, hne⟩, he, hc, hk⟩ := h i hi
    exact ⟨b, off, x, kv, ks', e, ⟨hlt, fun h' => hne (hs b hlt h')⟩, he, hc, Kx.less hs hk⟩
theorem Kx.shape {S : Nat → Prop} {w : World} : ∀ {n : Nat} {v : Value} {ks : List Tr}, Kx S n w v ks → ks.length ≤ 9223372036854775807 ∧ ∃ ao cap, v = .slice ao ks.length cap
  | 0, _, _, h => by
    obtain ⟨rfl, ao, cap, rfl⟩ := h
    exact ⟨by simp, ao, cap, rfl⟩
  | n + 1, v, ks, h => by
    rw [Kx] at h
    obtain ⟨hl, ao, cap, rfl, h⟩ := h
    exact ⟨hl, ao, cap, rfl⟩
theorem Kx.up {S : Nat → Prop} {w : World} : ∀ {n : Nat} {v : Value} {ks : List Tr}, Kx S n w v ks → Kx S (n + 1) w v ks
  | 0, v, ks, h => by
    obtain ⟨rfl, ao, cap, rfl⟩ := h
    rw [Kx]
    exact ⟨by simp, ao, cap, rfl, fun i hi => by simp at hi⟩
  | n + 1, v, ks, h => by
    rw [Kx] at h ⊢
    obtain ⟨hl, ao, cap, rfl, h⟩ := h
    refine ⟨hl, ao, cap, rfl, fun i hi => ?_⟩
    obtain ⟨b, off, x, kv, ks', e, hlt, he, hc, hk⟩ := h i hi
    exact ⟨b, off, x, kv, ks', e, hlt, he, hc, hk.up⟩
theorem Kx.more {S : Nat → Prop} {w : World} {n m : Nat} {v : Value} {ks : List Tr} (h : Kx S n w v ks) (hm : n ≤ m) : Kx S m w v ks := by
  obtain ⟨d, rfl⟩ : ∃ d, m = n + d := ⟨m - n, by omega⟩
  clear hm
  induction d with
  | zero => exact h
  | succ d ih => exact ih.up
/-- Trees in rows from a block on. -/
def Kf (B : Nat) (w : World) (v : Value) (ks : List Tr) : Prop := ∃ n, Kx (fun b => b < B) n w v ks
theorem Kf.kept {B : Nat} {w w' : World} {v : Value} {ks : List Tr} (h : Kf B w v ks) (hb : Kept (fun b => b < B) w w') : Kf B w' v ks := by
  obtain ⟨n, h⟩ := h
  exact ⟨n, h.kept hb⟩
theorem Kf.below {B : Nat} {w w' : World} {v : Value} {ks : List Tr} (h : Kf B w v ks) (hb : Below w.heap.size w w') : Kf B w' v ks := h.kept (Kept.of_below hb)
theorem Kf.alloc {B : Nat} {w : World} {v : Value} {ks : List Tr} (h : Kf B w v ks) (o : Obj) : Kf B (w.alloc o) v ks := h.below (below1 w o)
theorem Kf.drew {B : Nat} {w : World} {v : Value} {ks : List Tr} (h : Kf B w v ks) : Kf B w.drew v ks := h.below ((Below.refl _ _).drew)
theorem Kf.kp {p B : Nat} {w w' : World} {v : Value} {ks : List Tr} (h : Kf B w v ks) (hp : p < B) (hk : Kp p w w') : Kf B w' v ks := h.kept ⟨hk.os, hk.tape, hk.output, hk.size, fun k hl hn => hk.block k hl (fun e => hn (by show k < B; rw [show k = p from e]; exact hp))⟩
theorem Kf.setB {B bx : Nat} {w : World} {v : Value} {ks : List Tr} (h : Kf B w v ks) (hb : bx < B) (o : Nat) (u : Value) : Kf B (w.setCell ⟨bx, o, none⟩ u) v ks := h.kept ((Kept.rfl (fun b => b < B) w).setC (b := bx) (o := o) (fun _ => hb) u)
theorem Kf.less {B B' : Nat} {w : World} {v : Value} {ks : List Tr} (h : Kf B w v ks) (hb : B' ≤ B) : Kf B' w v ks := by
  obtain ⟨n, h⟩ := h
  exact ⟨n, h.less fun b _ (hb' : b < B') => (show b < B by omega)⟩
theorem Kf.nil (B : Nat) (w : World) : Kf B w (.slice none 0 0) [] := ⟨0, rfl, none, 0, rfl⟩
theorem Kf.shape {B : Nat} {w : World} {v : Value} {ks : List Tr} (h : Kf B w v ks) : ∃ ao m cap, v = .slice ao m cap := by
  obtain ⟨n, h⟩ := h
  obtain ⟨_, ao, cap, e⟩ := h.shape
  exact ⟨ao, _, cap, e⟩
theorem ndAt_row {w : World} {b j : Nat} {cs : Array Value} {T : TypeId} {x : NdH} {kv : Value} (h : w.heap[b]? = some (.cells cs T (0, 0))) (hc : ∀ i, i < 6 → cs[j + i]? = [Value.int .i64 x.kind, .string x.str, .int .u32 x.num, .bool x.flag, kv, .int .i64 x.pos][i]?) : NdAt w b j x kv := by
  have e : ∀ i, i < 6 → w.cell? ⟨b, j + i, none⟩ = [Value.int .i64 x.kind, .string x.str, .int .u32 x.num, .bool x.flag, kv, .int .i64 x.pos][i]? := fun i hi => by
    rw [cell_of_row w b _ _ _ _ h]
    exact hc i hi
  exact ⟨e 0 (by omega), e 1 (by omega), e 2 (by omega), e 3 (by omega), e 4 (by omega), e 5 (by omega)⟩
def ndC (x : NdH) (kv : Value) : List Value := [.int .i64 x.kind, .string x.str, .int .u32 x.num, .bool x.flag, kv, .int .i64 x.pos]
theorem Kf.one {B : Nat} {w : World} {x : NdH} {kv : Value} {ks : List Tr} (h : Kf B w kv ks) (hB : B ≤ w.heap.size) : Kf B (w.alloc (.cells #[.int .i64 x.kind, .string x.str, .int .u32 x.num, .bool x.flag, kv, .int .i64 x.pos] 25)) (.slice (some ⟨w.heap.size, 0, none⟩) 1 1) [Tr.node x ks] := by
  obtain ⟨n, h⟩ := h.alloc (.cells #[.int .i64 x.kind, .string x.str, .int .u32 x.num, .bool x.flag, kv, .int .i64 x.pos] 25)
  refine ⟨n + 1, ?_⟩
  rw [Kx]
  refine ⟨by simp, _, _, rfl, fun i hi => ?_⟩
  obtain rfl : i = 0 := by simpa using hi
  refine ⟨_, 0, x, kv, ks, rfl, ⟨by simp, by omega⟩, ⟨rfl, by simp⟩, ndAt_row (heap_alloc_new w _) fun i hi => ?_, h⟩
  have h6 : i = 0 ∨ i = 1 ∨ i = 2 ∨ i = 3 ∨ i = 4 ∨ i = 5 := by omega
  rcases h6 with rfl | rfl | rfl | rfl | rfl | rfl <;> rfl
theorem Kf.two {B : Nat} {w : World} {x y : NdH} {kv lv : Value} {ks ls : List Tr} (h : Kf B w kv ks) (h' : Kf B w lv ls) (hB : B ≤ w.heap.size) : Kf B (w.alloc (.cells #[.int .i64 x.kind, .string x.str, .int .u32 x.num, .bool x.flag, kv, .int .i64 x.pos, .int .i64 y.kind, .string y.str, .int .u32 y.num, .bool y.flag, lv, .int .i64 y.pos] 25)) (.slice (some ⟨w.heap.size, 0, none⟩) 2 2) [Tr.node x ks, Tr.node y ls] := by
  obtain ⟨n, h⟩ := h.alloc (.cells #[.int .i64 x.kind, .string x.str, .int .u32 x.num, .bool x.flag, kv, .int .i64 x.pos, .int .i64 y.kind, .string y.str, .int .u32 y.num, .bool y.flag, lv, .int .i64 y.pos] 25)
  obtain ⟨m, h'⟩ := h'.alloc (.cells #[.int .i64 x.kind, .string x.str, .int .u32 x.num, .bool x.flag, kv, .int .i64 x.pos, .int .i64 y.kind, .string y.str, .int .u32 y.num, .bool y.flag, lv, .int .i64 y.pos] 25)
  refine ⟨max n m + 1, ?_⟩
  rw [Kx]
  refine ⟨by simp, _, _, rfl, fun i hi => ?_⟩
  have hi2 : i = 0 ∨ i = 1 := by simp at hi; omega
  rcases hi2 with rfl | rfl
  · refine ⟨_, 0, x, kv, ks, rfl, ⟨by simp, by omega⟩, ⟨rfl, by simp⟩, ndAt_row (heap_alloc_new w _) fun i hi => ?_, h.more (by omega)⟩
    have h6 : i = 0 ∨ i = 1 ∨ i = 2 ∨ i = 3 ∨ i = 4 ∨ i = 5 := by omega
    rcases h6 with rfl | rfl | rfl | rfl | rfl | rfl <;> rfl
  · refine ⟨_, 0, y, lv, ls, rfl, ⟨by simp, by omega⟩, ⟨rfl, by simp⟩, ndAt_row (heap_alloc_new w _) fun i hi => ?_, h'.more (by omega)⟩
    have h6 : i = 0 ∨ i = 1 ∨ i = 2 ∨ i = 3 ∨ i = 4 ∨ i = 5 := by omega
    rcases h6 with rfl | rfl | rfl | rfl | rfl | rfl <;> rfl
theorem Kf.three {B : Nat} {w : World} {x y z : NdH} {kv lv mv : Value} {ks ls ms : List Tr} (h : Kf B w kv ks) (h' : Kf B w lv ls) (h'' : Kf B w mv ms) (hB : B ≤ w.heap.size) : Kf B (w.alloc (.cells #[.int .i64 x.kind, .string x.str, .int .u32 x.num, .bool x.flag, kv, .int .i64 x.pos, .int .i64 y.kind, .string y.str, .int .u32 y.num, .bool y.flag, lv, .int .i64 y.pos, .int .i64 z.kind, .string z.str, .int .u32 z.num, .bool z.flag, mv, .int .i64 z.pos] 25)) (.slice (some ⟨w.heap.size, 0, none⟩) 3 3) [Tr.node x ks, Tr.node y ls, Tr.node z ms] := by
  obtain ⟨o, ho⟩ : ∃ o, o = Obj.cells #[.int .i64 x.kind, .string x.str, .int .u32 x.num, .bool x.flag, kv, .int .i64 x.pos, .int .i64 y.kind, .string y.str, .int .u32 y.num, .bool y.flag, lv, .int .i64 y.pos, .int .i64 z.kind, .string z.str, .int .u32 z.num, .bool z.flag, mv, .int .i64 z.pos] 25 (0, 0) := ⟨_, rfl⟩
  obtain ⟨n, h⟩ := h.alloc o
  obtain ⟨m, h'⟩ := h'.alloc o
  obtain ⟨l, h''⟩ := h''.alloc o
  have hh := heap_alloc_new w o
  rw [ho] at hh h h' h''
  refine ⟨max n (max m l) + 1, ?_⟩
  rw [Kx]
  refine ⟨by simp, _, _, rfl, fun i hi => ?_⟩
  have hi2 : i = 0 ∨ i = 1 ∨ i = 2 := by simp at hi; omega
  rcases hi2 with rfl | rfl | rfl
  · refine ⟨_, 0, x, kv, ks, rfl, ⟨by simp, by omega⟩, ⟨rfl, by simp⟩, ndAt_row hh fun i hi => ?_, h.more (by omega)⟩
    have h6 : i = 0 ∨ i = 1 ∨ i = 2 ∨ i = 3 ∨ i = 4 ∨ i = 5 := by omega
    rcases h6 with rfl | rfl | rfl | rfl | rfl | rfl <;> rfl
  · refine ⟨_, 0, y, lv, ls, rfl, ⟨by simp, by omega⟩, ⟨rfl, by simp⟩, ndAt_row hh fun i hi => ?_, h'.more (by omega)⟩
    have h6 : i = 0 ∨ i = 1 ∨ i = 2 ∨ i = 3 ∨ i = 4 ∨ i = 5 := by omega
    rcases h6 with rfl | rfl | rfl | rfl | rfl | rfl <;> rfl
  · refine ⟨_, 0, z, mv, ms, rfl, ⟨by simp, by omega⟩, ⟨rfl, by simp⟩, ndAt_row hh fun i hi => ?_, h''.more (by omega)⟩
    have h6 : i = 0 ∨ i = 1 ∨ i = 2 ∨ i = 3 ∨ i = 4 ∨ i = 5 := by omega
    rcases h6 with rfl | rfl | rfl | rfl | rfl | rfl <;> rfl
/-- The result's box, written. -/
theorem RS.set6 {w : World} {p k bx : Nat} {x : NdH} {kv : Value} {toks : List Tk} {tv : Value} {b : Bool} {q : Int} (hr : RS w p toks tv k b q) (h : Bx w bx x kv) (y : NdH) (lv : Value) : RS ((((((w.setCell ⟨bx, 0, none⟩ (.int .i64 y.kind)).setCell ⟨bx, 1, none⟩ (.string y.str)).setCell ⟨bx, 2, none⟩ (.int .u32 y.num)).setCell ⟨bx, 3, none⟩ (.bool y.flag)).setCell ⟨bx, 4, none⟩ lv).setCell ⟨bx, 5, none⟩ (.int .i64 y.pos)) p toks tv k b q :=
  (((((hr.setB h 0 _).setB (h.s0 _) 1 _).setB ((h.s0 _).s1 _) 2 _).setB (((h.s0 _).s1 _).s2 _) 3 _).setB ((((h.s0 _).s1 _).s2 _).s3 _) 4 _).setB (((((h.s0 _).s1 _).s2 _).s3 _).s4 _) 5 _
theorem Kp.set6 {p bx : Nat} {W w : World} (h : Kp p W w) (hl : W.heap.size ≤ bx) (y : NdH) (lv : Value) : Kp p W ((((((w.setCell ⟨bx, 0, none⟩ (.int .i64 y.kind)).setCell ⟨bx, 1, none⟩ (.string y.str)).setCell ⟨bx, 2, none⟩ (.int .u32 y.num)).setCell ⟨bx, 3, none⟩ (.bool y.flag)).setCell ⟨bx, 4, none⟩ lv).setCell ⟨bx, 5, none⟩ (.int .i64 y.pos)) :=
  (((((h.setB hl _ _).setB hl _ _).setB hl _ _).setB hl _ _).setB hl _ _).setB hl _ _
theorem Kf.set6 {B bx : Nat} {w : World} {v : Value} {ks : List Tr} (h : Kf B w v ks) (hl : bx < B) (y : NdH) (lv : Value) : Kf B ((((((w.setCell ⟨bx, 0, none⟩ (.int .i64 y.kind)).setCell ⟨bx, 1, none⟩ (.string y.str)).setCell ⟨bx, 2, none⟩ (.int .u32 y.num)).setCell ⟨bx, 3, none⟩ (.bool y.flag)).setCell ⟨bx, 4, none⟩ lv).setCell ⟨bx, 5, none⟩ (.int .i64 y.pos)) v ks :=
  (((((h.setB hl _ _).setB hl _ _).setB hl _ _).setB hl _ _).setB hl _ _).setB hl _ _
theorem At.start {toks : List Tk} {b : Bool} {q : Int} {g0 g : Pg} (e : g0 = g) : At toks b q g0 b q g := e ▸ At.rfl
/-- What a function of the document's parser that tells a node leaves. -/
def RP (p : Nat) (toks : List Tk) (tv : Value) (c : Pc) (k : Nat) (b : Bool) (q : Int) (W : World) (e : Ending) (w' : World) : Prop := ∃ kd st nu fl ao m cap ps ks k' b' q', e = .returned (.agg #[.int .i64 kd, .string st, .int .u32 nu, .bool fl, .slice ao m cap, .int .i64 ps]) ∧ Kp p W w' ∧ RS w' p toks tv k' b' q' ∧ Kf W.heap.size w' (.slice ao m cap) ks ∧ OutD toks c k b q k' b' q' [Tr.node ⟨kd, st, nu, fl, ps⟩ ks]
/-- What a function of the document's parser that tells a list leaves. -/
def RL (p : Nat) (toks : List Tk) (tv : Value) (en : ByteArray) (k : Nat) (b : Bool) (q : Int) (W : World) (e : Ending) (w' : World) : Prop := ∃ ao m cap ks k' b' q', e = .returned (.slice ao m cap) ∧ Kp p W w' ∧ RS w' p toks tv k' b' q' ∧ Kf W.heap.size w' (.slice ao m cap) ks ∧ k ≤ k' ∧ ∀ b0 q0 g0 f, At toks b0 q0 g0 b q (if signAt toks k = en then f [] (k + 1) else .call (.items en []) k f) → At toks b0 q0 g0 b' q' (f ks k')
/-- What chosen leaves. -/
def RH (p B0 : Nat) (toks : List Tk) (tv : Value) (c : Pc) (k : Nat) (b : Bool) (q : Int) (W : World) (e : Ending) (w' : World) : Prop := ∃ kd st nu fl ao m cap ps ks k' b' q', e = .returned (.agg #[.int .i64 kd, .string st, .int .u32 nu, .bool fl, .slice ao m cap, .int .i64 ps]) ∧ Kp p W w' ∧ RS w' p toks tv k' b' q' ∧ Kf B0 w' (.slice ao m cap) ks ∧ OutD toks c k b q k' b' q' [Tr.node ⟨kd, st, nu, fl, ps⟩ ks]
/-- What is known of calls that have less to read. -/
structure EH (N p : Nat) (toks : List Tk) (tv : Value) : Prop where
  ex : ∀ {w : World} {k : Nat} {b : Bool} {q : Int}, (toks.length - k) * 8 + 6 < N → RS w p toks tv k b q → Calls Tryz.prog 25 #[.pointer (some ⟨p, 0, none⟩)] w (RP p toks tv .expr k b q w)
  un : ∀ {w : World} {k : Nat} {b : Bool} {q : Int}, (toks.length - k) * 8 + 4 < N → RS w p toks tv k b q → Calls Tryz.prog 94 #[.pointer (some ⟨p, 0, none⟩)] w (RP p toks tv .un k b q w)
  bi : ∀ {w : World} {k : Nat} {b : Bool} {q lv : Int}, 1 ≤ lv → lv ≤ 12 → (toks.length - k) * 8 + 5 < N → RS w p toks tv k b q → Calls Tryz.prog 51 #[.pointer (some ⟨p, 0, none⟩), .int .i64 lv] w (RP p toks tv (.bin lv) k b q w)
  po : ∀ {w : World} {k : Nat} {b : Bool} {q : Int}, (toks.length - k) * 8 + 3 < N → RS w p toks tv k b q → Calls Tryz.prog 140 #[.pointer (some ⟨p, 0, none⟩)] w (RP p toks tv .post k b q w)
  pr : ∀ {w : World} {k : Nat} {b : Bool} {q : Int}, (toks.length - k) * 8 + 2 < N → RS w p toks tv k b q → Calls Tryz.prog 196 #[.pointer (some ⟨p, 0, none⟩)] w (RP p toks tv .prim k b q w)
  ch : ∀ {w : World} {k : Nat} {b : Bool} {q : Int} {B0 : Nat} {kd : Int} {st : ByteArray} {nu : Int} {fl : Bool} {ao : Option Addr} {m cap : Nat} {ps fr : Int} {ks : List Tr}, p < B0 → B0 ≤ w.heap.size → Kf B0 w (.slice ao m cap) ks → (toks.length - k) * 8 < N → RS w p toks tv k b q → Calls Tryz.prog 50 #[.pointer (some ⟨p, 0, none⟩), .agg #[.int .i64 kd, .string st, .int .u32 nu, .bool fl, .slice ao m cap, .int .i64 ps], .int .i64 fr] w (RH p B0 toks tv (.condR fr [Tr.node ⟨kd, st, nu, fl, ps⟩ ks]) k b q w)
  li : ∀ {w : World} {k : Nat} {b : Bool} {q : Int} {en : ByteArray}, (en = ⟨#[41]⟩ ∨ en = ⟨#[125]⟩) → (toks.length - k) * 8 + 7 < N → RS w p toks tv k b q → Calls Tryz.prog 127 #[.pointer (some ⟨p, 0, none⟩), .string en] w (RL p toks tv en k b q w)
end Go.Proofs.YtjeioblhpfogfaaGreatDoor
namespace Go.Proofs.YtjeioblhpfogfaaGreatDoor
open Go.RowKit

/-- Trees in rows from a block on, none of which is one of these boxes. -/
def Kb (L : List Nat) (B : Nat) (w : World) (v : Value) (ks : List Tr) : Prop := ∃ n, Kx (fun b => b < B ∨ b ∈ L) n w v ks
theorem Kb.kept {L : List Nat} {B : Nat} {w w' : World} {v : Value} {ks : List Tr} (h : Kb L B w v ks) (hb : Kept (fun b => b < B ∨ b ∈ L) w w') : Kb L B w' v ks := by
  obtain ⟨n, h⟩ := h
  exact ⟨n, h.kept hb⟩
theorem Kb.below {L : List Nat} {B : Nat} {w w' : World} {v : Value} {ks : List Tr} (h : Kb L B w v ks) (hb : Below w.heap.size w w') : Kb L B w' v ks := h.kept (Kept.of_below hb)
theorem Kb.alloc {L : List Nat} {B : Nat} {w : World} {v : Value} {ks : List Tr} (h : Kb L B w v ks) (o : Obj) : Kb L B (w.alloc o) v ks := h.below (below1 w o)
theorem Kb.box {L : List Nat} {B : Nat} {w : World} {v : Value} {ks : List Tr} (h : Kb L B w v ks) (o : Obj) : Kb (w.heap.size :: L) B (w.alloc o) v ks := by
  obtain ⟨n, h⟩ := h
  have h2 : Kb (w.heap.size :: L) B w v ks := ⟨n, h.less fun b hb hS => by
    rcases hS with hS | hS
    · exact .inl hS
    · rcases List.mem_cons.1 hS with e | e
      · omega
      · exact .inr e⟩
  exact h2.alloc o
theorem Kb.kp {L : List Nat} {p B : Nat} {w w' : World} {v : Value} {ks : List Tr} (h : Kb L B w v ks) (hp : p < B) (hk : Kp p w w') : Kb L B w' v ks := h.kept ⟨hk.os, hk.tape, hk.output, hk.size, fun k hl hn => hk.block k hl (fun e => hn (.inl (by rw [show k = p from e]; exact hp)))⟩
theorem Kb.setB {L : List Nat} {B bx : Nat} {w : World} {v : Value} {ks : List Tr} (h : Kb L B w v ks) (hb : bx ∈ L) (o : Nat) (u : Value) : Kb L B (w.setCell ⟨bx, o, none⟩ u) v ks := h.kept ((Kept.rfl (fun b => b < B ∨ b ∈ L) w).setC (b := bx) (o := o) (fun _ => .inr hb) u)
theorem Kb.of {L : List Nat} {B C : Nat} {w : World} {v : Value} {ks : List Tr} (h : Kf C w v ks) (hB : B ≤ C) (hL : ∀ b ∈ L, b < C) : Kb L B w v ks := by
  obtain ⟨n, h⟩ := h
  exact ⟨n, h.less fun b _ hS => by
    rcases hS with hS | hS
    · show b < C
      omega
    · exact hL b hS⟩
theorem Kb.to {L : List Nat} {B : Nat} {w : World} {v : Value} {ks : List Tr} (h : Kb L B w v ks) : Kf B w v ks := by
  obtain ⟨n, h⟩ := h
  exact ⟨n, h.less fun b _ hS => .inl hS⟩
theorem Kb.nil (L : List Nat) (B : Nat) (w : World) : Kb L B w (.slice none 0 0) [] := ⟨0, rfl, none, 0, rfl⟩
theorem Kb.less {L L' : List Nat} {B B' : Nat} {w : World} {v : Value} {ks : List Tr} (h : Kb L B w v ks) (hB : B' ≤ B) (hL : ∀ b, b ∈ L' → b ∈ L) : Kb L' B' w v ks := by
  obtain ⟨n, h⟩ := h
  exact ⟨n, h.less fun b _ hS => by
    rcases hS with hS | hS
    · exact .inl (by omega)
    · exact .inr (hL b hS)⟩
theorem Kb.one {L : List Nat} {B g : Nat} {w : World} {x : NdH} {kv : Value} {ks : List Tr} (h : Kb L B w kv ks) (hB : B ≤ w.heap.size) (hL : ∀ b ∈ L, b < w.heap.size) (hg : g = w.heap.size) : Kb L B (w.alloc (.cells #[.int .i64 x.kind, .string x.str, .int .u32 x.num, .bool x.flag, kv, .int .i64 x.pos] 25)) (.slice (some ⟨g, 0, none⟩) 1 1) [Tr.node x ks] := by
  subst hg
  obtain ⟨n, h⟩ := h.alloc (.cells #[.int .i64 x.kind, .string x.str, .int .u32 x.num, .bool x.flag, kv, .int .i64 x.pos] 25)
  refine ⟨n + 1, ?_⟩
  rw [Kx]
  refine ⟨by simp, _, _, rfl, fun i hi => ?_⟩
  obtain rfl : i = 0 := by simpa using hi
  refine ⟨_, 0, x, kv, ks, rfl, ⟨by simp, fun e => ?_⟩, ⟨rfl, by simp⟩, ndAt_row (heap_alloc_new w _) fun i hi => ?_, h⟩
  · rcases e with e | e
    · omega
    · have := hL _ e
      omega
  have h6 : i = 0 ∨ i = 1 ∨ i = 2 ∨ i = 3 ∨ i = 4 ∨ i = 5 := by omega
  rcases h6 with rfl | rfl | rfl | rfl | rfl | rfl <;> rfl
theorem Kb.two {L : List Nat} {B g : Nat} {w : World} {x y : NdH} {kv lv : Value} {ks ls : List Tr} (h : Kb L B w kv ks) (h' : Kb L B w lv ls) (hB : B ≤ w.heap.size) (hL : ∀ b ∈ L, b < w.heap.size) (hg : g = w.heap.size) : Kb L B (w.alloc (.cells #[.int .i64 x.kind, .string x.str, .int .u32 x.num, .bool x.flag, kv, .int .i64 x.pos, .int .i64 y.kind, .string y.str, .int .u32 y.num, .bool y.flag, lv, .int .i64 y.pos] 25)) (.slice (some ⟨g, 0, none⟩) 2 2) [Tr.node x ks, Tr.node y ls] := by
  subst hg
  obtain ⟨n, h⟩ := h.alloc (.cells #[.int .i64 x.kind, .string x.str, .int .u32 x.num, .bool x.flag, kv, .int .i64 x.pos, .int .i64 y.kind, .string y.str, .int .u32 y.num, .bool y.flag, lv, .int .i64 y.pos] 25)
  obtain ⟨m, h'⟩ := h'.alloc (.cells #[.int .i64 x.kind, .string x.str, .int .u32 x.num, .bool x.flag, kv, .int .i64 x.pos, .int .i64 y.kind, .string y.str, .int .u32 y.num, .bool y.flag, lv, .int .i64 y.pos] 25)
  have hn : ¬ (w.heap.size < B ∨ w.heap.size ∈ L) := fun e => by
    rcases e with e | e
    · omega
    · have := hL _ e
      omega
  refine ⟨max n m + 1, ?_⟩
  rw [Kx]
  refine ⟨by simp, _, _, rfl, fun i hi => ?_⟩
  have hi2 : i = 0 ∨ i = 1 := by simp at hi; omega
  rcases hi2 with rfl | rfl
  · refine ⟨_, 0, x, kv, ks, rfl, ⟨by simp, hn⟩, ⟨rfl, by simp⟩, ndAt_row (heap_alloc_new w _) fun i hi => ?_, h.more (by omega)⟩
    have h6 : i = 0 ∨ i = 1 ∨ i = 2 ∨ i = 3 ∨ i = 4 ∨ i = 5 := by omega
    rcases h6 with rfl | rfl | rfl | rfl | rfl | rfl <;> rfl
  · refine ⟨_, 0, y, lv, ls, rfl, ⟨by simp, hn⟩, ⟨rfl, by simp⟩, ndAt_row (heap_alloc_new w _) fun i hi => ?_, h'.more (by omega)⟩
    have h6 : i = 0 ∨ i = 1 ∨ i = 2 ∨ i = 3 ∨ i = 4 ∨ i = 5 := by omega
    rcases h6 with rfl | rfl | rfl | rfl | rfl | rfl <;> rfl
theorem Kb.three {L : List Nat} {B g : Nat} {w : World} {x y z : NdH} {kv lv mv : Value} {ks ls ms : List Tr} (h : Kb L B w kv ks) (h' : Kb L B w lv ls) (h'' : Kb L B w mv ms) (hB : B ≤ w.heap.size) (hL : ∀ b ∈ L, b < w.heap.size) (hg : g = w.heap.size) : Kb L B (w.alloc (.cells #[.int .i64 x.kind, .string x.str, .int .u32 x.num, .bool x.flag, kv, .int .i64 x.pos, .int .i64 y.kind, .string y.str, .int .u32 y.num, .bool y.flag, lv, .int .i64 y.pos, .int .i64 z.kind, .string z.str, .int .u32 z.num, .bool z.flag, mv, .int .i64 z.pos] 25)) (.slice (some ⟨g, 0, none⟩) 3 3) [Tr.node x ks, Tr.node y ls, Tr.node z ms] := by
  subst hg
  obtain ⟨n, h⟩ := h.alloc (.cells #[.int .i64 x.kind, .string x.str, .int .u32 x.num, .bool x.flag, kv, .int .i64 x.pos, .int .i64 y.kind, .string y.str, .int .u32 y.num, .bool y.flag, lv, .int .i64 y.pos, .int .i64 z.kind, .string z.str, .int .u32 z.num, .bool z.flag, mv, .int .i64 z.pos] 25)
  obtain ⟨m, h'⟩ := h'.alloc (.cells #[.int .i64 x.kind, .string x.str, .int .u32 x.num, .bool x.flag, kv, .int .i64 x.pos, .int .i64 y.kind, .string y.str, .int .u32 y.num, .bool y.flag, lv, .int .i64 y.pos, .int .i64 z.kind, .string z.str, .int .u32 z.num, .bool z.flag, mv, .int .i64 z.pos] 25)
  obtain ⟨l, h''⟩ := h''.alloc (.cells #[.int .i64 x.kind, .string x.str, .int .u32 x.num, .bool x.flag, kv, .int .i64 x.pos, .int .i64 y.kind, .string y.str, .int .u32 y.num, .bool y.flag, lv, .int .i64 y.pos, .int .i64 z.kind, .string z.str, .int .u32 z.num, .bool z.flag, mv, .int .i64 z.pos] 25)
  have hn : ¬ (w.heap.size < B ∨ w.heap.size ∈ L) := fun e => by
    rcases e with e | e
    · omega
    · have := hL _ e
      omega
  refine ⟨max n (max m l) + 1, ?_⟩
  rw [Kx]
  refine ⟨by simp, _, _, rfl, fun i hi => ?_⟩
  have hi2 : i = 0 ∨ i = 1 ∨ i = 2 := by simp at hi; omega
  rcases hi2 with rfl | rfl | rfl
  · refine ⟨_, 0, x, kv, ks, rfl, ⟨by simp, hn⟩, ⟨rfl, by simp⟩, ndAt_row (heap_alloc_new w _) fun i hi => ?_, h.more (by omega)⟩
    have h6 : i = 0 ∨ i = 1 ∨ i = 2 ∨ i = 3 ∨ i = 4 ∨ i = 5 := by omega
    rcases h6 with rfl | rfl | rfl | rfl | rfl | rfl <;> rfl
  · refine ⟨_, 0, y, lv, ls, rfl, ⟨by simp, hn⟩, ⟨rfl, by simp⟩, ndAt_row (heap_alloc_new w _) fun i hi => ?_, h'.more (by omega)⟩
    have h6 : i = 0 ∨ i = 1 ∨ i = 2 ∨ i = 3 ∨ i = 4 ∨ i = 5 := by omega
    rcases h6 with rfl | rfl | rfl | rfl | rfl | rfl <;> rfl
  · refine ⟨_, 0, z, mv, ms, rfl, ⟨by simp, hn⟩, ⟨rfl, by simp⟩, ndAt_row (heap_alloc_new w _) fun i hi => ?_, h''.more (by omega)⟩
    have h6 : i = 0 ∨ i = 1 ∨ i = 2 ∨ i = 3 ∨ i = 4 ∨ i = 5 := by omega
    rcases h6 with rfl | rfl | rfl | rfl | rfl | rfl <;> rfl
theorem Kb.set6 {L : List Nat} {B bx : Nat} {w : World} {v : Value} {ks : List Tr} (h : Kb L B w v ks) (hl : bx ∈ L) (y : NdH) (lv : Value) : Kb L B ((((((w.setCell ⟨bx, 0, none⟩ (.int .i64 y.kind)).setCell ⟨bx, 1, none⟩ (.string y.str)).setCell ⟨bx, 2, none⟩ (.int .u32 y.num)).setCell ⟨bx, 3, none⟩ (.bool y.flag)).setCell ⟨bx, 4, none⟩ lv).setCell ⟨bx, 5, none⟩ (.int .i64 y.pos)) v ks :=
  (((((h.setB hl _ _).setB hl _ _).setB hl _ _).setB hl _ _).setB hl _ _).setB hl _ _
theorem Bx.set6 {w : World} {bx : Nat} {x : NdH} {kv : Value} (h : Bx w bx x kv) (y : NdH) (lv : Value) : Bx ((((((w.setCell ⟨bx, 0, none⟩ (.int .i64 y.kind)).setCell ⟨bx, 1, none⟩ (.string y.str)).setCell ⟨bx, 2, none⟩ (.int .u32 y.num)).setCell ⟨bx, 3, none⟩ (.bool y.flag)).setCell ⟨bx, 4, none⟩ lv).setCell ⟨bx, 5, none⟩ (.int .i64 y.pos)) bx y lv := by
  have h5 := ((((h.s0 y.kind).s1 y.str).s2 y.num).s3 y.flag).s4 lv
  unfold Bx
  rw [setCell_heap h5 _ bx, if_pos rfl]
  rfl
theorem Bx.off6 {w : World} {bx c : Nat} {x : NdH} {kv : Value} (h : Bx w bx x kv) (hne : ¬ bx = c) (y : NdH) (lv : Value) : Bx ((((((w.setCell ⟨c, 0, none⟩ (.int .i64 y.kind)).setCell ⟨c, 1, none⟩ (.string y.str)).setCell ⟨c, 2, none⟩ (.int .u32 y.num)).setCell ⟨c, 3, none⟩ (.bool y.flag)).setCell ⟨c, 4, none⟩ lv).setCell ⟨c, 5, none⟩ (.int .i64 y.pos)) bx x kv :=
  (((((h.off hne _ _).off hne _ _).off hne _ _).off hne _ _).off hne _ _).off hne _ _
/-- The result's box is told. -/
theorem ret_bx {fn : Func} {R : Ending → World → Prop} {a : Act} {w : World} {bx : Nat} {x : NdH} {kv : Value} (h : Bx w bx x kv)
    (hr : ∀ W : World, W.cell? ⟨bx, 0, none⟩ = some (.int .i64 x.kind) → W.cell? ⟨bx, 1, none⟩ = some (.string x.str) → W.cell? ⟨bx, 2, none⟩ = some (.int .u32 x.num) → W.cell? ⟨bx, 3, none⟩ = some (.bool x.flag) → W.cell? ⟨bx, 4, none⟩ = some kv → W.cell? ⟨bx, 5, none⟩ = some (.int .i64 x.pos) → (results fn a.tmps).run Tryz.prog W = .ok (.agg #[.int .i64 x.kind, .string x.str, .int .u32 x.num, .bool x.flag, kv, .int .i64 x.pos]) W)
    (hd : a.defers = []) (hR : R (.returned (.agg #[.int .i64 x.kind, .string x.str, .int .u32 x.num, .bool x.flag, kv, .int .i64 x.pos])) w) : bodyPost Tryz.prog fn R .ret a w := by
  obtain ⟨c0, c1, c2, c3, c4, c5, _⟩ := h.six
  exact ⟨hd, _, hr w c0 c1 c2 c3 c4 c5, hR⟩
theorem Bx.drew {w : World} {bx : Nat} {x : NdH} {kv : Value} (h : Bx w bx x kv) : Bx w.drew bx x kv := h
theorem Kb.drew {L : List Nat} {B : Nat} {w : World} {v : Value} {ks : List Tr} (h : Kb L B w v ks) : Kb L B w.drew v ks := h.below ((Below.refl _ _).drew)
/-- A box of a token. -/
def Tx (w : World) (bx : Nat) (x : Tk) : Prop := w.heap[bx]? = some (.cells #[.int .i64 x.kind, .string x.text, .int .u32 x.num, .bool x.uns, .int .i64 x.pos, .int .i64 x.fin] 42 (0, 0))
theorem Tx.six {w : World} {bx : Nat} {x : Tk} (h : Tx w bx x) : w.cell? ⟨bx, 0, none⟩ = some (.int .i64 x.kind) ∧ w.cell? ⟨bx, 1, none⟩ = some (.string x.text) ∧ w.cell? ⟨bx, 2, none⟩ = some (.int .u32 x.num) ∧ w.cell? ⟨bx, 3, none⟩ = some (.bool x.uns) ∧ w.cell? ⟨bx, 4, none⟩ = some (.int .i64 x.pos) ∧ w.cell? ⟨bx, 5, none⟩ = some (.int .i64 x.fin) ∧ (∀ o, w.frozen? ⟨bx, o, none⟩ = false) ∧ bx < w.heap.size := box_six h
theorem Tx.lt {w : World} {bx : Nat} {x : Tk} (h : Tx w bx x) : bx < w.heap.size := lt_of_heap h
theorem Tx.below {w w' : World} {bx : Nat} {x : Tk} (h : Tx w bx x) (hb : Below w.heap.size w w') : Tx w' bx x := (hb.block bx (lt_of_heap h)).trans h
theorem Tx.alloc {w : World} {bx : Nat} {x : Tk} (h : Tx w bx x) (o : Obj) : Tx (w.alloc o) bx x := h.below (below1 w o)
theorem Tx.drew {w : World} {bx : Nat} {x : Tk} (h : Tx w bx x) : Tx w.drew bx x := h
theorem Tx.kp {w w' : World} {p k bx : Nat} {x : Tk} {toks : List Tk} {tv : Value} {b : Bool} {q : Int} (h : Tx w bx x) (hr : RS w p toks tv k b q) (hk : Kp p w w') : Tx w' bx x :=
  (hk.block bx (lt_of_heap h) (fun e' => by subst e'; have h0 := hr.head; unfold Tx at h; rw [h] at h0; cases h0)).trans h
theorem Tx.new (w : World) (x : Tk) : Tx (w.alloc (.cells #[.int .i64 x.kind, .string x.text, .int .u32 x.num, .bool x.uns, .int .i64 x.pos, .int .i64 x.fin] 42)) w.heap.size x := heap_alloc_new w _
theorem Tx.off {w : World} {bx c : Nat} {x : Tk} (h : Tx w bx x) (hne : ¬ bx = c) (o : Nat) (v : Value) : Tx (w.setCell ⟨c, o, none⟩ v) bx x := (Below.heap_setCell _ _ _ _ hne).trans h
theorem Tx.off6 {w : World} {bx c : Nat} {x : Tk} (h : Tx w bx x) (hne : ¬ bx = c) (y : NdH) (lv : Value) : Tx ((((((w.setCell ⟨c, 0, none⟩ (.int .i64 y.kind)).setCell ⟨c, 1, none⟩ (.string y.str)).setCell ⟨c, 2, none⟩ (.int .u32 y.num)).setCell ⟨c, 3, none⟩ (.bool y.flag)).setCell ⟨c, 4, none⟩ lv).setCell ⟨c, 5, none⟩ (.int .i64 y.pos)) bx x :=
  (((((h.off hne _ _).off hne _ _).off hne _ _).off hne _ _).off hne _ _).off hne _ _
theorem Bx.newAt {w : World} {g : Nat} (x : NdH) (kv : Value) (hg : g = w.heap.size) : Bx (w.alloc (.cells #[.int .i64 x.kind, .string x.str, .int .u32 x.num, .bool x.flag, kv, .int .i64 x.pos] 25)) g x kv := by
  subst hg
  exact Bx.new w x kv
theorem Tx.newAt {w : World} {g : Nat} (x : Tk) (hg : g = w.heap.size) : Tx (w.alloc (.cells #[.int .i64 x.kind, .string x.text, .int .u32 x.num, .bool x.uns, .int .i64 x.pos, .int .i64 x.fin] 42)) g x := by
  subst hg
  exact Tx.new w x
theorem Kb.boxAt {L : List Nat} {B g : Nat} {w : World} {v : Value} {ks : List Tr} (h : Kb L B w v ks) (hg : g = w.heap.size) (o : Obj) : Kb (g :: L) B (w.alloc o) v ks := by
  subst hg
  exact h.box o
theorem RS.drewN {w : World} {p k : Nat} {toks : List Tk} {tv : Value} {b : Bool} {q : Int} (h : RS w p toks tv k b q) (n : Nat) : RS (w.drewN n) p toks tv k b q := h.below (bdN (Below.refl _ _) n)
theorem Kp.drewN {p : Nat} {w w' : World} (h : Kp p w w') (n : Nat) : Kp p w (w'.drewN n) := h.trans (Kp.of_below (bdN (Below.refl _ _) n))
theorem Bx.drewN {w : World} {bx : Nat} {x : NdH} {kv : Value} (h : Bx w bx x kv) (n : Nat) : Bx (w.drewN n) bx x kv := h
theorem Tx.drewN {w : World} {bx : Nat} {x : Tk} (h : Tx w bx x) (n : Nat) : Tx (w.drewN n) bx x := h
theorem Kb.drewN {L : List Nat} {B : Nat} {w : World} {v : Value} {ks : List Tr} (h : Kb L B w v ks) (n : Nat) : Kb L B (w.drewN n) v ks := h.below (bdN (Below.refl _ _) n)
theorem RS.tokAt {w : World} {p k g n cap : Nat} {toks : List Tk} {b : Bool} {q : Int} (h : RS w p toks (.slice (some ⟨g, 0, none⟩) n cap) k b q) (i : Nat) (hi : i < toks.length) : w.cell? ⟨g, i * 6, none⟩ = some (.int .i64 (tk toks i).kind) ∧ w.cell? ⟨g, i * 6 + 1, none⟩ = some (.string (tk toks i).text) ∧ g < w.heap.size := by
  obtain ⟨g', cap', e, hcap, t0, t1, _⟩ := row_tok h.tok i hi
  injection e with e1 e2 e3
  injection e1 with e1
  injection e1 with e1
  subst e1
  rw [← tk_eq hi]
  exact ⟨t0, t1, (h.tok.lt g rfl).2⟩
/-- What the document's called leaves. -/
def RC (p : Nat) (toks : List Tk) (tv : Value) (k : Nat) (b : Bool) (q : Int) (W : World) (e : Ending) (w' : World) : Prop := ∃ kd st nu fl ao m cap ps ks k' b' q', e = .returned (.agg #[.int .i64 kd, .string st, .int .u32 nu, .bool fl, .slice ao m cap, .int .i64 ps]) ∧ Kp p W w' ∧ RS w' p toks tv k' b' q' ∧ Kf W.heap.size w' (.slice ao m cap) ks ∧ k ≤ k' ∧ ∀ b0 q0 g0, At toks b0 q0 g0 b q (calP toks k) → At toks b0 q0 g0 b' q' (.back [Tr.node ⟨kd, st, nu, fl, ps⟩ ks] k')
theorem all0 {C : Nat} : ∀ b ∈ ([] : List Nat), b < C := fun b h => by cases h
theorem all_cons {C x : Nat} {L : List Nat} (h : x < C) (h' : ∀ b ∈ L, b < C) : ∀ b ∈ x :: L, b < C := fun b hb => by
  rcases List.mem_cons.1 hb with e | e
  · rw [e]; exact h
  · exact h' b e
theorem types_b {w : World} {p k : Nat} {toks : List Tk} {tv : Value} {b : Bool} {q : Int} (d : Bool) (hW : TokW toks) (hd : tyWord (signAt toks k) = d) (h : RS w p toks tv k b q) :
    Calls Tryz.prog 79 #[.pointer (some ⟨p, 0, none⟩)] w fun e w' => e = .returned (.bool d) ∧ Below w.heap.size w w' := by
  rw [← hd]
  exact types79 hW h
end Go.Proofs.YtjeioblhpfogfaaGreatDoor
namespace Go.Proofs.YtjeioblhpfogfaaGreatDoor
open Go.RowKit

theorem body_expr (toks : List Tk) (k : Nat) : body toks (.expr) k = (.call .cond k fun ts k1 => .call (.exprR (tk toks k).pos ts) k1 .back) := rfl
theorem body_exprR (toks : List Tk) (fr : Int) (n : List Tr) (k : Nat) : body toks (.exprR fr n) k = (if asgW (signAt toks k) = true then
      if plK (kindOf n) = true then .call .expr (k + 1) fun ts k1 => .back [Tr.node ⟨13, signAt toks k, 0, false, fr⟩ (n ++ ts)] k1
      else .wrong toks k
    else .back n k) := rfl
theorem body_cond (toks : List Tk) (k : Nat) : body toks (.cond) k = (.call (.bin 2) k fun ts k1 => .call (.condR (tk toks k).pos ts) k1 .back) := rfl
theorem body_condR (toks : List Tk) (fr : Int) (n : List Tr) (k : Nat) : body toks (.condR fr n) k = (if signAt toks k = ⟨#[63]⟩ then
      .call .expr (k + 1) fun a k1 => eat toks ⟨#[58]⟩ k1 fun k2 => .call .cond k2 fun c k3 => .back [Tr.node ⟨12, ⟨#[]⟩, 0, false, fr⟩ (n ++ a ++ c)] k3
    else .back n k) := rfl
theorem body_bin (toks : List Tk) (lv : Int) (k : Nat) : body toks (.bin lv) k = (.call .un k fun ts k1 => .call (.binR lv (tk toks k).pos ts) k1 .back) := rfl
theorem body_binR (toks : List Tk) (lv : Int) (fr : Int) (n : List Tr) (k : Nat) : body toks (.binR lv fr n) k = (if levF (signAt toks k) < lv ∨ levF (signAt toks k) = 0 then .back n k
    else .call (.bin (levF (signAt toks k) + 1)) (k + 1) fun ts k1 =>
      .call (.binR lv fr [Tr.node ⟨if levF (signAt toks k) ≤ 3 then 11 else 10, signAt toks k, 0, false, fr⟩ (n ++ ts)]) k1 .back) := rfl
theorem body_un (toks : List Tk) (k : Nat) : body toks (.un) k = (if signAt toks k = ⟨#[45]⟩ ∨ signAt toks k = ⟨#[126]⟩ ∨ signAt toks k = ⟨#[33]⟩ ∨ signAt toks k = ⟨#[38]⟩ then
      .call .un (k + 1) fun ts k1 => .back [Tr.node ⟨9, signAt toks k, 0, false, (tk toks k).pos⟩ ts] k1
    else if signAt toks k = ⟨#[115, 105, 122, 101, 111, 102]⟩ then
      if signAt toks (k + 1) = ⟨#[40]⟩ ∧ tyWord (signAt toks (k + 2)) = true then
        typ toks (k + 2) fun t k1 => eat toks ⟨#[41]⟩ k1 fun k2 => .back [Tr.node ⟨15, ⟨#[]⟩, 0, false, (tk toks k).pos⟩ [tyT toks (k + 2) t]] k2
      else .call .un (k + 1) fun ts k1 => .back [Tr.node ⟨15, ⟨#[]⟩, 0, false, (tk toks k).pos⟩ ts] k1
    else if signAt toks k = ⟨#[40]⟩ ∧ tyWord (signAt toks (k + 1)) = true then
      typ toks (k + 1) fun t k1 => eat toks ⟨#[41]⟩ k1 fun k2 => .call .un k2 fun ts k3 => .back [Tr.node ⟨14, ⟨#[]⟩, 0, false, (tk toks k).pos⟩ (tyT toks (k + 1) t :: ts)] k3
    else .call .post k .back) := rfl
theorem body_post (toks : List Tk) (k : Nat) : body toks (.post) k = (.call .prim k fun ts k1 => .call (.postR (tk toks k).pos ts) k1 .back) := rfl
theorem body_postR (toks : List Tk) (fr : Int) (n : List Tr) (k : Nat) : body toks (.postR fr n) k = (if signAt toks k = ⟨#[91]⟩ then
      .call .expr (k + 1) fun ts k1 => eat toks ⟨#[93]⟩ k1 fun k2 => .call (.postR fr [Tr.node ⟨5, ⟨#[]⟩, 0, false, fr⟩ (n ++ ts)]) k2 .back
    else if signAt toks k = ⟨#[46]⟩ then
      nam toks (k + 1) fun t k1 => .call (.postR fr [Tr.node ⟨6, t, 0, false, fr⟩ n]) k1 .back
    else if signAt toks k = ⟨#[45, 62]⟩ then
      nam toks (k + 1) fun t k1 => .call (.postR fr [Tr.node ⟨7, t, 0, false, fr⟩ n]) k1 .back
    else .back n k) := rfl
theorem body_prim (toks : List Tk) (k : Nat) : body toks (.prim) k = (if signAt toks k = ⟨#[40]⟩ then .call .expr (k + 1) fun ts k1 => eat toks ⟨#[41]⟩ k1 fun k2 => .back ts k2
    else if (tk toks k).kind = 5 then .back [Tr.node ⟨1, ⟨#[]⟩, (tk toks k).num, (tk toks k).uns, (tk toks k).pos⟩ []] (k + 1)
    else if (tk toks k).kind = 6 then .back [Tr.node ⟨2, ⟨#[]⟩, (tk toks k).num, false, (tk toks k).pos⟩ []] (k + 1)
    else if (tk toks k).kind = 7 then .back [Tr.node ⟨3, (tk toks k).text, 0, false, (tk toks k).pos⟩ []] (k + 1)
    else if (tk toks k).kind = 2 then
      if signAt toks (k + 1) = ⟨#[40]⟩ then calP toks k
      else .back [Tr.node ⟨4, (tk toks k).text, 0, false, (tk toks k).pos⟩ []] (k + 1)
    else if (tk toks k).text = ⟨#[103, 101, 116, 98, 121, 116, 101]⟩ ∨ (tk toks k).text = ⟨#[112, 117, 116, 98, 121, 116, 101]⟩ then calP toks k
    else .wrong toks k) := rfl
theorem body_items (toks : List Tk) (en : ByteArray) (acc : List Tr) (k : Nat) : body toks (.items en acc) k = (.call .expr k fun ts k1 =>
    if signAt toks k1 = ⟨#[44]⟩ then .call (.items en (acc ++ ts)) (k1 + 1) .back else eat toks en k1 fun k2 => .back (acc ++ ts) k2) := rfl
theorem body_var (toks : List Tk) (bare : Bool) (k : Nat) : body toks (.var bare) k = (nam toks k fun t k1 =>
    if signAt toks k1 = ⟨#[91]⟩ then
      prt toks ⟨#[93]⟩ (k1 + 1) fun ts k2 => .call (.init bare ⟨43, t, 0, true, (tk toks k).pos⟩ ts) k2 .back
    else .call (.init bare ⟨43, t, 0, false, (tk toks k).pos⟩ []) k1 .back) := rfl
theorem body_init (toks : List Tk) (bare : Bool) (x : NdH) (ks : List Tr) (k : Nat) : body toks (.init bare x ks) k = (if bare = true ∨ ¬ signAt toks k = ⟨#[61]⟩ then .back [Tr.node x ks] k
    else if x.flag = true ∧ signAt toks (k + 1) = ⟨#[123]⟩ then
      .call (.items ⟨#[125]⟩ []) (k + 2) fun ts k1 => .back [Tr.node x (ks ++ [Tr.node ⟨44, ⟨#[]⟩, 0, false, (tk toks (k + 1)).pos⟩ ts])] k1
    else .call .expr (k + 1) fun ts k1 => .back [Tr.node x (ks ++ ts)] k1) := rfl
theorem body_varsR (toks : List Tk) (bare : Bool) (fr : Int) (acc : List Tr) (k : Nat) : body toks (.varsR bare fr acc) k = (.call (.var bare) k fun ts k1 =>
    if signAt toks k1 = ⟨#[44]⟩ then .call (.varsR bare fr (acc ++ ts)) (k1 + 1) .back
    else eat toks ⟨#[59]⟩ k1 fun k2 => .back [Tr.node ⟨42, ⟨#[]⟩, 0, false, fr⟩ (acc ++ ts)] k2) := rfl
theorem body_outer (toks : List Tk) (k : Nat) : body toks (.outer) k = (typ toks k fun t k1 =>
    if signAt toks k = ⟨#[115, 116, 114, 117, 99, 116]⟩ ∧ signAt toks k1 = ⟨#[123]⟩ then .call (.membs (tk toks k).pos (tk toks (k + 1)).text []) (k1 + 1) .back
    else nam toks k1 fun nm k2 =>
      if signAt toks k2 = ⟨#[40]⟩ then
        if signAt toks (k2 + 1) = ⟨#[41]⟩ then .call .blk (k2 + 2) fun bl k3 => .back [Tr.node ⟨45, nm, 0, false, (tk toks k).pos⟩ (tyT toks k t :: bl)] k3
        else .call (.params []) (k2 + 1) fun ps k3 => eat toks ⟨#[41]⟩ k3 fun k4 => .call .blk k4 fun bl k5 => .back [Tr.node ⟨45, nm, 0, false, (tk toks k).pos⟩ (tyT toks k t :: (ps ++ bl))] k5
      else .call (.varsR false (tk toks k).pos [tyT toks k t]) k1 .back) := rfl
theorem body_prog (toks : List Tk) (acc : List Tr) (k : Nat) : body toks (.prog acc) k = (if (tk toks k).kind = 1 then .back [Tr.node ⟨40, ⟨#[]⟩, 0, false, 0⟩ acc] k
    else .call .outer k fun ts k1 => .call (.prog (acc ++ ts)) k1 .back) := rfl
end Go.Proofs.YtjeioblhpfogfaaGreatDoor
namespace Go.Proofs.YtjeioblhpfogfaaGreatDoor
open Go.RowKit

theorem le_namK (toks : List Tk) (k : Nat) : k ≤ namK toks k := by
  unfold namK
  split <;> omega
theorem le_takK (toks : List Tk) (s : ByteArray) (k : Nat) : k ≤ takK toks s k := by
  unfold takK
  split <;> omega
theorem le_typK (toks : List Tk) (k : Nat) : k ≤ typK toks k := by
  unfold typK
  have := le_namK toks (k + 1)
  split
  · split <;> omega
  · omega
theorem le_cast (toks : List Tk) (k : Nat) : k + 1 ≤ takK toks ⟨#[41]⟩ (typK toks (k + 1)) := by
  have h1 := le_takK toks ⟨#[41]⟩ (typK toks (k + 1))
  have h2 := le_typK toks (k + 1)
  omega
end Go.Proofs.YtjeioblhpfogfaaGreatDoor
namespace Go.Proofs.YtjeioblhpfogfaaGreatDoor
open Go.RowKit

theorem info25 : (Tryz.prog.info? 25).map (fun i => (i.zero, i.size, i.bytes)) = some (some (.agg #[.int .i64 0, .string ⟨#[]⟩, .int .u32 0, .bool false, .slice none 0 0, .int .i64 0]), 6, 64) := by kernel_rfl
theorem cells6' {w : World} {g : Nat} {a b c d e f : Value} (h0 : w.cell? ⟨g, 0, none⟩ = some a) (h1 : w.cell? ⟨g, 1, none⟩ = some b) (h2 : w.cell? ⟨g, 2, none⟩ = some c) (h3 : w.cell? ⟨g, 3, none⟩ = some d) (h4 : w.cell? ⟨g, 4, none⟩ = some e) (h5 : w.cell? ⟨g, 5, none⟩ = some f) : ∀ j u, [a, b, c, d, e, f][j]? = some u → w.cell? ((⟨g, 0, none⟩ : Addr).add j) = some u := by
  intro j u hj
  rw [Addr.add_lit, Nat.zero_add]
  match j, hj with
  | 0, hj => simp at hj; subst hj; exact h0
  | 1, hj => simp at hj; subst hj; exact h1
  | 2, hj => simp at hj; subst hj; exact h2
  | 3, hj => simp at hj; subst hj; exact h3
  | 4, hj => simp at hj; subst hj; exact h4
  | 5, hj => simp at hj; subst hj; exact h5
  | j + 6, hj => simp at hj
/-- A node, where its kids lie, and its kids. -/
structure Nc where
  x : NdH
  kv : Value
  ks : List Tr
def ncC (cs : List Nc) : List Value := cs.flatMap fun c => ndC c.x c.kv
def ncT (cs : List Nc) : List Tr := cs.map fun c => Tr.node c.x c.ks
theorem ncC_at : ∀ (l : List Nc) (i j : Nat) (h : i < l.length), j < 6 → (ncC l)[i * 6 + j]? = (ndC l[i].x l[i].kv)[j]?
  | x :: r, 0, j, h, hj => by
    have : ncC (x :: r) = ndC x.x x.kv ++ ncC r := rfl
    rw [this, List.getElem?_append_left (by show 0 * 6 + j < 6; omega)]
    simp
  | x :: r, i + 1, j, h, hj => by
    have : ncC (x :: r) = ndC x.x x.kv ++ ncC r := rfl
    rw [this, List.getElem?_append_right (by show 6 ≤ _; omega), show (i + 1) * 6 + j - (ndC x.x x.kv).length = i * 6 + j by show _ - 6 = _; omega, ncC_at r i j (by simpa using h) hj]
    simp
theorem ncC_snoc (cs : List Nc) (c : Nc) : ncC (cs ++ [c]) = ncC cs ++ ndC c.x c.kv := by
  unfold ncC
  rw [List.flatMap_append]
  simp
theorem ncT_snoc (cs : List Nc) (c : Nc) : ncT (cs ++ [c]) = ncT cs ++ [Tr.node c.x c.ks] := by
  unfold ncT
  rw [List.map_append]
  rfl
theorem nc_get (cs : List Nc) (i : Nat) (hi : i < cs.length) {h : i < (ncT cs).length} : (ncT cs)[i] = Tr.node cs[i].x cs[i].ks := by
  have e : (ncT cs)[i]? = (List.map (fun c => Tr.node c.x c.ks) cs)[i]? := rfl
  rw [List.getElem?_eq_getElem h, List.getElem?_map, List.getElem?_eq_getElem hi] at e
  injection e
/-- A row of nodes of one's own: its kids lie apart from it, and both from one's boxes. -/
structure OwN (L : List Nat) (B : Nat) (w : World) (v : Value) (cs : List Nc) : Prop where
  row : w.ownsRow B 25 6 v cs.length (ncC cs)
  off : ∀ g, v.ownBlock = some g → ¬ g ∈ L
  kids : ∃ n, ∀ c ∈ cs, Kx (fun b => (b < B ∨ b ∈ L) ∨ v.ownBlock = some b) n w c.kv c.ks
theorem OwN.nil (L : List Nat) (B : Nat) (w : World) : OwN L B w (.slice none 0 0) [] := ⟨⟨rfl, .inl ⟨rfl, rfl⟩⟩, fun g h => (by cases h), ⟨0, fun c hc => (by cases hc)⟩⟩
theorem OwN.lt {L : List Nat} {B : Nat} {w : World} {v : Value} {cs : List Nc} (h : OwN L B w v cs) (g : Nat) (hg : v.ownBlock = some g) : g < w.heap.size := by
  obtain ⟨_, cs', f, e⟩ := own_type h.row g hg
  exact lt_of_heap e
theorem OwN.kept {L : List Nat} {B : Nat} {w w' : World} {v : Value} {cs : List Nc} (h : OwN L B w v cs) (hb : Kept (fun b => b < B ∨ b ∈ L) w w') : OwN L B w' v cs := by
  refine ⟨?_, h.off, ?_⟩
  · have ho := h.row
    refine ⟨ho.1, ho.2.imp id fun ⟨g, cap, cur, a1, a2, a3, a4⟩ => ⟨g, cap, cur, a1, a2, ?_, a4⟩⟩
    rw [hb.block g (lt_of_heap a3) (fun e => by
      rcases e with e | e
      · omega
      · exact h.off g (by rw [a1]; rfl) e)]
    exact a3
  · obtain ⟨n, hk⟩ := h.kids
    exact ⟨n, fun c hc => (hk c hc).kept ⟨hb.os, hb.tape, hb.output, hb.size, fun k hl hn => hb.block k hl (fun e => hn (.inl e))⟩⟩
theorem OwN.below {L : List Nat} {B : Nat} {w w' : World} {v : Value} {cs : List Nc} (h : OwN L B w v cs) (hb : Below w.heap.size w w') : OwN L B w' v cs := h.kept (Kept.of_below hb)
theorem OwN.alloc {L : List Nat} {B : Nat} {w : World} {v : Value} {cs : List Nc} (h : OwN L B w v cs) (o : Obj) : OwN L B (w.alloc o) v cs := h.below (below1 w o)
theorem OwN.drew {L : List Nat} {B : Nat} {w : World} {v : Value} {cs : List Nc} (h : OwN L B w v cs) : OwN L B w.drew v cs := h.below ((Below.refl _ _).drew)
theorem OwN.kp {L : List Nat} {p B : Nat} {w w' : World} {v : Value} {cs : List Nc} (h : OwN L B w v cs) (hp : p < B) (hk : Kp p w w') : OwN L B w' v cs := h.kept ⟨hk.os, hk.tape, hk.output, hk.size, fun k hl hn => hk.block k hl (fun e => hn (.inl (by rw [show k = p from e]; exact hp)))⟩
theorem OwN.setB {L : List Nat} {B bx : Nat} {w : World} {v : Value} {cs : List Nc} (h : OwN L B w v cs) (hb : bx ∈ L) (o : Nat) (u : Value) : OwN L B (w.setCell ⟨bx, o, none⟩ u) v cs := h.kept ((Kept.rfl (fun b => b < B ∨ b ∈ L) w).setC (b := bx) (o := o) (fun _ => .inr hb) u)
/-- As trees. -/
theorem OwN.to {L : List Nat} {B : Nat} {w : World} {v : Value} {cs : List Nc} (h : OwN L B w v cs) : Kb L B w v (ncT cs) := by
  obtain ⟨n, hk⟩ := h.kids
  refine ⟨n + 1, ?_⟩
  rw [Kx]
  have hl : (ncT cs).length = cs.length := by unfold ncT; simp
  obtain ⟨hlen, ⟨e, e2⟩ | ⟨g, cap, cur, e, hg, hh, hn, hm, hs, ht⟩⟩ := h.row
  · have : cs = [] := List.length_eq_zero_iff.1 e2
    subst this
    exact ⟨by simp [ncT], none, 0, e, fun i hi => by simp [ncT] at hi⟩
  · have hcell : ∀ i (hi : i < cs.length) j u, j < 6 → (ndC cs[i].x cs[i].kv)[j]? = some u → w.cell? ⟨g, i * 6 + j, none⟩ = some u := fun i hi j u hj hu => by
      have := h.row.cells (g := g) (by rw [e]; rfl) (i * 6 + j) u (by rw [ncC_at _ _ _ hi hj]; exact hu)
      rwa [Addr.add_lit, Nat.zero_add] at this
    have hmx : cs.length ≤ 9223372036854775807 := by
      have h1 := hm
      unfold maxLen at h1
      omega
    refine ⟨by rw [hl]; exact hmx, _, cap, by rw [e, hl], fun i hi => ?_⟩
    have hi' : i < cs.length := by rw [← hl]; exact hi
    refine ⟨g, 0, cs[i].x, cs[i].kv, cs[i].ks, rfl, ⟨lt_of_heap hh, fun h' => ?_⟩, ⟨nc_get cs i hi', by rw [hl]; exact hn⟩, ⟨?_, ?_, ?_, ?_, ?_, ?_⟩, ((hk cs[i] (List.getElem_mem _)).less fun b _ hS => .inl hS)⟩
    · rcases h' with h' | h'
      · omega
      · exact h.off g (by rw [e]; rfl) h'
    · have := hcell i hi' 0 _ (by omega) rfl; rwa [show 0 + i * 6 = i * 6 + 0 by omega]
    · have := hcell i hi' 1 _ (by omega) rfl; rwa [show 0 + i * 6 + 1 = i * 6 + 1 by omega]
    · have := hcell i hi' 2 _ (by omega) rfl; rwa [show 0 + i * 6 + 2 = i * 6 + 2 by omega]
    · have := hcell i hi' 3 _ (by omega) rfl; rwa [show 0 + i * 6 + 3 = i * 6 + 3 by omega]
    · have := hcell i hi' 4 _ (by omega) rfl; rwa [show 0 + i * 6 + 4 = i * 6 + 4 by omega]
    · have := hcell i hi' 5 _ (by omega) rfl; rwa [show 0 + i * 6 + 5 = i * 6 + 5 by omega]
/-- One node more. -/
theorem OwN.push {L : List Nat} {B C : Nat} {w w' : World} {v v' : Value} {cs : List Nc} {x : NdH} {kv : Value} {ks : List Tr} (h : OwN L B w v cs) (hk : Kf C w kv ks) (hC : C ≤ w.heap.size) (hB : B ≤ C) (hL : ∀ b ∈ L, b < C) (hg : ∀ g, v.ownBlock = some g → g < C)
    (ho : w'.ownsRow B 25 6 v' (cs.length + 1) (ncC cs ++ ndC x kv)) (hgr : w.grownBy w' v.ownBlock) (hloc : v'.ownBlock = v.ownBlock ∨ v'.ownBlock = some w.heap.size) : OwN L B w' v' (cs ++ [⟨x, kv, ks⟩]) := by
  have hfr : Kept (fun b => v.ownBlock = some b) w w' := ⟨hgr.os, hgr.tape, hgr.output, hgr.size, fun k hl hn => hgr.block k hl (fun e => hn e.symm)⟩
  have hset : ∀ b, b < w.heap.size → v'.ownBlock = some b → v.ownBlock = some b := fun b hb e => by
    rcases hloc with h1 | h1
    · rw [← h1]; exact e
    · rw [h1] at e
      injection e with e
      omega
  refine ⟨?_, fun g hg' => ?_, ?_⟩
  · rw [List.length_append, ncC_snoc]
    exact ho
  · rcases hloc with h1 | h1
    · exact h.off g (by rw [← h1]; exact hg')
    · rw [h1] at hg'
      injection hg' with hg'
      intro hm
      have := hL g hm
      omega
  · obtain ⟨n, hn⟩ := h.kids
    obtain ⟨m, hm⟩ := hk
    refine ⟨max n m, fun c hc => ?_⟩
    rcases List.mem_append.1 hc with hc | hc
    · have h1 := (hn c hc).more (m := max n m) (by omega)
      have h2 : Kx (fun b => ((b < B ∨ b ∈ L) ∨ v'.ownBlock = some b) ∨ v.ownBlock = some b) (max n m) w c.kv c.ks := h1.less fun b hb hS => by
        rcases hS with (hS | hS) | hS
        · exact .inl hS
        · exact .inr (hset b hb hS)
        · exact .inr hS
      exact (h2.kept ⟨hfr.os, hfr.tape, hfr.output, hfr.size, fun k hl hn => hfr.block k hl (fun e => hn (.inr e))⟩).less fun b _ hS => .inl hS
    · obtain rfl : c = ⟨x, kv, ks⟩ := List.mem_singleton.1 hc
      have h1 := hm.more (m := max n m) (by omega)
      have h2 : Kx (fun b => ((b < B ∨ b ∈ L) ∨ v'.ownBlock = some b) ∨ v.ownBlock = some b) (max n m) w kv ks := h1.less fun b hb hS => by
        show b < C
        rcases hS with (hS | hS) | hS
        · rcases hS with hS | hS
          · omega
          · exact hL b hS
        · exact hg b (hset b hb hS)
        · exact hg b hS
      exact (h2.kept ⟨hfr.os, hfr.tape, hfr.output, hfr.size, fun k hl hn => hfr.block k hl (fun e => hn (.inr e))⟩).less fun b _ hS => .inl hS
/-- A new box. -/
theorem OwN.boxAt {L : List Nat} {B g : Nat} {w : World} {v : Value} {cs : List Nc} (h : OwN L B w v cs) (hg : g = w.heap.size) (o : Obj) : OwN (g :: L) B (w.alloc o) v cs := by
  subst hg
  have h' := h.alloc o
  refine ⟨h'.row, fun g hg hm => ?_, ?_⟩
  · rcases List.mem_cons.1 hm with e | e
    · have := h.lt g hg
      omega
    · exact h.off g hg e
  · obtain ⟨n, hn⟩ := h.kids
    refine ⟨n, fun c hc => ?_⟩
    have h1 : Kx (fun b => (b < B ∨ b ∈ w.heap.size :: L) ∨ v.ownBlock = some b) n w c.kv c.ks := (hn c hc).less fun b hb hS => by
      rcases hS with (hS | hS) | hS
      · exact .inl (.inl hS)
      · rcases List.mem_cons.1 hS with e | e
        · omega
        · exact .inl (.inr e)
      · exact .inr hS
    exact h1.kept (Kept.of_below (below1 w o))
/-- Fewer boxes. -/
theorem OwN.less {L L' : List Nat} {B : Nat} {w : World} {v : Value} {cs : List Nc} (h : OwN L B w v cs) (hL : ∀ b, b ∈ L' → b ∈ L) : OwN L' B w v cs := by
  refine ⟨h.row, fun g hg hm => h.off g hg (hL g hm), ?_⟩
  obtain ⟨n, hn⟩ := h.kids
  exact ⟨n, fun c hc => (hn c hc).less fun b _ hS => by
    rcases hS with (hS | hS) | hS
    · exact .inl (.inl hS)
    · exact .inl (.inr (hL b hS))
    · exact .inr hS⟩
end Go.Proofs.YtjeioblhpfogfaaGreatDoor
namespace Go.Proofs.YtjeioblhpfogfaaGreatDoor
open Go.RowKit

abbrev zN : NdH := ⟨0, ⟨#[]⟩, 0, false, 0⟩
theorem ret_b3 {fn : Func} {R : Ending → World → Prop} {a : Act} {w : World} {bx : Nat} {x : NdH} {kv : Value} {p er : Int} (h : Bx w bx x kv)
    (hr : ∀ W : World, W.cell? ⟨bx, 0, none⟩ = some (.int .i64 x.kind) → W.cell? ⟨bx, 1, none⟩ = some (.string x.str) → W.cell? ⟨bx, 2, none⟩ = some (.int .u32 x.num) → W.cell? ⟨bx, 3, none⟩ = some (.bool x.flag) → W.cell? ⟨bx, 4, none⟩ = some kv → W.cell? ⟨bx, 5, none⟩ = some (.int .i64 x.pos) → (results fn a.tmps).run Tryz.prog W = .ok (.tuple #[.agg #[.int .i64 x.kind, .string x.str, .int .u32 x.num, .bool x.flag, kv, .int .i64 x.pos], .int .i64 p, .int .i64 er]) W)
    (hd : a.defers = []) (hR : R (.returned (.tuple #[.agg #[.int .i64 x.kind, .string x.str, .int .u32 x.num, .bool x.flag, kv, .int .i64 x.pos], .int .i64 p, .int .i64 er])) w) : bodyPost Tryz.prog fn R .ret a w := by
  obtain ⟨c0, c1, c2, c3, c4, c5, _⟩ := h.six
  exact ⟨hd, _, hr w c0 c1 c2 c3 c4 c5, hR⟩
theorem ended23_bad {w : World} {p k : Nat} {toks : List Tk} {tv : Value} {q : Int} {kd : Int} {st : ByteArray} {nu : Int} {fl : Bool} {ao : Option Addr} {m cap : Nat} {ps : Int} (h : RS w p toks tv k true q) :
    Calls Tryz.prog 23 #[.pointer (some ⟨p, 0, none⟩), .agg #[.int .i64 kd, .string st, .int .u32 nu, .bool fl, .slice ao m cap, .int .i64 ps]] w fun e w' => e = .returned (.tuple #[.agg #[.int .i64 0, .string ⟨#[]⟩, .int .u32 0, .bool false, .slice none 0 0, .int .i64 0], .int .i64 q, .int .i64 90]) ∧ Kp p w w' := by
  obtain ⟨c0, c1, c2, c3, hp⟩ := h.cells
  have hne : ¬ p = w.heap.size := by omega
  have hne1 : ¬ p = w.heap.size + 1 := by omega
  have H0 := hid' ((h.alloc (.cells #[.int .i64 kd, .string st, .int .u32 nu, .bool fl, .slice ao m cap, .int .i64 ps] 25)).alloc (.cells #[.int .i64 0, .string ⟨#[]⟩, .int .u32 0, .bool false, .slice none 0 0, .int .i64 0] 25))
  have X0 := hid' (Bx.newAt (w := w.alloc (.cells #[.int .i64 kd, .string st, .int .u32 nu, .bool fl, .slice ao m cap, .int .i64 ps] 25)) (g := w.heap.size + 1) zN (.slice none 0 0) (by simp))
  have K0 := hid' (((Kp.rfl p w).alloc (.cells #[.int .i64 kd, .string st, .int .u32 nu, .bool fl, .slice ao m cap, .int .i64 ps] 25)).alloc (.cells #[.int .i64 0, .string ⟨#[]⟩, .int .u32 0, .bool false, .slice none 0 0, .int .i64 0] 25))
  clear h
  go_enter Tryz.func23, Tryz.ntmps23
  go_wp2
  generalize (w.alloc (.cells #[.int .i64 kd, .string st, .int .u32 nu, .bool fl, .slice ao m cap, .int .i64 ps] 25)).alloc (.cells #[.int .i64 0, .string ⟨#[]⟩, .int .u32 0, .bool false, .slice none 0 0, .int .i64 0] 25) = w2 at *
  obtain ⟨d0, d1, d2, d3, dp⟩ := H0.out.cells
  obtain ⟨x0, x1, x2, x3, x4, x5, xf, xl⟩ := X0.out.six
  have f0 := xf 0
  have f1 := xf 1
  have f2 := xf 2
  have f3 := xf 3
  have f4 := xf 4
  have f5 := xf 5
  have hne3 : ¬ w.heap.size + 1 = p := by omega
  clear xf c0 c1 c2 c3
  go_region
  all_goals
    go_wp2
    refine ret_b3 (bx := w.heap.size + 1) (X0.out.set6 zN (.slice none 0 0)).drew (fun W c0 c1 c2 c3 c4 c5 => by simp [results, Tryz.results23, go_sem, c0, c1, c2, c3, c4, c5]) rfl ⟨rfl, ?_⟩
    exact (K0.out.set6 (Nat.le_succ _) zN _).drew
theorem ended23_more {w : World} {p k : Nat} {toks : List Tk} {tv : Value} {q : Int} {kd : Int} {st : ByteArray} {nu : Int} {fl : Bool} {ao : Option Addr} {m cap : Nat} {ps : Int} (h : RS w p toks tv k false q) (hk : ¬ (tk toks k).kind = 1) :
    Calls Tryz.prog 23 #[.pointer (some ⟨p, 0, none⟩), .agg #[.int .i64 kd, .string st, .int .u32 nu, .bool fl, .slice ao m cap, .int .i64 ps]] w fun e w' => e = .returned (.tuple #[.agg #[.int .i64 0, .string ⟨#[]⟩, .int .u32 0, .bool false, .slice none 0 0, .int .i64 0], .int .i64 (tk toks k).pos, .int .i64 90]) ∧ Kp p w w' := by
  obtain ⟨c0, c1, c2, c3, hp⟩ := h.cells
  have hne : ¬ p = w.heap.size := by omega
  have hne1 : ¬ p = w.heap.size + 1 := by omega
  have H0 := hid' ((h.alloc (.cells #[.int .i64 kd, .string st, .int .u32 nu, .bool fl, .slice ao m cap, .int .i64 ps] 25)).alloc (.cells #[.int .i64 0, .string ⟨#[]⟩, .int .u32 0, .bool false, .slice none 0 0, .int .i64 0] 25))
  have K0 := hid' (((Kp.rfl p w).alloc (.cells #[.int .i64 kd, .string st, .int .u32 nu, .bool fl, .slice ao m cap, .int .i64 ps] 25)).alloc (.cells #[.int .i64 0, .string ⟨#[]⟩, .int .u32 0, .bool false, .slice none 0 0, .int .i64 0] 25))
  have X0 := hid' (Bx.newAt (w := w.alloc (.cells #[.int .i64 kd, .string st, .int .u32 nu, .bool fl, .slice ao m cap, .int .i64 ps] 25)) (g := w.heap.size + 1) zN (.slice none 0 0) (by simp))
  have hk' : ((tk toks k).kind == 1) = false := by simpa using hk
  have hf0 := fld42_0
  clear h hk
  go_enter Tryz.func23, Tryz.ntmps23
  go_wp2_with (first
    | (go_at_call 21; (with_reducible refine (now21 H0.out).mono ?_); rintro e w1 ⟨rfl, hb⟩; have H1 := hid' (H0.out.below hb); have K1 := hid' (K0.out.trans (Kp.of_below hb)); have X1 := hid' (X0.out.below hb); clear hb)
    | (go_at_call 47; (with_reducible refine (no47 H1.out).mono ?_); rintro e w2 ⟨rfl, hk, hr⟩; have X2 := hid' (X1.out.kp H1.out hk); have H2 := hid' hr; have K2 := hid' (K1.out.trans hk); obtain ⟨d0, d1, d2, d3, dp⟩ := hr.cells; obtain ⟨x0, x1, x2, x3, x4, x5, xf, xl⟩ := X2.out.six; have f0 := xf 0; have f1 := xf 1; have f2 := xf 2; have f3 := xf 3; have f4 := xf 4; have f5 := xf 5; clear hk hr xf))
  have hq : noQ toks k false q = (tk toks k).pos := rfl
  rw [hq] at d3
  have hne3 : ¬ w.heap.size + 1 = p := by omega
  go_region
  all_goals
    go_wp2
    refine ret_b3 (bx := w.heap.size + 1) (X2.out.set6 zN (.slice none 0 0)).drew (fun W c0 c1 c2 c3 c4 c5 => by simp [results, Tryz.results23, go_sem, c0, c1, c2, c3, c4, c5]) rfl ⟨rfl, ?_⟩
    exact (K2.out.set6 (Nat.le_succ _) zN _).drew
theorem ended23_end {w : World} {p k cb n : Nat} {toks : List Tk} {tv : Value} {q : Int} {x : NdH} {kv : Value} {ks : List Tr} (hK : Ks cb n w kv ks) (h : RS w p toks tv k false q) (hk : (tk toks k).kind = 1) :
    Calls Tryz.prog 23 #[.pointer (some ⟨p, 0, none⟩), .agg #[.int .i64 x.kind, .string x.str, .int .u32 x.num, .bool x.flag, kv, .int .i64 x.pos]] w fun e w' => (if dpR (Tr.node x ks) ≤ 200 then e = .returned (.tuple #[.agg #[.int .i64 x.kind, .string x.str, .int .u32 x.num, .bool x.flag, kv, .int .i64 x.pos], .int .i64 0, .int .i64 0]) else e = .returned (.tuple #[.agg #[.int .i64 0, .string ⟨#[]⟩, .int .u32 0, .bool false, .slice none 0 0, .int .i64 0], .int .i64 0, .int .i64 91])) ∧ Below w.heap.size w w' := by
  obtain ⟨hlen, ao, cap, rfl⟩ := hK.shape
  obtain ⟨c0, c1, c2, c3, hp⟩ := h.cells
  have hne : ¬ p = w.heap.size := by omega
  have hne1 : ¬ p = w.heap.size + 1 := by omega
  have H0 := hid' ((h.alloc (.cells #[.int .i64 x.kind, .string x.str, .int .u32 x.num, .bool x.flag, .slice ao ks.length cap, .int .i64 x.pos] 25)).alloc (.cells #[.int .i64 0, .string ⟨#[]⟩, .int .u32 0, .bool false, .slice none 0 0, .int .i64 0] 25))
  have B0 := hid' ((below1 w (.cells #[.int .i64 x.kind, .string x.str, .int .u32 x.num, .bool x.flag, .slice ao ks.length cap, .int .i64 x.pos] 25)).alloc (by simp) (.cells #[.int .i64 0, .string ⟨#[]⟩, .int .u32 0, .bool false, .slice none 0 0, .int .i64 0] 25))
  have X0 := hid' (Bx.newAt (w := w.alloc (.cells #[.int .i64 x.kind, .string x.str, .int .u32 x.num, .bool x.flag, .slice ao ks.length cap, .int .i64 x.pos] 25)) (g := w.heap.size + 1) zN (.slice none 0 0) (by simp))
  have Y0 := hid' ((Bx.newAt (w := w) (g := w.heap.size) x (.slice ao ks.length cap) rfl).alloc (.cells #[.int .i64 0, .string ⟨#[]⟩, .int .u32 0, .bool false, .slice none 0 0, .int .i64 0] 25))
  have HD : Hid (∀ W, Below w.heap.size w W → Calls Tryz.prog 15 #[.agg #[.int .i64 x.kind, .string x.str, .int .u32 x.num, .bool x.flag, .slice ao ks.length cap, .int .i64 x.pos]] W fun e w' => e = .returned (.int .i64 (dpR (Tr.node x ks) : Int)) ∧ Below W.heap.size W w') := fun W hb => depth15 (hK.below hb)
  have hf0 := fld42_0
  have hne2 : ¬ w.heap.size = w.heap.size + 1 := by omega
  clear h hK
  obtain ⟨D, hD⟩ : ∃ D, D = dpR (Tr.node x ks) := ⟨_, rfl⟩
  rw [← hD] at HD ⊢
  clear hD
  by_cases hle : D ≤ 200
  · simp only [if_pos hle]
    go_enter Tryz.func23, Tryz.ntmps23
    go_wp2_with (first
      | (go_at_call 21; (with_reducible refine (now21 H0.out).mono ?_); rintro e w1 ⟨rfl, hb⟩; have B1 := hid' (below_on B0.out hb); have X1 := hid' (X0.out.below hb); have Y1 := hid' (Y0.out.below hb); obtain ⟨d0, d1, d2, d3, dp⟩ := (H0.out.below hb).cells; obtain ⟨y0, y1, y2, y3, y4, y5, yf, yl⟩ := Y1.out.six; clear hb yf)
      | (go_at_call 15; (with_reducible refine (HD.out _ B1.out).mono ?_); rintro e w2 ⟨rfl, hb⟩; have B2 := hid' (below_on B1.out hb); have X2 := hid' (X1.out.below hb); have Y2 := hid' (Y1.out.below hb); obtain ⟨x0, x1, x2, x3, x4, x5, xf, xl⟩ := X2.out.six; have f0 := xf 0; have f1 := xf 1; have f2 := xf 2; have f3 := xf 3; have f4 := xf 4; have f5 := xf 5; obtain ⟨z0, z1, z2, z3, z4, z5, zf, zl⟩ := Y2.out.six; clear hb xf zf))
    refine ret_b3 (bx := w.heap.size + 1) (X2.out.set6 x (.slice ao ks.length cap)) (fun W c0 c1 c2 c3 c4 c5 => by simp [results, Tryz.results23, go_sem, c0, c1, c2, c3, c4, c5]) rfl ⟨rfl, ?_⟩
    exact below_set6' B2.out (Nat.le_succ _) _ _ _ _ _ _
  · simp only [if_neg hle]
    have hle' : (200 : Int) < (D : Int) := by omega
    go_enter Tryz.func23, Tryz.ntmps23
    go_wp2_with (first
      | (go_at_call 21; (with_reducible refine (now21 H0.out).mono ?_); rintro e w1 ⟨rfl, hb⟩; have B1 := hid' (below_on B0.out hb); have X1 := hid' (X0.out.below hb); have Y1 := hid' (Y0.out.below hb); obtain ⟨d0, d1, d2, d3, dp⟩ := (H0.out.below hb).cells; obtain ⟨y0, y1, y2, y3, y4, y5, yf, yl⟩ := Y1.out.six; clear hb yf)
      | (go_at_call 15; (with_reducible refine (HD.out _ B1.out).mono ?_); rintro e w2 ⟨rfl, hb⟩; have B2 := hid' (below_on B1.out hb); have X2 := hid' (X1.out.below hb); obtain ⟨x0, x1, x2, x3, x4, x5, xf, xl⟩ := X2.out.six; have f0 := xf 0; have f1 := xf 1; have f2 := xf 2; have f3 := xf 3; have f4 := xf 4; have f5 := xf 5; clear hb xf))
    refine ret_b3 (bx := w.heap.size + 1) (X2.out.set6 zN (.slice none 0 0)) (fun W c0 c1 c2 c3 c4 c5 => by simp [results, Tryz.results23, go_sem, c0, c1, c2, c3, c4, c5]) rfl ⟨rfl, ?_⟩
    exact below_set6' B2.out (Nat.le_succ _) _ _ _ _ _ _
end Go.Proofs.YtjeioblhpfogfaaGreatDoor
