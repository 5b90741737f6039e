/- Steps: the end, declarations, primary expressions. -/
import Derived.Test.YtjeioblhpfogfaaGreatDoorX20
set_option linter.unusedVariables false
set_option linter.unusedSimpArgs false
set_option maxRecDepth 20000
set_option maxHeartbeats 8000000
namespace Go.Proofs.YtjeioblhpfogfaaGreatDoor
open Go.RowKit

theorem token_kind {w : World} {B p : Nat} {toks : List Tk} {s : St} {k : Int} (h : RdS w B p toks s) (hl : s.pl < toks.length) (hk : (tk toks s.pl).kind = k) :
    Calls Tryz.prog 75 #[.pointer (some ⟨p, 0, none⟩)] w fun e w' => e = .returned (.agg #[.int .i64 k, .string (tk toks s.pl).text, .int .u32 (tk toks s.pl).num, .bool (tk toks s.pl).uns, .int .i64 (tk toks s.pl).pos, .int .i64 (tk toks s.pl).fin]) ∧ Below w.heap.size w w' := by
  rw [← hk]
  exact token_agg h hl

theorem token_kt {w : World} {B p : Nat} {toks : List Tk} {s : St} {k : Int} {t : ByteArray} (h : RdS w B p toks s) (hl : s.pl < toks.length) (hk : (tk toks s.pl).kind = k) (ht : (tk toks s.pl).text = t) :
    Calls Tryz.prog 75 #[.pointer (some ⟨p, 0, none⟩)] w fun e w' => e = .returned (.agg #[.int .i64 k, .string t, .int .u32 (tk toks s.pl).num, .bool (tk toks s.pl).uns, .int .i64 (tk toks s.pl).pos, .int .i64 (tk toks s.pl).fin]) ∧ Below w.heap.size w w' := by
  rw [← hk, ← ht]
  exact token_agg h hl

theorem end73_y {W : World} {B p : Nat} {toks : List Tk} {s : St} (h : RdS W B p toks s) (hf : Fine toks s) (hk : (tk toks s.pl).kind = 1) :
    Calls Tryz.prog 73 #[.pointer (some ⟨p, 0, none⟩)] W (Res B p toks W (.ok s)) := by
  have H0 := hid' h
  have HF := hid' hf
  have K0 := hid' (KQ.rfl B p W)
  have hf0 := fld42_0
  clear h hf
  go_enter Tryz.func73, Tryz.ntmps73
  go_wp2_with (first
    | (go_at_call 75; (with_reducible refine (token_kind H0.out (by have := om HF; (try dsimp only); omega) hk).mono ?_); rintro e w1 ⟨rfl, hb1⟩; have H1 := hid' (H0.out.below hb1); have K1 := hid' (K0.out.trans (KQ.of_below hb1)); clear hb1))
  first
    | (go_end0; exact ⟨K1.out, rfl, H1.out⟩)
    | exact bodyPost_ret (results_none rfl _ _ _) rfl ⟨K1.out, rfl, H1.out⟩

theorem end73_n {W : World} {B p : Nat} {toks : List Tk} {s : St} (h : RdS W B p toks s) (hf : Fine toks s) {k : Int} (hk : (tk toks s.pl).kind = k) (q0 : (k == 1) = false) (q1 : (k != 1) = true) :
    Calls Tryz.prog 73 #[.pointer (some ⟨p, 0, none⟩)] W (Res B p toks W (.error (tk toks s.pl).pos)) := by
  have H0 := hid' h
  have HF := hid' hf
  have K0 := hid' (KQ.rfl B p W)
  have hf0 := fld42_0
  clear h hf
  go_enter Tryz.func73, Tryz.ntmps73
  go_wp2_with (first
    | (go_at_call 75; (with_reducible refine (token_kind H0.out (by have := om HF; (try dsimp only); omega) hk).mono ?_); rintro e w1 ⟨rfl, hb1⟩; have H1 := hid' (H0.out.below hb1); have K1 := hid' (K0.out.trans (KQ.of_below hb1)); clear hb1)
    | (go_at_call 91; (with_reducible refine (wrong_is H1.out (by have := om HF; (try dsimp only); omega)).mono ?_); rintro e w2 ⟨hk2, rfl⟩; have K2 := hid' (K1.out.trans hk2); clear hk2))
  exact ⟨rfl, K2.out, rfl⟩

theorem declaration76_r {W : World} {B p : Nat} {toks : List Tk} {s : St} (h : RdS W B p toks s) (hf : Fine toks s) (hq : signAt toks s.pl = ⟨#[115, 116, 114, 117, 99, 116]⟩) (h2 : signAt toks (s.pl + 2) = ⟨#[123]⟩) :
    Calls Tryz.prog 76 #[.pointer (some ⟨p, 0, none⟩)] W fun e w' => e = .returned (.func (.func 122) #[] #[]) ∧ Below W.heap.size W w' := by
  have H0 := hid' h
  have HF := hid' hf
  have b0 := hid' (Below.refl W.heap.size W)
  clear h hf
  go_enter Tryz.func76, Tryz.ntmps76
  go_wp2_with (first
    | (go_at_call 88; (with_reducible refine (sign_is H0.out hq (by have := om HF; (try dsimp only); omega) (by have := om HF; (try dsimp only); omega)).mono ?_); rintro e w1 ⟨rfl, hb⟩; have H1 := hid' (H0.out.below hb); have b1 := hid' (b0.out.trans (hb.mono b0.out.size)); clear hb)
    | (go_at_call 121; (with_reducible refine (ahead_2 H1.out h2 (by have := om HF; (try dsimp only); omega) (by have := om HF; (try dsimp only); omega)).mono ?_); rintro e w2 ⟨rfl, hb⟩; have H2 := hid' (H1.out.below hb); have b2 := hid' (b1.out.trans (hb.mono b1.out.size)); clear hb))
  go_ret
  exact ⟨rfl, b2.out⟩

theorem declaration76_sf {W : World} {B p : Nat} {toks : List Tk} {s : St} {sx : ByteArray} (h : RdS W B p toks s) (hf : Fine toks s) (hq : signAt toks s.pl = ⟨#[115, 116, 114, 117, 99, 116]⟩) (h2 : signAt toks (s.pl + 2) = sx) (q0 : (sx.toList == [123]) = false) (h3 : signAt toks (s.pl + 3) = ⟨#[40]⟩) :
    Calls Tryz.prog 76 #[.pointer (some ⟨p, 0, none⟩)] W fun e w' => e = .returned (.func (.func 123) #[] #[]) ∧ Below W.heap.size W w' := by
  have H0 := hid' h
  have HF := hid' hf
  have b0 := hid' (Below.refl W.heap.size W)
  clear h hf
  go_enter Tryz.func76, Tryz.ntmps76
  go_wp2_with (first
    | (go_at_call 88; (with_reducible refine (sign_is H0.out hq (by have := om HF; (try dsimp only); omega) (by have := om HF; (try dsimp only); omega)).mono ?_); rintro e w1 ⟨rfl, hb⟩; have H1 := hid' (H0.out.below hb); have b1 := hid' (b0.out.trans (hb.mono b0.out.size)); clear hb)
    | (go_at_call 121; (with_reducible refine (ahead_2 H1.out h2 (by have := om HF; (try dsimp only); omega) (by have := om HF; (try dsimp only); omega)).mono ?_); rintro e w2 ⟨rfl, hb⟩; have H2 := hid' (H1.out.below hb); have b2 := hid' (b1.out.trans (hb.mono b1.out.size)); clear hb)
    | (go_at_call 121; (with_reducible refine (ahead_3 H2.out h3 (by have := om HF; (try dsimp only); omega) (by have := om HF; (try dsimp only); omega)).mono ?_); rintro e w3 ⟨rfl, hb⟩; have H3 := hid' (H2.out.below hb); have b3 := hid' (b2.out.trans (hb.mono b2.out.size)); clear hb))
  go_ret
  exact ⟨rfl, b3.out⟩

theorem declaration76_sv {W : World} {B p : Nat} {toks : List Tk} {s : St} {sx : ByteArray} {sy : ByteArray} (h : RdS W B p toks s) (hf : Fine toks s) (hq : signAt toks s.pl = ⟨#[115, 116, 114, 117, 99, 116]⟩) (h2 : signAt toks (s.pl + 2) = sx) (q0 : (sx.toList == [123]) = false) (h3 : signAt toks (s.pl + 3) = sy) (q1 : (sy.toList == [40]) = false) :
    Calls Tryz.prog 76 #[.pointer (some ⟨p, 0, none⟩)] W fun e w' => e = .returned (.func (.func 124) #[] #[]) ∧ Below W.heap.size W w' := by
  have H0 := hid' h
  have HF := hid' hf
  have b0 := hid' (Below.refl W.heap.size W)
  clear h hf
  go_enter Tryz.func76, Tryz.ntmps76
  go_wp2_with (first
    | (go_at_call 88; (with_reducible refine (sign_is H0.out hq (by have := om HF; (try dsimp only); omega) (by have := om HF; (try dsimp only); omega)).mono ?_); rintro e w1 ⟨rfl, hb⟩; have H1 := hid' (H0.out.below hb); have b1 := hid' (b0.out.trans (hb.mono b0.out.size)); clear hb)
    | (go_at_call 121; (with_reducible refine (ahead_2 H1.out h2 (by have := om HF; (try dsimp only); omega) (by have := om HF; (try dsimp only); omega)).mono ?_); rintro e w2 ⟨rfl, hb⟩; have H2 := hid' (H1.out.below hb); have b2 := hid' (b1.out.trans (hb.mono b1.out.size)); clear hb)
    | (go_at_call 121; (with_reducible refine (ahead_3 H2.out h3 (by have := om HF; (try dsimp only); omega) (by have := om HF; (try dsimp only); omega)).mono ?_); rintro e w3 ⟨rfl, hb⟩; have H3 := hid' (H2.out.below hb); have b3 := hid' (b2.out.trans (hb.mono b2.out.size)); clear hb))
  go_ret
  exact ⟨rfl, b3.out⟩

theorem declaration76_f {W : World} {B p : Nat} {toks : List Tk} {s : St} {sx : ByteArray} (h : RdS W B p toks s) (hf : Fine toks s) (hq : signAt toks s.pl = sx) (q0 : (sx.toList == [115, 116, 114, 117, 99, 116]) = false) (h2 : signAt toks (s.pl + 2) = ⟨#[40]⟩) :
    Calls Tryz.prog 76 #[.pointer (some ⟨p, 0, none⟩)] W fun e w' => e = .returned (.func (.func 123) #[] #[]) ∧ Below W.heap.size W w' := by
  have H0 := hid' h
  have HF := hid' hf
  have b0 := hid' (Below.refl W.heap.size W)
  clear h hf
  go_enter Tryz.func76, Tryz.ntmps76
  go_wp2_with (first
    | (go_at_call 88; (with_reducible refine (sign_is H0.out hq (by have := om HF; (try dsimp only); omega) (by have := om HF; (try dsimp only); omega)).mono ?_); rintro e w1 ⟨rfl, hb⟩; have H1 := hid' (H0.out.below hb); have b1 := hid' (b0.out.trans (hb.mono b0.out.size)); clear hb)
    | (go_at_call 121; (with_reducible refine (ahead_2 H1.out h2 (by have := om HF; (try dsimp only); omega) (by have := om HF; (try dsimp only); omega)).mono ?_); rintro e w2 ⟨rfl, hb⟩; have H2 := hid' (H1.out.below hb); have b2 := hid' (b1.out.trans (hb.mono b1.out.size)); clear hb))
  go_ret
  exact ⟨rfl, b2.out⟩

theorem declaration76_v {W : World} {B p : Nat} {toks : List Tk} {s : St} {sx : ByteArray} {sy : ByteArray} (h : RdS W B p toks s) (hf : Fine toks s) (hq : signAt toks s.pl = sx) (q0 : (sx.toList == [115, 116, 114, 117, 99, 116]) = false) (h2 : signAt toks (s.pl + 2) = sy) (q1 : (sy.toList == [40]) = false) :
    Calls Tryz.prog 76 #[.pointer (some ⟨p, 0, none⟩)] W fun e w' => e = .returned (.func (.func 124) #[] #[]) ∧ Below W.heap.size W w' := by
  have H0 := hid' h
  have HF := hid' hf
  have b0 := hid' (Below.refl W.heap.size W)
  clear h hf
  go_enter Tryz.func76, Tryz.ntmps76
  go_wp2_with (first
    | (go_at_call 88; (with_reducible refine (sign_is H0.out hq (by have := om HF; (try dsimp only); omega) (by have := om HF; (try dsimp only); omega)).mono ?_); rintro e w1 ⟨rfl, hb⟩; have H1 := hid' (H0.out.below hb); have b1 := hid' (b0.out.trans (hb.mono b0.out.size)); clear hb)
    | (go_at_call 121; (with_reducible refine (ahead_2 H1.out h2 (by have := om HF; (try dsimp only); omega) (by have := om HF; (try dsimp only); omega)).mono ?_); rintro e w2 ⟨rfl, hb⟩; have H2 := hid' (H1.out.below hb); have b2 := hid' (b1.out.trans (hb.mono b1.out.size)); clear hb))
  go_ret
  exact ⟨rfl, b2.out⟩

/-- How what comes next is to be read at the outermost. -/
def declF (toks : List Tk) (s : St) : Nat :=
  if signAt toks s.pl = ⟨#[115, 116, 114, 117, 99, 116]⟩ then
    if signAt toks (s.pl + 2) = ⟨#[123]⟩ then 122 else if signAt toks (s.pl + 3) = ⟨#[40]⟩ then 123 else 124
  else if signAt toks (s.pl + 2) = ⟨#[40]⟩ then 123 else 124
theorem declaration76 {W : World} {B p : Nat} {toks : List Tk} {s : St} (h : RdS W B p toks s) (hf : Fine toks s) :
    Calls Tryz.prog 76 #[.pointer (some ⟨p, 0, none⟩)] W fun e w' => e = .returned (.func (.func (declF toks s)) #[] #[]) ∧ Below W.heap.size W w' := by
  unfold declF
  by_cases h1 : signAt toks s.pl = ⟨#[115, 116, 114, 117, 99, 116]⟩
  · rw [if_pos h1]
    by_cases h2 : signAt toks (s.pl + 2) = ⟨#[123]⟩
    · rw [if_pos h2]
      exact declaration76_r h hf h1 h2
    · rw [if_neg h2]
      by_cases h3 : signAt toks (s.pl + 3) = ⟨#[40]⟩
      · rw [if_pos h3]
        exact declaration76_sf h hf h1 rfl (toList_ne' h2) h3
      · rw [if_neg h3]
        exact declaration76_sv h hf h1 rfl (toList_ne' h2) rfl (toList_ne' h3)
  · rw [if_neg h1]
    by_cases h2 : signAt toks (s.pl + 2) = ⟨#[40]⟩
    · rw [if_pos h2]
      exact declaration76_f h hf rfl (toList_ne' h1) h2
    · rw [if_neg h2]
      exact declaration76_v h hf rfl (toList_ne' h1) rfl (toList_ne' h2)

theorem declarations39_e {W : World} {B p : Nat} {toks : List Tk} {s : St} (h : RdS W B p toks s) (hf : Fine toks s) (hk : (tk toks s.pl).kind = 1) :
    Calls Tryz.prog 39 #[.pointer (some ⟨p, 0, none⟩)] W (Res B p toks W (.ok s)) := by
  have H0 := hid' h
  have HF := hid' hf
  have K0 := hid' (KQ.rfl B p W)
  have hf0 := fld42_0
  clear h hf
  go_enter Tryz.func39, Tryz.ntmps39
  go_wp2_with (first
    | (go_at_call 75; (with_reducible refine (token_kind H0.out (by have := om HF; (try dsimp only); omega) hk).mono ?_); rintro e w1 ⟨rfl, hb1⟩; have H1 := hid' (H0.out.below hb1); have K1 := hid' (K0.out.trans (KQ.of_below hb1)); clear hb1))
  first
    | (go_end0; exact ⟨K1.out, rfl, H1.out⟩)
    | exact bodyPost_ret (results_none rfl _ _ _) rfl ⟨K1.out, rfl, H1.out⟩

theorem declarations39_n {W : World} {B p : Nat} {toks : List Tk} {s : St} (h : RdS W B p toks s) (hf : Fine toks s) {k : Int} (hk : (tk toks s.pl).kind = k) (q0 : (k == 1) = false) :
    Calls Tryz.prog 39 #[.pointer (some ⟨p, 0, none⟩)] W (Res B p toks W (.ok { s with todo := declF toks s :: 39 :: s.todo })) := by
  have H0 := hid' h
  have HF := hid' hf
  have K0 := hid' (KQ.rfl B p W)
  have hf0 := fld42_0
  clear h hf
  go_enter Tryz.func39, Tryz.ntmps39
  go_wp2_with (first
    | (go_at_call 75; (with_reducible refine (token_kind H0.out (by have := om HF; (try dsimp only); omega) hk).mono ?_); rintro e w1 ⟨rfl, hb1⟩; have H1 := hid' (H0.out.below hb1); have K1 := hid' (K0.out.trans (KQ.of_below hb1)); clear hb1)
    | (go_at_call 76; (with_reducible refine (declaration76 H1.out HF.out).mono ?_); rintro e w2 ⟨rfl, hb2⟩; have H2 := hid' (H1.out.below hb2); have K2 := hid' (K1.out.trans (KQ.of_below hb2)); clear hb2)
    | (go_at_call 38; (with_reducible refine (then_2 _ _ H2.out (by have := HF.out.todo; (try unfold finS); (try dsimp only); (try simp only [List.length_cons]); omega)).mono ?_); rintro e w3 ⟨hk3, rfl, hR3⟩; have H3 := hid' hR3; have K3 := hid' (K2.out.trans hk3); clear hR3 hk3))
  first
    | (go_end0; exact ⟨K3.out, rfl, H3.out⟩)
    | exact bodyPost_ret (results_none rfl _ _ _) rfl ⟨K3.out, rfl, H3.out⟩

/-- A call's head. -/
def callF (toks : List Tk) (s : St) : Except Int St :=
  if signAt toks (s.pl + 1) = ⟨#[40]⟩ then
    if signAt toks (s.pl + 2) = ⟨#[41]⟩ then .ok { s with pl := s.pl + 2, todo := 184 :: 40 :: s.todo, begun := ⟨⟨8, (tk toks s.pl).text, 0, false, (tk toks s.pl).pos⟩, 0, s.done.length⟩ :: s.begun }
    else .ok { s with pl := s.pl + 2, todo := 24 :: 231 :: 184 :: 40 :: s.todo, begun := ⟨⟨8, (tk toks s.pl).text, 0, false, (tk toks s.pl).pos⟩, 0, s.done.length⟩ :: s.begun }
  else .error (tk toks (s.pl + 1)).pos
theorem call195 {W : World} {B p : Nat} {toks : List Tk} {s : St} (h : RdS W B p toks s) (hf : Fine toks s) (hT : TokOk toks) (hn : s.pl + 1 < toks.length) :
    Calls Tryz.prog 195 #[.pointer (some ⟨p, 0, none⟩)] W (Res B p toks W (callF toks s)) := by
  unfold callF
  by_cases h1 : signAt toks (s.pl + 1) = ⟨#[40]⟩
  · rw [if_pos h1]
    have hn2 := hT.sign h1 (by simp)
    by_cases h2 : signAt toks (s.pl + 2) = ⟨#[41]⟩
    · rw [if_pos h2]
      exact call195_e h hf hn h1 hn2 h2
    · rw [if_neg h2]
      exact call195_x h hf hn h1 hn2 rfl (toList_ne' h2)
  · rw [if_neg h1]
    exact call195_n h hf hn h1
theorem call_ok {W : World} {B p : Nat} {toks : List Tk} {s s2 : St} (h : RdS W B p toks s) (hf : Fine toks s) (hT : TokOk toks) (hn : s.pl + 1 < toks.length) (hc : callF toks s = .ok s2) :
    Calls Tryz.prog 195 #[.pointer (some ⟨p, 0, none⟩)] W (Res B p toks W (.ok s2)) := by
  rw [← hc]
  exact call195 h hf hT hn
theorem call_no {W : World} {B p : Nat} {toks : List Tk} {s : St} {q : Int} (h : RdS W B p toks s) (hf : Fine toks s) (hT : TokOk toks) (hn : s.pl + 1 < toks.length) (hc : callF toks s = .error q) :
    Calls Tryz.prog 195 #[.pointer (some ⟨p, 0, none⟩)] W (Res B p toks W (.error q)) := by
  rw [← hc]
  exact call195 h hf hT hn

theorem primary135_num {W : World} {B p : Nat} {toks : List Tk} {s : St} (h : RdS W B p toks s) (hf : Fine toks s) (hk : (tk toks s.pl).kind = 5)  :
    Calls Tryz.prog 135 #[.pointer (some ⟨p, 0, none⟩)] W (Res B p toks W (.ok { s with pl := s.pl + 1, done := s.done ++ [⟨⟨1, ⟨#[]⟩, (tk toks s.pl).num, (tk toks s.pl).uns, (tk toks s.pl).pos⟩, [], (tk toks s.pl).pos⟩] })) := by
  have H0 := hid' h
  have HF := hid' hf
  have K0 := hid' (KQ.rfl B p W)
  have HTK := hid' (token_kind h hf.at_ hk)
  clear h hf hk
  go_enter Tryz.func135, Tryz.ntmps135
  go_wp2_with (first
    | (go_at_call 75; (with_reducible refine HTK.out.mono ?_); rintro e w1 ⟨rfl, hb1⟩; have H1 := hid' (H0.out.below (hb1.alloc hb1.size (.cells #[.int .i64 5, .string (tk toks s.pl).text, .int .u32 (tk toks s.pl).num, .bool (tk toks s.pl).uns, .int .i64 (tk toks s.pl).pos, .int .i64 (tk toks s.pl).fin] 42))); have K1 := hid' (K0.out.trans (KQ.of_below (hb1.alloc hb1.size (.cells #[.int .i64 5, .string (tk toks s.pl).text, .int .u32 (tk toks s.pl).num, .bool (tk toks s.pl).uns, .int .i64 (tk toks s.pl).pos, .int .i64 (tk toks s.pl).fin] 42)))); clear hb1)
    | (go_at_call 194; (with_reducible refine (leaf_agg 1 _ _ _ H1.out (by have := om HF; (try dsimp only); omega) (by have := om HF; (try dsimp only); omega) (by have := HF.out.done; (try dsimp only); omega)).mono ?_); rintro e w2 ⟨hk2, rfl, hR2⟩; have H2 := hid' hR2; have K2 := hid' (K1.out.trans hk2); clear hR2 hk2))
  first
    | (go_end0; exact ⟨K2.out, rfl, H2.out⟩)
    | exact bodyPost_ret (results_none rfl _ _ _) rfl ⟨K2.out, rfl, H2.out⟩

theorem primary135_chr {W : World} {B p : Nat} {toks : List Tk} {s : St} (h : RdS W B p toks s) (hf : Fine toks s) (hk : (tk toks s.pl).kind = 6)  :
    Calls Tryz.prog 135 #[.pointer (some ⟨p, 0, none⟩)] W (Res B p toks W (.ok { s with pl := s.pl + 1, done := s.done ++ [⟨⟨2, ⟨#[]⟩, (tk toks s.pl).num, false, (tk toks s.pl).pos⟩, [], (tk toks s.pl).pos⟩] })) := by
  have H0 := hid' h
  have HF := hid' hf
  have K0 := hid' (KQ.rfl B p W)
  have HTK := hid' (token_kind h hf.at_ hk)
  clear h hf hk
  go_enter Tryz.func135, Tryz.ntmps135
  go_wp2_with (first
    | (go_at_call 75; (with_reducible refine HTK.out.mono ?_); rintro e w1 ⟨rfl, hb1⟩; have H1 := hid' (H0.out.below (hb1.alloc hb1.size (.cells #[.int .i64 6, .string (tk toks s.pl).text, .int .u32 (tk toks s.pl).num, .bool (tk toks s.pl).uns, .int .i64 (tk toks s.pl).pos, .int .i64 (tk toks s.pl).fin] 42))); have K1 := hid' (K0.out.trans (KQ.of_below (hb1.alloc hb1.size (.cells #[.int .i64 6, .string (tk toks s.pl).text, .int .u32 (tk toks s.pl).num, .bool (tk toks s.pl).uns, .int .i64 (tk toks s.pl).pos, .int .i64 (tk toks s.pl).fin] 42)))); clear hb1)
    | (go_at_call 194; (with_reducible refine (leaf_agg 2 _ _ _ H1.out (by have := om HF; (try dsimp only); omega) (by have := om HF; (try dsimp only); omega) (by have := HF.out.done; (try dsimp only); omega)).mono ?_); rintro e w2 ⟨hk2, rfl, hR2⟩; have H2 := hid' hR2; have K2 := hid' (K1.out.trans hk2); clear hR2 hk2))
  first
    | (go_end0; exact ⟨K2.out, rfl, H2.out⟩)
    | exact bodyPost_ret (results_none rfl _ _ _) rfl ⟨K2.out, rfl, H2.out⟩

theorem primary135_str {W : World} {B p : Nat} {toks : List Tk} {s : St} (h : RdS W B p toks s) (hf : Fine toks s) (hk : (tk toks s.pl).kind = 7)  :
    Calls Tryz.prog 135 #[.pointer (some ⟨p, 0, none⟩)] W (Res B p toks W (.ok { s with pl := s.pl + 1, done := s.done ++ [⟨⟨3, (tk toks s.pl).text, 0, false, (tk toks s.pl).pos⟩, [], (tk toks s.pl).pos⟩] })) := by
  have H0 := hid' h
  have HF := hid' hf
  have K0 := hid' (KQ.rfl B p W)
  have HTK := hid' (token_kind h hf.at_ hk)
  clear h hf hk
  go_enter Tryz.func135, Tryz.ntmps135
  go_wp2_with (first
    | (go_at_call 75; (with_reducible refine HTK.out.mono ?_); rintro e w1 ⟨rfl, hb1⟩; have H1 := hid' (H0.out.below (hb1.alloc hb1.size (.cells #[.int .i64 7, .string (tk toks s.pl).text, .int .u32 (tk toks s.pl).num, .bool (tk toks s.pl).uns, .int .i64 (tk toks s.pl).pos, .int .i64 (tk toks s.pl).fin] 42))); have K1 := hid' (K0.out.trans (KQ.of_below (hb1.alloc hb1.size (.cells #[.int .i64 7, .string (tk toks s.pl).text, .int .u32 (tk toks s.pl).num, .bool (tk toks s.pl).uns, .int .i64 (tk toks s.pl).pos, .int .i64 (tk toks s.pl).fin] 42)))); clear hb1)
    | (go_at_call 194; (with_reducible refine (leaf_agg 3 _ _ _ H1.out (by have := om HF; (try dsimp only); omega) (by have := om HF; (try dsimp only); omega) (by have := HF.out.done; (try dsimp only); omega)).mono ?_); rintro e w2 ⟨hk2, rfl, hR2⟩; have H2 := hid' hR2; have K2 := hid' (K1.out.trans hk2); clear hR2 hk2))
  first
    | (go_end0; exact ⟨K2.out, rfl, H2.out⟩)
    | exact bodyPost_ret (results_none rfl _ _ _) rfl ⟨K2.out, rfl, H2.out⟩

theorem primary135_nam {W : World} {B p : Nat} {toks : List Tk} {s : St} {sx : ByteArray} (h : RdS W B p toks s) (hf : Fine toks s) (hk : (tk toks s.pl).kind = 2) (h1 : signAt toks (s.pl + 1) = sx) (q0 : (sx.toList == [40]) = false) :
    Calls Tryz.prog 135 #[.pointer (some ⟨p, 0, none⟩)] W (Res B p toks W (.ok { s with pl := s.pl + 1, done := s.done ++ [⟨⟨4, (tk toks s.pl).text, 0, false, (tk toks s.pl).pos⟩, [], (tk toks s.pl).pos⟩] })) := by
  have H0 := hid' h
  have HF := hid' hf
  have K0 := hid' (KQ.rfl B p W)
  have HTK := hid' (token_kind h hf.at_ hk)
  clear h hf hk
  go_enter Tryz.func135, Tryz.ntmps135
  go_wp2_with (first
    | (go_at_call 75; (with_reducible refine HTK.out.mono ?_); rintro e w1 ⟨rfl, hb1⟩; have H1 := hid' (H0.out.below (hb1.alloc hb1.size (.cells #[.int .i64 2, .string (tk toks s.pl).text, .int .u32 (tk toks s.pl).num, .bool (tk toks s.pl).uns, .int .i64 (tk toks s.pl).pos, .int .i64 (tk toks s.pl).fin] 42))); have K1 := hid' (K0.out.trans (KQ.of_below (hb1.alloc hb1.size (.cells #[.int .i64 2, .string (tk toks s.pl).text, .int .u32 (tk toks s.pl).num, .bool (tk toks s.pl).uns, .int .i64 (tk toks s.pl).pos, .int .i64 (tk toks s.pl).fin] 42)))); clear hb1)
    | (go_at_call 121; (with_reducible refine (ahead_1 H1.out h1 (by have := om HF; (try dsimp only); omega) (by have := om HF; (try dsimp only); omega)).mono ?_); rintro e w2 ⟨rfl, hb2⟩; have H2 := hid' (H1.out.below hb2); have K2 := hid' (K1.out.trans (KQ.of_below hb2)); have l1 : w2.cell? ⟨w1.heap.size, 1, none⟩ = some (.string (tk toks s.pl).text) := ((hb2.cell (p := ⟨w1.heap.size, 1, none⟩) (by simp)).trans (by simp [go_sem])); clear hb2)
    | (go_at_call 194; (with_reducible refine (leaf_agg 4 _ _ _ H2.out (by have := om HF; (try dsimp only); omega) (by have := om HF; (try dsimp only); omega) (by have := HF.out.done; (try dsimp only); omega)).mono ?_); rintro e w3 ⟨hk3, rfl, hR3⟩; have H3 := hid' hR3; have K3 := hid' (K2.out.trans hk3); clear hR3 hk3))
  first
    | (go_end0; exact ⟨K3.out, rfl, H3.out⟩)
    | exact bodyPost_ret (results_none rfl _ _ _) rfl ⟨K3.out, rfl, H3.out⟩

theorem primary135_call {W : World} {B p : Nat} {toks : List Tk} {s : St} {s2 : St} (h : RdS W B p toks s) (hf : Fine toks s) (hk : (tk toks s.pl).kind = 2) (hT : TokOk toks) (hn : s.pl + 1 < toks.length) (h1 : signAt toks (s.pl + 1) = ⟨#[40]⟩) (hc : callF toks s = .ok s2) :
    Calls Tryz.prog 135 #[.pointer (some ⟨p, 0, none⟩)] W (Res B p toks W (.ok s2)) := by
  have H0 := hid' h
  have HF := hid' hf
  have K0 := hid' (KQ.rfl B p W)
  have HTK := hid' (token_kind h hf.at_ hk)
  clear h hf hk
  go_enter Tryz.func135, Tryz.ntmps135
  go_wp2_with (first
    | (go_at_call 75; (with_reducible refine HTK.out.mono ?_); rintro e w1 ⟨rfl, hb1⟩; have H1 := hid' (H0.out.below (hb1.alloc hb1.size (.cells #[.int .i64 2, .string (tk toks s.pl).text, .int .u32 (tk toks s.pl).num, .bool (tk toks s.pl).uns, .int .i64 (tk toks s.pl).pos, .int .i64 (tk toks s.pl).fin] 42))); have K1 := hid' (K0.out.trans (KQ.of_below (hb1.alloc hb1.size (.cells #[.int .i64 2, .string (tk toks s.pl).text, .int .u32 (tk toks s.pl).num, .bool (tk toks s.pl).uns, .int .i64 (tk toks s.pl).pos, .int .i64 (tk toks s.pl).fin] 42)))); clear hb1)
    | (go_at_call 121; (with_reducible refine (ahead_1 H1.out h1 (by have := om HF; (try dsimp only); omega) (by have := om HF; (try dsimp only); omega)).mono ?_); rintro e w2 ⟨rfl, hb2⟩; have H2 := hid' (H1.out.below hb2); have K2 := hid' (K1.out.trans (KQ.of_below hb2)); have l1 : w2.cell? ⟨w1.heap.size, 1, none⟩ = some (.string (tk toks s.pl).text) := ((hb2.cell (p := ⟨w1.heap.size, 1, none⟩) (by simp)).trans (by simp [go_sem])); clear hb2)
    | (go_at_call 195; (with_reducible refine (call_ok H2.out HF.out hT hn hc).mono ?_); rintro e w3 ⟨hk3, rfl, hR3⟩; have H3 := hid' hR3; have K3 := hid' (K2.out.trans hk3); clear hR3 hk3))
  first
    | (go_end0; exact ⟨K3.out, rfl, H3.out⟩)
    | exact bodyPost_ret (results_none rfl _ _ _) rfl ⟨K3.out, rfl, H3.out⟩

theorem primary135_calle {W : World} {B p : Nat} {toks : List Tk} {s : St} {q : Int} (h : RdS W B p toks s) (hf : Fine toks s) (hk : (tk toks s.pl).kind = 2) (hT : TokOk toks) (hn : s.pl + 1 < toks.length) (h1 : signAt toks (s.pl + 1) = ⟨#[40]⟩) (hc : callF toks s = .error q) :
    Calls Tryz.prog 135 #[.pointer (some ⟨p, 0, none⟩)] W (Res B p toks W (.error q)) := by
  have H0 := hid' h
  have HF := hid' hf
  have K0 := hid' (KQ.rfl B p W)
  have HTK := hid' (token_kind h hf.at_ hk)
  clear h hf hk
  go_enter Tryz.func135, Tryz.ntmps135
  go_wp2_with (first
    | (go_at_call 75; (with_reducible refine HTK.out.mono ?_); rintro e w1 ⟨rfl, hb1⟩; have H1 := hid' (H0.out.below (hb1.alloc hb1.size (.cells #[.int .i64 2, .string (tk toks s.pl).text, .int .u32 (tk toks s.pl).num, .bool (tk toks s.pl).uns, .int .i64 (tk toks s.pl).pos, .int .i64 (tk toks s.pl).fin] 42))); have K1 := hid' (K0.out.trans (KQ.of_below (hb1.alloc hb1.size (.cells #[.int .i64 2, .string (tk toks s.pl).text, .int .u32 (tk toks s.pl).num, .bool (tk toks s.pl).uns, .int .i64 (tk toks s.pl).pos, .int .i64 (tk toks s.pl).fin] 42)))); clear hb1)
    | (go_at_call 121; (with_reducible refine (ahead_1 H1.out h1 (by have := om HF; (try dsimp only); omega) (by have := om HF; (try dsimp only); omega)).mono ?_); rintro e w2 ⟨rfl, hb2⟩; have H2 := hid' (H1.out.below hb2); have K2 := hid' (K1.out.trans (KQ.of_below hb2)); have l1 : w2.cell? ⟨w1.heap.size, 1, none⟩ = some (.string (tk toks s.pl).text) := ((hb2.cell (p := ⟨w1.heap.size, 1, none⟩) (by simp)).trans (by simp [go_sem])); clear hb2)
    | (go_at_call 195; (with_reducible refine (call_no H2.out HF.out hT hn hc).mono ?_); rintro e w3 ⟨hk3, rfl⟩; have K3 := hid' (K2.out.trans hk3); clear hk3))
  exact ⟨rfl, K3.out, rfl⟩

theorem primary135_wrong {W : World} {B p : Nat} {toks : List Tk} {s : St} {k : Int} (h : RdS W B p toks s) (hf : Fine toks s) (hk : (tk toks s.pl).kind = k) (e5 : (k == 5) = false) (e6 : (k == 6) = false) (e7 : (k == 7) = false) (e2 : (k == 2) = false) (g0 : ((tk toks s.pl).text.toList == [103, 101, 116, 98, 121, 116, 101]) = false) (g1 : ((tk toks s.pl).text.toList == [112, 117, 116, 98, 121, 116, 101]) = false) :
    Calls Tryz.prog 135 #[.pointer (some ⟨p, 0, none⟩)] W (Res B p toks W (.error (tk toks s.pl).pos)) := by
  have H0 := hid' h
  have HF := hid' hf
  have K0 := hid' (KQ.rfl B p W)
  have HTK := hid' (token_kind h hf.at_ hk)
  clear h hf hk
  go_enter Tryz.func135, Tryz.ntmps135
  go_wp2_with (first
    | (go_at_call 75; (with_reducible refine HTK.out.mono ?_); rintro e w1 ⟨rfl, hb1⟩; have H1 := hid' (H0.out.below (hb1.alloc hb1.size (.cells #[.int .i64 k, .string (tk toks s.pl).text, .int .u32 (tk toks s.pl).num, .bool (tk toks s.pl).uns, .int .i64 (tk toks s.pl).pos, .int .i64 (tk toks s.pl).fin] 42))); have K1 := hid' (K0.out.trans (KQ.of_below (hb1.alloc hb1.size (.cells #[.int .i64 k, .string (tk toks s.pl).text, .int .u32 (tk toks s.pl).num, .bool (tk toks s.pl).uns, .int .i64 (tk toks s.pl).pos, .int .i64 (tk toks s.pl).fin] 42)))); clear hb1)
    | (go_at_call 91; (with_reducible refine (wrong_is H1.out (by have := om HF; (try dsimp only); omega)).mono ?_); rintro e w2 ⟨hk2, rfl⟩; have K2 := hid' (K1.out.trans hk2); clear hk2))
  exact ⟨rfl, K2.out, rfl⟩

theorem primary135_get {W : World} {B p : Nat} {toks : List Tk} {s : St} {s2 : St} {k : Int} (h : RdS W B p toks s) (hf : Fine toks s) (hk : (tk toks s.pl).kind = k) (e5 : (k == 5) = false) (e6 : (k == 6) = false) (e7 : (k == 7) = false) (e2 : (k == 2) = false) (g0 : (tk toks s.pl).text = ⟨#[103, 101, 116, 98, 121, 116, 101]⟩) (hT : TokOk toks) (hn : s.pl + 1 < toks.length) (hc : callF toks s = .ok s2) :
    Calls Tryz.prog 135 #[.pointer (some ⟨p, 0, none⟩)] W (Res B p toks W (.ok s2)) := by
  have H0 := hid' h
  have HF := hid' hf
  have K0 := hid' (KQ.rfl B p W)
  have HTK := hid' (token_kt h hf.at_ hk g0)
  clear g0
  clear h hf hk
  go_enter Tryz.func135, Tryz.ntmps135
  go_wp2_with (first
    | (go_at_call 75; (with_reducible refine HTK.out.mono ?_); rintro e w1 ⟨rfl, hb1⟩; have H1 := hid' (H0.out.below (hb1.alloc hb1.size (.cells #[.int .i64 k, .string ⟨#[103, 101, 116, 98, 121, 116, 101]⟩, .int .u32 (tk toks s.pl).num, .bool (tk toks s.pl).uns, .int .i64 (tk toks s.pl).pos, .int .i64 (tk toks s.pl).fin] 42))); have K1 := hid' (K0.out.trans (KQ.of_below (hb1.alloc hb1.size (.cells #[.int .i64 k, .string ⟨#[103, 101, 116, 98, 121, 116, 101]⟩, .int .u32 (tk toks s.pl).num, .bool (tk toks s.pl).uns, .int .i64 (tk toks s.pl).pos, .int .i64 (tk toks s.pl).fin] 42)))); clear hb1)
    | (go_at_call 195; (with_reducible refine (call_ok H1.out HF.out hT hn hc).mono ?_); rintro e w2 ⟨hk2, rfl, hR2⟩; have H2 := hid' hR2; have K2 := hid' (K1.out.trans hk2); clear hR2 hk2))
  first
    | (go_end0; exact ⟨K2.out, rfl, H2.out⟩)
    | exact bodyPost_ret (results_none rfl _ _ _) rfl ⟨K2.out, rfl, H2.out⟩

theorem primary135_gete {W : World} {B p : Nat} {toks : List Tk} {s : St} {q : Int} {k : Int} (h : RdS W B p toks s) (hf : Fine toks s) (hk : (tk toks s.pl).kind = k) (e5 : (k == 5) = false) (e6 : (k == 6) = false) (e7 : (k == 7) = false) (e2 : (k == 2) = false) (g0 : (tk toks s.pl).text = ⟨#[103, 101, 116, 98, 121, 116, 101]⟩) (hT : TokOk toks) (hn : s.pl + 1 < toks.length) (hc : callF toks s = .error q) :
    Calls Tryz.prog 135 #[.pointer (some ⟨p, 0, none⟩)] W (Res B p toks W (.error q)) := by
  have H0 := hid' h
  have HF := hid' hf
  have K0 := hid' (KQ.rfl B p W)
  have HTK := hid' (token_kt h hf.at_ hk g0)
  clear g0
  clear h hf hk
  go_enter Tryz.func135, Tryz.ntmps135
  go_wp2_with (first
    | (go_at_call 75; (with_reducible refine HTK.out.mono ?_); rintro e w1 ⟨rfl, hb1⟩; have H1 := hid' (H0.out.below (hb1.alloc hb1.size (.cells #[.int .i64 k, .string ⟨#[103, 101, 116, 98, 121, 116, 101]⟩, .int .u32 (tk toks s.pl).num, .bool (tk toks s.pl).uns, .int .i64 (tk toks s.pl).pos, .int .i64 (tk toks s.pl).fin] 42))); have K1 := hid' (K0.out.trans (KQ.of_below (hb1.alloc hb1.size (.cells #[.int .i64 k, .string ⟨#[103, 101, 116, 98, 121, 116, 101]⟩, .int .u32 (tk toks s.pl).num, .bool (tk toks s.pl).uns, .int .i64 (tk toks s.pl).pos, .int .i64 (tk toks s.pl).fin] 42)))); clear hb1)
    | (go_at_call 195; (with_reducible refine (call_no H1.out HF.out hT hn hc).mono ?_); rintro e w2 ⟨hk2, rfl⟩; have K2 := hid' (K1.out.trans hk2); clear hk2))
  exact ⟨rfl, K2.out, rfl⟩

theorem primary135_put {W : World} {B p : Nat} {toks : List Tk} {s : St} {s2 : St} {k : Int} (h : RdS W B p toks s) (hf : Fine toks s) (hk : (tk toks s.pl).kind = k) (e5 : (k == 5) = false) (e6 : (k == 6) = false) (e7 : (k == 7) = false) (e2 : (k == 2) = false) (g0 : (tk toks s.pl).text = ⟨#[112, 117, 116, 98, 121, 116, 101]⟩) (hT : TokOk toks) (hn : s.pl + 1 < toks.length) (hc : callF toks s = .ok s2) :
    Calls Tryz.prog 135 #[.pointer (some ⟨p, 0, none⟩)] W (Res B p toks W (.ok s2)) := by
  have H0 := hid' h
  have HF := hid' hf
  have K0 := hid' (KQ.rfl B p W)
  have HTK := hid' (token_kt h hf.at_ hk g0)
  clear g0
  clear h hf hk
  go_enter Tryz.func135, Tryz.ntmps135
  go_wp2_with (first
    | (go_at_call 75; (with_reducible refine HTK.out.mono ?_); rintro e w1 ⟨rfl, hb1⟩; have H1 := hid' (H0.out.below (hb1.alloc hb1.size (.cells #[.int .i64 k, .string ⟨#[112, 117, 116, 98, 121, 116, 101]⟩, .int .u32 (tk toks s.pl).num, .bool (tk toks s.pl).uns, .int .i64 (tk toks s.pl).pos, .int .i64 (tk toks s.pl).fin] 42))); have K1 := hid' (K0.out.trans (KQ.of_below (hb1.alloc hb1.size (.cells #[.int .i64 k, .string ⟨#[112, 117, 116, 98, 121, 116, 101]⟩, .int .u32 (tk toks s.pl).num, .bool (tk toks s.pl).uns, .int .i64 (tk toks s.pl).pos, .int .i64 (tk toks s.pl).fin] 42)))); clear hb1)
    | (go_at_call 195; (with_reducible refine (call_ok H1.out HF.out hT hn hc).mono ?_); rintro e w2 ⟨hk2, rfl, hR2⟩; have H2 := hid' hR2; have K2 := hid' (K1.out.trans hk2); clear hR2 hk2))
  first
    | (go_end0; exact ⟨K2.out, rfl, H2.out⟩)
    | exact bodyPost_ret (results_none rfl _ _ _) rfl ⟨K2.out, rfl, H2.out⟩

theorem primary135_pute {W : World} {B p : Nat} {toks : List Tk} {s : St} {q : Int} {k : Int} (h : RdS W B p toks s) (hf : Fine toks s) (hk : (tk toks s.pl).kind = k) (e5 : (k == 5) = false) (e6 : (k == 6) = false) (e7 : (k == 7) = false) (e2 : (k == 2) = false) (g0 : (tk toks s.pl).text = ⟨#[112, 117, 116, 98, 121, 116, 101]⟩) (hT : TokOk toks) (hn : s.pl + 1 < toks.length) (hc : callF toks s = .error q) :
    Calls Tryz.prog 135 #[.pointer (some ⟨p, 0, none⟩)] W (Res B p toks W (.error q)) := by
  have H0 := hid' h
  have HF := hid' hf
  have K0 := hid' (KQ.rfl B p W)
  have HTK := hid' (token_kt h hf.at_ hk g0)
  clear g0
  clear h hf hk
  go_enter Tryz.func135, Tryz.ntmps135
  go_wp2_with (first
    | (go_at_call 75; (with_reducible refine HTK.out.mono ?_); rintro e w1 ⟨rfl, hb1⟩; have H1 := hid' (H0.out.below (hb1.alloc hb1.size (.cells #[.int .i64 k, .string ⟨#[112, 117, 116, 98, 121, 116, 101]⟩, .int .u32 (tk toks s.pl).num, .bool (tk toks s.pl).uns, .int .i64 (tk toks s.pl).pos, .int .i64 (tk toks s.pl).fin] 42))); have K1 := hid' (K0.out.trans (KQ.of_below (hb1.alloc hb1.size (.cells #[.int .i64 k, .string ⟨#[112, 117, 116, 98, 121, 116, 101]⟩, .int .u32 (tk toks s.pl).num, .bool (tk toks s.pl).uns, .int .i64 (tk toks s.pl).pos, .int .i64 (tk toks s.pl).fin] 42)))); clear hb1)
    | (go_at_call 195; (with_reducible refine (call_no H1.out HF.out hT hn hc).mono ?_); rintro e w2 ⟨hk2, rfl⟩; have K2 := hid' (K1.out.trans hk2); clear hk2))
  exact ⟨rfl, K2.out, rfl⟩
end Go.Proofs.YtjeioblhpfogfaaGreatDoor
namespace Go.Proofs.YtjeioblhpfogfaaGreatDoor
open Go.RowKit

def asgW (sx : ByteArray) : Bool := sx.toList == [61] || sx.toList == [43, 61] || sx.toList == [45, 61] || sx.toList == [42, 61] || sx.toList == [47, 61] || sx.toList == [37, 61] || sx.toList == [38, 61] || sx.toList == [124, 61] || sx.toList == [94, 61] || sx.toList == [60, 60, 61] || sx.toList == [62, 62, 61]
theorem isAssign89 (sx : ByteArray) (w : World) : Calls Tryz.prog 89 #[.string sx] w fun e w' => e = .returned (.bool (asgW sx)) ∧ Below w.heap.size w w' := by
  go_enter Tryz.func89, Tryz.ntmps89
  go_wp2
  all_goals
    first
      | (exfalso; simp_all; done)
      | (go_ret
         refine ⟨?_, Below.refl _ _⟩
         unfold asgW
         simp only [*]
         rfl)
def plK (k : Int) : Bool := k == 4 || k == 5 || k == 6 || k == 7
theorem isPlace90 (k : Int) (w : World) : Calls Tryz.prog 90 #[.int .i64 k] w fun e w' => e = .returned (.bool (plK k)) ∧ w' = w := by
  go_enter Tryz.func90, Tryz.ntmps90
  go_wp2
  all_goals
    first
      | (exfalso; simp_all; done)
      | (go_ret
         refine ⟨?_, rfl⟩
         unfold plK
         simp only [*]
         rfl)

theorem assignment49_n {W : World} {B p : Nat} {toks : List Tk} {s : St} {sx : ByteArray} (h : RdS W B p toks s) (hf : Fine toks s) (hq : signAt toks s.pl = sx) (q0 : asgW sx = false) :
    Calls Tryz.prog 49 #[.pointer (some ⟨p, 0, none⟩)] W (Res B p toks W (.ok s)) := by
  have H0 := hid' h
  have HF := hid' hf
  have K0 := hid' (KQ.rfl B p W)
  clear h hf
  go_enter Tryz.func49, Tryz.ntmps49
  go_wp2_with (first
    | (go_at_call 88; (with_reducible refine (sign_is H0.out hq (by have := HF.out.at_; have := HF.out.few; omega) (by have := HF.out.few; omega)).mono ?_); rintro e w1 ⟨rfl, hb1⟩; have H1 := hid' (H0.out.below hb1); have K1 := hid' (K0.out.trans (KQ.of_below hb1)); clear hb1)
    | (go_at_call 89; (with_reducible refine (isAssign89 _ _).mono ?_); rintro e w2 ⟨rfl, hb2⟩; have H2 := hid' (H1.out.below hb2); have K2 := hid' (K1.out.trans (KQ.of_below hb2)); clear hb2))
  first
    | (go_end0; exact ⟨K2.out, rfl, H2.out⟩)
    | exact bodyPost_ret (results_none rfl _ _ _) rfl ⟨K2.out, rfl, H2.out⟩
theorem assignment49_y {W : World} {B p : Nat} {toks : List Tk} {s : St} {sx : ByteArray} {l : List Dn} {d : Dn} (h : RdS W B p toks s) (hf : Fine toks s) (hq : signAt toks s.pl = sx) (q0 : asgW sx = true) (hd : s.done = l ++ [d]) (hpl : plK d.x.kind = true) :
    Calls Tryz.prog 49 #[.pointer (some ⟨p, 0, none⟩)] W (Res B p toks W (.ok { s with pl := s.pl + 1, todo := 24 :: 40 :: s.todo, begun := ⟨⟨13, sx, 0, false, d.start⟩, 0, l.length⟩ :: s.begun })) := by
  have H0 := hid' h
  have HF := hid' hf
  have HD := hid' hd
  have K0 := hid' (KQ.rfl B p W)
  have hlB : l.length ≤ 100000000 := by
    have := hf.done
    rw [hd, List.length_append] at this
    omega
  clear h hf hd
  go_enter Tryz.func49, Tryz.ntmps49
  go_wp2_with (first
    | (go_at_call 88; (with_reducible refine (sign_is H0.out hq (by have := HF.out.at_; have := HF.out.few; omega) (by have := HF.out.few; omega)).mono ?_); rintro e w1 ⟨rfl, hb1⟩; have H1 := hid' (H0.out.below hb1); have K1 := hid' (K0.out.trans (KQ.of_below hb1)); clear hb1)
    | (go_at_call 89; (with_reducible refine (isAssign89 _ _).mono ?_); rintro e w2 ⟨rfl, hb2⟩; have H2 := hid' (H1.out.below hb2); have K2 := hid' (K1.out.trans (KQ.of_below hb2)); clear hb2))
  obtain ⟨tv, ov, bv, dv, kvs, hR⟩ := H2.out
  obtain ⟨g, cap, rfl, hcap, hg, hown, e1, e2, hc, _⟩ := hR.parts HD.out (by simp)
  have hkd := (hc 0 (by simp) (by rw [e2]; simp)).1 0 _ rfl
  rw [Nat.zero_mul, Nat.zero_add, Nat.add_zero] at hkd
  simp only [List.getElem_cons_zero] at hkd
  simp only [List.length_singleton] at hR hcap
  obtain ⟨c0, c1, c2, c3, c4, hp⟩ := hR.cells
  have hw1 : IntKind.i64.wrap ((l.length : Int) + 1 - 1) = (l.length : Int) := by rw [Go.IntWalk.i64_in _ (by omega)]; omega
  have hw2 : IntKind.i64.wrap (l.length : Int) = (l.length : Int) := Go.IntWalk.i64_in _ (by omega)
  have h1 : (l.length : Int) < (l.length : Int) + 1 := by omega
  have h2 : (l.length : Int) + 1 - 1 = (l.length : Int) := by omega
  have HIP := isPlace90 d.x.kind
  clear hR hown e1 e2 hc c0 c1 c2 c3
  go_quiet (with_reducible exact Calls.quiet_of_same (HIP _))
  have H3 := hid' (H2.out.below (bdN (Below.refl w2.heap.size w2) nq))
  have K3 := hid' (K2.out.trans (KQ.of_below (bdN (Below.refl w2.heap.size w2) nq)))
  generalize w2.drewN nq = w3 at *
  clear c4 hkd
  go_wp2_with (first
    | (go_at_call 92; (with_reducible refine (beginOver92 _ _ H3.out HD.out (by have := HF.out.begun; omega) (by have := HF.out.done; omega)).mono ?_); rintro e w4 ⟨hk4, rfl, hR4⟩; have H4 := hid' hR4; have K4 := hid' (K3.out.trans hk4); clear hR4 hk4)
    | (go_at_call 93; (with_reducible refine (skip_is H4.out (by have := om HF; (try dsimp only); omega)).mono ?_); rintro e w5 ⟨hk5, rfl, hR5⟩; have H5 := hid' hR5; have K5 := hid' (K4.out.trans hk5); clear hR5 hk5)
    | (go_at_call 38; (with_reducible refine (then_2 _ _ H5.out (by have := HF.out.todo; (try dsimp only); omega)).mono ?_); rintro e w6 ⟨hk6, rfl, hR6⟩; have H6 := hid' hR6; have K6 := hid' (K5.out.trans hk6); clear hR6 hk6))
  go_end0
  exact ⟨K6.out, rfl, H6.out⟩
theorem assignment49_w {W : World} {B p : Nat} {toks : List Tk} {s : St} {sx : ByteArray} {l : List Dn} {d : Dn} (h : RdS W B p toks s) (hf : Fine toks s) (hq : signAt toks s.pl = sx) (q0 : asgW sx = true) (hd : s.done = l ++ [d]) (hpl : plK d.x.kind = false) :
    Calls Tryz.prog 49 #[.pointer (some ⟨p, 0, none⟩)] W (Res B p toks W (.error (tk toks s.pl).pos)) := by
  have H0 := hid' h
  have HF := hid' hf
  have HD := hid' hd
  have K0 := hid' (KQ.rfl B p W)
  have hlB : l.length ≤ 100000000 := by
    have := hf.done
    rw [hd, List.length_append] at this
    omega
  clear h hf hd
  go_enter Tryz.func49, Tryz.ntmps49
  go_wp2_with (first
    | (go_at_call 88; (with_reducible refine (sign_is H0.out hq (by have := HF.out.at_; have := HF.out.few; omega) (by have := HF.out.few; omega)).mono ?_); rintro e w1 ⟨rfl, hb1⟩; have H1 := hid' (H0.out.below hb1); have K1 := hid' (K0.out.trans (KQ.of_below hb1)); clear hb1)
    | (go_at_call 89; (with_reducible refine (isAssign89 _ _).mono ?_); rintro e w2 ⟨rfl, hb2⟩; have H2 := hid' (H1.out.below hb2); have K2 := hid' (K1.out.trans (KQ.of_below hb2)); clear hb2))
  obtain ⟨tv, ov, bv, dv, kvs, hR⟩ := H2.out
  obtain ⟨g, cap, rfl, hcap, hg, hown, e1, e2, hc, _⟩ := hR.parts HD.out (by simp)
  have hkd := (hc 0 (by simp) (by rw [e2]; simp)).1 0 _ rfl
  rw [Nat.zero_mul, Nat.zero_add, Nat.add_zero] at hkd
  simp only [List.getElem_cons_zero] at hkd
  simp only [List.length_singleton] at hR hcap
  obtain ⟨c0, c1, c2, c3, c4, hp⟩ := hR.cells
  have hw1 : IntKind.i64.wrap ((l.length : Int) + 1 - 1) = (l.length : Int) := by rw [Go.IntWalk.i64_in _ (by omega)]; omega
  have hw2 : IntKind.i64.wrap (l.length : Int) = (l.length : Int) := Go.IntWalk.i64_in _ (by omega)
  have h1 : (l.length : Int) < (l.length : Int) + 1 := by omega
  have h2 : (l.length : Int) + 1 - 1 = (l.length : Int) := by omega
  have HIP := isPlace90 d.x.kind
  clear hR hown e1 e2 hc c0 c1 c2 c3
  go_quiet (with_reducible exact Calls.quiet_of_same (HIP _))
  have H3 := hid' (H2.out.below (bdN (Below.refl w2.heap.size w2) nq))
  have K3 := hid' (K2.out.trans (KQ.of_below (bdN (Below.refl w2.heap.size w2) nq)))
  generalize w2.drewN nq = w3 at *
  clear c4 hkd
  go_wp2_with (first
    | (go_at_call 91; (with_reducible refine (wrong_is H3.out HF.out.at_).mono ?_); rintro e w4 ⟨hk4, rfl⟩; have K4 := hid' (K3.out.trans hk4); clear hk4))
  exact ⟨rfl, K4.out, rfl⟩
end Go.Proofs.YtjeioblhpfogfaaGreatDoor
