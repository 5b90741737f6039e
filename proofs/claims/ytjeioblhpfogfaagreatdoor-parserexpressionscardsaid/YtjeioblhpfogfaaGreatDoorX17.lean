/- Steps: signs, more. -/
import Derived.Test.YtjeioblhpfogfaaGreatDoorX15
import Derived.Test.YtjeioblhpfogfaaGreatDoorX16
set_option linter.unusedVariables false
set_option linter.unusedSimpArgs false
set_option maxRecDepth 20000
set_option maxHeartbeats 8000000
namespace Go.Proofs.YtjeioblhpfogfaaGreatDoor
open Go.RowKit

theorem moreVariables189_n {W : World} {B p : Nat} {toks : List Tk} {s : St} {sx : ByteArray} (h : RdS W B p toks s) (hf : Fine toks s) (hq : signAt toks s.pl = sx) (q0 : (sx.toList == [44]) = false) :
    Calls Tryz.prog 189 #[.pointer (some ⟨p, 0, none⟩)] W (Res B p toks W (.ok s)) := by
  have H0 := hid' h
  have HF := hid' hf
  have K0 := hid' (KQ.rfl B p W)
  clear h hf
  go_enter Tryz.func189, Tryz.ntmps189
  go_wp2_with (first
    | (go_at_call 225; (with_reducible refine (more225_n 188 189 H0.out HF.out hq q0).mono ?_); rintro e w1 ⟨hk1, rfl, hR1⟩; have H1 := hid' hR1; have K1 := hid' (K0.out.trans hk1); clear hR1 hk1))
  first
    | (go_end0; exact ⟨K1.out, rfl, H1.out⟩)
    | exact bodyPost_ret (results_none rfl _ _ _) rfl ⟨K1.out, rfl, H1.out⟩

theorem moreParameters187_y {W : World} {B p : Nat} {toks : List Tk} {s : St} (h : RdS W B p toks s) (hf : Fine toks s) (hq : signAt toks s.pl = ⟨#[44]⟩) :
    Calls Tryz.prog 187 #[.pointer (some ⟨p, 0, none⟩)] W (Res B p toks W (.ok { s with pl := s.pl + 1, todo := 186 :: 187 :: s.todo })) := by
  have H0 := hid' h
  have HF := hid' hf
  have K0 := hid' (KQ.rfl B p W)
  clear h hf
  go_enter Tryz.func187, Tryz.ntmps187
  go_wp2_with (first
    | (go_at_call 225; (with_reducible refine (more225_y 186 187 H0.out HF.out hq).mono ?_); rintro e w1 ⟨hk1, rfl, hR1⟩; have H1 := hid' hR1; have K1 := hid' (K0.out.trans hk1); clear hR1 hk1))
  first
    | (go_end0; exact ⟨K1.out, rfl, H1.out⟩)
    | exact bodyPost_ret (results_none rfl _ _ _) rfl ⟨K1.out, rfl, H1.out⟩

theorem moreParameters187_n {W : World} {B p : Nat} {toks : List Tk} {s : St} {sx : ByteArray} (h : RdS W B p toks s) (hf : Fine toks s) (hq : signAt toks s.pl = sx) (q0 : (sx.toList == [44]) = false) :
    Calls Tryz.prog 187 #[.pointer (some ⟨p, 0, none⟩)] W (Res B p toks W (.ok s)) := by
  have H0 := hid' h
  have HF := hid' hf
  have K0 := hid' (KQ.rfl B p W)
  clear h hf
  go_enter Tryz.func187, Tryz.ntmps187
  go_wp2_with (first
    | (go_at_call 225; (with_reducible refine (more225_n 186 187 H0.out HF.out hq q0).mono ?_); rintro e w1 ⟨hk1, rfl, hR1⟩; have H1 := hid' hR1; have K1 := hid' (K0.out.trans hk1); clear hR1 hk1))
  first
    | (go_end0; exact ⟨K1.out, rfl, H1.out⟩)
    | exact bodyPost_ret (results_none rfl _ _ _) rfl ⟨K1.out, rfl, H1.out⟩

theorem block185_y {W : World} {B p : Nat} {toks : List Tk} {s : St} (h : RdS W B p toks s) (hf : Fine toks s) (hq : signAt toks s.pl = ⟨#[123]⟩) :
    Calls Tryz.prog 185 #[.pointer (some ⟨p, 0, none⟩)] W (Res B p toks W (.ok { s with pl := s.pl + 1, todo := 223 :: 40 :: s.todo, begun := ⟨⟨47, ⟨#[]⟩, 0, false, (tk toks s.pl).pos⟩, 0, s.done.length⟩ :: s.begun })) := by
  have H0 := hid' h
  have HF := hid' hf
  have K0 := hid' (KQ.rfl B p W)
  clear h hf
  go_enter Tryz.func185, Tryz.ntmps185
  go_wp2_with (first
    | (go_at_call 128; (with_reducible refine (begin_is _ H0.out (by have := om HF; (try dsimp only); omega) (by have := HF.out.begun; (try dsimp only); omega)).mono ?_); rintro e w1 ⟨hk1, rfl, hR1⟩; have H1 := hid' hR1; have K1 := hid' (K0.out.trans hk1); clear hR1 hk1)
    | (go_at_call 179; (with_reducible refine (take_ok _ H1.out hq (by have := om HF; (try dsimp only); omega) (by have := om HF; (try dsimp only); omega)).mono ?_); rintro e w2 ⟨hk2, rfl, hR2⟩; have H2 := hid' hR2; have K2 := hid' (K1.out.trans hk2); clear hR2 hk2)
    | (go_at_call 38; (with_reducible refine (then_2 _ _ H2.out (by have := HF.out.todo; (try dsimp only); (try simp only [List.length_cons]); omega)).mono ?_); rintro e w3 ⟨hk3, rfl, hR3⟩; have H3 := hid' hR3; have K3 := hid' (K2.out.trans hk3); clear hR3 hk3))
  first
    | (go_end0; exact ⟨K3.out, rfl, H3.out⟩)
    | exact bodyPost_ret (results_none rfl _ _ _) rfl ⟨K3.out, rfl, H3.out⟩

theorem block185_n {W : World} {B p : Nat} {toks : List Tk} {s : St} (h : RdS W B p toks s) (hf : Fine toks s) (hq : ¬ signAt toks s.pl = ⟨#[123]⟩) :
    Calls Tryz.prog 185 #[.pointer (some ⟨p, 0, none⟩)] W (Res B p toks W (.error (tk toks s.pl).pos)) := by
  have H0 := hid' h
  have HF := hid' hf
  have K0 := hid' (KQ.rfl B p W)
  clear h hf
  go_enter Tryz.func185, Tryz.ntmps185
  go_wp2_with (first
    | (go_at_call 128; (with_reducible refine (begin_is _ H0.out (by have := om HF; (try dsimp only); omega) (by have := HF.out.begun; (try dsimp only); omega)).mono ?_); rintro e w1 ⟨hk1, rfl, hR1⟩; have H1 := hid' hR1; have K1 := hid' (K0.out.trans hk1); clear hR1 hk1)
    | (go_at_call 179; (with_reducible refine (take_no _ H1.out hq (by have := om HF; (try dsimp only); omega) (by have := om HF; (try dsimp only); omega)).mono ?_); rintro e w2 ⟨hk2, rfl⟩; have K2 := hid' (K1.out.trans hk2); clear hk2))
  exact ⟨rfl, K2.out, rfl⟩

theorem branch273_y {W : World} {B p : Nat} {toks : List Tk} {s : St} (h : RdS W B p toks s) (hf : Fine toks s) (hq : signAt toks s.pl = ⟨#[105, 102]⟩) :
    Calls Tryz.prog 273 #[.pointer (some ⟨p, 0, none⟩)] W (Res B p toks W (.ok { s with pl := s.pl + 1, todo := 283 :: 251 :: 284 :: 40 :: s.todo, begun := ⟨⟨49, ⟨#[]⟩, 0, false, (tk toks s.pl).pos⟩, 0, s.done.length⟩ :: s.begun })) := by
  have H0 := hid' h
  have HF := hid' hf
  have K0 := hid' (KQ.rfl B p W)
  clear h hf
  go_enter Tryz.func273, Tryz.ntmps273
  go_wp2_with (first
    | (go_at_call 128; (with_reducible refine (begin_is _ H0.out (by have := om HF; (try dsimp only); omega) (by have := HF.out.begun; (try dsimp only); omega)).mono ?_); rintro e w1 ⟨hk1, rfl, hR1⟩; have H1 := hid' hR1; have K1 := hid' (K0.out.trans hk1); clear hR1 hk1)
    | (go_at_call 179; (with_reducible refine (take_ok _ H1.out hq (by have := om HF; (try dsimp only); omega) (by have := om HF; (try dsimp only); omega)).mono ?_); rintro e w2 ⟨hk2, rfl, hR2⟩; have H2 := hid' hR2; have K2 := hid' (K1.out.trans hk2); clear hR2 hk2)
    | (go_at_call 38; (with_reducible refine (then_4 _ _ _ _ H2.out (by have := HF.out.todo; (try dsimp only); (try simp only [List.length_cons]); omega)).mono ?_); rintro e w3 ⟨hk3, rfl, hR3⟩; have H3 := hid' hR3; have K3 := hid' (K2.out.trans hk3); clear hR3 hk3))
  first
    | (go_end0; exact ⟨K3.out, rfl, H3.out⟩)
    | exact bodyPost_ret (results_none rfl _ _ _) rfl ⟨K3.out, rfl, H3.out⟩

theorem branch273_n {W : World} {B p : Nat} {toks : List Tk} {s : St} (h : RdS W B p toks s) (hf : Fine toks s) (hq : ¬ signAt toks s.pl = ⟨#[105, 102]⟩) :
    Calls Tryz.prog 273 #[.pointer (some ⟨p, 0, none⟩)] W (Res B p toks W (.error (tk toks s.pl).pos)) := by
  have H0 := hid' h
  have HF := hid' hf
  have K0 := hid' (KQ.rfl B p W)
  clear h hf
  go_enter Tryz.func273, Tryz.ntmps273
  go_wp2_with (first
    | (go_at_call 128; (with_reducible refine (begin_is _ H0.out (by have := om HF; (try dsimp only); omega) (by have := HF.out.begun; (try dsimp only); omega)).mono ?_); rintro e w1 ⟨hk1, rfl, hR1⟩; have H1 := hid' hR1; have K1 := hid' (K0.out.trans hk1); clear hR1 hk1)
    | (go_at_call 179; (with_reducible refine (take_no _ H1.out hq (by have := om HF; (try dsimp only); omega) (by have := om HF; (try dsimp only); omega)).mono ?_); rintro e w2 ⟨hk2, rfl⟩; have K2 := hid' (K1.out.trans hk2); clear hk2))
  exact ⟨rfl, K2.out, rfl⟩

theorem while274_y {W : World} {B p : Nat} {toks : List Tk} {s : St} (h : RdS W B p toks s) (hf : Fine toks s) (hq : signAt toks s.pl = ⟨#[119, 104, 105, 108, 101]⟩) :
    Calls Tryz.prog 274 #[.pointer (some ⟨p, 0, none⟩)] W (Res B p toks W (.ok { s with pl := s.pl + 1, todo := 283 :: 251 :: 40 :: s.todo, begun := ⟨⟨50, ⟨#[]⟩, 0, false, (tk toks s.pl).pos⟩, 0, s.done.length⟩ :: s.begun })) := by
  have H0 := hid' h
  have HF := hid' hf
  have K0 := hid' (KQ.rfl B p W)
  clear h hf
  go_enter Tryz.func274, Tryz.ntmps274
  go_wp2_with (first
    | (go_at_call 128; (with_reducible refine (begin_is _ H0.out (by have := om HF; (try dsimp only); omega) (by have := HF.out.begun; (try dsimp only); omega)).mono ?_); rintro e w1 ⟨hk1, rfl, hR1⟩; have H1 := hid' hR1; have K1 := hid' (K0.out.trans hk1); clear hR1 hk1)
    | (go_at_call 179; (with_reducible refine (take_ok _ H1.out hq (by have := om HF; (try dsimp only); omega) (by have := om HF; (try dsimp only); omega)).mono ?_); rintro e w2 ⟨hk2, rfl, hR2⟩; have H2 := hid' hR2; have K2 := hid' (K1.out.trans hk2); clear hR2 hk2)
    | (go_at_call 38; (with_reducible refine (then_3 _ _ _ H2.out (by have := HF.out.todo; (try dsimp only); (try simp only [List.length_cons]); omega)).mono ?_); rintro e w3 ⟨hk3, rfl, hR3⟩; have H3 := hid' hR3; have K3 := hid' (K2.out.trans hk3); clear hR3 hk3))
  first
    | (go_end0; exact ⟨K3.out, rfl, H3.out⟩)
    | exact bodyPost_ret (results_none rfl _ _ _) rfl ⟨K3.out, rfl, H3.out⟩

theorem while274_n {W : World} {B p : Nat} {toks : List Tk} {s : St} (h : RdS W B p toks s) (hf : Fine toks s) (hq : ¬ signAt toks s.pl = ⟨#[119, 104, 105, 108, 101]⟩) :
    Calls Tryz.prog 274 #[.pointer (some ⟨p, 0, none⟩)] W (Res B p toks W (.error (tk toks s.pl).pos)) := by
  have H0 := hid' h
  have HF := hid' hf
  have K0 := hid' (KQ.rfl B p W)
  clear h hf
  go_enter Tryz.func274, Tryz.ntmps274
  go_wp2_with (first
    | (go_at_call 128; (with_reducible refine (begin_is _ H0.out (by have := om HF; (try dsimp only); omega) (by have := HF.out.begun; (try dsimp only); omega)).mono ?_); rintro e w1 ⟨hk1, rfl, hR1⟩; have H1 := hid' hR1; have K1 := hid' (K0.out.trans hk1); clear hR1 hk1)
    | (go_at_call 179; (with_reducible refine (take_no _ H1.out hq (by have := om HF; (try dsimp only); omega) (by have := om HF; (try dsimp only); omega)).mono ?_); rintro e w2 ⟨hk2, rfl⟩; have K2 := hid' (K1.out.trans hk2); clear hk2))
  exact ⟨rfl, K2.out, rfl⟩

theorem do275_y {W : World} {B p : Nat} {toks : List Tk} {s : St} (h : RdS W B p toks s) (hf : Fine toks s) (hq : signAt toks s.pl = ⟨#[100, 111]⟩) :
    Calls Tryz.prog 275 #[.pointer (some ⟨p, 0, none⟩)] W (Res B p toks W (.ok { s with pl := s.pl + 1, todo := 251 :: 285 :: 182 :: 40 :: s.todo, begun := ⟨⟨51, ⟨#[]⟩, 0, false, (tk toks s.pl).pos⟩, 0, s.done.length⟩ :: s.begun })) := by
  have H0 := hid' h
  have HF := hid' hf
  have K0 := hid' (KQ.rfl B p W)
  clear h hf
  go_enter Tryz.func275, Tryz.ntmps275
  go_wp2_with (first
    | (go_at_call 128; (with_reducible refine (begin_is _ H0.out (by have := om HF; (try dsimp only); omega) (by have := HF.out.begun; (try dsimp only); omega)).mono ?_); rintro e w1 ⟨hk1, rfl, hR1⟩; have H1 := hid' hR1; have K1 := hid' (K0.out.trans hk1); clear hR1 hk1)
    | (go_at_call 179; (with_reducible refine (take_ok _ H1.out hq (by have := om HF; (try dsimp only); omega) (by have := om HF; (try dsimp only); omega)).mono ?_); rintro e w2 ⟨hk2, rfl, hR2⟩; have H2 := hid' hR2; have K2 := hid' (K1.out.trans hk2); clear hR2 hk2)
    | (go_at_call 38; (with_reducible refine (then_4 _ _ _ _ H2.out (by have := HF.out.todo; (try dsimp only); (try simp only [List.length_cons]); omega)).mono ?_); rintro e w3 ⟨hk3, rfl, hR3⟩; have H3 := hid' hR3; have K3 := hid' (K2.out.trans hk3); clear hR3 hk3))
  first
    | (go_end0; exact ⟨K3.out, rfl, H3.out⟩)
    | exact bodyPost_ret (results_none rfl _ _ _) rfl ⟨K3.out, rfl, H3.out⟩

theorem do275_n {W : World} {B p : Nat} {toks : List Tk} {s : St} (h : RdS W B p toks s) (hf : Fine toks s) (hq : ¬ signAt toks s.pl = ⟨#[100, 111]⟩) :
    Calls Tryz.prog 275 #[.pointer (some ⟨p, 0, none⟩)] W (Res B p toks W (.error (tk toks s.pl).pos)) := by
  have H0 := hid' h
  have HF := hid' hf
  have K0 := hid' (KQ.rfl B p W)
  clear h hf
  go_enter Tryz.func275, Tryz.ntmps275
  go_wp2_with (first
    | (go_at_call 128; (with_reducible refine (begin_is _ H0.out (by have := om HF; (try dsimp only); omega) (by have := HF.out.begun; (try dsimp only); omega)).mono ?_); rintro e w1 ⟨hk1, rfl, hR1⟩; have H1 := hid' hR1; have K1 := hid' (K0.out.trans hk1); clear hR1 hk1)
    | (go_at_call 179; (with_reducible refine (take_no _ H1.out hq (by have := om HF; (try dsimp only); omega) (by have := om HF; (try dsimp only); omega)).mono ?_); rintro e w2 ⟨hk2, rfl⟩; have K2 := hid' (K1.out.trans hk2); clear hk2))
  exact ⟨rfl, K2.out, rfl⟩

theorem list253_y {W : World} {B p : Nat} {toks : List Tk} {s : St} (h : RdS W B p toks s) (hf : Fine toks s) (hq : signAt toks s.pl = ⟨#[123]⟩) :
    Calls Tryz.prog 253 #[.pointer (some ⟨p, 0, none⟩)] W (Res B p toks W (.ok { s with pl := s.pl + 1, todo := 24 :: 231 :: 265 :: 40 :: s.todo, begun := ⟨⟨44, ⟨#[]⟩, 0, false, (tk toks s.pl).pos⟩, 0, s.done.length⟩ :: s.begun })) := by
  have H0 := hid' h
  have HF := hid' hf
  have K0 := hid' (KQ.rfl B p W)
  clear h hf
  go_enter Tryz.func253, Tryz.ntmps253
  go_wp2_with (first
    | (go_at_call 128; (with_reducible refine (begin_is _ H0.out (by have := om HF; (try dsimp only); omega) (by have := HF.out.begun; (try dsimp only); omega)).mono ?_); rintro e w1 ⟨hk1, rfl, hR1⟩; have H1 := hid' hR1; have K1 := hid' (K0.out.trans hk1); clear hR1 hk1)
    | (go_at_call 179; (with_reducible refine (take_ok _ H1.out hq (by have := om HF; (try dsimp only); omega) (by have := om HF; (try dsimp only); omega)).mono ?_); rintro e w2 ⟨hk2, rfl, hR2⟩; have H2 := hid' hR2; have K2 := hid' (K1.out.trans hk2); clear hR2 hk2)
    | (go_at_call 38; (with_reducible refine (then_4 _ _ _ _ H2.out (by have := HF.out.todo; (try dsimp only); (try simp only [List.length_cons]); omega)).mono ?_); rintro e w3 ⟨hk3, rfl, hR3⟩; have H3 := hid' hR3; have K3 := hid' (K2.out.trans hk3); clear hR3 hk3))
  first
    | (go_end0; exact ⟨K3.out, rfl, H3.out⟩)
    | exact bodyPost_ret (results_none rfl _ _ _) rfl ⟨K3.out, rfl, H3.out⟩

theorem list253_n {W : World} {B p : Nat} {toks : List Tk} {s : St} (h : RdS W B p toks s) (hf : Fine toks s) (hq : ¬ signAt toks s.pl = ⟨#[123]⟩) :
    Calls Tryz.prog 253 #[.pointer (some ⟨p, 0, none⟩)] W (Res B p toks W (.error (tk toks s.pl).pos)) := by
  have H0 := hid' h
  have HF := hid' hf
  have K0 := hid' (KQ.rfl B p W)
  clear h hf
  go_enter Tryz.func253, Tryz.ntmps253
  go_wp2_with (first
    | (go_at_call 128; (with_reducible refine (begin_is _ H0.out (by have := om HF; (try dsimp only); omega) (by have := HF.out.begun; (try dsimp only); omega)).mono ?_); rintro e w1 ⟨hk1, rfl, hR1⟩; have H1 := hid' hR1; have K1 := hid' (K0.out.trans hk1); clear hR1 hk1)
    | (go_at_call 179; (with_reducible refine (take_no _ H1.out hq (by have := om HF; (try dsimp only); omega) (by have := om HF; (try dsimp only); omega)).mono ?_); rintro e w2 ⟨hk2, rfl⟩; have K2 := hid' (K1.out.trans hk2); clear hk2))
  exact ⟨rfl, K2.out, rfl⟩

theorem eval280 {W : World} {B p : Nat} {toks : List Tk} {s : St} (h : RdS W B p toks s) (hf : Fine toks s)  :
    Calls Tryz.prog 280 #[.pointer (some ⟨p, 0, none⟩)] W (Res B p toks W (.ok { s with todo := 24 :: 182 :: 40 :: s.todo, begun := ⟨⟨48, ⟨#[]⟩, 0, false, (tk toks s.pl).pos⟩, 0, s.done.length⟩ :: s.begun })) := by
  have H0 := hid' h
  have HF := hid' hf
  have K0 := hid' (KQ.rfl B p W)
  clear h hf
  go_enter Tryz.func280, Tryz.ntmps280
  go_wp2_with (first
    | (go_at_call 128; (with_reducible refine (begin_is _ H0.out (by have := om HF; (try dsimp only); omega) (by have := HF.out.begun; (try dsimp only); omega)).mono ?_); rintro e w1 ⟨hk1, rfl, hR1⟩; have H1 := hid' hR1; have K1 := hid' (K0.out.trans hk1); clear hR1 hk1)
    | (go_at_call 38; (with_reducible refine (then_3 _ _ _ H1.out (by have := HF.out.todo; (try dsimp only); (try simp only [List.length_cons]); omega)).mono ?_); rintro e w2 ⟨hk2, rfl, hR2⟩; have H2 := hid' hR2; have K2 := hid' (K1.out.trans hk2); clear hR2 hk2))
  first
    | (go_end0; exact ⟨K2.out, rfl, H2.out⟩)
    | exact bodyPost_ret (results_none rfl _ _ _) rfl ⟨K2.out, rfl, H2.out⟩

theorem test283_y {W : World} {B p : Nat} {toks : List Tk} {s : St} (h : RdS W B p toks s) (hf : Fine1 toks s) (hq : signAt toks s.pl = ⟨#[40]⟩) :
    Calls Tryz.prog 283 #[.pointer (some ⟨p, 0, none⟩)] W (Res B p toks W (.ok { s with pl := s.pl + 1, todo := 24 :: 184 :: s.todo })) := by
  have H0 := hid' h
  have HF := hid' hf
  have K0 := hid' (KQ.rfl B p W)
  clear h hf
  go_enter Tryz.func283, Tryz.ntmps283
  go_wp2_with (first
    | (go_at_call 179; (with_reducible refine (take_ok _ H0.out hq (by have := HF.out.at_; have := HF.out.few; (try dsimp only); omega) (by have := HF.out.at_; have := HF.out.few; (try dsimp only); omega)).mono ?_); rintro e w1 ⟨hk1, rfl, hR1⟩; have H1 := hid' hR1; have K1 := hid' (K0.out.trans hk1); clear hR1 hk1)
    | (go_at_call 38; (with_reducible refine (then_2 _ _ H1.out (by have := HF.out.todo; (try dsimp only); (try simp only [List.length_cons]); omega)).mono ?_); rintro e w2 ⟨hk2, rfl, hR2⟩; have H2 := hid' hR2; have K2 := hid' (K1.out.trans hk2); clear hR2 hk2))
  first
    | (go_end0; exact ⟨K2.out, rfl, H2.out⟩)
    | exact bodyPost_ret (results_none rfl _ _ _) rfl ⟨K2.out, rfl, H2.out⟩

theorem test283_n {W : World} {B p : Nat} {toks : List Tk} {s : St} (h : RdS W B p toks s) (hf : Fine1 toks s) (hq : ¬ signAt toks s.pl = ⟨#[40]⟩) :
    Calls Tryz.prog 283 #[.pointer (some ⟨p, 0, none⟩)] W (Res B p toks W (.error (tk toks s.pl).pos)) := by
  have H0 := hid' h
  have HF := hid' hf
  have K0 := hid' (KQ.rfl B p W)
  clear h hf
  go_enter Tryz.func283, Tryz.ntmps283
  go_wp2_with (first
    | (go_at_call 179; (with_reducible refine (take_no _ H0.out hq (by have := HF.out.at_; have := HF.out.few; (try dsimp only); omega) (by have := HF.out.at_; have := HF.out.few; (try dsimp only); omega)).mono ?_); rintro e w1 ⟨hk1, rfl⟩; have K1 := hid' (K0.out.trans hk1); clear hk1))
  exact ⟨rfl, K1.out, rfl⟩

theorem parens133 {W : World} {B p : Nat} {toks : List Tk} {s : St} (h : RdS W B p toks s) (hf : Fine toks s)  :
    Calls Tryz.prog 133 #[.pointer (some ⟨p, 0, none⟩)] W (Res B p toks W (.ok { s with pl := s.pl + 1, todo := 24 :: 184 :: 191 :: s.todo, begun := ⟨⟨0, ⟨#[]⟩, 0, false, (tk toks s.pl).pos⟩, 0, s.done.length⟩ :: s.begun })) := by
  have H0 := hid' h
  have HF := hid' hf
  have K0 := hid' (KQ.rfl B p W)
  clear h hf
  go_enter Tryz.func133, Tryz.ntmps133
  go_wp2_with (first
    | (go_at_call 128; (with_reducible refine (begin_is _ H0.out (by have := om HF; (try dsimp only); omega) (by have := HF.out.begun; (try dsimp only); omega)).mono ?_); rintro e w1 ⟨hk1, rfl, hR1⟩; have H1 := hid' hR1; have K1 := hid' (K0.out.trans hk1); clear hR1 hk1)
    | (go_at_call 93; (with_reducible refine (skip_is H1.out (by have := om HF; (try dsimp only); omega)).mono ?_); rintro e w2 ⟨hk2, rfl, hR2⟩; have H2 := hid' hR2; have K2 := hid' (K1.out.trans hk2); clear hR2 hk2)
    | (go_at_call 38; (with_reducible refine (then_3 _ _ _ H2.out (by have := HF.out.todo; (try dsimp only); (try simp only [List.length_cons]); omega)).mono ?_); rintro e w3 ⟨hk3, rfl, hR3⟩; have H3 := hid' hR3; have K3 := hid' (K2.out.trans hk3); clear hR3 hk3))
  first
    | (go_end0; exact ⟨K3.out, rfl, H3.out⟩)
    | exact bodyPost_ret (results_none rfl _ _ _) rfl ⟨K3.out, rfl, H3.out⟩

theorem inBlock223_e {W : World} {B p : Nat} {toks : List Tk} {s : St} (h : RdS W B p toks s) (hf : Fine toks s) (hq : signAt toks s.pl = ⟨#[125]⟩) :
    Calls Tryz.prog 223 #[.pointer (some ⟨p, 0, none⟩)] W (Res B p toks W (.ok { s with pl := s.pl + 1 })) := by
  have H0 := hid' h
  have HF := hid' hf
  have K0 := hid' (KQ.rfl B p W)
  clear h hf
  go_enter Tryz.func223, Tryz.ntmps223
  go_wp2_with (first
    | (go_at_call 88; (with_reducible refine (sign_is H0.out hq (by have := om HF; (try dsimp only); omega) (by have := om HF; (try dsimp only); omega)).mono ?_); rintro e w1 ⟨rfl, hb1⟩; have H1 := hid' (H0.out.below hb1); have K1 := hid' (K0.out.trans (KQ.of_below hb1)); clear hb1)
    | (go_at_call 93; (with_reducible refine (skip_is H1.out (by have := om HF; (try dsimp only); omega)).mono ?_); rintro e w2 ⟨hk2, rfl, hR2⟩; have H2 := hid' hR2; have K2 := hid' (K1.out.trans hk2); clear hR2 hk2))
  first
    | (go_end0; exact ⟨K2.out, rfl, H2.out⟩)
    | exact bodyPost_ret (results_none rfl _ _ _) rfl ⟨K2.out, rfl, H2.out⟩

theorem inBlock223_t {W : World} {B p : Nat} {toks : List Tk} {s : St} {sx : ByteArray} (h : RdS W B p toks s) (hf : Fine toks s) (hq : signAt toks s.pl = sx) (q0 : (sx.toList == [125]) = false) (q1 : tyWord sx = true) :
    Calls Tryz.prog 223 #[.pointer (some ⟨p, 0, none⟩)] W (Res B p toks W (.ok { s with todo := 124 :: 223 :: s.todo })) := by
  have H0 := hid' h
  have HF := hid' hf
  have K0 := hid' (KQ.rfl B p W)
  clear h hf
  go_enter Tryz.func223, Tryz.ntmps223
  go_wp2_with (first
    | (go_at_call 88; (with_reducible refine (sign_is H0.out hq (by have := om HF; (try dsimp only); omega) (by have := om HF; (try dsimp only); omega)).mono ?_); rintro e w1 ⟨rfl, hb1⟩; have H1 := hid' (H0.out.below hb1); have K1 := hid' (K0.out.trans (KQ.of_below hb1)); clear hb1)
    | (go_at_call 131; (with_reducible refine (isType131 _ _).mono ?_); rintro e w2 ⟨rfl, hb2⟩; have H2 := hid' (H1.out.below hb2); have K2 := hid' (K1.out.trans (KQ.of_below hb2)); clear hb2)
    | (go_at_call 38; (with_reducible refine (then_2 _ _ H2.out (by have := HF.out.todo; (try dsimp only); (try simp only [List.length_cons]); omega)).mono ?_); rintro e w3 ⟨hk3, rfl, hR3⟩; have H3 := hid' hR3; have K3 := hid' (K2.out.trans hk3); clear hR3 hk3))
  first
    | (go_end0; exact ⟨K3.out, rfl, H3.out⟩)
    | exact bodyPost_ret (results_none rfl _ _ _) rfl ⟨K3.out, rfl, H3.out⟩

theorem inBlock223_s {W : World} {B p : Nat} {toks : List Tk} {s : St} {sx : ByteArray} (h : RdS W B p toks s) (hf : Fine toks s) (hq : signAt toks s.pl = sx) (q0 : (sx.toList == [125]) = false) (q1 : tyWord sx = false) :
    Calls Tryz.prog 223 #[.pointer (some ⟨p, 0, none⟩)] W (Res B p toks W (.ok { s with todo := 251 :: 223 :: s.todo })) := by
  have H0 := hid' h
  have HF := hid' hf
  have K0 := hid' (KQ.rfl B p W)
  clear h hf
  go_enter Tryz.func223, Tryz.ntmps223
  go_wp2_with (first
    | (go_at_call 88; (with_reducible refine (sign_is H0.out hq (by have := om HF; (try dsimp only); omega) (by have := om HF; (try dsimp only); omega)).mono ?_); rintro e w1 ⟨rfl, hb1⟩; have H1 := hid' (H0.out.below hb1); have K1 := hid' (K0.out.trans (KQ.of_below hb1)); clear hb1)
    | (go_at_call 131; (with_reducible refine (isType131 _ _).mono ?_); rintro e w2 ⟨rfl, hb2⟩; have H2 := hid' (H1.out.below hb2); have K2 := hid' (K1.out.trans (KQ.of_below hb2)); clear hb2)
    | (go_at_call 38; (with_reducible refine (then_2 _ _ H2.out (by have := HF.out.todo; (try dsimp only); (try simp only [List.length_cons]); omega)).mono ?_); rintro e w3 ⟨hk3, rfl, hR3⟩; have H3 := hid' hR3; have K3 := hid' (K2.out.trans hk3); clear hR3 hk3))
  first
    | (go_end0; exact ⟨K3.out, rfl, H3.out⟩)
    | exact bodyPost_ret (results_none rfl _ _ _) rfl ⟨K3.out, rfl, H3.out⟩
end Go.Proofs.YtjeioblhpfogfaaGreatDoor
