/- Steps: signs. -/
import Derived.Test.YtjeioblhpfogfaaGreatDoorX15
set_option linter.unusedVariables false
set_option linter.unusedSimpArgs false
set_option maxRecDepth 20000
set_option maxHeartbeats 8000000
namespace Go.Proofs.YtjeioblhpfogfaaGreatDoor
open Go.RowKit

theorem perhaps252_0 {W : World} {B p : Nat} {toks : List Tk} {s : St} (h : RdS W B p toks s) (hf : Fine toks s) (hq : signAt toks s.pl = ⟨#[59]⟩) :
    Calls Tryz.prog 252 #[.pointer (some ⟨p, 0, none⟩)] W (Res B p toks W (.ok { s with done := s.done ++ [⟨⟨56, ⟨#[]⟩, 0, false, (tk toks s.pl).pos⟩, [], (tk toks s.pl).pos⟩] })) := by
  have H0 := hid' h
  have HF := hid' hf
  have K0 := hid' (KQ.rfl B p W)
  clear h hf
  go_enter Tryz.func252, Tryz.ntmps252
  go_wp2_with (first
    | (go_at_call 88; (with_reducible refine (sign_is H0.out hq (by have := om HF; (try dsimp only); omega) (by have := om HF; (try dsimp only); omega)).mono ?_); rintro e w1 ⟨rfl, hb1⟩; have H1 := hid' (H0.out.below hb1); have K1 := hid' (K0.out.trans (KQ.of_below hb1)); clear hb1)
    | (go_at_call 264; (with_reducible refine (nothing_is H1.out (by have := om HF; (try dsimp only); omega) (by have := HF.out.done; (try dsimp only); omega)).mono ?_); rintro e w2 ⟨hk2, rfl, hR2⟩; have H2 := hid' hR2; have K2 := hid' (K1.out.trans hk2); clear hR2 hk2))
  first
    | (go_end0; exact ⟨K2.out, rfl, H2.out⟩)
    | exact bodyPost_ret (results_none rfl _ _ _) rfl ⟨K2.out, rfl, H2.out⟩

theorem perhaps252_1 {W : World} {B p : Nat} {toks : List Tk} {s : St} (h : RdS W B p toks s) (hf : Fine toks s) (hq : signAt toks s.pl = ⟨#[41]⟩) :
    Calls Tryz.prog 252 #[.pointer (some ⟨p, 0, none⟩)] W (Res B p toks W (.ok { s with done := s.done ++ [⟨⟨56, ⟨#[]⟩, 0, false, (tk toks s.pl).pos⟩, [], (tk toks s.pl).pos⟩] })) := by
  have H0 := hid' h
  have HF := hid' hf
  have K0 := hid' (KQ.rfl B p W)
  clear h hf
  go_enter Tryz.func252, Tryz.ntmps252
  go_wp2_with (first
    | (go_at_call 88; (with_reducible refine (sign_is H0.out hq (by have := om HF; (try dsimp only); omega) (by have := om HF; (try dsimp only); omega)).mono ?_); rintro e w1 ⟨rfl, hb1⟩; have H1 := hid' (H0.out.below hb1); have K1 := hid' (K0.out.trans (KQ.of_below hb1)); clear hb1)
    | (go_at_call 264; (with_reducible refine (nothing_is H1.out (by have := om HF; (try dsimp only); omega) (by have := HF.out.done; (try dsimp only); omega)).mono ?_); rintro e w2 ⟨hk2, rfl, hR2⟩; have H2 := hid' hR2; have K2 := hid' (K1.out.trans hk2); clear hR2 hk2))
  first
    | (go_end0; exact ⟨K2.out, rfl, H2.out⟩)
    | exact bodyPost_ret (results_none rfl _ _ _) rfl ⟨K2.out, rfl, H2.out⟩

theorem perhaps252_2 {W : World} {B p : Nat} {toks : List Tk} {s : St} (h : RdS W B p toks s) (hf : Fine toks s) (hq : signAt toks s.pl = ⟨#[93]⟩) :
    Calls Tryz.prog 252 #[.pointer (some ⟨p, 0, none⟩)] W (Res B p toks W (.ok { s with done := s.done ++ [⟨⟨56, ⟨#[]⟩, 0, false, (tk toks s.pl).pos⟩, [], (tk toks s.pl).pos⟩] })) := by
  have H0 := hid' h
  have HF := hid' hf
  have K0 := hid' (KQ.rfl B p W)
  clear h hf
  go_enter Tryz.func252, Tryz.ntmps252
  go_wp2_with (first
    | (go_at_call 88; (with_reducible refine (sign_is H0.out hq (by have := om HF; (try dsimp only); omega) (by have := om HF; (try dsimp only); omega)).mono ?_); rintro e w1 ⟨rfl, hb1⟩; have H1 := hid' (H0.out.below hb1); have K1 := hid' (K0.out.trans (KQ.of_below hb1)); clear hb1)
    | (go_at_call 264; (with_reducible refine (nothing_is H1.out (by have := om HF; (try dsimp only); omega) (by have := HF.out.done; (try dsimp only); omega)).mono ?_); rintro e w2 ⟨hk2, rfl, hR2⟩; have H2 := hid' hR2; have K2 := hid' (K1.out.trans hk2); clear hR2 hk2))
  first
    | (go_end0; exact ⟨K2.out, rfl, H2.out⟩)
    | exact bodyPost_ret (results_none rfl _ _ _) rfl ⟨K2.out, rfl, H2.out⟩

theorem perhaps252_n {W : World} {B p : Nat} {toks : List Tk} {s : St} {sx : ByteArray} (h : RdS W B p toks s) (hf : Fine toks s) (hq : signAt toks s.pl = sx) (q0 : (sx.toList == [59]) = false) (q1 : (sx.toList == [41]) = false) (q2 : (sx.toList == [93]) = false) :
    Calls Tryz.prog 252 #[.pointer (some ⟨p, 0, none⟩)] W (Res B p toks W (.ok { s with todo := 24 :: s.todo })) := by
  have H0 := hid' h
  have HF := hid' hf
  have K0 := hid' (KQ.rfl B p W)
  clear h hf
  go_enter Tryz.func252, Tryz.ntmps252
  go_wp2_with (first
    | (go_at_call 88; (with_reducible refine (sign_is H0.out hq (by have := om HF; (try dsimp only); omega) (by have := om HF; (try dsimp only); omega)).mono ?_); rintro e w1 ⟨rfl, hb1⟩; have H1 := hid' (H0.out.below hb1); have K1 := hid' (K0.out.trans (KQ.of_below hb1)); clear hb1)
    | (go_at_call 38; (with_reducible refine (then_1 _ H1.out (by have := HF.out.todo; (try dsimp only); (try simp only [List.length_cons]); omega)).mono ?_); rintro e w2 ⟨hk2, rfl, hR2⟩; have H2 := hid' hR2; have K2 := hid' (K1.out.trans hk2); clear hR2 hk2))
  first
    | (go_end0; exact ⟨K2.out, rfl, H2.out⟩)
    | exact bodyPost_ret (results_none rfl _ _ _) rfl ⟨K2.out, rfl, H2.out⟩

theorem otherwise284_y {W : World} {B p : Nat} {toks : List Tk} {s : St} (h : RdS W B p toks s) (hf : Fine toks s) (hq : signAt toks s.pl = ⟨#[101, 108, 115, 101]⟩) :
    Calls Tryz.prog 284 #[.pointer (some ⟨p, 0, none⟩)] W (Res B p toks W (.ok { s with pl := s.pl + 1, todo := 251 :: s.todo })) := by
  have H0 := hid' h
  have HF := hid' hf
  have K0 := hid' (KQ.rfl B p W)
  clear h hf
  go_enter Tryz.func284, Tryz.ntmps284
  go_wp2_with (first
    | (go_at_call 88; (with_reducible refine (sign_is H0.out hq (by have := om HF; (try dsimp only); omega) (by have := om HF; (try dsimp only); omega)).mono ?_); rintro e w1 ⟨rfl, hb1⟩; have H1 := hid' (H0.out.below hb1); have K1 := hid' (K0.out.trans (KQ.of_below hb1)); clear hb1)
    | (go_at_call 93; (with_reducible refine (skip_is H1.out (by have := om HF; (try dsimp only); omega)).mono ?_); rintro e w2 ⟨hk2, rfl, hR2⟩; have H2 := hid' hR2; have K2 := hid' (K1.out.trans hk2); clear hR2 hk2)
    | (go_at_call 38; (with_reducible refine (then_1 _ H2.out (by have := HF.out.todo; (try dsimp only); (try simp only [List.length_cons]); omega)).mono ?_); rintro e w3 ⟨hk3, rfl, hR3⟩; have H3 := hid' hR3; have K3 := hid' (K2.out.trans hk3); clear hR3 hk3))
  first
    | (go_end0; exact ⟨K3.out, rfl, H3.out⟩)
    | exact bodyPost_ret (results_none rfl _ _ _) rfl ⟨K3.out, rfl, H3.out⟩

theorem otherwise284_n {W : World} {B p : Nat} {toks : List Tk} {s : St} {sx : ByteArray} (h : RdS W B p toks s) (hf : Fine toks s) (hq : signAt toks s.pl = sx) (q0 : (sx.toList == [101, 108, 115, 101]) = false) :
    Calls Tryz.prog 284 #[.pointer (some ⟨p, 0, none⟩)] W (Res B p toks W (.ok s)) := by
  have H0 := hid' h
  have HF := hid' hf
  have K0 := hid' (KQ.rfl B p W)
  clear h hf
  go_enter Tryz.func284, Tryz.ntmps284
  go_wp2_with (first
    | (go_at_call 88; (with_reducible refine (sign_is H0.out hq (by have := om HF; (try dsimp only); omega) (by have := om HF; (try dsimp only); omega)).mono ?_); rintro e w1 ⟨rfl, hb1⟩; have H1 := hid' (H0.out.below hb1); have K1 := hid' (K0.out.trans (KQ.of_below hb1)); clear hb1))
  first
    | (go_end0; exact ⟨K1.out, rfl, H1.out⟩)
    | exact bodyPost_ret (results_none rfl _ _ _) rfl ⟨K1.out, rfl, H1.out⟩

theorem choice87_y {W : World} {B p : Nat} {toks : List Tk} {s : St} (h : RdS W B p toks s) (hf : Fine toks s) (hq : signAt toks s.pl = ⟨#[63]⟩) {l : List Dn} {d : Dn} (hd : s.done = l ++ [d]) :
    Calls Tryz.prog 87 #[.pointer (some ⟨p, 0, none⟩)] W (Res B p toks W (.ok { s with pl := s.pl + 1, todo := 24 :: 138 :: 48 :: 40 :: s.todo, begun := ⟨⟨12, ⟨#[]⟩, 0, false, d.start⟩, 0, l.length⟩ :: s.begun })) := by
  have H0 := hid' h
  have HF := hid' hf
  have K0 := hid' (KQ.rfl B p W)
  have HD := hid' hd
  clear hd
  clear h hf
  go_enter Tryz.func87, Tryz.ntmps87
  go_wp2_with (first
    | (go_at_call 88; (with_reducible refine (sign_is H0.out hq (by have := om HF; (try dsimp only); omega) (by have := om HF; (try dsimp only); omega)).mono ?_); rintro e w1 ⟨rfl, hb1⟩; have H1 := hid' (H0.out.below hb1); have K1 := hid' (K0.out.trans (KQ.of_below hb1)); clear hb1)
    | (go_at_call 92; (with_reducible refine (beginOver92 _ _ H1.out HD.out (by have := HF.out.begun; (try dsimp only); omega) (by have := HF.out.done; (try dsimp only); omega)).mono ?_); rintro e w2 ⟨hk2, rfl, hR2⟩; have H2 := hid' hR2; have K2 := hid' (K1.out.trans hk2); clear hR2 hk2)
    | (go_at_call 93; (with_reducible refine (skip_is H2.out (by have := om HF; (try dsimp only); omega)).mono ?_); rintro e w3 ⟨hk3, rfl, hR3⟩; have H3 := hid' hR3; have K3 := hid' (K2.out.trans hk3); clear hR3 hk3)
    | (go_at_call 38; (with_reducible refine (then_4 _ _ _ _ H3.out (by have := HF.out.todo; (try dsimp only); (try simp only [List.length_cons]); omega)).mono ?_); rintro e w4 ⟨hk4, rfl, hR4⟩; have H4 := hid' hR4; have K4 := hid' (K3.out.trans hk4); clear hR4 hk4))
  first
    | (go_end0; exact ⟨K4.out, rfl, H4.out⟩)
    | exact bodyPost_ret (results_none rfl _ _ _) rfl ⟨K4.out, rfl, H4.out⟩

theorem choice87_n {W : World} {B p : Nat} {toks : List Tk} {s : St} {sx : ByteArray} (h : RdS W B p toks s) (hf : Fine toks s) (hq : signAt toks s.pl = sx) (q0 : (sx.toList == [63]) = false) :
    Calls Tryz.prog 87 #[.pointer (some ⟨p, 0, none⟩)] W (Res B p toks W (.ok s)) := by
  have H0 := hid' h
  have HF := hid' hf
  have K0 := hid' (KQ.rfl B p W)
  clear h hf
  go_enter Tryz.func87, Tryz.ntmps87
  go_wp2_with (first
    | (go_at_call 88; (with_reducible refine (sign_is H0.out hq (by have := om HF; (try dsimp only); omega) (by have := om HF; (try dsimp only); omega)).mono ?_); rintro e w1 ⟨rfl, hb1⟩; have H1 := hid' (H0.out.below hb1); have K1 := hid' (K0.out.trans (KQ.of_below hb1)); clear hb1))
  first
    | (go_end0; exact ⟨K1.out, rfl, H1.out⟩)
    | exact bodyPost_ret (results_none rfl _ _ _) rfl ⟨K1.out, rfl, H1.out⟩

theorem postfix134_i {W : World} {B p : Nat} {toks : List Tk} {s : St} (h : RdS W B p toks s) (hf : Fine toks s) (hq : signAt toks s.pl = ⟨#[91]⟩) {l : List Dn} {d : Dn} (hd : s.done = l ++ [d]) :
    Calls Tryz.prog 134 #[.pointer (some ⟨p, 0, none⟩)] W (Res B p toks W (.ok { s with pl := s.pl + 1, todo := 24 :: 192 :: 40 :: 134 :: s.todo, begun := ⟨⟨5, ⟨#[]⟩, 0, false, d.start⟩, 0, l.length⟩ :: s.begun })) := by
  have H0 := hid' h
  have HF := hid' hf
  have K0 := hid' (KQ.rfl B p W)
  have HD := hid' hd
  clear hd
  clear h hf
  go_enter Tryz.func134, Tryz.ntmps134
  go_wp2_with (first
    | (go_at_call 88; (with_reducible refine (sign_is H0.out hq (by have := om HF; (try dsimp only); omega) (by have := om HF; (try dsimp only); omega)).mono ?_); rintro e w1 ⟨rfl, hb1⟩; have H1 := hid' (H0.out.below hb1); have K1 := hid' (K0.out.trans (KQ.of_below hb1)); clear hb1)
    | (go_at_call 92; (with_reducible refine (beginOver92 _ _ H1.out HD.out (by have := HF.out.begun; (try dsimp only); omega) (by have := HF.out.done; (try dsimp only); omega)).mono ?_); rintro e w2 ⟨hk2, rfl, hR2⟩; have H2 := hid' hR2; have K2 := hid' (K1.out.trans hk2); clear hR2 hk2)
    | (go_at_call 93; (with_reducible refine (skip_is H2.out (by have := om HF; (try dsimp only); omega)).mono ?_); rintro e w3 ⟨hk3, rfl, hR3⟩; have H3 := hid' hR3; have K3 := hid' (K2.out.trans hk3); clear hR3 hk3)
    | (go_at_call 38; (with_reducible refine (then_4 _ _ _ _ H3.out (by have := HF.out.todo; (try dsimp only); (try simp only [List.length_cons]); omega)).mono ?_); rintro e w4 ⟨hk4, rfl, hR4⟩; have H4 := hid' hR4; have K4 := hid' (K3.out.trans hk4); clear hR4 hk4))
  first
    | (go_end0; exact ⟨K4.out, rfl, H4.out⟩)
    | exact bodyPost_ret (results_none rfl _ _ _) rfl ⟨K4.out, rfl, H4.out⟩

theorem postfix134_n {W : World} {B p : Nat} {toks : List Tk} {s : St} {sx : ByteArray} (h : RdS W B p toks s) (hf : Fine toks s) (hq : signAt toks s.pl = sx) (q0 : (sx.toList == [91]) = false) (q1 : (sx.toList == [46]) = false) (q2 : (sx.toList == [45, 62]) = false) :
    Calls Tryz.prog 134 #[.pointer (some ⟨p, 0, none⟩)] W (Res B p toks W (.ok s)) := by
  have H0 := hid' h
  have HF := hid' hf
  have K0 := hid' (KQ.rfl B p W)
  clear h hf
  go_enter Tryz.func134, Tryz.ntmps134
  go_wp2_with (first
    | (go_at_call 88; (with_reducible refine (sign_is H0.out hq (by have := om HF; (try dsimp only); omega) (by have := om HF; (try dsimp only); omega)).mono ?_); rintro e w1 ⟨rfl, hb1⟩; have H1 := hid' (H0.out.below hb1); have K1 := hid' (K0.out.trans (KQ.of_below hb1)); clear hb1))
  first
    | (go_end0; exact ⟨K1.out, rfl, H1.out⟩)
    | exact bodyPost_ret (results_none rfl _ _ _) rfl ⟨K1.out, rfl, H1.out⟩

theorem measured130_n {W : World} {B p : Nat} {toks : List Tk} {s : St} {sx : ByteArray} (h : RdS W B p toks s) (hf : Fine toks s) (hq : signAt toks s.pl = sx) (q0 : (sx.toList == [40]) = false) :
    Calls Tryz.prog 130 #[.pointer (some ⟨p, 0, none⟩)] W (Res B p toks W (.ok { s with todo := 85 :: s.todo })) := by
  have H0 := hid' h
  have HF := hid' hf
  have K0 := hid' (KQ.rfl B p W)
  clear h hf
  go_enter Tryz.func130, Tryz.ntmps130
  go_wp2_with (first
    | (go_at_call 88; (with_reducible refine (sign_is H0.out hq (by have := om HF; (try dsimp only); omega) (by have := om HF; (try dsimp only); omega)).mono ?_); rintro e w1 ⟨rfl, hb1⟩; have H1 := hid' (H0.out.below hb1); have K1 := hid' (K0.out.trans (KQ.of_below hb1)); clear hb1)
    | (go_at_call 38; (with_reducible refine (then_1 _ H1.out (by have := HF.out.todo; (try dsimp only); (try simp only [List.length_cons]); omega)).mono ?_); rintro e w2 ⟨hk2, rfl, hR2⟩; have H2 := hid' hR2; have K2 := hid' (K1.out.trans hk2); clear hR2 hk2))
  first
    | (go_end0; exact ⟨K2.out, rfl, H2.out⟩)
    | exact bodyPost_ret (results_none rfl _ _ _) rfl ⟨K2.out, rfl, H2.out⟩

theorem measured130_m {W : World} {B p : Nat} {toks : List Tk} {s : St} {sx : ByteArray} (h : RdS W B p toks s) (hf : Fine toks s) (hq : signAt toks s.pl = ⟨#[40]⟩) (h1 : signAt toks (s.pl + 1) = sx) (q0 : tyWord sx = false) :
    Calls Tryz.prog 130 #[.pointer (some ⟨p, 0, none⟩)] W (Res B p toks W (.ok { s with todo := 85 :: s.todo })) := by
  have H0 := hid' h
  have HF := hid' hf
  have K0 := hid' (KQ.rfl B p W)
  clear h hf
  go_enter Tryz.func130, Tryz.ntmps130
  go_wp2_with (first
    | (go_at_call 88; (with_reducible refine (sign_is H0.out hq (by have := om HF; (try dsimp only); omega) (by have := om HF; (try dsimp only); omega)).mono ?_); rintro e w1 ⟨rfl, hb1⟩; have H1 := hid' (H0.out.below hb1); have K1 := hid' (K0.out.trans (KQ.of_below hb1)); clear hb1)
    | (go_at_call 121; (with_reducible refine (ahead_1 H1.out h1 (by have := om HF; (try dsimp only); omega) (by have := om HF; (try dsimp only); omega)).mono ?_); rintro e w2 ⟨rfl, hb2⟩; have H2 := hid' (H1.out.below hb2); have K2 := hid' (K1.out.trans (KQ.of_below hb2)); clear hb2)
    | (go_at_call 131; (with_reducible refine (isType131 _ _).mono ?_); rintro e w3 ⟨rfl, hb3⟩; have H3 := hid' (H2.out.below hb3); have K3 := hid' (K2.out.trans (KQ.of_below hb3)); clear hb3)
    | (go_at_call 38; (with_reducible refine (then_1 _ H3.out (by have := HF.out.todo; (try dsimp only); (try simp only [List.length_cons]); omega)).mono ?_); rintro e w4 ⟨hk4, rfl, hR4⟩; have H4 := hid' hR4; have K4 := hid' (K3.out.trans hk4); clear hR4 hk4))
  first
    | (go_end0; exact ⟨K4.out, rfl, H4.out⟩)
    | exact bodyPost_ret (results_none rfl _ _ _) rfl ⟨K4.out, rfl, H4.out⟩

theorem more225_y {W : World} {B p : Nat} {toks : List Tk} {s : St} (a b : Nat) (h : RdS W B p toks s) (hf : Fine toks s) (hq : signAt toks s.pl = ⟨#[44]⟩) :
    Calls Tryz.prog 225 #[.pointer (some ⟨p, 0, none⟩), .func (.func a) #[] #[], .func (.func b) #[] #[]] W (Res B p toks W (.ok { s with pl := s.pl + 1, todo := a :: b :: s.todo })) := by
  have H0 := hid' h
  have HF := hid' hf
  have K0 := hid' (KQ.rfl B p W)
  clear h hf
  go_enter Tryz.func225, Tryz.ntmps225
  go_wp2_with (first
    | (go_at_call 88; (with_reducible refine (sign_is H0.out hq (by have := om HF; (try dsimp only); omega) (by have := om HF; (try dsimp only); omega)).mono ?_); rintro e w1 ⟨rfl, hb1⟩; have H1 := hid' (H0.out.below hb1); have K1 := hid' (K0.out.trans (KQ.of_below hb1)); clear hb1)
    | (go_at_call 93; (with_reducible refine (skip_is H1.out (by have := om HF; (try dsimp only); omega)).mono ?_); rintro e w2 ⟨hk2, rfl, hR2⟩; have H2 := hid' hR2; have K2 := hid' (K1.out.trans hk2); clear hR2 hk2)
    | (go_at_call 38; (with_reducible refine (then_2 _ _ H2.out (by have := HF.out.todo; (try dsimp only); (try simp only [List.length_cons]); omega)).mono ?_); rintro e w3 ⟨hk3, rfl, hR3⟩; have H3 := hid' hR3; have K3 := hid' (K2.out.trans hk3); clear hR3 hk3))
  first
    | (go_end0; exact ⟨K3.out, rfl, H3.out⟩)
    | exact bodyPost_ret (results_none rfl _ _ _) rfl ⟨K3.out, rfl, H3.out⟩

theorem more225_n {W : World} {B p : Nat} {toks : List Tk} {s : St} (a b : Nat) {sx : ByteArray} (h : RdS W B p toks s) (hf : Fine toks s) (hq : signAt toks s.pl = sx) (q0 : (sx.toList == [44]) = false) :
    Calls Tryz.prog 225 #[.pointer (some ⟨p, 0, none⟩), .func (.func a) #[] #[], .func (.func b) #[] #[]] W (Res B p toks W (.ok s)) := by
  have H0 := hid' h
  have HF := hid' hf
  have K0 := hid' (KQ.rfl B p W)
  clear h hf
  go_enter Tryz.func225, Tryz.ntmps225
  go_wp2_with (first
    | (go_at_call 88; (with_reducible refine (sign_is H0.out hq (by have := om HF; (try dsimp only); omega) (by have := om HF; (try dsimp only); omega)).mono ?_); rintro e w1 ⟨rfl, hb1⟩; have H1 := hid' (H0.out.below hb1); have K1 := hid' (K0.out.trans (KQ.of_below hb1)); clear hb1))
  first
    | (go_end0; exact ⟨K1.out, rfl, H1.out⟩)
    | exact bodyPost_ret (results_none rfl _ _ _) rfl ⟨K1.out, rfl, H1.out⟩

theorem moreExpressions231_y {W : World} {B p : Nat} {toks : List Tk} {s : St} (h : RdS W B p toks s) (hf : Fine toks s) (hq : signAt toks s.pl = ⟨#[44]⟩) :
    Calls Tryz.prog 231 #[.pointer (some ⟨p, 0, none⟩)] W (Res B p toks W (.ok { s with pl := s.pl + 1, todo := 24 :: 231 :: s.todo })) := by
  have H0 := hid' h
  have HF := hid' hf
  have K0 := hid' (KQ.rfl B p W)
  clear h hf
  go_enter Tryz.func231, Tryz.ntmps231
  go_wp2_with (first
    | (go_at_call 225; (with_reducible refine (more225_y 24 231 H0.out HF.out hq).mono ?_); rintro e w1 ⟨hk1, rfl, hR1⟩; have H1 := hid' hR1; have K1 := hid' (K0.out.trans hk1); clear hR1 hk1))
  first
    | (go_end0; exact ⟨K1.out, rfl, H1.out⟩)
    | exact bodyPost_ret (results_none rfl _ _ _) rfl ⟨K1.out, rfl, H1.out⟩

theorem moreExpressions231_n {W : World} {B p : Nat} {toks : List Tk} {s : St} {sx : ByteArray} (h : RdS W B p toks s) (hf : Fine toks s) (hq : signAt toks s.pl = sx) (q0 : (sx.toList == [44]) = false) :
    Calls Tryz.prog 231 #[.pointer (some ⟨p, 0, none⟩)] W (Res B p toks W (.ok s)) := by
  have H0 := hid' h
  have HF := hid' hf
  have K0 := hid' (KQ.rfl B p W)
  clear h hf
  go_enter Tryz.func231, Tryz.ntmps231
  go_wp2_with (first
    | (go_at_call 225; (with_reducible refine (more225_n 24 231 H0.out HF.out hq q0).mono ?_); rintro e w1 ⟨hk1, rfl, hR1⟩; have H1 := hid' hR1; have K1 := hid' (K0.out.trans hk1); clear hR1 hk1))
  first
    | (go_end0; exact ⟨K1.out, rfl, H1.out⟩)
    | exact bodyPost_ret (results_none rfl _ _ _) rfl ⟨K1.out, rfl, H1.out⟩

theorem moreMembers222_y {W : World} {B p : Nat} {toks : List Tk} {s : St} (h : RdS W B p toks s) (hf : Fine toks s) (hq : signAt toks s.pl = ⟨#[44]⟩) :
    Calls Tryz.prog 222 #[.pointer (some ⟨p, 0, none⟩)] W (Res B p toks W (.ok { s with pl := s.pl + 1, todo := 221 :: 222 :: s.todo })) := by
  have H0 := hid' h
  have HF := hid' hf
  have K0 := hid' (KQ.rfl B p W)
  clear h hf
  go_enter Tryz.func222, Tryz.ntmps222
  go_wp2_with (first
    | (go_at_call 225; (with_reducible refine (more225_y 221 222 H0.out HF.out hq).mono ?_); rintro e w1 ⟨hk1, rfl, hR1⟩; have H1 := hid' hR1; have K1 := hid' (K0.out.trans hk1); clear hR1 hk1))
  first
    | (go_end0; exact ⟨K1.out, rfl, H1.out⟩)
    | exact bodyPost_ret (results_none rfl _ _ _) rfl ⟨K1.out, rfl, H1.out⟩

theorem moreMembers222_n {W : World} {B p : Nat} {toks : List Tk} {s : St} {sx : ByteArray} (h : RdS W B p toks s) (hf : Fine toks s) (hq : signAt toks s.pl = sx) (q0 : (sx.toList == [44]) = false) :
    Calls Tryz.prog 222 #[.pointer (some ⟨p, 0, none⟩)] W (Res B p toks W (.ok s)) := by
  have H0 := hid' h
  have HF := hid' hf
  have K0 := hid' (KQ.rfl B p W)
  clear h hf
  go_enter Tryz.func222, Tryz.ntmps222
  go_wp2_with (first
    | (go_at_call 225; (with_reducible refine (more225_n 221 222 H0.out HF.out hq q0).mono ?_); rintro e w1 ⟨hk1, rfl, hR1⟩; have H1 := hid' hR1; have K1 := hid' (K0.out.trans hk1); clear hR1 hk1))
  first
    | (go_end0; exact ⟨K1.out, rfl, H1.out⟩)
    | exact bodyPost_ret (results_none rfl _ _ _) rfl ⟨K1.out, rfl, H1.out⟩

theorem moreVariables189_y {W : World} {B p : Nat} {toks : List Tk} {s : St} (h : RdS W B p toks s) (hf : Fine toks s) (hq : signAt toks s.pl = ⟨#[44]⟩) :
    Calls Tryz.prog 189 #[.pointer (some ⟨p, 0, none⟩)] W (Res B p toks W (.ok { s with pl := s.pl + 1, todo := 188 :: 189 :: s.todo })) := by
  have H0 := hid' h
  have HF := hid' hf
  have K0 := hid' (KQ.rfl B p W)
  clear h hf
  go_enter Tryz.func189, Tryz.ntmps189
  go_wp2_with (first
    | (go_at_call 225; (with_reducible refine (more225_y 188 189 H0.out HF.out hq).mono ?_); rintro e w1 ⟨hk1, rfl, hR1⟩; have H1 := hid' hR1; have K1 := hid' (K0.out.trans hk1); clear hR1 hk1))
  first
    | (go_end0; exact ⟨K1.out, rfl, H1.out⟩)
    | exact bodyPost_ret (results_none rfl _ _ _) rfl ⟨K1.out, rfl, H1.out⟩
end Go.Proofs.YtjeioblhpfogfaaGreatDoor
