/- Steps: unary, named, record, call. -/
import Derived.Test.YtjeioblhpfogfaaGreatDoorX17
import Derived.Test.YtjeioblhpfogfaaGreatDoorX19
set_option linter.unusedVariables false
set_option linter.unusedSimpArgs false
set_option maxRecDepth 20000
set_option maxHeartbeats 8000000
namespace Go.Proofs.YtjeioblhpfogfaaGreatDoor
open Go.RowKit

theorem unary85_45 {W : World} {B p : Nat} {toks : List Tk} {s : St} (h : RdS W B p toks s) (hf : Fine toks s) (hq : signAt toks s.pl = ⟨#[45]⟩) :
    Calls Tryz.prog 85 #[.pointer (some ⟨p, 0, none⟩)] W (Res B p toks W (.ok { s with pl := s.pl + 1, todo := 85 :: 40 :: s.todo, begun := ⟨⟨9, ⟨#[45]⟩, 0, false, (tk toks s.pl).pos⟩, 0, s.done.length⟩ :: s.begun })) := by
  have H0 := hid' h
  have HF := hid' hf
  have K0 := hid' (KQ.rfl B p W)
  clear h hf
  go_enter Tryz.func85, Tryz.ntmps85
  go_wp2_with (first
    | (go_at_call 88; (with_reducible refine (sign_is H0.out hq (by have := om HF; (try dsimp only); omega) (by have := om HF; (try dsimp only); omega)).mono ?_); rintro e w1 ⟨rfl, hb1⟩; have H1 := hid' (H0.out.below hb1); have K1 := hid' (K0.out.trans (KQ.of_below hb1)); clear hb1)
    | (go_at_call 128; (with_reducible refine (begin_is _ H1.out (by have := om HF; (try dsimp only); omega) (by have := HF.out.begun; (try dsimp only); omega)).mono ?_); rintro e w2 ⟨hk2, rfl, hR2⟩; have H2 := hid' hR2; have K2 := hid' (K1.out.trans hk2); clear hR2 hk2)
    | (go_at_call 129; (with_reducible refine (top_is H2.out rfl (by have := HF.out.begun; (try dsimp only); omega)).mono ?_); rintro e w3 ⟨g, o, rfl, hb3, hT3⟩; have T3 := hid' hT3; have H3 := hid' hT3.rd; have K3 := hid' (K2.out.trans (KQ.of_below hb3)); clear hb3 hT3; obtain ⟨a0, a1, a2, a3, a6, af, al⟩ := T3.out.cells rfl; have z1 := af (o + 1); have z2 := af (o + 2); have z3 := af (o + 3); clear af a0 a6))
  obtain ⟨hT4, hk4⟩ := T3.out.set (j := 1) (v := .string ⟨#[45]⟩) (b' := ⟨⟨9, ⟨#[45]⟩, 0, false, (tk toks s.pl).pos⟩, 0, s.done.length⟩) rfl (by decide) rfl
  have T4 := hid' hT4
  have H4 := hid' hT4.rd
  have K4 := hid' (K3.out.trans hk4)
  clear hT4 hk4 a1 a2 a3 z1 z2 z3 al
  generalize w3.setCell ⟨g, o + 1, none⟩ (.string ⟨#[45]⟩) = w4 at *
  obtain ⟨a0, a1, a2, a3, a6, af, al⟩ := T4.out.cells rfl
  have z1 := af (o + 1)
  have z2 := af (o + 2)
  have z3 := af (o + 3)
  clear af a0 a6
  go_wp2_with (first
    | (go_at_call 93; (with_reducible refine (skipT T4.out (by have := om HF; (try dsimp only); omega)).mono ?_); rintro e w5 ⟨rfl, hT5, hk5⟩; have T5 := hid' hT5; have H5 := hid' hT5.rd; have K5 := hid' (K4.out.trans hk5); clear hT5 hk5; (try clear a1 a2 a3 z1 z2 z3 al); obtain ⟨a0, a1, a2, a3, a6, af, al⟩ := T5.out.cells rfl; have z1 := af (o + 1); have z2 := af (o + 2); have z3 := af (o + 3); clear af a0 a6)
    | (go_at_call 38; (with_reducible refine (then_2 _ _ H5.out (by have := HF.out.todo; (try dsimp only); (try simp only [List.length_cons]); omega)).mono ?_); rintro e w6 ⟨hk6, rfl, hR6⟩; have H6 := hid' hR6; have K6 := hid' (K5.out.trans hk6); clear hR6 hk6))
  first
    | (go_end0; exact ⟨K6.out, rfl, H6.out⟩)
    | exact bodyPost_ret (results_none rfl _ _ _) rfl ⟨K6.out, rfl, H6.out⟩

theorem unary85_126 {W : World} {B p : Nat} {toks : List Tk} {s : St} (h : RdS W B p toks s) (hf : Fine toks s) (hq : signAt toks s.pl = ⟨#[126]⟩) :
    Calls Tryz.prog 85 #[.pointer (some ⟨p, 0, none⟩)] W (Res B p toks W (.ok { s with pl := s.pl + 1, todo := 85 :: 40 :: s.todo, begun := ⟨⟨9, ⟨#[126]⟩, 0, false, (tk toks s.pl).pos⟩, 0, s.done.length⟩ :: s.begun })) := by
  have H0 := hid' h
  have HF := hid' hf
  have K0 := hid' (KQ.rfl B p W)
  clear h hf
  go_enter Tryz.func85, Tryz.ntmps85
  go_wp2_with (first
    | (go_at_call 88; (with_reducible refine (sign_is H0.out hq (by have := om HF; (try dsimp only); omega) (by have := om HF; (try dsimp only); omega)).mono ?_); rintro e w1 ⟨rfl, hb1⟩; have H1 := hid' (H0.out.below hb1); have K1 := hid' (K0.out.trans (KQ.of_below hb1)); clear hb1)
    | (go_at_call 128; (with_reducible refine (begin_is _ H1.out (by have := om HF; (try dsimp only); omega) (by have := HF.out.begun; (try dsimp only); omega)).mono ?_); rintro e w2 ⟨hk2, rfl, hR2⟩; have H2 := hid' hR2; have K2 := hid' (K1.out.trans hk2); clear hR2 hk2)
    | (go_at_call 129; (with_reducible refine (top_is H2.out rfl (by have := HF.out.begun; (try dsimp only); omega)).mono ?_); rintro e w3 ⟨g, o, rfl, hb3, hT3⟩; have T3 := hid' hT3; have H3 := hid' hT3.rd; have K3 := hid' (K2.out.trans (KQ.of_below hb3)); clear hb3 hT3; obtain ⟨a0, a1, a2, a3, a6, af, al⟩ := T3.out.cells rfl; have z1 := af (o + 1); have z2 := af (o + 2); have z3 := af (o + 3); clear af a0 a6))
  obtain ⟨hT4, hk4⟩ := T3.out.set (j := 1) (v := .string ⟨#[126]⟩) (b' := ⟨⟨9, ⟨#[126]⟩, 0, false, (tk toks s.pl).pos⟩, 0, s.done.length⟩) rfl (by decide) rfl
  have T4 := hid' hT4
  have H4 := hid' hT4.rd
  have K4 := hid' (K3.out.trans hk4)
  clear hT4 hk4 a1 a2 a3 z1 z2 z3 al
  generalize w3.setCell ⟨g, o + 1, none⟩ (.string ⟨#[126]⟩) = w4 at *
  obtain ⟨a0, a1, a2, a3, a6, af, al⟩ := T4.out.cells rfl
  have z1 := af (o + 1)
  have z2 := af (o + 2)
  have z3 := af (o + 3)
  clear af a0 a6
  go_wp2_with (first
    | (go_at_call 93; (with_reducible refine (skipT T4.out (by have := om HF; (try dsimp only); omega)).mono ?_); rintro e w5 ⟨rfl, hT5, hk5⟩; have T5 := hid' hT5; have H5 := hid' hT5.rd; have K5 := hid' (K4.out.trans hk5); clear hT5 hk5; (try clear a1 a2 a3 z1 z2 z3 al); obtain ⟨a0, a1, a2, a3, a6, af, al⟩ := T5.out.cells rfl; have z1 := af (o + 1); have z2 := af (o + 2); have z3 := af (o + 3); clear af a0 a6)
    | (go_at_call 38; (with_reducible refine (then_2 _ _ H5.out (by have := HF.out.todo; (try dsimp only); (try simp only [List.length_cons]); omega)).mono ?_); rintro e w6 ⟨hk6, rfl, hR6⟩; have H6 := hid' hR6; have K6 := hid' (K5.out.trans hk6); clear hR6 hk6))
  first
    | (go_end0; exact ⟨K6.out, rfl, H6.out⟩)
    | exact bodyPost_ret (results_none rfl _ _ _) rfl ⟨K6.out, rfl, H6.out⟩

theorem unary85_33 {W : World} {B p : Nat} {toks : List Tk} {s : St} (h : RdS W B p toks s) (hf : Fine toks s) (hq : signAt toks s.pl = ⟨#[33]⟩) :
    Calls Tryz.prog 85 #[.pointer (some ⟨p, 0, none⟩)] W (Res B p toks W (.ok { s with pl := s.pl + 1, todo := 85 :: 40 :: s.todo, begun := ⟨⟨9, ⟨#[33]⟩, 0, false, (tk toks s.pl).pos⟩, 0, s.done.length⟩ :: s.begun })) := by
  have H0 := hid' h
  have HF := hid' hf
  have K0 := hid' (KQ.rfl B p W)
  clear h hf
  go_enter Tryz.func85, Tryz.ntmps85
  go_wp2_with (first
    | (go_at_call 88; (with_reducible refine (sign_is H0.out hq (by have := om HF; (try dsimp only); omega) (by have := om HF; (try dsimp only); omega)).mono ?_); rintro e w1 ⟨rfl, hb1⟩; have H1 := hid' (H0.out.below hb1); have K1 := hid' (K0.out.trans (KQ.of_below hb1)); clear hb1)
    | (go_at_call 128; (with_reducible refine (begin_is _ H1.out (by have := om HF; (try dsimp only); omega) (by have := HF.out.begun; (try dsimp only); omega)).mono ?_); rintro e w2 ⟨hk2, rfl, hR2⟩; have H2 := hid' hR2; have K2 := hid' (K1.out.trans hk2); clear hR2 hk2)
    | (go_at_call 129; (with_reducible refine (top_is H2.out rfl (by have := HF.out.begun; (try dsimp only); omega)).mono ?_); rintro e w3 ⟨g, o, rfl, hb3, hT3⟩; have T3 := hid' hT3; have H3 := hid' hT3.rd; have K3 := hid' (K2.out.trans (KQ.of_below hb3)); clear hb3 hT3; obtain ⟨a0, a1, a2, a3, a6, af, al⟩ := T3.out.cells rfl; have z1 := af (o + 1); have z2 := af (o + 2); have z3 := af (o + 3); clear af a0 a6))
  obtain ⟨hT4, hk4⟩ := T3.out.set (j := 1) (v := .string ⟨#[33]⟩) (b' := ⟨⟨9, ⟨#[33]⟩, 0, false, (tk toks s.pl).pos⟩, 0, s.done.length⟩) rfl (by decide) rfl
  have T4 := hid' hT4
  have H4 := hid' hT4.rd
  have K4 := hid' (K3.out.trans hk4)
  clear hT4 hk4 a1 a2 a3 z1 z2 z3 al
  generalize w3.setCell ⟨g, o + 1, none⟩ (.string ⟨#[33]⟩) = w4 at *
  obtain ⟨a0, a1, a2, a3, a6, af, al⟩ := T4.out.cells rfl
  have z1 := af (o + 1)
  have z2 := af (o + 2)
  have z3 := af (o + 3)
  clear af a0 a6
  go_wp2_with (first
    | (go_at_call 93; (with_reducible refine (skipT T4.out (by have := om HF; (try dsimp only); omega)).mono ?_); rintro e w5 ⟨rfl, hT5, hk5⟩; have T5 := hid' hT5; have H5 := hid' hT5.rd; have K5 := hid' (K4.out.trans hk5); clear hT5 hk5; (try clear a1 a2 a3 z1 z2 z3 al); obtain ⟨a0, a1, a2, a3, a6, af, al⟩ := T5.out.cells rfl; have z1 := af (o + 1); have z2 := af (o + 2); have z3 := af (o + 3); clear af a0 a6)
    | (go_at_call 38; (with_reducible refine (then_2 _ _ H5.out (by have := HF.out.todo; (try dsimp only); (try simp only [List.length_cons]); omega)).mono ?_); rintro e w6 ⟨hk6, rfl, hR6⟩; have H6 := hid' hR6; have K6 := hid' (K5.out.trans hk6); clear hR6 hk6))
  first
    | (go_end0; exact ⟨K6.out, rfl, H6.out⟩)
    | exact bodyPost_ret (results_none rfl _ _ _) rfl ⟨K6.out, rfl, H6.out⟩

theorem unary85_38 {W : World} {B p : Nat} {toks : List Tk} {s : St} (h : RdS W B p toks s) (hf : Fine toks s) (hq : signAt toks s.pl = ⟨#[38]⟩) :
    Calls Tryz.prog 85 #[.pointer (some ⟨p, 0, none⟩)] W (Res B p toks W (.ok { s with pl := s.pl + 1, todo := 85 :: 40 :: s.todo, begun := ⟨⟨9, ⟨#[38]⟩, 0, false, (tk toks s.pl).pos⟩, 0, s.done.length⟩ :: s.begun })) := by
  have H0 := hid' h
  have HF := hid' hf
  have K0 := hid' (KQ.rfl B p W)
  clear h hf
  go_enter Tryz.func85, Tryz.ntmps85
  go_wp2_with (first
    | (go_at_call 88; (with_reducible refine (sign_is H0.out hq (by have := om HF; (try dsimp only); omega) (by have := om HF; (try dsimp only); omega)).mono ?_); rintro e w1 ⟨rfl, hb1⟩; have H1 := hid' (H0.out.below hb1); have K1 := hid' (K0.out.trans (KQ.of_below hb1)); clear hb1)
    | (go_at_call 128; (with_reducible refine (begin_is _ H1.out (by have := om HF; (try dsimp only); omega) (by have := HF.out.begun; (try dsimp only); omega)).mono ?_); rintro e w2 ⟨hk2, rfl, hR2⟩; have H2 := hid' hR2; have K2 := hid' (K1.out.trans hk2); clear hR2 hk2)
    | (go_at_call 129; (with_reducible refine (top_is H2.out rfl (by have := HF.out.begun; (try dsimp only); omega)).mono ?_); rintro e w3 ⟨g, o, rfl, hb3, hT3⟩; have T3 := hid' hT3; have H3 := hid' hT3.rd; have K3 := hid' (K2.out.trans (KQ.of_below hb3)); clear hb3 hT3; obtain ⟨a0, a1, a2, a3, a6, af, al⟩ := T3.out.cells rfl; have z1 := af (o + 1); have z2 := af (o + 2); have z3 := af (o + 3); clear af a0 a6))
  obtain ⟨hT4, hk4⟩ := T3.out.set (j := 1) (v := .string ⟨#[38]⟩) (b' := ⟨⟨9, ⟨#[38]⟩, 0, false, (tk toks s.pl).pos⟩, 0, s.done.length⟩) rfl (by decide) rfl
  have T4 := hid' hT4
  have H4 := hid' hT4.rd
  have K4 := hid' (K3.out.trans hk4)
  clear hT4 hk4 a1 a2 a3 z1 z2 z3 al
  generalize w3.setCell ⟨g, o + 1, none⟩ (.string ⟨#[38]⟩) = w4 at *
  obtain ⟨a0, a1, a2, a3, a6, af, al⟩ := T4.out.cells rfl
  have z1 := af (o + 1)
  have z2 := af (o + 2)
  have z3 := af (o + 3)
  clear af a0 a6
  go_wp2_with (first
    | (go_at_call 93; (with_reducible refine (skipT T4.out (by have := om HF; (try dsimp only); omega)).mono ?_); rintro e w5 ⟨rfl, hT5, hk5⟩; have T5 := hid' hT5; have H5 := hid' hT5.rd; have K5 := hid' (K4.out.trans hk5); clear hT5 hk5; (try clear a1 a2 a3 z1 z2 z3 al); obtain ⟨a0, a1, a2, a3, a6, af, al⟩ := T5.out.cells rfl; have z1 := af (o + 1); have z2 := af (o + 2); have z3 := af (o + 3); clear af a0 a6)
    | (go_at_call 38; (with_reducible refine (then_2 _ _ H5.out (by have := HF.out.todo; (try dsimp only); (try simp only [List.length_cons]); omega)).mono ?_); rintro e w6 ⟨hk6, rfl, hR6⟩; have H6 := hid' hR6; have K6 := hid' (K5.out.trans hk6); clear hR6 hk6))
  first
    | (go_end0; exact ⟨K6.out, rfl, H6.out⟩)
    | exact bodyPost_ret (results_none rfl _ _ _) rfl ⟨K6.out, rfl, H6.out⟩

theorem unary85_sizeof {W : World} {B p : Nat} {toks : List Tk} {s : St} (h : RdS W B p toks s) (hf : Fine toks s) (hq : signAt toks s.pl = ⟨#[115, 105, 122, 101, 111, 102]⟩) :
    Calls Tryz.prog 85 #[.pointer (some ⟨p, 0, none⟩)] W (Res B p toks W (.ok { s with pl := s.pl + 1, todo := 130 :: 40 :: s.todo, begun := ⟨⟨15, ⟨#[]⟩, 0, false, (tk toks s.pl).pos⟩, 0, s.done.length⟩ :: s.begun })) := by
  have H0 := hid' h
  have HF := hid' hf
  have K0 := hid' (KQ.rfl B p W)
  clear h hf
  go_enter Tryz.func85, Tryz.ntmps85
  go_wp2_with (first
    | (go_at_call 88; (with_reducible refine (sign_is H0.out hq (by have := om HF; (try dsimp only); omega) (by have := om HF; (try dsimp only); omega)).mono ?_); rintro e w1 ⟨rfl, hb1⟩; have H1 := hid' (H0.out.below hb1); have K1 := hid' (K0.out.trans (KQ.of_below hb1)); clear hb1)
    | (go_at_call 128; (with_reducible refine (begin_is _ H1.out (by have := om HF; (try dsimp only); omega) (by have := HF.out.begun; (try dsimp only); omega)).mono ?_); rintro e w2 ⟨hk2, rfl, hR2⟩; have H2 := hid' hR2; have K2 := hid' (K1.out.trans hk2); clear hR2 hk2)
    | (go_at_call 93; (with_reducible refine (skip_is H2.out (by have := om HF; (try dsimp only); omega)).mono ?_); rintro e w3 ⟨hk3, rfl, hR3⟩; have H3 := hid' hR3; have K3 := hid' (K2.out.trans hk3); clear hR3 hk3)
    | (go_at_call 38; (with_reducible refine (then_2 _ _ H3.out (by have := HF.out.todo; (try dsimp only); (try simp only [List.length_cons]); omega)).mono ?_); rintro e w4 ⟨hk4, rfl, hR4⟩; have H4 := hid' hR4; have K4 := hid' (K3.out.trans hk4); clear hR4 hk4))
  first
    | (go_end0; exact ⟨K4.out, rfl, H4.out⟩)
    | exact bodyPost_ret (results_none rfl _ _ _) rfl ⟨K4.out, rfl, H4.out⟩

theorem unary85_parens {W : World} {B p : Nat} {toks : List Tk} {s : St} {sx : ByteArray} (h : RdS W B p toks s) (hf : Fine toks s) (hq : signAt toks s.pl = ⟨#[40]⟩) (h1 : signAt toks (s.pl + 1) = sx) (q0 : tyWord sx = false) :
    Calls Tryz.prog 85 #[.pointer (some ⟨p, 0, none⟩)] W (Res B p toks W (.ok { s with todo := 133 :: 134 :: s.todo })) := by
  have H0 := hid' h
  have HF := hid' hf
  have K0 := hid' (KQ.rfl B p W)
  clear h hf
  go_enter Tryz.func85, Tryz.ntmps85
  go_wp2_with (first
    | (go_at_call 88; (with_reducible refine (sign_is H0.out hq (by have := om HF; (try dsimp only); omega) (by have := om HF; (try dsimp only); omega)).mono ?_); rintro e w1 ⟨rfl, hb1⟩; have H1 := hid' (H0.out.below hb1); have K1 := hid' (K0.out.trans (KQ.of_below hb1)); clear hb1)
    | (go_at_call 121; (with_reducible refine (ahead_1 H1.out h1 (by have := om HF; (try dsimp only); omega) (by have := om HF; (try dsimp only); omega)).mono ?_); rintro e w2 ⟨rfl, hb2⟩; have H2 := hid' (H1.out.below hb2); have K2 := hid' (K1.out.trans (KQ.of_below hb2)); clear hb2)
    | (go_at_call 131; (with_reducible refine (isType131 _ _).mono ?_); rintro e w3 ⟨rfl, hb3⟩; have H3 := hid' (H2.out.below hb3); have K3 := hid' (K2.out.trans (KQ.of_below hb3)); clear hb3)
    | (go_at_call 38; (with_reducible refine (then_2 _ _ H3.out (by have := HF.out.todo; (try dsimp only); (try simp only [List.length_cons]); omega)).mono ?_); rintro e w4 ⟨hk4, rfl, hR4⟩; have H4 := hid' hR4; have K4 := hid' (K3.out.trans hk4); clear hR4 hk4))
  first
    | (go_end0; exact ⟨K4.out, rfl, H4.out⟩)
    | exact bodyPost_ret (results_none rfl _ _ _) rfl ⟨K4.out, rfl, H4.out⟩

theorem unary85_n {W : World} {B p : Nat} {toks : List Tk} {s : St} {sx : ByteArray} (h : RdS W B p toks s) (hf : Fine toks s) (hq : signAt toks s.pl = sx) (q0 : (sx.toList == [45]) = false) (q1 : (sx.toList == [126]) = false) (q2 : (sx.toList == [33]) = false) (q3 : (sx.toList == [38]) = false) (q4 : (sx.toList == [115, 105, 122, 101, 111, 102]) = false) (q5 : (sx.toList == [40]) = false) :
    Calls Tryz.prog 85 #[.pointer (some ⟨p, 0, none⟩)] W (Res B p toks W (.ok { s with todo := 135 :: 134 :: s.todo })) := by
  have H0 := hid' h
  have HF := hid' hf
  have K0 := hid' (KQ.rfl B p W)
  clear h hf
  go_enter Tryz.func85, Tryz.ntmps85
  go_wp2_with (first
    | (go_at_call 88; (with_reducible refine (sign_is H0.out hq (by have := om HF; (try dsimp only); omega) (by have := om HF; (try dsimp only); omega)).mono ?_); rintro e w1 ⟨rfl, hb1⟩; have H1 := hid' (H0.out.below hb1); have K1 := hid' (K0.out.trans (KQ.of_below hb1)); clear hb1)
    | (go_at_call 38; (with_reducible refine (then_2 _ _ H1.out (by have := HF.out.todo; (try dsimp only); (try simp only [List.length_cons]); omega)).mono ?_); rintro e w2 ⟨hk2, rfl, hR2⟩; have H2 := hid' hR2; have K2 := hid' (K1.out.trans hk2); clear hR2 hk2))
  first
    | (go_end0; exact ⟨K2.out, rfl, H2.out⟩)
    | exact bodyPost_ret (results_none rfl _ _ _) rfl ⟨K2.out, rfl, H2.out⟩

theorem named226_n {W : World} {B p : Nat} {toks : List Tk} {s : St} (h : RdS W B p toks s) (hf : Fine toks s) (hk : ¬ (tk toks s.pl).kind = 2) :
    Calls Tryz.prog 226 #[.pointer (some ⟨p, 0, none⟩)] W (Res B p toks W (.error (tk toks s.pl).pos)) := by
  have H0 := hid' h
  have HF := hid' hf
  have K0 := hid' (KQ.rfl B p W)
  clear h hf
  go_enter Tryz.func226, Tryz.ntmps226
  go_wp2_with (first
    | (go_at_call 128; (with_reducible refine (begin_is _ H0.out (by have := om HF; (try dsimp only); omega) (by have := HF.out.begun; (try dsimp only); omega)).mono ?_); rintro e w1 ⟨hk1, rfl, hR1⟩; have H1 := hid' hR1; have K1 := hid' (K0.out.trans hk1); clear hR1 hk1)
    | (go_at_call 129; (with_reducible refine (top_is H1.out rfl (by have := HF.out.begun; (try dsimp only); omega)).mono ?_); rintro e w2 ⟨g, o, rfl, hb2, hT2⟩; have T2 := hid' hT2; have H2 := hid' hT2.rd; have K2 := hid' (K1.out.trans (KQ.of_below hb2)); clear hb2 hT2; obtain ⟨a0, a1, a2, a3, a6, af, al⟩ := T2.out.cells rfl; have z1 := af (o + 1); have z2 := af (o + 2); have z3 := af (o + 3); clear af a0 a6)
    | (go_at_call 180; (with_reducible refine (name_no H2.out (by have := om HF; (try dsimp only); omega) (by have := om HF; (try dsimp only); omega) hk).mono ?_); rintro e w3 ⟨hk3, rfl⟩; have K3 := hid' (K2.out.trans hk3); clear hk3))
  exact ⟨rfl, K3.out, rfl⟩

theorem named226_a {W : World} {B p : Nat} {toks : List Tk} {s : St} {sx : ByteArray} (h : RdS W B p toks s) (hf : Fine toks s) (hk : (tk toks s.pl).kind = 2) (hn : s.pl + 1 < toks.length) (h1 : signAt toks (s.pl + 1) = sx) (q0 : (sx.toList == [91]) = false) :
    Calls Tryz.prog 226 #[.pointer (some ⟨p, 0, none⟩)] W (Res B p toks W (.ok { s with pl := s.pl + 1, begun := ⟨⟨43, (tk toks s.pl).text, 0, false, (tk toks s.pl).pos⟩, 0, s.done.length⟩ :: s.begun })) := by
  have H0 := hid' h
  have HF := hid' hf
  have K0 := hid' (KQ.rfl B p W)
  clear h hf
  go_enter Tryz.func226, Tryz.ntmps226
  go_wp2_with (first
    | (go_at_call 128; (with_reducible refine (begin_is _ H0.out (by have := om HF; (try dsimp only); omega) (by have := HF.out.begun; (try dsimp only); omega)).mono ?_); rintro e w1 ⟨hk1, rfl, hR1⟩; have H1 := hid' hR1; have K1 := hid' (K0.out.trans hk1); clear hR1 hk1)
    | (go_at_call 129; (with_reducible refine (top_is H1.out rfl (by have := HF.out.begun; (try dsimp only); omega)).mono ?_); rintro e w2 ⟨g, o, rfl, hb2, hT2⟩; have T2 := hid' hT2; have H2 := hid' hT2.rd; have K2 := hid' (K1.out.trans (KQ.of_below hb2)); clear hb2 hT2; obtain ⟨a0, a1, a2, a3, a6, af, al⟩ := T2.out.cells rfl; have z1 := af (o + 1); have z2 := af (o + 2); have z3 := af (o + 3); clear af a0 a6)
    | (go_at_call 180; (with_reducible refine (nameT T2.out (by have := om HF; (try dsimp only); omega) (by have := om HF; (try dsimp only); omega) hk).mono ?_); rintro e w3 ⟨rfl, hT3, hk3⟩; have T3 := hid' hT3; have H3 := hid' hT3.rd; have K3 := hid' (K2.out.trans hk3); clear hT3 hk3; (try clear a1 a2 a3 z1 z2 z3 al); obtain ⟨a0, a1, a2, a3, a6, af, al⟩ := T3.out.cells rfl; have z1 := af (o + 1); have z2 := af (o + 2); have z3 := af (o + 3); clear af a0 a6))
  obtain ⟨hT4, hk4⟩ := T3.out.set (j := 1) (v := .string (tk toks s.pl).text) (b' := ⟨⟨43, (tk toks s.pl).text, 0, false, (tk toks s.pl).pos⟩, 0, s.done.length⟩) rfl (by decide) rfl
  have T4 := hid' hT4
  have H4 := hid' hT4.rd
  have K4 := hid' (K3.out.trans hk4)
  clear hT4 hk4 a1 a2 a3 z1 z2 z3 al
  generalize w3.setCell ⟨g, o + 1, none⟩ (.string (tk toks s.pl).text) = w4 at *
  obtain ⟨a0, a1, a2, a3, a6, af, al⟩ := T4.out.cells rfl
  have z1 := af (o + 1)
  have z2 := af (o + 2)
  have z3 := af (o + 3)
  clear af a0 a6
  go_wp2_with (first
    | (go_at_call 88; (with_reducible refine (sign_is H4.out h1 (by have := om HF; (try dsimp only); omega) (by have := om HF; (try dsimp only); omega)).mono ?_); rintro e w5 ⟨rfl, hb5⟩; have T5 := hid' (T4.out.below hb5); have H5 := hid' T5.out.rd; have K5 := hid' (K4.out.trans (KQ.of_below hb5)); clear hb5; (try clear a1 a2 a3 z1 z2 z3 al); obtain ⟨a0, a1, a2, a3, a6, af, al⟩ := T5.out.cells rfl; have z1 := af (o + 1); have z2 := af (o + 2); have z3 := af (o + 3); clear af a0 a6))
  first
    | (go_end0; exact ⟨K5.out, rfl, H5.out⟩)
    | exact bodyPost_ret (results_none rfl _ _ _) rfl ⟨K5.out, rfl, H5.out⟩

theorem named226_b {W : World} {B p : Nat} {toks : List Tk} {s : St} (h : RdS W B p toks s) (hf : Fine toks s) (hk : (tk toks s.pl).kind = 2) (hn : s.pl + 1 < toks.length) (h1 : signAt toks (s.pl + 1) = ⟨#[91]⟩) :
    Calls Tryz.prog 226 #[.pointer (some ⟨p, 0, none⟩)] W (Res B p toks W (.ok { s with pl := s.pl + 2, todo := 252 :: 192 :: s.todo, begun := ⟨⟨43, (tk toks s.pl).text, 0, true, (tk toks s.pl).pos⟩, 0, s.done.length⟩ :: s.begun })) := by
  have H0 := hid' h
  have HF := hid' hf
  have K0 := hid' (KQ.rfl B p W)
  clear h hf
  go_enter Tryz.func226, Tryz.ntmps226
  go_wp2_with (first
    | (go_at_call 128; (with_reducible refine (begin_is _ H0.out (by have := om HF; (try dsimp only); omega) (by have := HF.out.begun; (try dsimp only); omega)).mono ?_); rintro e w1 ⟨hk1, rfl, hR1⟩; have H1 := hid' hR1; have K1 := hid' (K0.out.trans hk1); clear hR1 hk1)
    | (go_at_call 129; (with_reducible refine (top_is H1.out rfl (by have := HF.out.begun; (try dsimp only); omega)).mono ?_); rintro e w2 ⟨g, o, rfl, hb2, hT2⟩; have T2 := hid' hT2; have H2 := hid' hT2.rd; have K2 := hid' (K1.out.trans (KQ.of_below hb2)); clear hb2 hT2; obtain ⟨a0, a1, a2, a3, a6, af, al⟩ := T2.out.cells rfl; have z1 := af (o + 1); have z2 := af (o + 2); have z3 := af (o + 3); clear af a0 a6)
    | (go_at_call 180; (with_reducible refine (nameT T2.out (by have := om HF; (try dsimp only); omega) (by have := om HF; (try dsimp only); omega) hk).mono ?_); rintro e w3 ⟨rfl, hT3, hk3⟩; have T3 := hid' hT3; have H3 := hid' hT3.rd; have K3 := hid' (K2.out.trans hk3); clear hT3 hk3; (try clear a1 a2 a3 z1 z2 z3 al); obtain ⟨a0, a1, a2, a3, a6, af, al⟩ := T3.out.cells rfl; have z1 := af (o + 1); have z2 := af (o + 2); have z3 := af (o + 3); clear af a0 a6))
  obtain ⟨hT4, hk4⟩ := T3.out.set (j := 1) (v := .string (tk toks s.pl).text) (b' := ⟨⟨43, (tk toks s.pl).text, 0, false, (tk toks s.pl).pos⟩, 0, s.done.length⟩) rfl (by decide) rfl
  have T4 := hid' hT4
  have H4 := hid' hT4.rd
  have K4 := hid' (K3.out.trans hk4)
  clear hT4 hk4 a1 a2 a3 z1 z2 z3 al
  generalize w3.setCell ⟨g, o + 1, none⟩ (.string (tk toks s.pl).text) = w4 at *
  obtain ⟨a0, a1, a2, a3, a6, af, al⟩ := T4.out.cells rfl
  have z1 := af (o + 1)
  have z2 := af (o + 2)
  have z3 := af (o + 3)
  clear af a0 a6
  go_wp2_with (first
    | (go_at_call 88; (with_reducible refine (sign_is H4.out h1 (by have := om HF; (try dsimp only); omega) (by have := om HF; (try dsimp only); omega)).mono ?_); rintro e w5 ⟨rfl, hb5⟩; have T5 := hid' (T4.out.below hb5); have H5 := hid' T5.out.rd; have K5 := hid' (K4.out.trans (KQ.of_below hb5)); clear hb5; (try clear a1 a2 a3 z1 z2 z3 al); obtain ⟨a0, a1, a2, a3, a6, af, al⟩ := T5.out.cells rfl; have z1 := af (o + 1); have z2 := af (o + 2); have z3 := af (o + 3); clear af a0 a6))
  obtain ⟨hT6, hk6⟩ := T5.out.set (j := 3) (v := .bool true) (b' := ⟨⟨43, (tk toks s.pl).text, 0, true, (tk toks s.pl).pos⟩, 0, s.done.length⟩) rfl (by decide) rfl
  have T6 := hid' hT6
  have H6 := hid' hT6.rd
  have K6 := hid' (K5.out.trans hk6)
  clear hT6 hk6 a1 a2 a3 z1 z2 z3 al
  generalize w5.setCell ⟨g, o + 3, none⟩ (.bool true) = w6 at *
  obtain ⟨a0, a1, a2, a3, a6, af, al⟩ := T6.out.cells rfl
  have z1 := af (o + 1)
  have z2 := af (o + 2)
  have z3 := af (o + 3)
  clear af a0 a6
  go_wp2_with (first
    | (go_at_call 93; (with_reducible refine (skipT T6.out (by have := om HF; (try dsimp only); omega)).mono ?_); rintro e w7 ⟨rfl, hT7, hk7⟩; have T7 := hid' hT7; have H7 := hid' hT7.rd; have K7 := hid' (K6.out.trans hk7); clear hT7 hk7; (try clear a1 a2 a3 z1 z2 z3 al); obtain ⟨a0, a1, a2, a3, a6, af, al⟩ := T7.out.cells rfl; have z1 := af (o + 1); have z2 := af (o + 2); have z3 := af (o + 3); clear af a0 a6)
    | (go_at_call 38; (with_reducible refine (then_2 _ _ H7.out (by have := HF.out.todo; (try dsimp only); (try simp only [List.length_cons]); omega)).mono ?_); rintro e w8 ⟨hk8, rfl, hR8⟩; have H8 := hid' hR8; have K8 := hid' (K7.out.trans hk8); clear hR8 hk8))
  first
    | (go_end0; exact ⟨K8.out, rfl, H8.out⟩)
    | exact bodyPost_ret (results_none rfl _ _ _) rfl ⟨K8.out, rfl, H8.out⟩

theorem record122_n {W : World} {B p : Nat} {toks : List Tk} {s : St} (h : RdS W B p toks s) (hf : Fine toks s) (hq : ¬ signAt toks s.pl = ⟨#[115, 116, 114, 117, 99, 116]⟩) :
    Calls Tryz.prog 122 #[.pointer (some ⟨p, 0, none⟩)] W (Res B p toks W (.error (tk toks s.pl).pos)) := by
  have H0 := hid' h
  have HF := hid' hf
  have K0 := hid' (KQ.rfl B p W)
  clear h hf
  go_enter Tryz.func122, Tryz.ntmps122
  go_wp2_with (first
    | (go_at_call 128; (with_reducible refine (begin_is _ H0.out (by have := om HF; (try dsimp only); omega) (by have := HF.out.begun; (try dsimp only); omega)).mono ?_); rintro e w1 ⟨hk1, rfl, hR1⟩; have H1 := hid' hR1; have K1 := hid' (K0.out.trans hk1); clear hR1 hk1)
    | (go_at_call 179; (with_reducible refine (take_no _ H1.out hq (by have := om HF; (try dsimp only); omega) (by have := om HF; (try dsimp only); omega)).mono ?_); rintro e w2 ⟨hk2, rfl⟩; have K2 := hid' (K1.out.trans hk2); clear hk2))
  exact ⟨rfl, K2.out, rfl⟩

theorem record122_m {W : World} {B p : Nat} {toks : List Tk} {s : St} (h : RdS W B p toks s) (hf : Fine toks s) (hq : signAt toks s.pl = ⟨#[115, 116, 114, 117, 99, 116]⟩) (hn : s.pl + 1 < toks.length) (hk : ¬ (tk toks (s.pl + 1)).kind = 2) :
    Calls Tryz.prog 122 #[.pointer (some ⟨p, 0, none⟩)] W (Res B p toks W (.error (tk toks (s.pl + 1)).pos)) := by
  have H0 := hid' h
  have HF := hid' hf
  have K0 := hid' (KQ.rfl B p W)
  clear h hf
  go_enter Tryz.func122, Tryz.ntmps122
  go_wp2_with (first
    | (go_at_call 128; (with_reducible refine (begin_is _ H0.out (by have := om HF; (try dsimp only); omega) (by have := HF.out.begun; (try dsimp only); omega)).mono ?_); rintro e w1 ⟨hk1, rfl, hR1⟩; have H1 := hid' hR1; have K1 := hid' (K0.out.trans hk1); clear hR1 hk1)
    | (go_at_call 179; (with_reducible refine (take_ok _ H1.out hq (by have := om HF; (try dsimp only); omega) (by have := om HF; (try dsimp only); omega)).mono ?_); rintro e w2 ⟨hk2, rfl, hR2⟩; have H2 := hid' hR2; have K2 := hid' (K1.out.trans hk2); clear hR2 hk2)
    | (go_at_call 129; (with_reducible refine (top_is H2.out rfl (by have := HF.out.begun; (try dsimp only); omega)).mono ?_); rintro e w3 ⟨g, o, rfl, hb3, hT3⟩; have T3 := hid' hT3; have H3 := hid' hT3.rd; have K3 := hid' (K2.out.trans (KQ.of_below hb3)); clear hb3 hT3; obtain ⟨a0, a1, a2, a3, a6, af, al⟩ := T3.out.cells rfl; have z1 := af (o + 1); have z2 := af (o + 2); have z3 := af (o + 3); clear af a0 a6)
    | (go_at_call 180; (with_reducible refine (name_no H3.out hn (by have := om HF; (try dsimp only); omega) hk).mono ?_); rintro e w4 ⟨hk4, rfl⟩; have K4 := hid' (K3.out.trans hk4); clear hk4))
  exact ⟨rfl, K4.out, rfl⟩

theorem record122_k {W : World} {B p : Nat} {toks : List Tk} {s : St} (h : RdS W B p toks s) (hf : Fine toks s) (hq : signAt toks s.pl = ⟨#[115, 116, 114, 117, 99, 116]⟩) (hn : s.pl + 1 < toks.length) (hk : (tk toks (s.pl + 1)).kind = 2) (hn2 : s.pl + 2 < toks.length) (h2 : ¬ signAt toks (s.pl + 2) = ⟨#[123]⟩) :
    Calls Tryz.prog 122 #[.pointer (some ⟨p, 0, none⟩)] W (Res B p toks W (.error (tk toks (s.pl + 2)).pos)) := by
  have H0 := hid' h
  have HF := hid' hf
  have K0 := hid' (KQ.rfl B p W)
  clear h hf
  go_enter Tryz.func122, Tryz.ntmps122
  go_wp2_with (first
    | (go_at_call 128; (with_reducible refine (begin_is _ H0.out (by have := om HF; (try dsimp only); omega) (by have := HF.out.begun; (try dsimp only); omega)).mono ?_); rintro e w1 ⟨hk1, rfl, hR1⟩; have H1 := hid' hR1; have K1 := hid' (K0.out.trans hk1); clear hR1 hk1)
    | (go_at_call 179; (with_reducible refine (take_ok _ H1.out hq (by have := om HF; (try dsimp only); omega) (by have := om HF; (try dsimp only); omega)).mono ?_); rintro e w2 ⟨hk2, rfl, hR2⟩; have H2 := hid' hR2; have K2 := hid' (K1.out.trans hk2); clear hR2 hk2)
    | (go_at_call 129; (with_reducible refine (top_is H2.out rfl (by have := HF.out.begun; (try dsimp only); omega)).mono ?_); rintro e w3 ⟨g, o, rfl, hb3, hT3⟩; have T3 := hid' hT3; have H3 := hid' hT3.rd; have K3 := hid' (K2.out.trans (KQ.of_below hb3)); clear hb3 hT3; obtain ⟨a0, a1, a2, a3, a6, af, al⟩ := T3.out.cells rfl; have z1 := af (o + 1); have z2 := af (o + 2); have z3 := af (o + 3); clear af a0 a6)
    | (go_at_call 180; (with_reducible refine (nameT T3.out hn (by have := om HF; (try dsimp only); omega) hk).mono ?_); rintro e w4 ⟨rfl, hT4, hk4⟩; have T4 := hid' hT4; have H4 := hid' hT4.rd; have K4 := hid' (K3.out.trans hk4); clear hT4 hk4; (try clear a1 a2 a3 z1 z2 z3 al); obtain ⟨a0, a1, a2, a3, a6, af, al⟩ := T4.out.cells rfl; have z1 := af (o + 1); have z2 := af (o + 2); have z3 := af (o + 3); clear af a0 a6))
  obtain ⟨hT5, hk5⟩ := T4.out.set (j := 1) (v := .string (tk toks (s.pl + 1)).text) (b' := ⟨⟨41, (tk toks (s.pl + 1)).text, 0, false, (tk toks s.pl).pos⟩, 0, s.done.length⟩) rfl (by decide) rfl
  have T5 := hid' hT5
  have H5 := hid' hT5.rd
  have K5 := hid' (K4.out.trans hk5)
  clear hT5 hk5 a1 a2 a3 z1 z2 z3 al
  generalize w4.setCell ⟨g, o + 1, none⟩ (.string (tk toks (s.pl + 1)).text) = w5 at *
  obtain ⟨a0, a1, a2, a3, a6, af, al⟩ := T5.out.cells rfl
  have z1 := af (o + 1)
  have z2 := af (o + 2)
  have z3 := af (o + 3)
  clear af a0 a6
  go_wp2_with (first
    | (go_at_call 179; (with_reducible refine (take_no _ H5.out h2 hn2 (by have := om HF; (try dsimp only); omega)).mono ?_); rintro e w6 ⟨hk6, rfl⟩; have K6 := hid' (K5.out.trans hk6); clear hk6))
  exact ⟨rfl, K6.out, rfl⟩

theorem record122_y {W : World} {B p : Nat} {toks : List Tk} {s : St} (h : RdS W B p toks s) (hf : Fine toks s) (hq : signAt toks s.pl = ⟨#[115, 116, 114, 117, 99, 116]⟩) (hn : s.pl + 1 < toks.length) (hk : (tk toks (s.pl + 1)).kind = 2) (hn2 : s.pl + 2 < toks.length) (h2 : signAt toks (s.pl + 2) = ⟨#[123]⟩) :
    Calls Tryz.prog 122 #[.pointer (some ⟨p, 0, none⟩)] W (Res B p toks W (.ok { s with pl := s.pl + 3, todo := 181 :: 182 :: 40 :: s.todo, begun := ⟨⟨41, (tk toks (s.pl + 1)).text, 0, false, (tk toks s.pl).pos⟩, 0, s.done.length⟩ :: s.begun })) := by
  have H0 := hid' h
  have HF := hid' hf
  have K0 := hid' (KQ.rfl B p W)
  clear h hf
  go_enter Tryz.func122, Tryz.ntmps122
  go_wp2_with (first
    | (go_at_call 128; (with_reducible refine (begin_is _ H0.out (by have := om HF; (try dsimp only); omega) (by have := HF.out.begun; (try dsimp only); omega)).mono ?_); rintro e w1 ⟨hk1, rfl, hR1⟩; have H1 := hid' hR1; have K1 := hid' (K0.out.trans hk1); clear hR1 hk1)
    | (go_at_call 179; (with_reducible refine (take_ok _ H1.out hq (by have := om HF; (try dsimp only); omega) (by have := om HF; (try dsimp only); omega)).mono ?_); rintro e w2 ⟨hk2, rfl, hR2⟩; have H2 := hid' hR2; have K2 := hid' (K1.out.trans hk2); clear hR2 hk2)
    | (go_at_call 129; (with_reducible refine (top_is H2.out rfl (by have := HF.out.begun; (try dsimp only); omega)).mono ?_); rintro e w3 ⟨g, o, rfl, hb3, hT3⟩; have T3 := hid' hT3; have H3 := hid' hT3.rd; have K3 := hid' (K2.out.trans (KQ.of_below hb3)); clear hb3 hT3; obtain ⟨a0, a1, a2, a3, a6, af, al⟩ := T3.out.cells rfl; have z1 := af (o + 1); have z2 := af (o + 2); have z3 := af (o + 3); clear af a0 a6)
    | (go_at_call 180; (with_reducible refine (nameT T3.out hn (by have := om HF; (try dsimp only); omega) hk).mono ?_); rintro e w4 ⟨rfl, hT4, hk4⟩; have T4 := hid' hT4; have H4 := hid' hT4.rd; have K4 := hid' (K3.out.trans hk4); clear hT4 hk4; (try clear a1 a2 a3 z1 z2 z3 al); obtain ⟨a0, a1, a2, a3, a6, af, al⟩ := T4.out.cells rfl; have z1 := af (o + 1); have z2 := af (o + 2); have z3 := af (o + 3); clear af a0 a6))
  obtain ⟨hT5, hk5⟩ := T4.out.set (j := 1) (v := .string (tk toks (s.pl + 1)).text) (b' := ⟨⟨41, (tk toks (s.pl + 1)).text, 0, false, (tk toks s.pl).pos⟩, 0, s.done.length⟩) rfl (by decide) rfl
  have T5 := hid' hT5
  have H5 := hid' hT5.rd
  have K5 := hid' (K4.out.trans hk5)
  clear hT5 hk5 a1 a2 a3 z1 z2 z3 al
  generalize w4.setCell ⟨g, o + 1, none⟩ (.string (tk toks (s.pl + 1)).text) = w5 at *
  obtain ⟨a0, a1, a2, a3, a6, af, al⟩ := T5.out.cells rfl
  have z1 := af (o + 1)
  have z2 := af (o + 2)
  have z3 := af (o + 3)
  clear af a0 a6
  go_wp2_with (first
    | (go_at_call 179; (with_reducible refine (take_ok _ H5.out h2 hn2 (by have := om HF; (try dsimp only); omega)).mono ?_); rintro e w6 ⟨hk6, rfl, hR6⟩; have H6 := hid' hR6; have K6 := hid' (K5.out.trans hk6); clear hR6 hk6)
    | (go_at_call 38; (with_reducible refine (then_3 _ _ _ H6.out (by have := HF.out.todo; (try dsimp only); (try simp only [List.length_cons]); omega)).mono ?_); rintro e w7 ⟨hk7, rfl, hR7⟩; have H7 := hid' hR7; have K7 := hid' (K6.out.trans hk7); clear hR7 hk7))
  first
    | (go_end0; exact ⟨K7.out, rfl, H7.out⟩)
    | exact bodyPost_ret (results_none rfl _ _ _) rfl ⟨K7.out, rfl, H7.out⟩

theorem call195_n {W : World} {B p : Nat} {toks : List Tk} {s : St} (h : RdS W B p toks s) (hf : Fine toks s) (hn : s.pl + 1 < toks.length) (h1 : ¬ signAt toks (s.pl + 1) = ⟨#[40]⟩) :
    Calls Tryz.prog 195 #[.pointer (some ⟨p, 0, none⟩)] W (Res B p toks W (.error (tk toks (s.pl + 1)).pos)) := by
  have H0 := hid' h
  have HF := hid' hf
  have K0 := hid' (KQ.rfl B p W)
  have hf1 := fld42_1
  clear h hf
  go_enter Tryz.func195, Tryz.ntmps195
  go_wp2_with (first
    | (go_at_call 128; (with_reducible refine (begin_is _ H0.out (by have := om HF; (try dsimp only); omega) (by have := HF.out.begun; (try dsimp only); omega)).mono ?_); rintro e w1 ⟨hk1, rfl, hR1⟩; have H1 := hid' hR1; have K1 := hid' (K0.out.trans hk1); clear hR1 hk1)
    | (go_at_call 129; (with_reducible refine (top_is H1.out rfl (by have := HF.out.begun; (try dsimp only); omega)).mono ?_); rintro e w2 ⟨g, o, rfl, hb2, hT2⟩; have T2 := hid' hT2; have H2 := hid' hT2.rd; have K2 := hid' (K1.out.trans (KQ.of_below hb2)); clear hb2 hT2; obtain ⟨a0, a1, a2, a3, a6, af, al⟩ := T2.out.cells rfl; have z1 := af (o + 1); have z2 := af (o + 2); have z3 := af (o + 3); clear af a0 a6)
    | (go_at_call 75; (with_reducible refine (token_agg H2.out (by have := om HF; (try dsimp only); omega)).mono ?_); rintro e w3 ⟨rfl, hb3⟩; have T3 := hid' (T2.out.below hb3); have H3 := hid' T3.out.rd; have K3 := hid' (K2.out.trans (KQ.of_below hb3)); clear hb3; (try clear a1 a2 a3 z1 z2 z3 al); obtain ⟨a0, a1, a2, a3, a6, af, al⟩ := T3.out.cells rfl; have z1 := af (o + 1); have z2 := af (o + 2); have z3 := af (o + 3); clear af a0 a6))
  obtain ⟨hT4, hk4⟩ := T3.out.set (j := 1) (v := .string (tk toks s.pl).text) (b' := ⟨⟨8, (tk toks s.pl).text, 0, false, (tk toks s.pl).pos⟩, 0, s.done.length⟩) rfl (by decide) rfl
  have T4 := hid' hT4
  have H4 := hid' hT4.rd
  have K4 := hid' (K3.out.trans hk4)
  clear hT4 hk4 a1 a2 a3 z1 z2 z3 al
  generalize w3.setCell ⟨g, o + 1, none⟩ (.string (tk toks s.pl).text) = w4 at *
  obtain ⟨a0, a1, a2, a3, a6, af, al⟩ := T4.out.cells rfl
  have z1 := af (o + 1)
  have z2 := af (o + 2)
  have z3 := af (o + 3)
  clear af a0 a6
  go_wp2_with (first
    | (go_at_call 93; (with_reducible refine (skipT T4.out (by have := om HF; (try dsimp only); omega)).mono ?_); rintro e w5 ⟨rfl, hT5, hk5⟩; have T5 := hid' hT5; have H5 := hid' hT5.rd; have K5 := hid' (K4.out.trans hk5); clear hT5 hk5; (try clear a1 a2 a3 z1 z2 z3 al); obtain ⟨a0, a1, a2, a3, a6, af, al⟩ := T5.out.cells rfl; have z1 := af (o + 1); have z2 := af (o + 2); have z3 := af (o + 3); clear af a0 a6)
    | (go_at_call 179; (with_reducible refine (take_no _ H5.out h1 hn (by have := om HF; (try dsimp only); omega)).mono ?_); rintro e w6 ⟨hk6, rfl⟩; have K6 := hid' (K5.out.trans hk6); clear hk6))
  exact ⟨rfl, K6.out, rfl⟩

theorem call195_e {W : World} {B p : Nat} {toks : List Tk} {s : St} (h : RdS W B p toks s) (hf : Fine toks s) (hn : s.pl + 1 < toks.length) (h1 : signAt toks (s.pl + 1) = ⟨#[40]⟩) (hn2 : s.pl + 2 < toks.length) (h2 : signAt toks (s.pl + 2) = ⟨#[41]⟩) :
    Calls Tryz.prog 195 #[.pointer (some ⟨p, 0, none⟩)] W (Res B p toks W (.ok { s with pl := s.pl + 2, todo := 184 :: 40 :: s.todo, begun := ⟨⟨8, (tk toks s.pl).text, 0, false, (tk toks s.pl).pos⟩, 0, s.done.length⟩ :: s.begun })) := by
  have H0 := hid' h
  have HF := hid' hf
  have K0 := hid' (KQ.rfl B p W)
  have hf1 := fld42_1
  clear h hf
  go_enter Tryz.func195, Tryz.ntmps195
  go_wp2_with (first
    | (go_at_call 128; (with_reducible refine (begin_is _ H0.out (by have := om HF; (try dsimp only); omega) (by have := HF.out.begun; (try dsimp only); omega)).mono ?_); rintro e w1 ⟨hk1, rfl, hR1⟩; have H1 := hid' hR1; have K1 := hid' (K0.out.trans hk1); clear hR1 hk1)
    | (go_at_call 129; (with_reducible refine (top_is H1.out rfl (by have := HF.out.begun; (try dsimp only); omega)).mono ?_); rintro e w2 ⟨g, o, rfl, hb2, hT2⟩; have T2 := hid' hT2; have H2 := hid' hT2.rd; have K2 := hid' (K1.out.trans (KQ.of_below hb2)); clear hb2 hT2; obtain ⟨a0, a1, a2, a3, a6, af, al⟩ := T2.out.cells rfl; have z1 := af (o + 1); have z2 := af (o + 2); have z3 := af (o + 3); clear af a0 a6)
    | (go_at_call 75; (with_reducible refine (token_agg H2.out (by have := om HF; (try dsimp only); omega)).mono ?_); rintro e w3 ⟨rfl, hb3⟩; have T3 := hid' (T2.out.below hb3); have H3 := hid' T3.out.rd; have K3 := hid' (K2.out.trans (KQ.of_below hb3)); clear hb3; (try clear a1 a2 a3 z1 z2 z3 al); obtain ⟨a0, a1, a2, a3, a6, af, al⟩ := T3.out.cells rfl; have z1 := af (o + 1); have z2 := af (o + 2); have z3 := af (o + 3); clear af a0 a6))
  obtain ⟨hT4, hk4⟩ := T3.out.set (j := 1) (v := .string (tk toks s.pl).text) (b' := ⟨⟨8, (tk toks s.pl).text, 0, false, (tk toks s.pl).pos⟩, 0, s.done.length⟩) rfl (by decide) rfl
  have T4 := hid' hT4
  have H4 := hid' hT4.rd
  have K4 := hid' (K3.out.trans hk4)
  clear hT4 hk4 a1 a2 a3 z1 z2 z3 al
  generalize w3.setCell ⟨g, o + 1, none⟩ (.string (tk toks s.pl).text) = w4 at *
  obtain ⟨a0, a1, a2, a3, a6, af, al⟩ := T4.out.cells rfl
  have z1 := af (o + 1)
  have z2 := af (o + 2)
  have z3 := af (o + 3)
  clear af a0 a6
  go_wp2_with (first
    | (go_at_call 93; (with_reducible refine (skipT T4.out (by have := om HF; (try dsimp only); omega)).mono ?_); rintro e w5 ⟨rfl, hT5, hk5⟩; have T5 := hid' hT5; have H5 := hid' hT5.rd; have K5 := hid' (K4.out.trans hk5); clear hT5 hk5; (try clear a1 a2 a3 z1 z2 z3 al); obtain ⟨a0, a1, a2, a3, a6, af, al⟩ := T5.out.cells rfl; have z1 := af (o + 1); have z2 := af (o + 2); have z3 := af (o + 3); clear af a0 a6)
    | (go_at_call 179; (with_reducible refine (take_ok _ H5.out h1 hn (by have := om HF; (try dsimp only); omega)).mono ?_); rintro e w6 ⟨hk6, rfl, hR6⟩; have H6 := hid' hR6; have K6 := hid' (K5.out.trans hk6); clear hR6 hk6)
    | (go_at_call 38; (with_reducible refine (then_2 _ _ H6.out (by have := HF.out.todo; (try dsimp only); (try simp only [List.length_cons]); omega)).mono ?_); rintro e w7 ⟨hk7, rfl, hR7⟩; have H7 := hid' hR7; have K7 := hid' (K6.out.trans hk7); clear hR7 hk7)
    | (go_at_call 88; (with_reducible refine (sign_is H7.out h2 (by have := om HF; (try dsimp only); omega) (by have := om HF; (try dsimp only); omega)).mono ?_); rintro e w8 ⟨rfl, hb8⟩; have H8 := hid' (H7.out.below hb8); have K8 := hid' (K7.out.trans (KQ.of_below hb8)); clear hb8))
  first
    | (go_end0; exact ⟨K8.out, rfl, H8.out⟩)
    | exact bodyPost_ret (results_none rfl _ _ _) rfl ⟨K8.out, rfl, H8.out⟩

theorem call195_x {W : World} {B p : Nat} {toks : List Tk} {s : St} {sx : ByteArray} (h : RdS W B p toks s) (hf : Fine toks s) (hn : s.pl + 1 < toks.length) (h1 : signAt toks (s.pl + 1) = ⟨#[40]⟩) (hn2 : s.pl + 2 < toks.length) (h2 : signAt toks (s.pl + 2) = sx) (q0 : (sx.toList == [41]) = false) :
    Calls Tryz.prog 195 #[.pointer (some ⟨p, 0, none⟩)] W (Res B p toks W (.ok { s with pl := s.pl + 2, todo := 24 :: 231 :: 184 :: 40 :: s.todo, begun := ⟨⟨8, (tk toks s.pl).text, 0, false, (tk toks s.pl).pos⟩, 0, s.done.length⟩ :: s.begun })) := by
  have H0 := hid' h
  have HF := hid' hf
  have K0 := hid' (KQ.rfl B p W)
  have hf1 := fld42_1
  clear h hf
  go_enter Tryz.func195, Tryz.ntmps195
  go_wp2_with (first
    | (go_at_call 128; (with_reducible refine (begin_is _ H0.out (by have := om HF; (try dsimp only); omega) (by have := HF.out.begun; (try dsimp only); omega)).mono ?_); rintro e w1 ⟨hk1, rfl, hR1⟩; have H1 := hid' hR1; have K1 := hid' (K0.out.trans hk1); clear hR1 hk1)
    | (go_at_call 129; (with_reducible refine (top_is H1.out rfl (by have := HF.out.begun; (try dsimp only); omega)).mono ?_); rintro e w2 ⟨g, o, rfl, hb2, hT2⟩; have T2 := hid' hT2; have H2 := hid' hT2.rd; have K2 := hid' (K1.out.trans (KQ.of_below hb2)); clear hb2 hT2; obtain ⟨a0, a1, a2, a3, a6, af, al⟩ := T2.out.cells rfl; have z1 := af (o + 1); have z2 := af (o + 2); have z3 := af (o + 3); clear af a0 a6)
    | (go_at_call 75; (with_reducible refine (token_agg H2.out (by have := om HF; (try dsimp only); omega)).mono ?_); rintro e w3 ⟨rfl, hb3⟩; have T3 := hid' (T2.out.below hb3); have H3 := hid' T3.out.rd; have K3 := hid' (K2.out.trans (KQ.of_below hb3)); clear hb3; (try clear a1 a2 a3 z1 z2 z3 al); obtain ⟨a0, a1, a2, a3, a6, af, al⟩ := T3.out.cells rfl; have z1 := af (o + 1); have z2 := af (o + 2); have z3 := af (o + 3); clear af a0 a6))
  obtain ⟨hT4, hk4⟩ := T3.out.set (j := 1) (v := .string (tk toks s.pl).text) (b' := ⟨⟨8, (tk toks s.pl).text, 0, false, (tk toks s.pl).pos⟩, 0, s.done.length⟩) rfl (by decide) rfl
  have T4 := hid' hT4
  have H4 := hid' hT4.rd
  have K4 := hid' (K3.out.trans hk4)
  clear hT4 hk4 a1 a2 a3 z1 z2 z3 al
  generalize w3.setCell ⟨g, o + 1, none⟩ (.string (tk toks s.pl).text) = w4 at *
  obtain ⟨a0, a1, a2, a3, a6, af, al⟩ := T4.out.cells rfl
  have z1 := af (o + 1)
  have z2 := af (o + 2)
  have z3 := af (o + 3)
  clear af a0 a6
  go_wp2_with (first
    | (go_at_call 93; (with_reducible refine (skipT T4.out (by have := om HF; (try dsimp only); omega)).mono ?_); rintro e w5 ⟨rfl, hT5, hk5⟩; have T5 := hid' hT5; have H5 := hid' hT5.rd; have K5 := hid' (K4.out.trans hk5); clear hT5 hk5; (try clear a1 a2 a3 z1 z2 z3 al); obtain ⟨a0, a1, a2, a3, a6, af, al⟩ := T5.out.cells rfl; have z1 := af (o + 1); have z2 := af (o + 2); have z3 := af (o + 3); clear af a0 a6)
    | (go_at_call 179; (with_reducible refine (take_ok _ H5.out h1 hn (by have := om HF; (try dsimp only); omega)).mono ?_); rintro e w6 ⟨hk6, rfl, hR6⟩; have H6 := hid' hR6; have K6 := hid' (K5.out.trans hk6); clear hR6 hk6)
    | (go_at_call 38; (with_reducible refine (then_2 _ _ H6.out (by have := HF.out.todo; (try dsimp only); (try simp only [List.length_cons]); omega)).mono ?_); rintro e w7 ⟨hk7, rfl, hR7⟩; have H7 := hid' hR7; have K7 := hid' (K6.out.trans hk7); clear hR7 hk7)
    | (go_at_call 88; (with_reducible refine (sign_is H7.out h2 (by have := om HF; (try dsimp only); omega) (by have := om HF; (try dsimp only); omega)).mono ?_); rintro e w8 ⟨rfl, hb8⟩; have H8 := hid' (H7.out.below hb8); have K8 := hid' (K7.out.trans (KQ.of_below hb8)); clear hb8)
    | (go_at_call 38; (with_reducible refine (then_2 _ _ H8.out (by have := HF.out.todo; (try dsimp only); (try simp only [List.length_cons]); omega)).mono ?_); rintro e w9 ⟨hk9, rfl, hR9⟩; have H9 := hid' hR9; have K9 := hid' (K8.out.trans hk9); clear hR9 hk9))
  first
    | (go_end0; exact ⟨K9.out, rfl, H9.out⟩)
    | exact bodyPost_ret (results_none rfl _ _ _) rfl ⟨K9.out, rfl, H9.out⟩
end Go.Proofs.YtjeioblhpfogfaaGreatDoor
namespace Go.Proofs.YtjeioblhpfogfaaGreatDoor
open Go.RowKit

theorem takeT {w : World} {B p : Nat} {toks : List Tk} {s : St} {l : List Bg} {g o : Nat} (sg : ByteArray) (h : Top w B p toks s l g o) (hq : signAt toks s.pl = sg) (hn : toks.length ≤ 9000000000000000000) (hj : s.pl ≤ 9000000000000000000) :
    Calls Tryz.prog 179 #[.pointer (some ⟨p, 0, none⟩), .string sg] w fun e w' => e = .returned (.tuple #[]) ∧ Top w' B p toks { s with pl := s.pl + 1 } l g o ∧ KQ B p w w' := by
  have HA := sign_is h.rd hq hj hn
  have HS : Hid (∀ W, Below w.heap.size w W → Calls Tryz.prog 93 #[.pointer (some ⟨p, 0, none⟩)] W fun e w' => e = .returned (.tuple #[]) ∧ Top w' B p toks { s with pl := s.pl + 1 } l g o ∧ KQ B p W w') := fun W hb => skipT (h.below hb) hj
  clear h hq
  go_enter Tryz.func179, Tryz.ntmps179
  go_wp2_with (first
    | (go_at_call 88; (with_reducible refine HA.mono ?_); rintro e w1 ⟨rfl, hb⟩)
    | (go_at_call 93; (with_reducible refine (HS.out _ hb).mono ?_); rintro e w2 ⟨rfl, hR, hK⟩))
  go_end0
  exact ⟨rfl, hR, (KQ.of_below hb).trans hK⟩
theorem brackets224_n {w : World} {B p : Nat} {toks : List Tk} {s : St} {sx : ByteArray} (h : RdS w B p toks s) (hq : signAt toks s.pl = sx) (q0 : (sx.toList == [91]) = false) (hn : toks.length ≤ 9000000000000000000) (hj : s.pl ≤ 9000000000000000000) :
    Calls Tryz.prog 224 #[.pointer (some ⟨p, 0, none⟩)] w fun e w' => e = .returned (.bool false) ∧ Below w.heap.size w w' := by
  have HA := sign_is h hq hj hn
  clear h hq
  go_enter Tryz.func224, Tryz.ntmps224
  go_wp2_with (go_at_call 88; (with_reducible refine HA.mono ?_); rintro e w1 ⟨rfl, hb⟩)
  go_ret
  exact ⟨rfl, hb⟩
theorem brackets224_y {w : World} {B p : Nat} {toks : List Tk} {s : St} {l : List Bg} {g o : Nat} (h : Top w B p toks s l g o) (hq : signAt toks s.pl = ⟨#[91]⟩) (h1 : signAt toks (s.pl + 1) = ⟨#[93]⟩) (hn : toks.length ≤ 1000000) (hj : s.pl + 1 < toks.length) :
    Calls Tryz.prog 224 #[.pointer (some ⟨p, 0, none⟩)] w fun e w' => e = .returned (.bool true) ∧ Top w' B p toks { s with pl := s.pl + 2 } l g o ∧ KQ B p w w' := by
  have T0 := hid' h
  clear h
  go_enter Tryz.func224, Tryz.ntmps224
  go_wp2_with (first
    | (go_at_call 88; (with_reducible refine (sign_is T0.out.rd hq (by omega) (by omega)).mono ?_); rintro e w1 ⟨rfl, hb1⟩; have T1 := hid' (T0.out.below hb1); have K1 := hid' (KQ.of_below (B := B) (p := p) hb1); clear hb1)
    | (go_at_call 93; (with_reducible refine (skipT T1.out (by omega)).mono ?_); rintro e w2 ⟨rfl, hT2, hk2⟩; have T2 := hid' hT2; have K2 := hid' (K1.out.trans hk2); clear hT2 hk2)
    | (go_at_call 179; (with_reducible refine (takeT _ T2.out h1 (by omega) (by dsimp only; omega)).mono ?_); rintro e w3 ⟨rfl, hT3, hk3⟩; have T3 := hid' hT3; have K3 := hid' (K2.out.trans hk3); clear hT3 hk3))
  go_ret
  exact ⟨rfl, T3.out, K3.out⟩
theorem brackets224_e {w : World} {B p : Nat} {toks : List Tk} {s : St} (h : RdS w B p toks s) (hq : signAt toks s.pl = ⟨#[91]⟩) (h1 : ¬ signAt toks (s.pl + 1) = ⟨#[93]⟩) (hn : toks.length ≤ 1000000) (hj : s.pl + 1 < toks.length) :
    Calls Tryz.prog 224 #[.pointer (some ⟨p, 0, none⟩)] w (Res B p toks w (.error (tk toks (s.pl + 1)).pos)) := by
  have H0 := hid' h
  clear h
  go_enter Tryz.func224, Tryz.ntmps224
  go_wp2_with (first
    | (go_at_call 88; (with_reducible refine (sign_is H0.out hq (by omega) (by omega)).mono ?_); rintro e w1 ⟨rfl, hb1⟩; have H1 := hid' (H0.out.below hb1); have K1 := hid' (KQ.of_below (B := B) (p := p) hb1); clear hb1)
    | (go_at_call 93; (with_reducible refine (skip_is H1.out (by omega)).mono ?_); rintro e w2 ⟨hk2, rfl, hR2⟩; have H2 := hid' hR2; have K2 := hid' (K1.out.trans hk2); clear hR2 hk2)
    | (go_at_call 179; (with_reducible refine (take_no _ H2.out h1 hj (by omega)).mono ?_); rintro e w3 ⟨hk3, rfl⟩; have K3 := hid' (K2.out.trans hk3); clear hk3))
  exact ⟨rfl, K3.out, rfl⟩

theorem selected193_y {W : World} {B p : Nat} {toks : List Tk} {s : St} (k : Int) (h : RdS W B p toks s) (hf : Fine1 toks s) (hn : s.pl + 1 < toks.length) (hk : (tk toks (s.pl + 1)).kind = 2) {l : List Dn} {d : Dn} (hd : s.done = l ++ [d]) :
    Calls Tryz.prog 193 #[.pointer (some ⟨p, 0, none⟩), .int .i64 k] W (Res B p toks W (.ok { finS { s with pl := s.pl + 2, begun := ⟨⟨k, (tk toks (s.pl + 1)).text, 0, false, d.start⟩, 0, l.length⟩ :: s.begun } ⟨⟨k, (tk toks (s.pl + 1)).text, 0, false, d.start⟩, 0, l.length⟩ s.begun with todo := 134 :: s.todo })) := by
  have H0 := hid' h
  have HF := hid' hf
  have K0 := hid' (KQ.rfl B p W)
  have HD := hid' hd
  clear hd
  clear h hf
  go_enter Tryz.func193, Tryz.ntmps193
  go_wp2_with (first
    | (go_at_call 93; (with_reducible refine (skip_is H0.out (by have := HF.out.at_; have := HF.out.few; (try dsimp only); omega)).mono ?_); rintro e w1 ⟨hk1, rfl, hR1⟩; have H1 := hid' hR1; have K1 := hid' (K0.out.trans hk1); clear hR1 hk1)
    | (go_at_call 180; (with_reducible refine (name_ok H1.out hn (by have := HF.out.at_; have := HF.out.few; (try dsimp only); omega) hk).mono ?_); rintro e w2 ⟨rfl, hR2, hk2⟩; have H2 := hid' hR2; have K2 := hid' (K1.out.trans hk2); clear hR2 hk2)
    | (go_at_call 92; (with_reducible refine (beginOver92 _ _ H2.out HD.out (by have := HF.out.begun; (try dsimp only); omega) (by have := HF.out.done; (try dsimp only); omega)).mono ?_); rintro e w3 ⟨hk3, rfl, hR3⟩; have H3 := hid' hR3; have K3 := hid' (K2.out.trans hk3); clear hR3 hk3)
    | (go_at_call 40; (with_reducible refine (finish40 H3.out rfl (by have := HF.out.begun; (try dsimp only); (try simp only [List.length_cons]); omega) (by have := HF.out.done; (try dsimp only); omega) (by have e := HD.out; show l.length ≤ s.done.length; rw [e]; simp)).mono ?_); rintro e w4 ⟨hk4, rfl, hR4⟩; have H4 := hid' hR4; have K4 := hid' (K3.out.trans hk4); clear hR4 hk4)
    | (go_at_call 38; (with_reducible refine (then_1 _ H4.out (by have := HF.out.todo; (try unfold finS); (try dsimp only); (try simp only [List.length_cons]); omega)).mono ?_); rintro e w5 ⟨hk5, rfl, hR5⟩; have H5 := hid' hR5; have K5 := hid' (K4.out.trans hk5); clear hR5 hk5))
  first
    | (go_end0; exact ⟨K5.out, rfl, H5.out⟩)
    | exact bodyPost_ret (results_none rfl _ _ _) rfl ⟨K5.out, rfl, H5.out⟩

theorem selected193_n {W : World} {B p : Nat} {toks : List Tk} {s : St} (k : Int) (h : RdS W B p toks s) (hf : Fine1 toks s) (hn : s.pl + 1 < toks.length) (hk : ¬ (tk toks (s.pl + 1)).kind = 2) :
    Calls Tryz.prog 193 #[.pointer (some ⟨p, 0, none⟩), .int .i64 k] W (Res B p toks W (.error (tk toks (s.pl + 1)).pos)) := by
  have H0 := hid' h
  have HF := hid' hf
  have K0 := hid' (KQ.rfl B p W)
  clear h hf
  go_enter Tryz.func193, Tryz.ntmps193
  go_wp2_with (first
    | (go_at_call 93; (with_reducible refine (skip_is H0.out (by have := HF.out.at_; have := HF.out.few; (try dsimp only); omega)).mono ?_); rintro e w1 ⟨hk1, rfl, hR1⟩; have H1 := hid' hR1; have K1 := hid' (K0.out.trans hk1); clear hR1 hk1)
    | (go_at_call 180; (with_reducible refine (name_no H1.out hn (by have := HF.out.at_; have := HF.out.few; (try dsimp only); omega) hk).mono ?_); rintro e w2 ⟨hk2, rfl⟩; have K2 := hid' (K1.out.trans hk2); clear hk2))
  exact ⟨rfl, K2.out, rfl⟩

theorem postfix134_6 {W : World} {B p : Nat} {toks : List Tk} {s : St} (h : RdS W B p toks s) (hf : Fine toks s) (hq : signAt toks s.pl = ⟨#[46]⟩) (hn : s.pl + 1 < toks.length) (hk : (tk toks (s.pl + 1)).kind = 2) {l : List Dn} {d : Dn} (hd : s.done = l ++ [d]) :
    Calls Tryz.prog 134 #[.pointer (some ⟨p, 0, none⟩)] W (Res B p toks W (.ok { finS { s with pl := s.pl + 2, begun := ⟨⟨6, (tk toks (s.pl + 1)).text, 0, false, d.start⟩, 0, l.length⟩ :: s.begun } ⟨⟨6, (tk toks (s.pl + 1)).text, 0, false, d.start⟩, 0, l.length⟩ s.begun with todo := 134 :: s.todo })) := by
  have H0 := hid' h
  have HF := hid' hf
  have K0 := hid' (KQ.rfl B p W)
  have HD := hid' hd
  clear hd
  clear h hf
  go_enter Tryz.func134, Tryz.ntmps134
  go_wp2_with (first
    | (go_at_call 88; (with_reducible refine (sign_is H0.out hq (by have := om HF; (try dsimp only); omega) (by have := om HF; (try dsimp only); omega)).mono ?_); rintro e w1 ⟨rfl, hb1⟩; have H1 := hid' (H0.out.below hb1); have K1 := hid' (K0.out.trans (KQ.of_below hb1)); clear hb1)
    | (go_at_call 193; (with_reducible refine (selected193_y 6 H1.out HF.out.more hn hk HD.out).mono ?_); rintro e w2 ⟨hk2, rfl, hR2⟩; have H2 := hid' hR2; have K2 := hid' (K1.out.trans hk2); clear hR2 hk2))
  first
    | (go_end0; exact ⟨K2.out, rfl, H2.out⟩)
    | exact bodyPost_ret (results_none rfl _ _ _) rfl ⟨K2.out, rfl, H2.out⟩

theorem postfix134_6n {W : World} {B p : Nat} {toks : List Tk} {s : St} (h : RdS W B p toks s) (hf : Fine toks s) (hq : signAt toks s.pl = ⟨#[46]⟩) (hn : s.pl + 1 < toks.length) (hk : ¬ (tk toks (s.pl + 1)).kind = 2) :
    Calls Tryz.prog 134 #[.pointer (some ⟨p, 0, none⟩)] W (Res B p toks W (.error (tk toks (s.pl + 1)).pos)) := by
  have H0 := hid' h
  have HF := hid' hf
  have K0 := hid' (KQ.rfl B p W)
  clear h hf
  go_enter Tryz.func134, Tryz.ntmps134
  go_wp2_with (first
    | (go_at_call 88; (with_reducible refine (sign_is H0.out hq (by have := om HF; (try dsimp only); omega) (by have := om HF; (try dsimp only); omega)).mono ?_); rintro e w1 ⟨rfl, hb1⟩; have H1 := hid' (H0.out.below hb1); have K1 := hid' (K0.out.trans (KQ.of_below hb1)); clear hb1)
    | (go_at_call 193; (with_reducible refine (selected193_n 6 H1.out HF.out.more hn hk).mono ?_); rintro e w2 ⟨hk2, rfl⟩; have K2 := hid' (K1.out.trans hk2); clear hk2))
  exact ⟨rfl, K2.out, rfl⟩

theorem postfix134_7 {W : World} {B p : Nat} {toks : List Tk} {s : St} (h : RdS W B p toks s) (hf : Fine toks s) (hq : signAt toks s.pl = ⟨#[45, 62]⟩) (hn : s.pl + 1 < toks.length) (hk : (tk toks (s.pl + 1)).kind = 2) {l : List Dn} {d : Dn} (hd : s.done = l ++ [d]) :
    Calls Tryz.prog 134 #[.pointer (some ⟨p, 0, none⟩)] W (Res B p toks W (.ok { finS { s with pl := s.pl + 2, begun := ⟨⟨7, (tk toks (s.pl + 1)).text, 0, false, d.start⟩, 0, l.length⟩ :: s.begun } ⟨⟨7, (tk toks (s.pl + 1)).text, 0, false, d.start⟩, 0, l.length⟩ s.begun with todo := 134 :: s.todo })) := by
  have H0 := hid' h
  have HF := hid' hf
  have K0 := hid' (KQ.rfl B p W)
  have HD := hid' hd
  clear hd
  clear h hf
  go_enter Tryz.func134, Tryz.ntmps134
  go_wp2_with (first
    | (go_at_call 88; (with_reducible refine (sign_is H0.out hq (by have := om HF; (try dsimp only); omega) (by have := om HF; (try dsimp only); omega)).mono ?_); rintro e w1 ⟨rfl, hb1⟩; have H1 := hid' (H0.out.below hb1); have K1 := hid' (K0.out.trans (KQ.of_below hb1)); clear hb1)
    | (go_at_call 193; (with_reducible refine (selected193_y 7 H1.out HF.out.more hn hk HD.out).mono ?_); rintro e w2 ⟨hk2, rfl, hR2⟩; have H2 := hid' hR2; have K2 := hid' (K1.out.trans hk2); clear hR2 hk2))
  first
    | (go_end0; exact ⟨K2.out, rfl, H2.out⟩)
    | exact bodyPost_ret (results_none rfl _ _ _) rfl ⟨K2.out, rfl, H2.out⟩

theorem postfix134_7n {W : World} {B p : Nat} {toks : List Tk} {s : St} (h : RdS W B p toks s) (hf : Fine toks s) (hq : signAt toks s.pl = ⟨#[45, 62]⟩) (hn : s.pl + 1 < toks.length) (hk : ¬ (tk toks (s.pl + 1)).kind = 2) :
    Calls Tryz.prog 134 #[.pointer (some ⟨p, 0, none⟩)] W (Res B p toks W (.error (tk toks (s.pl + 1)).pos)) := by
  have H0 := hid' h
  have HF := hid' hf
  have K0 := hid' (KQ.rfl B p W)
  clear h hf
  go_enter Tryz.func134, Tryz.ntmps134
  go_wp2_with (first
    | (go_at_call 88; (with_reducible refine (sign_is H0.out hq (by have := om HF; (try dsimp only); omega) (by have := om HF; (try dsimp only); omega)).mono ?_); rintro e w1 ⟨rfl, hb1⟩; have H1 := hid' (H0.out.below hb1); have K1 := hid' (K0.out.trans (KQ.of_below hb1)); clear hb1)
    | (go_at_call 193; (with_reducible refine (selected193_n 7 H1.out HF.out.more hn hk).mono ?_); rintro e w2 ⟨hk2, rfl⟩; have K2 := hid' (K1.out.trans hk2); clear hk2))
  exact ⟨rfl, K2.out, rfl⟩

theorem typeInParens132_e {W : World} {B p : Nat} {toks : List Tk} {s : St} {q : Int} (h : RdS W B p toks s) (hf : Fine1 toks s) (hq : signAt toks s.pl = ⟨#[40]⟩) (hn : s.pl + 1 < toks.length) (hT : TokOk toks) (h1 : typedF toks { s with pl := s.pl + 1 } = .error q) :
    Calls Tryz.prog 132 #[.pointer (some ⟨p, 0, none⟩)] W (Res B p toks W (.error q)) := by
  have H0 := hid' h
  have HF := hid' hf
  have K0 := hid' (KQ.rfl B p W)
  clear h hf
  go_enter Tryz.func132, Tryz.ntmps132
  go_wp2_with (first
    | (go_at_call 179; (with_reducible refine (take_ok _ H0.out hq (by have := HF.out.at_; have := HF.out.few; (try dsimp only); omega) (by have := HF.out.at_; have := HF.out.few; (try dsimp only); omega)).mono ?_); rintro e w1 ⟨hk1, rfl, hR1⟩; have H1 := hid' hR1; have K1 := hid' (K0.out.trans hk1); clear hR1 hk1)
    | (go_at_call 183; (with_reducible refine (typed_no H1.out ⟨hn, HF.out.few, (by have := HF.out.todo; (try dsimp only); (try simp only [List.length_cons]); omega), (by have := HF.out.begun; (try dsimp only); (try simp only [List.length_cons]); omega), (by have := HF.out.done; (try dsimp only); (try simp only [List.length_append, List.length_singleton]); omega)⟩ hT h1).mono ?_); rintro e w2 ⟨hk2, rfl⟩; have K2 := hid' (K1.out.trans hk2); clear hk2))
  exact ⟨rfl, K2.out, rfl⟩

theorem typeInParens132_n {W : World} {B p : Nat} {toks : List Tk} {s : St} {k2 : Nat} {dn2 : List Dn} (h : RdS W B p toks s) (hf : Fine1 toks s) (hq : signAt toks s.pl = ⟨#[40]⟩) (hn : s.pl + 1 < toks.length) (hT : TokOk toks) (h1 : typedF toks { s with pl := s.pl + 1 } = .ok { s with pl := k2, done := dn2 }) (hl2 : k2 < toks.length) (h2 : ¬ signAt toks k2 = ⟨#[41]⟩) :
    Calls Tryz.prog 132 #[.pointer (some ⟨p, 0, none⟩)] W (Res B p toks W (.error (tk toks k2).pos)) := by
  have H0 := hid' h
  have HF := hid' hf
  have K0 := hid' (KQ.rfl B p W)
  clear h hf
  go_enter Tryz.func132, Tryz.ntmps132
  go_wp2_with (first
    | (go_at_call 179; (with_reducible refine (take_ok _ H0.out hq (by have := HF.out.at_; have := HF.out.few; (try dsimp only); omega) (by have := HF.out.at_; have := HF.out.few; (try dsimp only); omega)).mono ?_); rintro e w1 ⟨hk1, rfl, hR1⟩; have H1 := hid' hR1; have K1 := hid' (K0.out.trans hk1); clear hR1 hk1)
    | (go_at_call 183; (with_reducible refine (typed_ok H1.out ⟨hn, HF.out.few, (by have := HF.out.todo; (try dsimp only); (try simp only [List.length_cons]); omega), (by have := HF.out.begun; (try dsimp only); (try simp only [List.length_cons]); omega), (by have := HF.out.done; (try dsimp only); (try simp only [List.length_append, List.length_singleton]); omega)⟩ hT h1).mono ?_); rintro e w2 ⟨hk2, rfl, hR2⟩; have H2 := hid' hR2; have K2 := hid' (K1.out.trans hk2); clear hR2 hk2)
    | (go_at_call 179; (with_reducible refine (take_no _ H2.out h2 hl2 (by have := HF.out.at_; have := HF.out.few; (try dsimp only); omega)).mono ?_); rintro e w3 ⟨hk3, rfl⟩; have K3 := hid' (K2.out.trans hk3); clear hk3))
  exact ⟨rfl, K3.out, rfl⟩

theorem typeInParens132_y {W : World} {B p : Nat} {toks : List Tk} {s : St} {k2 : Nat} {dn2 : List Dn} (h : RdS W B p toks s) (hf : Fine1 toks s) (hq : signAt toks s.pl = ⟨#[40]⟩) (hn : s.pl + 1 < toks.length) (hT : TokOk toks) (h1 : typedF toks { s with pl := s.pl + 1 } = .ok { s with pl := k2, done := dn2 }) (hl2 : k2 < toks.length) (h2 : signAt toks k2 = ⟨#[41]⟩) :
    Calls Tryz.prog 132 #[.pointer (some ⟨p, 0, none⟩)] W (Res B p toks W (.ok { s with pl := k2 + 1, done := dn2 })) := by
  have H0 := hid' h
  have HF := hid' hf
  have K0 := hid' (KQ.rfl B p W)
  clear h hf
  go_enter Tryz.func132, Tryz.ntmps132
  go_wp2_with (first
    | (go_at_call 179; (with_reducible refine (take_ok _ H0.out hq (by have := HF.out.at_; have := HF.out.few; (try dsimp only); omega) (by have := HF.out.at_; have := HF.out.few; (try dsimp only); omega)).mono ?_); rintro e w1 ⟨hk1, rfl, hR1⟩; have H1 := hid' hR1; have K1 := hid' (K0.out.trans hk1); clear hR1 hk1)
    | (go_at_call 183; (with_reducible refine (typed_ok H1.out ⟨hn, HF.out.few, (by have := HF.out.todo; (try dsimp only); (try simp only [List.length_cons]); omega), (by have := HF.out.begun; (try dsimp only); (try simp only [List.length_cons]); omega), (by have := HF.out.done; (try dsimp only); (try simp only [List.length_append, List.length_singleton]); omega)⟩ hT h1).mono ?_); rintro e w2 ⟨hk2, rfl, hR2⟩; have H2 := hid' hR2; have K2 := hid' (K1.out.trans hk2); clear hR2 hk2)
    | (go_at_call 179; (with_reducible refine (take_ok _ H2.out h2 hl2 (by have := HF.out.at_; have := HF.out.few; (try dsimp only); omega)).mono ?_); rintro e w3 ⟨hk3, rfl, hR3⟩; have H3 := hid' hR3; have K3 := hid' (K2.out.trans hk3); clear hR3 hk3))
  first
    | (go_end0; exact ⟨K3.out, rfl, H3.out⟩)
    | exact bodyPost_ret (results_none rfl _ _ _) rfl ⟨K3.out, rfl, H3.out⟩

theorem measured130_e {W : World} {B p : Nat} {toks : List Tk} {s : St} {q : Int} {sx : ByteArray} (h : RdS W B p toks s) (hf : Fine toks s) (hq : signAt toks s.pl = ⟨#[40]⟩) (hn : s.pl + 1 < toks.length) (h0 : signAt toks (s.pl + 1) = sx) (q0 : tyWord sx = true) (hT : TokOk toks) (h1 : typedF toks { s with pl := s.pl + 1 } = .error q) :
    Calls Tryz.prog 130 #[.pointer (some ⟨p, 0, none⟩)] W (Res B p toks W (.error q)) := by
  have H0 := hid' h
  have HF := hid' hf
  have K0 := hid' (KQ.rfl B p W)
  clear h hf
  go_enter Tryz.func130, Tryz.ntmps130
  go_wp2_with (first
    | (go_at_call 88; (with_reducible refine (sign_is H0.out hq (by have := om HF; (try dsimp only); omega) (by have := om HF; (try dsimp only); omega)).mono ?_); rintro e w1 ⟨rfl, hb1⟩; have H1 := hid' (H0.out.below hb1); have K1 := hid' (K0.out.trans (KQ.of_below hb1)); clear hb1)
    | (go_at_call 121; (with_reducible refine (ahead_1 H1.out h0 (by have := om HF; (try dsimp only); omega) (by have := om HF; (try dsimp only); omega)).mono ?_); rintro e w2 ⟨rfl, hb2⟩; have H2 := hid' (H1.out.below hb2); have K2 := hid' (K1.out.trans (KQ.of_below hb2)); clear hb2)
    | (go_at_call 131; (with_reducible refine (isType131 _ _).mono ?_); rintro e w3 ⟨rfl, hb3⟩; have H3 := hid' (H2.out.below hb3); have K3 := hid' (K2.out.trans (KQ.of_below hb3)); clear hb3)
    | (go_at_call 132; (with_reducible refine (typeInParens132_e H3.out HF.out.more hq hn hT h1).mono ?_); rintro e w4 ⟨hk4, rfl⟩; have K4 := hid' (K3.out.trans hk4); clear hk4))
  exact ⟨rfl, K4.out, rfl⟩

theorem measured130_x {W : World} {B p : Nat} {toks : List Tk} {s : St} {k2 : Nat} {dn2 : List Dn} {sx : ByteArray} (h : RdS W B p toks s) (hf : Fine toks s) (hq : signAt toks s.pl = ⟨#[40]⟩) (hn : s.pl + 1 < toks.length) (h0 : signAt toks (s.pl + 1) = sx) (q0 : tyWord sx = true) (hT : TokOk toks) (h1 : typedF toks { s with pl := s.pl + 1 } = .ok { s with pl := k2, done := dn2 }) (hl2 : k2 < toks.length) (h2 : ¬ signAt toks k2 = ⟨#[41]⟩) :
    Calls Tryz.prog 130 #[.pointer (some ⟨p, 0, none⟩)] W (Res B p toks W (.error (tk toks k2).pos)) := by
  have H0 := hid' h
  have HF := hid' hf
  have K0 := hid' (KQ.rfl B p W)
  clear h hf
  go_enter Tryz.func130, Tryz.ntmps130
  go_wp2_with (first
    | (go_at_call 88; (with_reducible refine (sign_is H0.out hq (by have := om HF; (try dsimp only); omega) (by have := om HF; (try dsimp only); omega)).mono ?_); rintro e w1 ⟨rfl, hb1⟩; have H1 := hid' (H0.out.below hb1); have K1 := hid' (K0.out.trans (KQ.of_below hb1)); clear hb1)
    | (go_at_call 121; (with_reducible refine (ahead_1 H1.out h0 (by have := om HF; (try dsimp only); omega) (by have := om HF; (try dsimp only); omega)).mono ?_); rintro e w2 ⟨rfl, hb2⟩; have H2 := hid' (H1.out.below hb2); have K2 := hid' (K1.out.trans (KQ.of_below hb2)); clear hb2)
    | (go_at_call 131; (with_reducible refine (isType131 _ _).mono ?_); rintro e w3 ⟨rfl, hb3⟩; have H3 := hid' (H2.out.below hb3); have K3 := hid' (K2.out.trans (KQ.of_below hb3)); clear hb3)
    | (go_at_call 132; (with_reducible refine (typeInParens132_n H3.out HF.out.more hq hn hT h1 hl2 h2).mono ?_); rintro e w4 ⟨hk4, rfl⟩; have K4 := hid' (K3.out.trans hk4); clear hk4))
  exact ⟨rfl, K4.out, rfl⟩

theorem measured130_y {W : World} {B p : Nat} {toks : List Tk} {s : St} {k2 : Nat} {dn2 : List Dn} {sx : ByteArray} (h : RdS W B p toks s) (hf : Fine toks s) (hq : signAt toks s.pl = ⟨#[40]⟩) (hn : s.pl + 1 < toks.length) (h0 : signAt toks (s.pl + 1) = sx) (q0 : tyWord sx = true) (hT : TokOk toks) (h1 : typedF toks { s with pl := s.pl + 1 } = .ok { s with pl := k2, done := dn2 }) (hl2 : k2 < toks.length) (h2 : signAt toks k2 = ⟨#[41]⟩) :
    Calls Tryz.prog 130 #[.pointer (some ⟨p, 0, none⟩)] W (Res B p toks W (.ok { s with pl := k2 + 1, done := dn2 })) := by
  have H0 := hid' h
  have HF := hid' hf
  have K0 := hid' (KQ.rfl B p W)
  clear h hf
  go_enter Tryz.func130, Tryz.ntmps130
  go_wp2_with (first
    | (go_at_call 88; (with_reducible refine (sign_is H0.out hq (by have := om HF; (try dsimp only); omega) (by have := om HF; (try dsimp only); omega)).mono ?_); rintro e w1 ⟨rfl, hb1⟩; have H1 := hid' (H0.out.below hb1); have K1 := hid' (K0.out.trans (KQ.of_below hb1)); clear hb1)
    | (go_at_call 121; (with_reducible refine (ahead_1 H1.out h0 (by have := om HF; (try dsimp only); omega) (by have := om HF; (try dsimp only); omega)).mono ?_); rintro e w2 ⟨rfl, hb2⟩; have H2 := hid' (H1.out.below hb2); have K2 := hid' (K1.out.trans (KQ.of_below hb2)); clear hb2)
    | (go_at_call 131; (with_reducible refine (isType131 _ _).mono ?_); rintro e w3 ⟨rfl, hb3⟩; have H3 := hid' (H2.out.below hb3); have K3 := hid' (K2.out.trans (KQ.of_below hb3)); clear hb3)
    | (go_at_call 132; (with_reducible refine (typeInParens132_y H3.out HF.out.more hq hn hT h1 hl2 h2).mono ?_); rintro e w4 ⟨hk4, rfl, hR4⟩; have H4 := hid' hR4; have K4 := hid' (K3.out.trans hk4); clear hR4 hk4))
  first
    | (go_end0; exact ⟨K4.out, rfl, H4.out⟩)
    | exact bodyPost_ret (results_none rfl _ _ _) rfl ⟨K4.out, rfl, H4.out⟩

theorem unary85_ce {W : World} {B p : Nat} {toks : List Tk} {s : St} {q : Int} {sx : ByteArray} (h : RdS W B p toks s) (hf : Fine toks s) (hq : signAt toks s.pl = ⟨#[40]⟩) (hn : s.pl + 1 < toks.length) (h0 : signAt toks (s.pl + 1) = sx) (q0 : tyWord sx = true) (hT : TokOk toks) (h1 : typedF toks { s with pl := s.pl + 1, begun := ⟨⟨14, ⟨#[]⟩, 0, false, (tk toks s.pl).pos⟩, 0, s.done.length⟩ :: s.begun } = .error q) :
    Calls Tryz.prog 85 #[.pointer (some ⟨p, 0, none⟩)] W (Res B p toks W (.error q)) := by
  have H0 := hid' h
  have HF := hid' hf
  have K0 := hid' (KQ.rfl B p W)
  clear h hf
  go_enter Tryz.func85, Tryz.ntmps85
  go_wp2_with (first
    | (go_at_call 88; (with_reducible refine (sign_is H0.out hq (by have := om HF; (try dsimp only); omega) (by have := om HF; (try dsimp only); omega)).mono ?_); rintro e w1 ⟨rfl, hb1⟩; have H1 := hid' (H0.out.below hb1); have K1 := hid' (K0.out.trans (KQ.of_below hb1)); clear hb1)
    | (go_at_call 121; (with_reducible refine (ahead_1 H1.out h0 (by have := om HF; (try dsimp only); omega) (by have := om HF; (try dsimp only); omega)).mono ?_); rintro e w2 ⟨rfl, hb2⟩; have H2 := hid' (H1.out.below hb2); have K2 := hid' (K1.out.trans (KQ.of_below hb2)); clear hb2)
    | (go_at_call 131; (with_reducible refine (isType131 _ _).mono ?_); rintro e w3 ⟨rfl, hb3⟩; have H3 := hid' (H2.out.below hb3); have K3 := hid' (K2.out.trans (KQ.of_below hb3)); clear hb3)
    | (go_at_call 128; (with_reducible refine (begin_is _ H3.out (by have := om HF; (try dsimp only); omega) (by have := HF.out.begun; (try dsimp only); omega)).mono ?_); rintro e w4 ⟨hk4, rfl, hR4⟩; have H4 := hid' hR4; have K4 := hid' (K3.out.trans hk4); clear hR4 hk4)
    | (go_at_call 132; (with_reducible refine (typeInParens132_e H4.out ⟨HF.out.at_, HF.out.few, (by have := HF.out.todo; (try dsimp only); omega), (by have := HF.out.begun; (try dsimp only); (try simp only [List.length_cons]); omega), (by have := HF.out.done; (try dsimp only); omega)⟩ hq hn hT h1).mono ?_); rintro e w5 ⟨hk5, rfl⟩; have K5 := hid' (K4.out.trans hk5); clear hk5))
  exact ⟨rfl, K5.out, rfl⟩

theorem unary85_cx {W : World} {B p : Nat} {toks : List Tk} {s : St} {k2 : Nat} {dn2 : List Dn} {sx : ByteArray} (h : RdS W B p toks s) (hf : Fine toks s) (hq : signAt toks s.pl = ⟨#[40]⟩) (hn : s.pl + 1 < toks.length) (h0 : signAt toks (s.pl + 1) = sx) (q0 : tyWord sx = true) (hT : TokOk toks) (h1 : typedF toks { s with pl := s.pl + 1, begun := ⟨⟨14, ⟨#[]⟩, 0, false, (tk toks s.pl).pos⟩, 0, s.done.length⟩ :: s.begun } = .ok { s with pl := k2, begun := ⟨⟨14, ⟨#[]⟩, 0, false, (tk toks s.pl).pos⟩, 0, s.done.length⟩ :: s.begun, done := dn2 }) (hl2 : k2 < toks.length) (h2 : ¬ signAt toks k2 = ⟨#[41]⟩) :
    Calls Tryz.prog 85 #[.pointer (some ⟨p, 0, none⟩)] W (Res B p toks W (.error (tk toks k2).pos)) := by
  have H0 := hid' h
  have HF := hid' hf
  have K0 := hid' (KQ.rfl B p W)
  clear h hf
  go_enter Tryz.func85, Tryz.ntmps85
  go_wp2_with (first
    | (go_at_call 88; (with_reducible refine (sign_is H0.out hq (by have := om HF; (try dsimp only); omega) (by have := om HF; (try dsimp only); omega)).mono ?_); rintro e w1 ⟨rfl, hb1⟩; have H1 := hid' (H0.out.below hb1); have K1 := hid' (K0.out.trans (KQ.of_below hb1)); clear hb1)
    | (go_at_call 121; (with_reducible refine (ahead_1 H1.out h0 (by have := om HF; (try dsimp only); omega) (by have := om HF; (try dsimp only); omega)).mono ?_); rintro e w2 ⟨rfl, hb2⟩; have H2 := hid' (H1.out.below hb2); have K2 := hid' (K1.out.trans (KQ.of_below hb2)); clear hb2)
    | (go_at_call 131; (with_reducible refine (isType131 _ _).mono ?_); rintro e w3 ⟨rfl, hb3⟩; have H3 := hid' (H2.out.below hb3); have K3 := hid' (K2.out.trans (KQ.of_below hb3)); clear hb3)
    | (go_at_call 128; (with_reducible refine (begin_is _ H3.out (by have := om HF; (try dsimp only); omega) (by have := HF.out.begun; (try dsimp only); omega)).mono ?_); rintro e w4 ⟨hk4, rfl, hR4⟩; have H4 := hid' hR4; have K4 := hid' (K3.out.trans hk4); clear hR4 hk4)
    | (go_at_call 132; (with_reducible refine (typeInParens132_n H4.out ⟨HF.out.at_, HF.out.few, (by have := HF.out.todo; (try dsimp only); omega), (by have := HF.out.begun; (try dsimp only); (try simp only [List.length_cons]); omega), (by have := HF.out.done; (try dsimp only); omega)⟩ hq hn hT h1 hl2 h2).mono ?_); rintro e w5 ⟨hk5, rfl⟩; have K5 := hid' (K4.out.trans hk5); clear hk5))
  exact ⟨rfl, K5.out, rfl⟩

theorem unary85_cy {W : World} {B p : Nat} {toks : List Tk} {s : St} {k2 : Nat} {dn2 : List Dn} {sx : ByteArray} (h : RdS W B p toks s) (hf : Fine toks s) (hq : signAt toks s.pl = ⟨#[40]⟩) (hn : s.pl + 1 < toks.length) (h0 : signAt toks (s.pl + 1) = sx) (q0 : tyWord sx = true) (hT : TokOk toks) (h1 : typedF toks { s with pl := s.pl + 1, begun := ⟨⟨14, ⟨#[]⟩, 0, false, (tk toks s.pl).pos⟩, 0, s.done.length⟩ :: s.begun } = .ok { s with pl := k2, begun := ⟨⟨14, ⟨#[]⟩, 0, false, (tk toks s.pl).pos⟩, 0, s.done.length⟩ :: s.begun, done := dn2 }) (hl2 : k2 < toks.length) (h2 : signAt toks k2 = ⟨#[41]⟩) :
    Calls Tryz.prog 85 #[.pointer (some ⟨p, 0, none⟩)] W (Res B p toks W (.ok { s with pl := k2 + 1, todo := 85 :: 40 :: s.todo, begun := ⟨⟨14, ⟨#[]⟩, 0, false, (tk toks s.pl).pos⟩, 0, s.done.length⟩ :: s.begun, done := dn2 })) := by
  have H0 := hid' h
  have HF := hid' hf
  have K0 := hid' (KQ.rfl B p W)
  clear h hf
  go_enter Tryz.func85, Tryz.ntmps85
  go_wp2_with (first
    | (go_at_call 88; (with_reducible refine (sign_is H0.out hq (by have := om HF; (try dsimp only); omega) (by have := om HF; (try dsimp only); omega)).mono ?_); rintro e w1 ⟨rfl, hb1⟩; have H1 := hid' (H0.out.below hb1); have K1 := hid' (K0.out.trans (KQ.of_below hb1)); clear hb1)
    | (go_at_call 121; (with_reducible refine (ahead_1 H1.out h0 (by have := om HF; (try dsimp only); omega) (by have := om HF; (try dsimp only); omega)).mono ?_); rintro e w2 ⟨rfl, hb2⟩; have H2 := hid' (H1.out.below hb2); have K2 := hid' (K1.out.trans (KQ.of_below hb2)); clear hb2)
    | (go_at_call 131; (with_reducible refine (isType131 _ _).mono ?_); rintro e w3 ⟨rfl, hb3⟩; have H3 := hid' (H2.out.below hb3); have K3 := hid' (K2.out.trans (KQ.of_below hb3)); clear hb3)
    | (go_at_call 128; (with_reducible refine (begin_is _ H3.out (by have := om HF; (try dsimp only); omega) (by have := HF.out.begun; (try dsimp only); omega)).mono ?_); rintro e w4 ⟨hk4, rfl, hR4⟩; have H4 := hid' hR4; have K4 := hid' (K3.out.trans hk4); clear hR4 hk4)
    | (go_at_call 132; (with_reducible refine (typeInParens132_y H4.out ⟨HF.out.at_, HF.out.few, (by have := HF.out.todo; (try dsimp only); omega), (by have := HF.out.begun; (try dsimp only); (try simp only [List.length_cons]); omega), (by have := HF.out.done; (try dsimp only); omega)⟩ hq hn hT h1 hl2 h2).mono ?_); rintro e w5 ⟨hk5, rfl, hR5⟩; have H5 := hid' hR5; have K5 := hid' (K4.out.trans hk5); clear hR5 hk5)
    | (go_at_call 38; (with_reducible refine (then_2 _ _ H5.out (by have := HF.out.todo; (try unfold finS); (try dsimp only); (try simp only [List.length_cons]); omega)).mono ?_); rintro e w6 ⟨hk6, rfl, hR6⟩; have H6 := hid' hR6; have K6 := hid' (K5.out.trans hk6); clear hR6 hk6))
  first
    | (go_end0; exact ⟨K6.out, rfl, H6.out⟩)
    | exact bodyPost_ret (results_none rfl _ _ _) rfl ⟨K6.out, rfl, H6.out⟩

theorem variables124_e {W : World} {B p : Nat} {toks : List Tk} {s : St} {q : Int} (h : RdS W B p toks s) (hf : Fine toks s) (hT : TokOk toks) (h1 : typedF toks { s with pl := s.pl, begun := ⟨⟨42, ⟨#[]⟩, 0, false, (tk toks s.pl).pos⟩, 0, s.done.length⟩ :: s.begun } = .error q) :
    Calls Tryz.prog 124 #[.pointer (some ⟨p, 0, none⟩)] W (Res B p toks W (.error q)) := by
  have H0 := hid' h
  have HF := hid' hf
  have K0 := hid' (KQ.rfl B p W)
  clear h hf
  go_enter Tryz.func124, Tryz.ntmps124
  go_wp2_with (first
    | (go_at_call 128; (with_reducible refine (begin_is _ H0.out (by have := om HF; (try dsimp only); omega) (by have := HF.out.begun; (try dsimp only); omega)).mono ?_); rintro e w1 ⟨hk1, rfl, hR1⟩; have H1 := hid' hR1; have K1 := hid' (K0.out.trans hk1); clear hR1 hk1)
    | (go_at_call 183; (with_reducible refine (typed_no H1.out ⟨HF.out.at_, HF.out.few, (by have := HF.out.todo; (try dsimp only); (try simp only [List.length_cons]); omega), (by have := HF.out.begun; (try dsimp only); (try simp only [List.length_cons]); omega), (by have := HF.out.done; (try dsimp only); (try simp only [List.length_append, List.length_singleton]); omega)⟩ hT h1).mono ?_); rintro e w2 ⟨hk2, rfl⟩; have K2 := hid' (K1.out.trans hk2); clear hk2))
  exact ⟨rfl, K2.out, rfl⟩

theorem variables124_y {W : World} {B p : Nat} {toks : List Tk} {s : St} {k2 : Nat} {dn2 : List Dn} (h : RdS W B p toks s) (hf : Fine toks s) (hT : TokOk toks) (h1 : typedF toks { s with pl := s.pl, begun := ⟨⟨42, ⟨#[]⟩, 0, false, (tk toks s.pl).pos⟩, 0, s.done.length⟩ :: s.begun } = .ok { s with pl := k2, begun := ⟨⟨42, ⟨#[]⟩, 0, false, (tk toks s.pl).pos⟩, 0, s.done.length⟩ :: s.begun, done := dn2 }) :
    Calls Tryz.prog 124 #[.pointer (some ⟨p, 0, none⟩)] W (Res B p toks W (.ok { s with pl := k2, todo := 188 :: 189 :: 182 :: 40 :: s.todo, begun := ⟨⟨42, ⟨#[]⟩, 0, false, (tk toks s.pl).pos⟩, 0, s.done.length⟩ :: s.begun, done := dn2 })) := by
  have H0 := hid' h
  have HF := hid' hf
  have K0 := hid' (KQ.rfl B p W)
  clear h hf
  go_enter Tryz.func124, Tryz.ntmps124
  go_wp2_with (first
    | (go_at_call 128; (with_reducible refine (begin_is _ H0.out (by have := om HF; (try dsimp only); omega) (by have := HF.out.begun; (try dsimp only); omega)).mono ?_); rintro e w1 ⟨hk1, rfl, hR1⟩; have H1 := hid' hR1; have K1 := hid' (K0.out.trans hk1); clear hR1 hk1)
    | (go_at_call 183; (with_reducible refine (typed_ok H1.out ⟨HF.out.at_, HF.out.few, (by have := HF.out.todo; (try dsimp only); (try simp only [List.length_cons]); omega), (by have := HF.out.begun; (try dsimp only); (try simp only [List.length_cons]); omega), (by have := HF.out.done; (try dsimp only); (try simp only [List.length_append, List.length_singleton]); omega)⟩ hT h1).mono ?_); rintro e w2 ⟨hk2, rfl, hR2⟩; have H2 := hid' hR2; have K2 := hid' (K1.out.trans hk2); clear hR2 hk2)
    | (go_at_call 38; (with_reducible refine (then_4 _ _ _ _ H2.out (by have := HF.out.todo; (try unfold finS); (try dsimp only); (try simp only [List.length_cons]); omega)).mono ?_); rintro e w3 ⟨hk3, rfl, hR3⟩; have H3 := hid' hR3; have K3 := hid' (K2.out.trans hk3); clear hR3 hk3))
  first
    | (go_end0; exact ⟨K3.out, rfl, H3.out⟩)
    | exact bodyPost_ret (results_none rfl _ _ _) rfl ⟨K3.out, rfl, H3.out⟩

theorem members181_e {W : World} {B p : Nat} {toks : List Tk} {s : St} (h : RdS W B p toks s) (hf : Fine toks s) (hq : signAt toks s.pl = ⟨#[125]⟩) :
    Calls Tryz.prog 181 #[.pointer (some ⟨p, 0, none⟩)] W (Res B p toks W (.ok { s with pl := s.pl + 1 })) := by
  have H0 := hid' h
  have HF := hid' hf
  have K0 := hid' (KQ.rfl B p W)
  clear h hf
  go_enter Tryz.func181, Tryz.ntmps181
  go_wp2_with (first
    | (go_at_call 88; (with_reducible refine (sign_is H0.out hq (by have := om HF; (try dsimp only); omega) (by have := om HF; (try dsimp only); omega)).mono ?_); rintro e w1 ⟨rfl, hb1⟩; have H1 := hid' (H0.out.below hb1); have K1 := hid' (K0.out.trans (KQ.of_below hb1)); clear hb1)
    | (go_at_call 93; (with_reducible refine (skip_is H1.out (by have := om HF; (try dsimp only); omega)).mono ?_); rintro e w2 ⟨hk2, rfl, hR2⟩; have H2 := hid' hR2; have K2 := hid' (K1.out.trans hk2); clear hR2 hk2))
  first
    | (go_end0; exact ⟨K2.out, rfl, H2.out⟩)
    | exact bodyPost_ret (results_none rfl _ _ _) rfl ⟨K2.out, rfl, H2.out⟩

theorem members181_n {W : World} {B p : Nat} {toks : List Tk} {s : St} {q : Int} {sx : ByteArray} (h : RdS W B p toks s) (hf : Fine toks s) (hq : signAt toks s.pl = sx) (q0 : (sx.toList == [125]) = false) (hT : TokOk toks) (h1 : typedF toks { s with pl := s.pl, begun := ⟨⟨42, ⟨#[]⟩, 0, false, (tk toks s.pl).pos⟩, 0, s.done.length⟩ :: s.begun } = .error q) :
    Calls Tryz.prog 181 #[.pointer (some ⟨p, 0, none⟩)] W (Res B p toks W (.error q)) := by
  have H0 := hid' h
  have HF := hid' hf
  have K0 := hid' (KQ.rfl B p W)
  clear h hf
  go_enter Tryz.func181, Tryz.ntmps181
  go_wp2_with (first
    | (go_at_call 88; (with_reducible refine (sign_is H0.out hq (by have := om HF; (try dsimp only); omega) (by have := om HF; (try dsimp only); omega)).mono ?_); rintro e w1 ⟨rfl, hb1⟩; have H1 := hid' (H0.out.below hb1); have K1 := hid' (K0.out.trans (KQ.of_below hb1)); clear hb1)
    | (go_at_call 128; (with_reducible refine (begin_is _ H1.out (by have := om HF; (try dsimp only); omega) (by have := HF.out.begun; (try dsimp only); omega)).mono ?_); rintro e w2 ⟨hk2, rfl, hR2⟩; have H2 := hid' hR2; have K2 := hid' (K1.out.trans hk2); clear hR2 hk2)
    | (go_at_call 183; (with_reducible refine (typed_no H2.out ⟨HF.out.at_, HF.out.few, (by have := HF.out.todo; (try dsimp only); (try simp only [List.length_cons]); omega), (by have := HF.out.begun; (try dsimp only); (try simp only [List.length_cons]); omega), (by have := HF.out.done; (try dsimp only); (try simp only [List.length_append, List.length_singleton]); omega)⟩ hT h1).mono ?_); rintro e w3 ⟨hk3, rfl⟩; have K3 := hid' (K2.out.trans hk3); clear hk3))
  exact ⟨rfl, K3.out, rfl⟩

theorem members181_y {W : World} {B p : Nat} {toks : List Tk} {s : St} {k2 : Nat} {dn2 : List Dn} {sx : ByteArray} (h : RdS W B p toks s) (hf : Fine toks s) (hq : signAt toks s.pl = sx) (q0 : (sx.toList == [125]) = false) (hT : TokOk toks) (h1 : typedF toks { s with pl := s.pl, begun := ⟨⟨42, ⟨#[]⟩, 0, false, (tk toks s.pl).pos⟩, 0, s.done.length⟩ :: s.begun } = .ok { s with pl := k2, begun := ⟨⟨42, ⟨#[]⟩, 0, false, (tk toks s.pl).pos⟩, 0, s.done.length⟩ :: s.begun, done := dn2 }) :
    Calls Tryz.prog 181 #[.pointer (some ⟨p, 0, none⟩)] W (Res B p toks W (.ok { s with pl := k2, todo := 221 :: 222 :: 182 :: 40 :: 181 :: s.todo, begun := ⟨⟨42, ⟨#[]⟩, 0, false, (tk toks s.pl).pos⟩, 0, s.done.length⟩ :: s.begun, done := dn2 })) := by
  have H0 := hid' h
  have HF := hid' hf
  have K0 := hid' (KQ.rfl B p W)
  clear h hf
  go_enter Tryz.func181, Tryz.ntmps181
  go_wp2_with (first
    | (go_at_call 88; (with_reducible refine (sign_is H0.out hq (by have := om HF; (try dsimp only); omega) (by have := om HF; (try dsimp only); omega)).mono ?_); rintro e w1 ⟨rfl, hb1⟩; have H1 := hid' (H0.out.below hb1); have K1 := hid' (K0.out.trans (KQ.of_below hb1)); clear hb1)
    | (go_at_call 128; (with_reducible refine (begin_is _ H1.out (by have := om HF; (try dsimp only); omega) (by have := HF.out.begun; (try dsimp only); omega)).mono ?_); rintro e w2 ⟨hk2, rfl, hR2⟩; have H2 := hid' hR2; have K2 := hid' (K1.out.trans hk2); clear hR2 hk2)
    | (go_at_call 183; (with_reducible refine (typed_ok H2.out ⟨HF.out.at_, HF.out.few, (by have := HF.out.todo; (try dsimp only); (try simp only [List.length_cons]); omega), (by have := HF.out.begun; (try dsimp only); (try simp only [List.length_cons]); omega), (by have := HF.out.done; (try dsimp only); (try simp only [List.length_append, List.length_singleton]); omega)⟩ hT h1).mono ?_); rintro e w3 ⟨hk3, rfl, hR3⟩; have H3 := hid' hR3; have K3 := hid' (K2.out.trans hk3); clear hR3 hk3)
    | (go_at_call 38; (with_reducible refine (then_5 _ _ _ _ _ H3.out (by have := HF.out.todo; (try unfold finS); (try dsimp only); (try simp only [List.length_cons]); omega)).mono ?_); rintro e w4 ⟨hk4, rfl, hR4⟩; have H4 := hid' hR4; have K4 := hid' (K3.out.trans hk4); clear hR4 hk4))
  first
    | (go_end0; exact ⟨K4.out, rfl, H4.out⟩)
    | exact bodyPost_ret (results_none rfl _ _ _) rfl ⟨K4.out, rfl, H4.out⟩
end Go.Proofs.YtjeioblhpfogfaaGreatDoor
namespace Go.Proofs.YtjeioblhpfogfaaGreatDoor
open Go.RowKit

theorem function123_e {W : World} {B p : Nat} {toks : List Tk} {s : St} {q : Int} (h : RdS W B p toks s) (hf : Fine toks s) (hT : TokOk toks) (h1 : typedF toks { s with pl := s.pl, begun := ⟨⟨45, ⟨#[]⟩, 0, false, (tk toks s.pl).pos⟩, 0, s.done.length⟩ :: s.begun } = .error q) :
    Calls Tryz.prog 123 #[.pointer (some ⟨p, 0, none⟩)] W (Res B p toks W (.error q)) := by
  have H0 := hid' h
  have HF := hid' hf
  have K0 := hid' (KQ.rfl B p W)
  clear h hf
  go_enter Tryz.func123, Tryz.ntmps123
  go_wp2_with (first
    | (go_at_call 128; (with_reducible refine (begin_is _ H0.out (by have := om HF; (try dsimp only); omega) (by have := HF.out.begun; (try dsimp only); omega)).mono ?_); rintro e w1 ⟨hk1, rfl, hR1⟩; have H1 := hid' hR1; have K1 := hid' (K0.out.trans hk1); clear hR1 hk1)
    | (go_at_call 183; (with_reducible refine (typed_no H1.out ⟨HF.out.at_, HF.out.few, (by have := HF.out.todo; (try dsimp only); (try simp only [List.length_cons]); omega), (by have := HF.out.begun; (try dsimp only); (try simp only [List.length_cons]); omega), (by have := HF.out.done; (try dsimp only); (try simp only [List.length_append, List.length_singleton]); omega)⟩ hT h1).mono ?_); rintro e w2 ⟨hk2, rfl⟩; have K2 := hid' (K1.out.trans hk2); clear hk2))
  exact ⟨rfl, K2.out, rfl⟩

theorem function123_m {W : World} {B p : Nat} {toks : List Tk} {s : St} {k2 : Nat} {dn2 : List Dn} (h : RdS W B p toks s) (hf : Fine toks s) (hT : TokOk toks) (h1 : typedF toks { s with pl := s.pl, begun := ⟨⟨45, ⟨#[]⟩, 0, false, (tk toks s.pl).pos⟩, 0, s.done.length⟩ :: s.begun } = .ok { s with pl := k2, begun := ⟨⟨45, ⟨#[]⟩, 0, false, (tk toks s.pl).pos⟩, 0, s.done.length⟩ :: s.begun, done := dn2 }) (hl2 : k2 < toks.length) (hd2 : dn2.length = s.done.length + 1) (hk : ¬ (tk toks k2).kind = 2) :
    Calls Tryz.prog 123 #[.pointer (some ⟨p, 0, none⟩)] W (Res B p toks W (.error (tk toks k2).pos)) := by
  have H0 := hid' h
  have HF := hid' hf
  have K0 := hid' (KQ.rfl B p W)
  clear h hf
  go_enter Tryz.func123, Tryz.ntmps123
  go_wp2_with (first
    | (go_at_call 128; (with_reducible refine (begin_is _ H0.out (by have := om HF; (try dsimp only); omega) (by have := HF.out.begun; (try dsimp only); omega)).mono ?_); rintro e w1 ⟨hk1, rfl, hR1⟩; have H1 := hid' hR1; have K1 := hid' (K0.out.trans hk1); clear hR1 hk1)
    | (go_at_call 183; (with_reducible refine (typed_ok H1.out ⟨HF.out.at_, HF.out.few, (by have := HF.out.todo; (try dsimp only); (try simp only [List.length_cons]); omega), (by have := HF.out.begun; (try dsimp only); (try simp only [List.length_cons]); omega), (by have := HF.out.done; (try dsimp only); (try simp only [List.length_append, List.length_singleton]); omega)⟩ hT h1).mono ?_); rintro e w2 ⟨hk2, rfl, hR2⟩; have H2 := hid' hR2; have K2 := hid' (K1.out.trans hk2); clear hR2 hk2)
    | (go_at_call 129; (with_reducible refine (top_is H2.out rfl (by have := HF.out.begun; (try dsimp only); omega)).mono ?_); rintro e w3 ⟨g, o, rfl, hb3, hT3⟩; have T3 := hid' hT3; have H3 := hid' hT3.rd; have K3 := hid' (K2.out.trans (KQ.of_below hb3)); clear hb3 hT3; obtain ⟨a0, a1, a2, a3, a6, af, al⟩ := T3.out.cells rfl; have z1 := af (o + 1); have z2 := af (o + 2); have z3 := af (o + 3); clear af a0 a6)
    | (go_at_call 180; (with_reducible refine (name_no H3.out hl2 (by have := om HF; (try dsimp only); omega) hk).mono ?_); rintro e w4 ⟨hk4, rfl⟩; have K4 := hid' (K3.out.trans hk4); clear hk4))
  exact ⟨rfl, K4.out, rfl⟩

theorem function123_k {W : World} {B p : Nat} {toks : List Tk} {s : St} {k2 : Nat} {dn2 : List Dn} (h : RdS W B p toks s) (hf : Fine toks s) (hT : TokOk toks) (h1 : typedF toks { s with pl := s.pl, begun := ⟨⟨45, ⟨#[]⟩, 0, false, (tk toks s.pl).pos⟩, 0, s.done.length⟩ :: s.begun } = .ok { s with pl := k2, begun := ⟨⟨45, ⟨#[]⟩, 0, false, (tk toks s.pl).pos⟩, 0, s.done.length⟩ :: s.begun, done := dn2 }) (hl2 : k2 < toks.length) (hd2 : dn2.length = s.done.length + 1) (hk : (tk toks k2).kind = 2) (hl3 : k2 + 1 < toks.length) (h2 : ¬ signAt toks (k2 + 1) = ⟨#[40]⟩) :
    Calls Tryz.prog 123 #[.pointer (some ⟨p, 0, none⟩)] W (Res B p toks W (.error (tk toks (k2 + 1)).pos)) := by
  have H0 := hid' h
  have HF := hid' hf
  have K0 := hid' (KQ.rfl B p W)
  clear h hf
  go_enter Tryz.func123, Tryz.ntmps123
  go_wp2_with (first
    | (go_at_call 128; (with_reducible refine (begin_is _ H0.out (by have := om HF; (try dsimp only); omega) (by have := HF.out.begun; (try dsimp only); omega)).mono ?_); rintro e w1 ⟨hk1, rfl, hR1⟩; have H1 := hid' hR1; have K1 := hid' (K0.out.trans hk1); clear hR1 hk1)
    | (go_at_call 183; (with_reducible refine (typed_ok H1.out ⟨HF.out.at_, HF.out.few, (by have := HF.out.todo; (try dsimp only); (try simp only [List.length_cons]); omega), (by have := HF.out.begun; (try dsimp only); (try simp only [List.length_cons]); omega), (by have := HF.out.done; (try dsimp only); (try simp only [List.length_append, List.length_singleton]); omega)⟩ hT h1).mono ?_); rintro e w2 ⟨hk2, rfl, hR2⟩; have H2 := hid' hR2; have K2 := hid' (K1.out.trans hk2); clear hR2 hk2)
    | (go_at_call 129; (with_reducible refine (top_is H2.out rfl (by have := HF.out.begun; (try dsimp only); omega)).mono ?_); rintro e w3 ⟨g, o, rfl, hb3, hT3⟩; have T3 := hid' hT3; have H3 := hid' hT3.rd; have K3 := hid' (K2.out.trans (KQ.of_below hb3)); clear hb3 hT3; obtain ⟨a0, a1, a2, a3, a6, af, al⟩ := T3.out.cells rfl; have z1 := af (o + 1); have z2 := af (o + 2); have z3 := af (o + 3); clear af a0 a6)
    | (go_at_call 180; (with_reducible refine (nameT T3.out hl2 (by have := om HF; (try dsimp only); omega) hk).mono ?_); rintro e w4 ⟨rfl, hT4, hk4⟩; have T4 := hid' hT4; have H4 := hid' hT4.rd; have K4 := hid' (K3.out.trans hk4); clear hT4 hk4; (try clear a1 a2 a3 z1 z2 z3 al); obtain ⟨a0, a1, a2, a3, a6, af, al⟩ := T4.out.cells rfl; have z1 := af (o + 1); have z2 := af (o + 2); have z3 := af (o + 3); clear af a0 a6))
  obtain ⟨hT5, hk5⟩ := T4.out.set (j := 1) (v := .string (tk toks k2).text) (b' := ⟨⟨45, (tk toks k2).text, 0, false, (tk toks s.pl).pos⟩, 0, s.done.length⟩) rfl (by decide) rfl
  have T5 := hid' hT5
  have H5 := hid' hT5.rd
  have K5 := hid' (K4.out.trans hk5)
  clear hT5 hk5 a1 a2 a3 z1 z2 z3 al
  generalize w4.setCell ⟨g, o + 1, none⟩ (.string (tk toks k2).text) = w5 at *
  obtain ⟨a0, a1, a2, a3, a6, af, al⟩ := T5.out.cells rfl
  have z1 := af (o + 1)
  have z2 := af (o + 2)
  have z3 := af (o + 3)
  clear af a0 a6
  go_wp2_with (first
    | (go_at_call 179; (with_reducible refine (take_no _ H5.out h2 hl3 (by have := om HF; (try dsimp only); omega)).mono ?_); rintro e w6 ⟨hk6, rfl⟩; have K6 := hid' (K5.out.trans hk6); clear hk6))
  exact ⟨rfl, K6.out, rfl⟩

theorem function123_z {W : World} {B p : Nat} {toks : List Tk} {s : St} {k2 : Nat} {dn2 : List Dn} (h : RdS W B p toks s) (hf : Fine toks s) (hT : TokOk toks) (h1 : typedF toks { s with pl := s.pl, begun := ⟨⟨45, ⟨#[]⟩, 0, false, (tk toks s.pl).pos⟩, 0, s.done.length⟩ :: s.begun } = .ok { s with pl := k2, begun := ⟨⟨45, ⟨#[]⟩, 0, false, (tk toks s.pl).pos⟩, 0, s.done.length⟩ :: s.begun, done := dn2 }) (hl2 : k2 < toks.length) (hd2 : dn2.length = s.done.length + 1) (hk : (tk toks k2).kind = 2) (hl3 : k2 + 1 < toks.length) (h2 : signAt toks (k2 + 1) = ⟨#[40]⟩) (hl4 : k2 + 2 < toks.length) (h3 : signAt toks (k2 + 2) = ⟨#[41]⟩) :
    Calls Tryz.prog 123 #[.pointer (some ⟨p, 0, none⟩)] W (Res B p toks W (.ok { s with pl := k2 + 2, todo := 184 :: 185 :: 40 :: s.todo, begun := ⟨⟨45, (tk toks k2).text, 0, false, (tk toks s.pl).pos⟩, 0, s.done.length⟩ :: s.begun, done := dn2 })) := by
  have H0 := hid' h
  have HF := hid' hf
  have K0 := hid' (KQ.rfl B p W)
  clear h hf
  go_enter Tryz.func123, Tryz.ntmps123
  go_wp2_with (first
    | (go_at_call 128; (with_reducible refine (begin_is _ H0.out (by have := om HF; (try dsimp only); omega) (by have := HF.out.begun; (try dsimp only); omega)).mono ?_); rintro e w1 ⟨hk1, rfl, hR1⟩; have H1 := hid' hR1; have K1 := hid' (K0.out.trans hk1); clear hR1 hk1)
    | (go_at_call 183; (with_reducible refine (typed_ok H1.out ⟨HF.out.at_, HF.out.few, (by have := HF.out.todo; (try dsimp only); (try simp only [List.length_cons]); omega), (by have := HF.out.begun; (try dsimp only); (try simp only [List.length_cons]); omega), (by have := HF.out.done; (try dsimp only); (try simp only [List.length_append, List.length_singleton]); omega)⟩ hT h1).mono ?_); rintro e w2 ⟨hk2, rfl, hR2⟩; have H2 := hid' hR2; have K2 := hid' (K1.out.trans hk2); clear hR2 hk2)
    | (go_at_call 129; (with_reducible refine (top_is H2.out rfl (by have := HF.out.begun; (try dsimp only); omega)).mono ?_); rintro e w3 ⟨g, o, rfl, hb3, hT3⟩; have T3 := hid' hT3; have H3 := hid' hT3.rd; have K3 := hid' (K2.out.trans (KQ.of_below hb3)); clear hb3 hT3; obtain ⟨a0, a1, a2, a3, a6, af, al⟩ := T3.out.cells rfl; have z1 := af (o + 1); have z2 := af (o + 2); have z3 := af (o + 3); clear af a0 a6)
    | (go_at_call 180; (with_reducible refine (nameT T3.out hl2 (by have := om HF; (try dsimp only); omega) hk).mono ?_); rintro e w4 ⟨rfl, hT4, hk4⟩; have T4 := hid' hT4; have H4 := hid' hT4.rd; have K4 := hid' (K3.out.trans hk4); clear hT4 hk4; (try clear a1 a2 a3 z1 z2 z3 al); obtain ⟨a0, a1, a2, a3, a6, af, al⟩ := T4.out.cells rfl; have z1 := af (o + 1); have z2 := af (o + 2); have z3 := af (o + 3); clear af a0 a6))
  obtain ⟨hT5, hk5⟩ := T4.out.set (j := 1) (v := .string (tk toks k2).text) (b' := ⟨⟨45, (tk toks k2).text, 0, false, (tk toks s.pl).pos⟩, 0, s.done.length⟩) rfl (by decide) rfl
  have T5 := hid' hT5
  have H5 := hid' hT5.rd
  have K5 := hid' (K4.out.trans hk5)
  clear hT5 hk5 a1 a2 a3 z1 z2 z3 al
  generalize w4.setCell ⟨g, o + 1, none⟩ (.string (tk toks k2).text) = w5 at *
  obtain ⟨a0, a1, a2, a3, a6, af, al⟩ := T5.out.cells rfl
  have z1 := af (o + 1)
  have z2 := af (o + 2)
  have z3 := af (o + 3)
  clear af a0 a6
  go_wp2_with (first
    | (go_at_call 179; (with_reducible refine (take_ok _ H5.out h2 hl3 (by have := om HF; (try dsimp only); omega)).mono ?_); rintro e w6 ⟨hk6, rfl, hR6⟩; have H6 := hid' hR6; have K6 := hid' (K5.out.trans hk6); clear hR6 hk6)
    | (go_at_call 38; (with_reducible refine (then_3 _ _ _ H6.out (by have := HF.out.todo; (try unfold finS); (try dsimp only); (try simp only [List.length_cons]); omega)).mono ?_); rintro e w7 ⟨hk7, rfl, hR7⟩; have H7 := hid' hR7; have K7 := hid' (K6.out.trans hk7); clear hR7 hk7)
    | (go_at_call 88; (with_reducible refine (sign_is H7.out h3 (by have := om HF; (try dsimp only); omega) (by have := om HF; (try dsimp only); omega)).mono ?_); rintro e w8 ⟨rfl, hb8⟩; have H8 := hid' (H7.out.below hb8); have K8 := hid' (K7.out.trans (KQ.of_below hb8)); clear hb8))
  first
    | (go_end0; exact ⟨K8.out, rfl, H8.out⟩)
    | exact bodyPost_ret (results_none rfl _ _ _) rfl ⟨K8.out, rfl, H8.out⟩

theorem function123_x {W : World} {B p : Nat} {toks : List Tk} {s : St} {k2 : Nat} {dn2 : List Dn} {sx : ByteArray} (h : RdS W B p toks s) (hf : Fine toks s) (hT : TokOk toks) (h1 : typedF toks { s with pl := s.pl, begun := ⟨⟨45, ⟨#[]⟩, 0, false, (tk toks s.pl).pos⟩, 0, s.done.length⟩ :: s.begun } = .ok { s with pl := k2, begun := ⟨⟨45, ⟨#[]⟩, 0, false, (tk toks s.pl).pos⟩, 0, s.done.length⟩ :: s.begun, done := dn2 }) (hl2 : k2 < toks.length) (hd2 : dn2.length = s.done.length + 1) (hk : (tk toks k2).kind = 2) (hl3 : k2 + 1 < toks.length) (h2 : signAt toks (k2 + 1) = ⟨#[40]⟩) (hl4 : k2 + 2 < toks.length) (h3 : signAt toks (k2 + 2) = sx) (q0 : (sx.toList == [41]) = false) :
    Calls Tryz.prog 123 #[.pointer (some ⟨p, 0, none⟩)] W (Res B p toks W (.ok { s with pl := k2 + 2, todo := 186 :: 187 :: 184 :: 185 :: 40 :: s.todo, begun := ⟨⟨45, (tk toks k2).text, 0, false, (tk toks s.pl).pos⟩, 0, s.done.length⟩ :: s.begun, done := dn2 })) := by
  have H0 := hid' h
  have HF := hid' hf
  have K0 := hid' (KQ.rfl B p W)
  clear h hf
  go_enter Tryz.func123, Tryz.ntmps123
  go_wp2_with (first
    | (go_at_call 128; (with_reducible refine (begin_is _ H0.out (by have := om HF; (try dsimp only); omega) (by have := HF.out.begun; (try dsimp only); omega)).mono ?_); rintro e w1 ⟨hk1, rfl, hR1⟩; have H1 := hid' hR1; have K1 := hid' (K0.out.trans hk1); clear hR1 hk1)
    | (go_at_call 183; (with_reducible refine (typed_ok H1.out ⟨HF.out.at_, HF.out.few, (by have := HF.out.todo; (try dsimp only); (try simp only [List.length_cons]); omega), (by have := HF.out.begun; (try dsimp only); (try simp only [List.length_cons]); omega), (by have := HF.out.done; (try dsimp only); (try simp only [List.length_append, List.length_singleton]); omega)⟩ hT h1).mono ?_); rintro e w2 ⟨hk2, rfl, hR2⟩; have H2 := hid' hR2; have K2 := hid' (K1.out.trans hk2); clear hR2 hk2)
    | (go_at_call 129; (with_reducible refine (top_is H2.out rfl (by have := HF.out.begun; (try dsimp only); omega)).mono ?_); rintro e w3 ⟨g, o, rfl, hb3, hT3⟩; have T3 := hid' hT3; have H3 := hid' hT3.rd; have K3 := hid' (K2.out.trans (KQ.of_below hb3)); clear hb3 hT3; obtain ⟨a0, a1, a2, a3, a6, af, al⟩ := T3.out.cells rfl; have z1 := af (o + 1); have z2 := af (o + 2); have z3 := af (o + 3); clear af a0 a6)
    | (go_at_call 180; (with_reducible refine (nameT T3.out hl2 (by have := om HF; (try dsimp only); omega) hk).mono ?_); rintro e w4 ⟨rfl, hT4, hk4⟩; have T4 := hid' hT4; have H4 := hid' hT4.rd; have K4 := hid' (K3.out.trans hk4); clear hT4 hk4; (try clear a1 a2 a3 z1 z2 z3 al); obtain ⟨a0, a1, a2, a3, a6, af, al⟩ := T4.out.cells rfl; have z1 := af (o + 1); have z2 := af (o + 2); have z3 := af (o + 3); clear af a0 a6))
  obtain ⟨hT5, hk5⟩ := T4.out.set (j := 1) (v := .string (tk toks k2).text) (b' := ⟨⟨45, (tk toks k2).text, 0, false, (tk toks s.pl).pos⟩, 0, s.done.length⟩) rfl (by decide) rfl
  have T5 := hid' hT5
  have H5 := hid' hT5.rd
  have K5 := hid' (K4.out.trans hk5)
  clear hT5 hk5 a1 a2 a3 z1 z2 z3 al
  generalize w4.setCell ⟨g, o + 1, none⟩ (.string (tk toks k2).text) = w5 at *
  obtain ⟨a0, a1, a2, a3, a6, af, al⟩ := T5.out.cells rfl
  have z1 := af (o + 1)
  have z2 := af (o + 2)
  have z3 := af (o + 3)
  clear af a0 a6
  go_wp2_with (first
    | (go_at_call 179; (with_reducible refine (take_ok _ H5.out h2 hl3 (by have := om HF; (try dsimp only); omega)).mono ?_); rintro e w6 ⟨hk6, rfl, hR6⟩; have H6 := hid' hR6; have K6 := hid' (K5.out.trans hk6); clear hR6 hk6)
    | (go_at_call 38; (with_reducible refine (then_3 _ _ _ H6.out (by have := HF.out.todo; (try unfold finS); (try dsimp only); (try simp only [List.length_cons]); omega)).mono ?_); rintro e w7 ⟨hk7, rfl, hR7⟩; have H7 := hid' hR7; have K7 := hid' (K6.out.trans hk7); clear hR7 hk7)
    | (go_at_call 88; (with_reducible refine (sign_is H7.out h3 (by have := om HF; (try dsimp only); omega) (by have := om HF; (try dsimp only); omega)).mono ?_); rintro e w8 ⟨rfl, hb8⟩; have H8 := hid' (H7.out.below hb8); have K8 := hid' (K7.out.trans (KQ.of_below hb8)); clear hb8)
    | (go_at_call 38; (with_reducible refine (then_2 _ _ H8.out (by have := HF.out.todo; (try unfold finS); (try dsimp only); (try simp only [List.length_cons]); omega)).mono ?_); rintro e w9 ⟨hk9, rfl, hR9⟩; have H9 := hid' hR9; have K9 := hid' (K8.out.trans hk9); clear hR9 hk9))
  first
    | (go_end0; exact ⟨K9.out, rfl, H9.out⟩)
    | exact bodyPost_ret (results_none rfl _ _ _) rfl ⟨K9.out, rfl, H9.out⟩

theorem parameter186_e {W : World} {B p : Nat} {toks : List Tk} {s : St} {q : Int} (h : RdS W B p toks s) (hf : Fine toks s) (hT : TokOk toks) (h1 : typedF toks { s with pl := s.pl, begun := ⟨⟨46, ⟨#[]⟩, 0, false, (tk toks s.pl).pos⟩, 0, s.done.length⟩ :: s.begun } = .error q) :
    Calls Tryz.prog 186 #[.pointer (some ⟨p, 0, none⟩)] W (Res B p toks W (.error q)) := by
  have H0 := hid' h
  have HF := hid' hf
  have K0 := hid' (KQ.rfl B p W)
  clear h hf
  go_enter Tryz.func186, Tryz.ntmps186
  go_wp2_with (first
    | (go_at_call 128; (with_reducible refine (begin_is _ H0.out (by have := om HF; (try dsimp only); omega) (by have := HF.out.begun; (try dsimp only); omega)).mono ?_); rintro e w1 ⟨hk1, rfl, hR1⟩; have H1 := hid' hR1; have K1 := hid' (K0.out.trans hk1); clear hR1 hk1)
    | (go_at_call 183; (with_reducible refine (typed_no H1.out ⟨HF.out.at_, HF.out.few, (by have := HF.out.todo; (try dsimp only); (try simp only [List.length_cons]); omega), (by have := HF.out.begun; (try dsimp only); (try simp only [List.length_cons]); omega), (by have := HF.out.done; (try dsimp only); (try simp only [List.length_append, List.length_singleton]); omega)⟩ hT h1).mono ?_); rintro e w2 ⟨hk2, rfl⟩; have K2 := hid' (K1.out.trans hk2); clear hk2))
  exact ⟨rfl, K2.out, rfl⟩

theorem parameter186_sn {W : World} {B p : Nat} {toks : List Tk} {s : St} {k2 : Nat} {dn2 : List Dn} (h : RdS W B p toks s) (hf : Fine toks s) (hT : TokOk toks) (h1 : typedF toks { s with pl := s.pl, begun := ⟨⟨46, ⟨#[]⟩, 0, false, (tk toks s.pl).pos⟩, 0, s.done.length⟩ :: s.begun } = .ok { s with pl := k2, begun := ⟨⟨46, ⟨#[]⟩, 0, false, (tk toks s.pl).pos⟩, 0, s.done.length⟩ :: s.begun, done := dn2 }) (hl2 : k2 < toks.length) (hd2 : dn2.length = s.done.length + 1) (h2 : signAt toks k2 = ⟨#[42]⟩) (hl3 : k2 + 1 < toks.length) (hk : ¬ (tk toks (k2 + 1)).kind = 2) :
    Calls Tryz.prog 186 #[.pointer (some ⟨p, 0, none⟩)] W (Res B p toks W (.error (tk toks (k2 + 1)).pos)) := by
  have H0 := hid' h
  have HF := hid' hf
  have K0 := hid' (KQ.rfl B p W)
  clear h hf
  go_enter Tryz.func186, Tryz.ntmps186
  go_wp2_with (first
    | (go_at_call 128; (with_reducible refine (begin_is _ H0.out (by have := om HF; (try dsimp only); omega) (by have := HF.out.begun; (try dsimp only); omega)).mono ?_); rintro e w1 ⟨hk1, rfl, hR1⟩; have H1 := hid' hR1; have K1 := hid' (K0.out.trans hk1); clear hR1 hk1)
    | (go_at_call 183; (with_reducible refine (typed_ok H1.out ⟨HF.out.at_, HF.out.few, (by have := HF.out.todo; (try dsimp only); (try simp only [List.length_cons]); omega), (by have := HF.out.begun; (try dsimp only); (try simp only [List.length_cons]); omega), (by have := HF.out.done; (try dsimp only); (try simp only [List.length_append, List.length_singleton]); omega)⟩ hT h1).mono ?_); rintro e w2 ⟨hk2, rfl, hR2⟩; have H2 := hid' hR2; have K2 := hid' (K1.out.trans hk2); clear hR2 hk2)
    | (go_at_call 129; (with_reducible refine (top_is H2.out rfl (by have := HF.out.begun; (try dsimp only); omega)).mono ?_); rintro e w3 ⟨g, o, rfl, hb3, hT3⟩; have T3 := hid' hT3; have H3 := hid' hT3.rd; have K3 := hid' (K2.out.trans (KQ.of_below hb3)); clear hb3 hT3; obtain ⟨a0, a1, a2, a3, a6, af, al⟩ := T3.out.cells rfl; have z1 := af (o + 1); have z2 := af (o + 2); have z3 := af (o + 3); clear af a0 a6)
    | (go_at_call 88; (with_reducible refine (sign_is H3.out h2 (by have := om HF; (try dsimp only); omega) (by have := om HF; (try dsimp only); omega)).mono ?_); rintro e w4 ⟨rfl, hb4⟩; have T4 := hid' (T3.out.below hb4); have H4 := hid' T4.out.rd; have K4 := hid' (K3.out.trans (KQ.of_below hb4)); clear hb4; (try clear a1 a2 a3 z1 z2 z3 al); obtain ⟨a0, a1, a2, a3, a6, af, al⟩ := T4.out.cells rfl; have z1 := af (o + 1); have z2 := af (o + 2); have z3 := af (o + 3); clear af a0 a6))
  obtain ⟨hT5, hk5⟩ := T4.out.set (j := 2) (v := .int .u32 1) (b' := ⟨⟨46, ⟨#[]⟩, 1, false, (tk toks s.pl).pos⟩, 0, s.done.length⟩) rfl (by decide) rfl
  have T5 := hid' hT5
  have H5 := hid' hT5.rd
  have K5 := hid' (K4.out.trans hk5)
  clear hT5 hk5 a1 a2 a3 z1 z2 z3 al
  generalize w4.setCell ⟨g, o + 2, none⟩ (.int .u32 1) = w5 at *
  obtain ⟨a0, a1, a2, a3, a6, af, al⟩ := T5.out.cells rfl
  have z1 := af (o + 1)
  have z2 := af (o + 2)
  have z3 := af (o + 3)
  clear af a0 a6
  go_wp2_with (first
    | (go_at_call 93; (with_reducible refine (skipT T5.out (by have := om HF; (try dsimp only); omega)).mono ?_); rintro e w6 ⟨rfl, hT6, hk6⟩; have T6 := hid' hT6; have H6 := hid' hT6.rd; have K6 := hid' (K5.out.trans hk6); clear hT6 hk6; (try clear a1 a2 a3 z1 z2 z3 al); obtain ⟨a0, a1, a2, a3, a6, af, al⟩ := T6.out.cells rfl; have z1 := af (o + 1); have z2 := af (o + 2); have z3 := af (o + 3); clear af a0 a6)
    | (go_at_call 180; (with_reducible refine (name_no H6.out hl3 (by have := om HF; (try dsimp only); omega) hk).mono ?_); rintro e w7 ⟨hk7, rfl⟩; have K7 := hid' (K6.out.trans hk7); clear hk7))
  exact ⟨rfl, K7.out, rfl⟩

theorem parameter186_sy {W : World} {B p : Nat} {toks : List Tk} {s : St} {k2 : Nat} {dn2 : List Dn} (h : RdS W B p toks s) (hf : Fine toks s) (hT : TokOk toks) (h1 : typedF toks { s with pl := s.pl, begun := ⟨⟨46, ⟨#[]⟩, 0, false, (tk toks s.pl).pos⟩, 0, s.done.length⟩ :: s.begun } = .ok { s with pl := k2, begun := ⟨⟨46, ⟨#[]⟩, 0, false, (tk toks s.pl).pos⟩, 0, s.done.length⟩ :: s.begun, done := dn2 }) (hl2 : k2 < toks.length) (hd2 : dn2.length = s.done.length + 1) (h2 : signAt toks k2 = ⟨#[42]⟩) (hl3 : k2 + 1 < toks.length) (hk : (tk toks (k2 + 1)).kind = 2) :
    Calls Tryz.prog 186 #[.pointer (some ⟨p, 0, none⟩)] W (Res B p toks W (.ok (finS { s with pl := k2 + 2, begun := ⟨⟨46, (tk toks (k2 + 1)).text, 1, false, (tk toks s.pl).pos⟩, 0, s.done.length⟩ :: s.begun, done := dn2 } ⟨⟨46, (tk toks (k2 + 1)).text, 1, false, (tk toks s.pl).pos⟩, 0, s.done.length⟩ s.begun))) := by
  have H0 := hid' h
  have HF := hid' hf
  have K0 := hid' (KQ.rfl B p W)
  clear h hf
  go_enter Tryz.func186, Tryz.ntmps186
  go_wp2_with (first
    | (go_at_call 128; (with_reducible refine (begin_is _ H0.out (by have := om HF; (try dsimp only); omega) (by have := HF.out.begun; (try dsimp only); omega)).mono ?_); rintro e w1 ⟨hk1, rfl, hR1⟩; have H1 := hid' hR1; have K1 := hid' (K0.out.trans hk1); clear hR1 hk1)
    | (go_at_call 183; (with_reducible refine (typed_ok H1.out ⟨HF.out.at_, HF.out.few, (by have := HF.out.todo; (try dsimp only); (try simp only [List.length_cons]); omega), (by have := HF.out.begun; (try dsimp only); (try simp only [List.length_cons]); omega), (by have := HF.out.done; (try dsimp only); (try simp only [List.length_append, List.length_singleton]); omega)⟩ hT h1).mono ?_); rintro e w2 ⟨hk2, rfl, hR2⟩; have H2 := hid' hR2; have K2 := hid' (K1.out.trans hk2); clear hR2 hk2)
    | (go_at_call 129; (with_reducible refine (top_is H2.out rfl (by have := HF.out.begun; (try dsimp only); omega)).mono ?_); rintro e w3 ⟨g, o, rfl, hb3, hT3⟩; have T3 := hid' hT3; have H3 := hid' hT3.rd; have K3 := hid' (K2.out.trans (KQ.of_below hb3)); clear hb3 hT3; obtain ⟨a0, a1, a2, a3, a6, af, al⟩ := T3.out.cells rfl; have z1 := af (o + 1); have z2 := af (o + 2); have z3 := af (o + 3); clear af a0 a6)
    | (go_at_call 88; (with_reducible refine (sign_is H3.out h2 (by have := om HF; (try dsimp only); omega) (by have := om HF; (try dsimp only); omega)).mono ?_); rintro e w4 ⟨rfl, hb4⟩; have T4 := hid' (T3.out.below hb4); have H4 := hid' T4.out.rd; have K4 := hid' (K3.out.trans (KQ.of_below hb4)); clear hb4; (try clear a1 a2 a3 z1 z2 z3 al); obtain ⟨a0, a1, a2, a3, a6, af, al⟩ := T4.out.cells rfl; have z1 := af (o + 1); have z2 := af (o + 2); have z3 := af (o + 3); clear af a0 a6))
  obtain ⟨hT5, hk5⟩ := T4.out.set (j := 2) (v := .int .u32 1) (b' := ⟨⟨46, ⟨#[]⟩, 1, false, (tk toks s.pl).pos⟩, 0, s.done.length⟩) rfl (by decide) rfl
  have T5 := hid' hT5
  have H5 := hid' hT5.rd
  have K5 := hid' (K4.out.trans hk5)
  clear hT5 hk5 a1 a2 a3 z1 z2 z3 al
  generalize w4.setCell ⟨g, o + 2, none⟩ (.int .u32 1) = w5 at *
  obtain ⟨a0, a1, a2, a3, a6, af, al⟩ := T5.out.cells rfl
  have z1 := af (o + 1)
  have z2 := af (o + 2)
  have z3 := af (o + 3)
  clear af a0 a6
  go_wp2_with (first
    | (go_at_call 93; (with_reducible refine (skipT T5.out (by have := om HF; (try dsimp only); omega)).mono ?_); rintro e w6 ⟨rfl, hT6, hk6⟩; have T6 := hid' hT6; have H6 := hid' hT6.rd; have K6 := hid' (K5.out.trans hk6); clear hT6 hk6; (try clear a1 a2 a3 z1 z2 z3 al); obtain ⟨a0, a1, a2, a3, a6, af, al⟩ := T6.out.cells rfl; have z1 := af (o + 1); have z2 := af (o + 2); have z3 := af (o + 3); clear af a0 a6)
    | (go_at_call 180; (with_reducible refine (nameT T6.out hl3 (by have := om HF; (try dsimp only); omega) hk).mono ?_); rintro e w7 ⟨rfl, hT7, hk7⟩; have T7 := hid' hT7; have H7 := hid' hT7.rd; have K7 := hid' (K6.out.trans hk7); clear hT7 hk7; (try clear a1 a2 a3 z1 z2 z3 al); obtain ⟨a0, a1, a2, a3, a6, af, al⟩ := T7.out.cells rfl; have z1 := af (o + 1); have z2 := af (o + 2); have z3 := af (o + 3); clear af a0 a6))
  obtain ⟨hT8, hk8⟩ := T7.out.set (j := 1) (v := .string (tk toks (k2 + 1)).text) (b' := ⟨⟨46, (tk toks (k2 + 1)).text, 1, false, (tk toks s.pl).pos⟩, 0, s.done.length⟩) rfl (by decide) rfl
  have T8 := hid' hT8
  have H8 := hid' hT8.rd
  have K8 := hid' (K7.out.trans hk8)
  clear hT8 hk8 a1 a2 a3 z1 z2 z3 al
  generalize w7.setCell ⟨g, o + 1, none⟩ (.string (tk toks (k2 + 1)).text) = w8 at *
  obtain ⟨a0, a1, a2, a3, a6, af, al⟩ := T8.out.cells rfl
  have z1 := af (o + 1)
  have z2 := af (o + 2)
  have z3 := af (o + 3)
  clear af a0 a6
  go_wp2_with (first
    | (go_at_call 40; (with_reducible refine (finish40 H8.out rfl (by have := HF.out.begun; (try dsimp only); (try simp only [List.length_cons]); omega) (by have := HF.out.done; (try dsimp only); omega) (by show s.done.length ≤ dn2.length; omega)).mono ?_); rintro e w9 ⟨hk9, rfl, hR9⟩; have H9 := hid' hR9; have K9 := hid' (K8.out.trans hk9); clear hR9 hk9))
  first
    | (go_end0; exact ⟨K9.out, rfl, H9.out⟩)
    | exact bodyPost_ret (results_none rfl _ _ _) rfl ⟨K9.out, rfl, H9.out⟩

theorem parameter186_pn {W : World} {B p : Nat} {toks : List Tk} {s : St} {k2 : Nat} {dn2 : List Dn} {sx : ByteArray} (h : RdS W B p toks s) (hf : Fine toks s) (hT : TokOk toks) (h1 : typedF toks { s with pl := s.pl, begun := ⟨⟨46, ⟨#[]⟩, 0, false, (tk toks s.pl).pos⟩, 0, s.done.length⟩ :: s.begun } = .ok { s with pl := k2, begun := ⟨⟨46, ⟨#[]⟩, 0, false, (tk toks s.pl).pos⟩, 0, s.done.length⟩ :: s.begun, done := dn2 }) (hl2 : k2 < toks.length) (hd2 : dn2.length = s.done.length + 1) (h2 : signAt toks k2 = sx) (q0 : (sx.toList == [42]) = false) (hk : ¬ (tk toks k2).kind = 2) :
    Calls Tryz.prog 186 #[.pointer (some ⟨p, 0, none⟩)] W (Res B p toks W (.error (tk toks k2).pos)) := by
  have H0 := hid' h
  have HF := hid' hf
  have K0 := hid' (KQ.rfl B p W)
  clear h hf
  go_enter Tryz.func186, Tryz.ntmps186
  go_wp2_with (first
    | (go_at_call 128; (with_reducible refine (begin_is _ H0.out (by have := om HF; (try dsimp only); omega) (by have := HF.out.begun; (try dsimp only); omega)).mono ?_); rintro e w1 ⟨hk1, rfl, hR1⟩; have H1 := hid' hR1; have K1 := hid' (K0.out.trans hk1); clear hR1 hk1)
    | (go_at_call 183; (with_reducible refine (typed_ok H1.out ⟨HF.out.at_, HF.out.few, (by have := HF.out.todo; (try dsimp only); (try simp only [List.length_cons]); omega), (by have := HF.out.begun; (try dsimp only); (try simp only [List.length_cons]); omega), (by have := HF.out.done; (try dsimp only); (try simp only [List.length_append, List.length_singleton]); omega)⟩ hT h1).mono ?_); rintro e w2 ⟨hk2, rfl, hR2⟩; have H2 := hid' hR2; have K2 := hid' (K1.out.trans hk2); clear hR2 hk2)
    | (go_at_call 129; (with_reducible refine (top_is H2.out rfl (by have := HF.out.begun; (try dsimp only); omega)).mono ?_); rintro e w3 ⟨g, o, rfl, hb3, hT3⟩; have T3 := hid' hT3; have H3 := hid' hT3.rd; have K3 := hid' (K2.out.trans (KQ.of_below hb3)); clear hb3 hT3; obtain ⟨a0, a1, a2, a3, a6, af, al⟩ := T3.out.cells rfl; have z1 := af (o + 1); have z2 := af (o + 2); have z3 := af (o + 3); clear af a0 a6)
    | (go_at_call 88; (with_reducible refine (sign_is H3.out h2 (by have := om HF; (try dsimp only); omega) (by have := om HF; (try dsimp only); omega)).mono ?_); rintro e w4 ⟨rfl, hb4⟩; have T4 := hid' (T3.out.below hb4); have H4 := hid' T4.out.rd; have K4 := hid' (K3.out.trans (KQ.of_below hb4)); clear hb4; (try clear a1 a2 a3 z1 z2 z3 al); obtain ⟨a0, a1, a2, a3, a6, af, al⟩ := T4.out.cells rfl; have z1 := af (o + 1); have z2 := af (o + 2); have z3 := af (o + 3); clear af a0 a6)
    | (go_at_call 180; (with_reducible refine (name_no H4.out hl2 (by have := om HF; (try dsimp only); omega) hk).mono ?_); rintro e w5 ⟨hk5, rfl⟩; have K5 := hid' (K4.out.trans hk5); clear hk5))
  exact ⟨rfl, K5.out, rfl⟩

theorem parameter186_pb {W : World} {B p : Nat} {toks : List Tk} {s : St} {k2 : Nat} {dn2 : List Dn} {sx : ByteArray} {sy : ByteArray} (h : RdS W B p toks s) (hf : Fine toks s) (hT : TokOk toks) (h1 : typedF toks { s with pl := s.pl, begun := ⟨⟨46, ⟨#[]⟩, 0, false, (tk toks s.pl).pos⟩, 0, s.done.length⟩ :: s.begun } = .ok { s with pl := k2, begun := ⟨⟨46, ⟨#[]⟩, 0, false, (tk toks s.pl).pos⟩, 0, s.done.length⟩ :: s.begun, done := dn2 }) (hl2 : k2 < toks.length) (hd2 : dn2.length = s.done.length + 1) (h2 : signAt toks k2 = sx) (q0 : (sx.toList == [42]) = false) (hk : (tk toks k2).kind = 2) (hl3 : k2 + 1 < toks.length) (h3 : signAt toks (k2 + 1) = sy) (q1 : (sy.toList == [91]) = false) :
    Calls Tryz.prog 186 #[.pointer (some ⟨p, 0, none⟩)] W (Res B p toks W (.ok (finS { s with pl := k2 + 1, begun := ⟨⟨46, (tk toks k2).text, 0, false, (tk toks s.pl).pos⟩, 0, s.done.length⟩ :: s.begun, done := dn2 } ⟨⟨46, (tk toks k2).text, 0, false, (tk toks s.pl).pos⟩, 0, s.done.length⟩ s.begun))) := by
  have H0 := hid' h
  have HF := hid' hf
  have K0 := hid' (KQ.rfl B p W)
  clear h hf
  go_enter Tryz.func186, Tryz.ntmps186
  go_wp2_with (first
    | (go_at_call 128; (with_reducible refine (begin_is _ H0.out (by have := om HF; (try dsimp only); omega) (by have := HF.out.begun; (try dsimp only); omega)).mono ?_); rintro e w1 ⟨hk1, rfl, hR1⟩; have H1 := hid' hR1; have K1 := hid' (K0.out.trans hk1); clear hR1 hk1)
    | (go_at_call 183; (with_reducible refine (typed_ok H1.out ⟨HF.out.at_, HF.out.few, (by have := HF.out.todo; (try dsimp only); (try simp only [List.length_cons]); omega), (by have := HF.out.begun; (try dsimp only); (try simp only [List.length_cons]); omega), (by have := HF.out.done; (try dsimp only); (try simp only [List.length_append, List.length_singleton]); omega)⟩ hT h1).mono ?_); rintro e w2 ⟨hk2, rfl, hR2⟩; have H2 := hid' hR2; have K2 := hid' (K1.out.trans hk2); clear hR2 hk2)
    | (go_at_call 129; (with_reducible refine (top_is H2.out rfl (by have := HF.out.begun; (try dsimp only); omega)).mono ?_); rintro e w3 ⟨g, o, rfl, hb3, hT3⟩; have T3 := hid' hT3; have H3 := hid' hT3.rd; have K3 := hid' (K2.out.trans (KQ.of_below hb3)); clear hb3 hT3; obtain ⟨a0, a1, a2, a3, a6, af, al⟩ := T3.out.cells rfl; have z1 := af (o + 1); have z2 := af (o + 2); have z3 := af (o + 3); clear af a0 a6)
    | (go_at_call 88; (with_reducible refine (sign_is H3.out h2 (by have := om HF; (try dsimp only); omega) (by have := om HF; (try dsimp only); omega)).mono ?_); rintro e w4 ⟨rfl, hb4⟩; have T4 := hid' (T3.out.below hb4); have H4 := hid' T4.out.rd; have K4 := hid' (K3.out.trans (KQ.of_below hb4)); clear hb4; (try clear a1 a2 a3 z1 z2 z3 al); obtain ⟨a0, a1, a2, a3, a6, af, al⟩ := T4.out.cells rfl; have z1 := af (o + 1); have z2 := af (o + 2); have z3 := af (o + 3); clear af a0 a6)
    | (go_at_call 180; (with_reducible refine (nameT T4.out hl2 (by have := om HF; (try dsimp only); omega) hk).mono ?_); rintro e w5 ⟨rfl, hT5, hk5⟩; have T5 := hid' hT5; have H5 := hid' hT5.rd; have K5 := hid' (K4.out.trans hk5); clear hT5 hk5; (try clear a1 a2 a3 z1 z2 z3 al); obtain ⟨a0, a1, a2, a3, a6, af, al⟩ := T5.out.cells rfl; have z1 := af (o + 1); have z2 := af (o + 2); have z3 := af (o + 3); clear af a0 a6))
  obtain ⟨hT6, hk6⟩ := T5.out.set (j := 1) (v := .string (tk toks k2).text) (b' := ⟨⟨46, (tk toks k2).text, 0, false, (tk toks s.pl).pos⟩, 0, s.done.length⟩) rfl (by decide) rfl
  have T6 := hid' hT6
  have H6 := hid' hT6.rd
  have K6 := hid' (K5.out.trans hk6)
  clear hT6 hk6 a1 a2 a3 z1 z2 z3 al
  generalize w5.setCell ⟨g, o + 1, none⟩ (.string (tk toks k2).text) = w6 at *
  obtain ⟨a0, a1, a2, a3, a6, af, al⟩ := T6.out.cells rfl
  have z1 := af (o + 1)
  have z2 := af (o + 2)
  have z3 := af (o + 3)
  clear af a0 a6
  go_wp2_with (first
    | (go_at_call 224; (with_reducible refine (brackets224_n H6.out h3 q1 (by have := om HF; (try dsimp only); omega) (by have := om HF; (try dsimp only); omega)).mono ?_); rintro e w7 ⟨rfl, hb7⟩; have T7 := hid' (T6.out.below hb7); have H7 := hid' T7.out.rd; have K7 := hid' (K6.out.trans (KQ.of_below hb7)); clear hb7; (try clear a1 a2 a3 z1 z2 z3 al); obtain ⟨a0, a1, a2, a3, a6, af, al⟩ := T7.out.cells rfl; have z1 := af (o + 1); have z2 := af (o + 2); have z3 := af (o + 3); clear af a0 a6))
  obtain ⟨hT8, hk8⟩ := T7.out.set (j := 3) (v := .bool false) (b' := ⟨⟨46, (tk toks k2).text, 0, false, (tk toks s.pl).pos⟩, 0, s.done.length⟩) rfl (by decide) rfl
  have T8 := hid' hT8
  have H8 := hid' hT8.rd
  have K8 := hid' (K7.out.trans hk8)
  clear hT8 hk8 a1 a2 a3 z1 z2 z3 al
  generalize w7.setCell ⟨g, o + 3, none⟩ (.bool false) = w8 at *
  obtain ⟨a0, a1, a2, a3, a6, af, al⟩ := T8.out.cells rfl
  have z1 := af (o + 1)
  have z2 := af (o + 2)
  have z3 := af (o + 3)
  clear af a0 a6
  go_wp2_with (first
    | (go_at_call 40; (with_reducible refine (finish40 H8.out rfl (by have := HF.out.begun; (try dsimp only); (try simp only [List.length_cons]); omega) (by have := HF.out.done; (try dsimp only); omega) (by show s.done.length ≤ dn2.length; omega)).mono ?_); rintro e w9 ⟨hk9, rfl, hR9⟩; have H9 := hid' hR9; have K9 := hid' (K8.out.trans hk9); clear hR9 hk9))
  first
    | (go_end0; exact ⟨K9.out, rfl, H9.out⟩)
    | exact bodyPost_ret (results_none rfl _ _ _) rfl ⟨K9.out, rfl, H9.out⟩

theorem parameter186_pe {W : World} {B p : Nat} {toks : List Tk} {s : St} {k2 : Nat} {dn2 : List Dn} {sx : ByteArray} (h : RdS W B p toks s) (hf : Fine toks s) (hT : TokOk toks) (h1 : typedF toks { s with pl := s.pl, begun := ⟨⟨46, ⟨#[]⟩, 0, false, (tk toks s.pl).pos⟩, 0, s.done.length⟩ :: s.begun } = .ok { s with pl := k2, begun := ⟨⟨46, ⟨#[]⟩, 0, false, (tk toks s.pl).pos⟩, 0, s.done.length⟩ :: s.begun, done := dn2 }) (hl2 : k2 < toks.length) (hd2 : dn2.length = s.done.length + 1) (h2 : signAt toks k2 = sx) (q0 : (sx.toList == [42]) = false) (hk : (tk toks k2).kind = 2) (hl3 : k2 + 1 < toks.length) (h3 : signAt toks (k2 + 1) = ⟨#[91]⟩) (hl4 : k2 + 2 < toks.length) (h4 : ¬ signAt toks (k2 + 2) = ⟨#[93]⟩) :
    Calls Tryz.prog 186 #[.pointer (some ⟨p, 0, none⟩)] W (Res B p toks W (.error (tk toks (k2 + 2)).pos)) := by
  have H0 := hid' h
  have HF := hid' hf
  have K0 := hid' (KQ.rfl B p W)
  clear h hf
  go_enter Tryz.func186, Tryz.ntmps186
  go_wp2_with (first
    | (go_at_call 128; (with_reducible refine (begin_is _ H0.out (by have := om HF; (try dsimp only); omega) (by have := HF.out.begun; (try dsimp only); omega)).mono ?_); rintro e w1 ⟨hk1, rfl, hR1⟩; have H1 := hid' hR1; have K1 := hid' (K0.out.trans hk1); clear hR1 hk1)
    | (go_at_call 183; (with_reducible refine (typed_ok H1.out ⟨HF.out.at_, HF.out.few, (by have := HF.out.todo; (try dsimp only); (try simp only [List.length_cons]); omega), (by have := HF.out.begun; (try dsimp only); (try simp only [List.length_cons]); omega), (by have := HF.out.done; (try dsimp only); (try simp only [List.length_append, List.length_singleton]); omega)⟩ hT h1).mono ?_); rintro e w2 ⟨hk2, rfl, hR2⟩; have H2 := hid' hR2; have K2 := hid' (K1.out.trans hk2); clear hR2 hk2)
    | (go_at_call 129; (with_reducible refine (top_is H2.out rfl (by have := HF.out.begun; (try dsimp only); omega)).mono ?_); rintro e w3 ⟨g, o, rfl, hb3, hT3⟩; have T3 := hid' hT3; have H3 := hid' hT3.rd; have K3 := hid' (K2.out.trans (KQ.of_below hb3)); clear hb3 hT3; obtain ⟨a0, a1, a2, a3, a6, af, al⟩ := T3.out.cells rfl; have z1 := af (o + 1); have z2 := af (o + 2); have z3 := af (o + 3); clear af a0 a6)
    | (go_at_call 88; (with_reducible refine (sign_is H3.out h2 (by have := om HF; (try dsimp only); omega) (by have := om HF; (try dsimp only); omega)).mono ?_); rintro e w4 ⟨rfl, hb4⟩; have T4 := hid' (T3.out.below hb4); have H4 := hid' T4.out.rd; have K4 := hid' (K3.out.trans (KQ.of_below hb4)); clear hb4; (try clear a1 a2 a3 z1 z2 z3 al); obtain ⟨a0, a1, a2, a3, a6, af, al⟩ := T4.out.cells rfl; have z1 := af (o + 1); have z2 := af (o + 2); have z3 := af (o + 3); clear af a0 a6)
    | (go_at_call 180; (with_reducible refine (nameT T4.out hl2 (by have := om HF; (try dsimp only); omega) hk).mono ?_); rintro e w5 ⟨rfl, hT5, hk5⟩; have T5 := hid' hT5; have H5 := hid' hT5.rd; have K5 := hid' (K4.out.trans hk5); clear hT5 hk5; (try clear a1 a2 a3 z1 z2 z3 al); obtain ⟨a0, a1, a2, a3, a6, af, al⟩ := T5.out.cells rfl; have z1 := af (o + 1); have z2 := af (o + 2); have z3 := af (o + 3); clear af a0 a6))
  obtain ⟨hT6, hk6⟩ := T5.out.set (j := 1) (v := .string (tk toks k2).text) (b' := ⟨⟨46, (tk toks k2).text, 0, false, (tk toks s.pl).pos⟩, 0, s.done.length⟩) rfl (by decide) rfl
  have T6 := hid' hT6
  have H6 := hid' hT6.rd
  have K6 := hid' (K5.out.trans hk6)
  clear hT6 hk6 a1 a2 a3 z1 z2 z3 al
  generalize w5.setCell ⟨g, o + 1, none⟩ (.string (tk toks k2).text) = w6 at *
  obtain ⟨a0, a1, a2, a3, a6, af, al⟩ := T6.out.cells rfl
  have z1 := af (o + 1)
  have z2 := af (o + 2)
  have z3 := af (o + 3)
  clear af a0 a6
  go_wp2_with (first
    | (go_at_call 224; (with_reducible refine (brackets224_e H6.out h3 h4 (by have := om HF; (try dsimp only); omega) hl4).mono ?_); rintro e w7 ⟨hk7, rfl⟩; have K7 := hid' (K6.out.trans hk7); clear hk7))
  exact ⟨rfl, K7.out, rfl⟩

theorem parameter186_py {W : World} {B p : Nat} {toks : List Tk} {s : St} {k2 : Nat} {dn2 : List Dn} {sx : ByteArray} (h : RdS W B p toks s) (hf : Fine toks s) (hT : TokOk toks) (h1 : typedF toks { s with pl := s.pl, begun := ⟨⟨46, ⟨#[]⟩, 0, false, (tk toks s.pl).pos⟩, 0, s.done.length⟩ :: s.begun } = .ok { s with pl := k2, begun := ⟨⟨46, ⟨#[]⟩, 0, false, (tk toks s.pl).pos⟩, 0, s.done.length⟩ :: s.begun, done := dn2 }) (hl2 : k2 < toks.length) (hd2 : dn2.length = s.done.length + 1) (h2 : signAt toks k2 = sx) (q0 : (sx.toList == [42]) = false) (hk : (tk toks k2).kind = 2) (hl3 : k2 + 1 < toks.length) (h3 : signAt toks (k2 + 1) = ⟨#[91]⟩) (hl4 : k2 + 2 < toks.length) (h4 : signAt toks (k2 + 2) = ⟨#[93]⟩) :
    Calls Tryz.prog 186 #[.pointer (some ⟨p, 0, none⟩)] W (Res B p toks W (.ok (finS { s with pl := k2 + 3, begun := ⟨⟨46, (tk toks k2).text, 0, true, (tk toks s.pl).pos⟩, 0, s.done.length⟩ :: s.begun, done := dn2 } ⟨⟨46, (tk toks k2).text, 0, true, (tk toks s.pl).pos⟩, 0, s.done.length⟩ s.begun))) := by
  have H0 := hid' h
  have HF := hid' hf
  have K0 := hid' (KQ.rfl B p W)
  clear h hf
  go_enter Tryz.func186, Tryz.ntmps186
  go_wp2_with (first
    | (go_at_call 128; (with_reducible refine (begin_is _ H0.out (by have := om HF; (try dsimp only); omega) (by have := HF.out.begun; (try dsimp only); omega)).mono ?_); rintro e w1 ⟨hk1, rfl, hR1⟩; have H1 := hid' hR1; have K1 := hid' (K0.out.trans hk1); clear hR1 hk1)
    | (go_at_call 183; (with_reducible refine (typed_ok H1.out ⟨HF.out.at_, HF.out.few, (by have := HF.out.todo; (try dsimp only); (try simp only [List.length_cons]); omega), (by have := HF.out.begun; (try dsimp only); (try simp only [List.length_cons]); omega), (by have := HF.out.done; (try dsimp only); (try simp only [List.length_append, List.length_singleton]); omega)⟩ hT h1).mono ?_); rintro e w2 ⟨hk2, rfl, hR2⟩; have H2 := hid' hR2; have K2 := hid' (K1.out.trans hk2); clear hR2 hk2)
    | (go_at_call 129; (with_reducible refine (top_is H2.out rfl (by have := HF.out.begun; (try dsimp only); omega)).mono ?_); rintro e w3 ⟨g, o, rfl, hb3, hT3⟩; have T3 := hid' hT3; have H3 := hid' hT3.rd; have K3 := hid' (K2.out.trans (KQ.of_below hb3)); clear hb3 hT3; obtain ⟨a0, a1, a2, a3, a6, af, al⟩ := T3.out.cells rfl; have z1 := af (o + 1); have z2 := af (o + 2); have z3 := af (o + 3); clear af a0 a6)
    | (go_at_call 88; (with_reducible refine (sign_is H3.out h2 (by have := om HF; (try dsimp only); omega) (by have := om HF; (try dsimp only); omega)).mono ?_); rintro e w4 ⟨rfl, hb4⟩; have T4 := hid' (T3.out.below hb4); have H4 := hid' T4.out.rd; have K4 := hid' (K3.out.trans (KQ.of_below hb4)); clear hb4; (try clear a1 a2 a3 z1 z2 z3 al); obtain ⟨a0, a1, a2, a3, a6, af, al⟩ := T4.out.cells rfl; have z1 := af (o + 1); have z2 := af (o + 2); have z3 := af (o + 3); clear af a0 a6)
    | (go_at_call 180; (with_reducible refine (nameT T4.out hl2 (by have := om HF; (try dsimp only); omega) hk).mono ?_); rintro e w5 ⟨rfl, hT5, hk5⟩; have T5 := hid' hT5; have H5 := hid' hT5.rd; have K5 := hid' (K4.out.trans hk5); clear hT5 hk5; (try clear a1 a2 a3 z1 z2 z3 al); obtain ⟨a0, a1, a2, a3, a6, af, al⟩ := T5.out.cells rfl; have z1 := af (o + 1); have z2 := af (o + 2); have z3 := af (o + 3); clear af a0 a6))
  obtain ⟨hT6, hk6⟩ := T5.out.set (j := 1) (v := .string (tk toks k2).text) (b' := ⟨⟨46, (tk toks k2).text, 0, false, (tk toks s.pl).pos⟩, 0, s.done.length⟩) rfl (by decide) rfl
  have T6 := hid' hT6
  have H6 := hid' hT6.rd
  have K6 := hid' (K5.out.trans hk6)
  clear hT6 hk6 a1 a2 a3 z1 z2 z3 al
  generalize w5.setCell ⟨g, o + 1, none⟩ (.string (tk toks k2).text) = w6 at *
  obtain ⟨a0, a1, a2, a3, a6, af, al⟩ := T6.out.cells rfl
  have z1 := af (o + 1)
  have z2 := af (o + 2)
  have z3 := af (o + 3)
  clear af a0 a6
  go_wp2_with (first
    | (go_at_call 224; (with_reducible refine (brackets224_y T6.out h3 h4 (by have := om HF; (try dsimp only); omega) hl4).mono ?_); rintro e w7 ⟨rfl, hT7, hk7⟩; have T7 := hid' hT7; have H7 := hid' hT7.rd; have K7 := hid' (K6.out.trans hk7); clear hT7 hk7; (try clear a1 a2 a3 z1 z2 z3 al); obtain ⟨a0, a1, a2, a3, a6, af, al⟩ := T7.out.cells rfl; have z1 := af (o + 1); have z2 := af (o + 2); have z3 := af (o + 3); clear af a0 a6))
  obtain ⟨hT8, hk8⟩ := T7.out.set (j := 3) (v := .bool true) (b' := ⟨⟨46, (tk toks k2).text, 0, true, (tk toks s.pl).pos⟩, 0, s.done.length⟩) rfl (by decide) rfl
  have T8 := hid' hT8
  have H8 := hid' hT8.rd
  have K8 := hid' (K7.out.trans hk8)
  clear hT8 hk8 a1 a2 a3 z1 z2 z3 al
  generalize w7.setCell ⟨g, o + 3, none⟩ (.bool true) = w8 at *
  obtain ⟨a0, a1, a2, a3, a6, af, al⟩ := T8.out.cells rfl
  have z1 := af (o + 1)
  have z2 := af (o + 2)
  have z3 := af (o + 3)
  clear af a0 a6
  go_wp2_with (first
    | (go_at_call 40; (with_reducible refine (finish40 H8.out rfl (by have := HF.out.begun; (try dsimp only); (try simp only [List.length_cons]); omega) (by have := HF.out.done; (try dsimp only); omega) (by show s.done.length ≤ dn2.length; omega)).mono ?_); rintro e w9 ⟨hk9, rfl, hR9⟩; have H9 := hid' hR9; have K9 := hid' (K8.out.trans hk9); clear hR9 hk9))
  first
    | (go_end0; exact ⟨K9.out, rfl, H9.out⟩)
    | exact bodyPost_ret (results_none rfl _ _ _) rfl ⟨K9.out, rfl, H9.out⟩
end Go.Proofs.YtjeioblhpfogfaaGreatDoor
