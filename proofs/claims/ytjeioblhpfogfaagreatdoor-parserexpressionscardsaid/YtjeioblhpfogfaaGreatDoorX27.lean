/- Steps: the shortest ones. -/
import Derived.Test.YtjeioblhpfogfaaGreatDoorX15
import Derived.Test.YtjeioblhpfogfaaGreatDoorX16
import Derived.Test.YtjeioblhpfogfaaGreatDoorX17
import Derived.Test.YtjeioblhpfogfaaGreatDoorX18
set_option linter.unusedVariables false
set_option linter.unusedSimpArgs false
set_option maxRecDepth 20000
set_option maxHeartbeats 8000000
namespace Go.Proofs.YtjeioblhpfogfaaGreatDoor
open Go.RowKit

theorem expression24 {W : World} {B p : Nat} {toks : List Tk} {s : St} (h : RdS W B p toks s) (hf : Fine toks s)  :
    Calls Tryz.prog 24 #[.pointer (some ⟨p, 0, none⟩)] W (Res B p toks W (.ok { s with todo := 48 :: 49 :: s.todo })) := by
  have H0 := hid' h
  have HF := hid' hf
  have K0 := hid' (KQ.rfl B p W)
  clear h hf
  go_enter Tryz.func24, Tryz.ntmps24
  go_wp2_with (first
    | (go_at_call 38; (with_reducible refine (then_2 _ _ H0.out (by have := HF.out.todo; (try dsimp only); (try simp only [List.length_cons]); omega)).mono ?_); rintro e w1 ⟨hk1, rfl, hR1⟩; have H1 := hid' hR1; have K1 := hid' (K0.out.trans hk1); clear hR1 hk1))
  first
    | (go_end0; exact ⟨K1.out, rfl, H1.out⟩)
    | exact bodyPost_ret (results_none rfl _ _ _) rfl ⟨K1.out, rfl, H1.out⟩

theorem conditional48 {W : World} {B p : Nat} {toks : List Tk} {s : St} (h : RdS W B p toks s) (hf : Fine toks s)  :
    Calls Tryz.prog 48 #[.pointer (some ⟨p, 0, none⟩)] W (Res B p toks W (.ok { s with todo := 85 :: 86 :: 87 :: s.todo })) := by
  have H0 := hid' h
  have HF := hid' hf
  have K0 := hid' (KQ.rfl B p W)
  clear h hf
  go_enter Tryz.func48, Tryz.ntmps48
  go_wp2_with (first
    | (go_at_call 38; (with_reducible refine (then_3 _ _ _ H0.out (by have := HF.out.todo; (try dsimp only); (try simp only [List.length_cons]); omega)).mono ?_); rintro e w1 ⟨hk1, rfl, hR1⟩; have H1 := hid' hR1; have K1 := hid' (K0.out.trans hk1); clear hR1 hk1))
  first
    | (go_end0; exact ⟨K1.out, rfl, H1.out⟩)
    | exact bodyPost_ret (results_none rfl _ _ _) rfl ⟨K1.out, rfl, H1.out⟩

theorem member221 {W : World} {B p : Nat} {toks : List Tk} {s : St} (h : RdS W B p toks s) (hf : Fine toks s)  :
    Calls Tryz.prog 221 #[.pointer (some ⟨p, 0, none⟩)] W (Res B p toks W (.ok { s with todo := 226 :: 40 :: s.todo })) := by
  have H0 := hid' h
  have HF := hid' hf
  have K0 := hid' (KQ.rfl B p W)
  clear h hf
  go_enter Tryz.func221, Tryz.ntmps221
  go_wp2_with (first
    | (go_at_call 38; (with_reducible refine (then_2 _ _ H0.out (by have := HF.out.todo; (try dsimp only); (try simp only [List.length_cons]); omega)).mono ?_); rintro e w1 ⟨hk1, rfl, hR1⟩; have H1 := hid' hR1; have K1 := hid' (K0.out.trans hk1); clear hR1 hk1))
  first
    | (go_end0; exact ⟨K1.out, rfl, H1.out⟩)
    | exact bodyPost_ret (results_none rfl _ _ _) rfl ⟨K1.out, rfl, H1.out⟩

theorem variable188 {W : World} {B p : Nat} {toks : List Tk} {s : St} (h : RdS W B p toks s) (hf : Fine toks s)  :
    Calls Tryz.prog 188 #[.pointer (some ⟨p, 0, none⟩)] W (Res B p toks W (.ok { s with todo := 226 :: 227 :: 40 :: s.todo })) := by
  have H0 := hid' h
  have HF := hid' hf
  have K0 := hid' (KQ.rfl B p W)
  clear h hf
  go_enter Tryz.func188, Tryz.ntmps188
  go_wp2_with (first
    | (go_at_call 38; (with_reducible refine (then_3 _ _ _ H0.out (by have := HF.out.todo; (try dsimp only); (try simp only [List.length_cons]); omega)).mono ?_); rintro e w1 ⟨hk1, rfl, hR1⟩; have H1 := hid' hR1; have K1 := hid' (K0.out.trans hk1); clear hR1 hk1))
  first
    | (go_end0; exact ⟨K1.out, rfl, H1.out⟩)
    | exact bodyPost_ret (results_none rfl _ _ _) rfl ⟨K1.out, rfl, H1.out⟩

theorem colon138_y {W : World} {B p : Nat} {toks : List Tk} {s : St} (h : RdS W B p toks s) (hf : Fine1 toks s) (hq : signAt toks s.pl = ⟨#[58]⟩) :
    Calls Tryz.prog 138 #[.pointer (some ⟨p, 0, none⟩)] W (Res B p toks W (.ok { s with pl := s.pl + 1 })) := by
  have H0 := hid' h
  have HF := hid' hf
  have K0 := hid' (KQ.rfl B p W)
  clear h hf
  go_enter Tryz.func138, Tryz.ntmps138
  go_wp2_with (first
    | (go_at_call 179; (with_reducible refine (take_ok _ H0.out hq (by have := HF.out.at_; have := HF.out.few; (try dsimp only); omega) (by have := HF.out.at_; have := HF.out.few; (try dsimp only); omega)).mono ?_); rintro e w1 ⟨hk1, rfl, hR1⟩; have H1 := hid' hR1; have K1 := hid' (K0.out.trans hk1); clear hR1 hk1))
  first
    | (go_end0; exact ⟨K1.out, rfl, H1.out⟩)
    | exact bodyPost_ret (results_none rfl _ _ _) rfl ⟨K1.out, rfl, H1.out⟩

theorem colon138_n {W : World} {B p : Nat} {toks : List Tk} {s : St} (h : RdS W B p toks s) (hf : Fine1 toks s) (hq : ¬ signAt toks s.pl = ⟨#[58]⟩) :
    Calls Tryz.prog 138 #[.pointer (some ⟨p, 0, none⟩)] W (Res B p toks W (.error (tk toks s.pl).pos)) := by
  have H0 := hid' h
  have HF := hid' hf
  have K0 := hid' (KQ.rfl B p W)
  clear h hf
  go_enter Tryz.func138, Tryz.ntmps138
  go_wp2_with (first
    | (go_at_call 179; (with_reducible refine (take_no _ H0.out hq (by have := HF.out.at_; have := HF.out.few; (try dsimp only); omega) (by have := HF.out.at_; have := HF.out.few; (try dsimp only); omega)).mono ?_); rintro e w1 ⟨hk1, rfl⟩; have K1 := hid' (K0.out.trans hk1); clear hk1))
  exact ⟨rfl, K1.out, rfl⟩

theorem closeParen184_y {W : World} {B p : Nat} {toks : List Tk} {s : St} (h : RdS W B p toks s) (hf : Fine1 toks s) (hq : signAt toks s.pl = ⟨#[41]⟩) :
    Calls Tryz.prog 184 #[.pointer (some ⟨p, 0, none⟩)] W (Res B p toks W (.ok { s with pl := s.pl + 1 })) := by
  have H0 := hid' h
  have HF := hid' hf
  have K0 := hid' (KQ.rfl B p W)
  clear h hf
  go_enter Tryz.func184, Tryz.ntmps184
  go_wp2_with (first
    | (go_at_call 179; (with_reducible refine (take_ok _ H0.out hq (by have := HF.out.at_; have := HF.out.few; (try dsimp only); omega) (by have := HF.out.at_; have := HF.out.few; (try dsimp only); omega)).mono ?_); rintro e w1 ⟨hk1, rfl, hR1⟩; have H1 := hid' hR1; have K1 := hid' (K0.out.trans hk1); clear hR1 hk1))
  first
    | (go_end0; exact ⟨K1.out, rfl, H1.out⟩)
    | exact bodyPost_ret (results_none rfl _ _ _) rfl ⟨K1.out, rfl, H1.out⟩

theorem closeParen184_n {W : World} {B p : Nat} {toks : List Tk} {s : St} (h : RdS W B p toks s) (hf : Fine1 toks s) (hq : ¬ signAt toks s.pl = ⟨#[41]⟩) :
    Calls Tryz.prog 184 #[.pointer (some ⟨p, 0, none⟩)] W (Res B p toks W (.error (tk toks s.pl).pos)) := by
  have H0 := hid' h
  have HF := hid' hf
  have K0 := hid' (KQ.rfl B p W)
  clear h hf
  go_enter Tryz.func184, Tryz.ntmps184
  go_wp2_with (first
    | (go_at_call 179; (with_reducible refine (take_no _ H0.out hq (by have := HF.out.at_; have := HF.out.few; (try dsimp only); omega) (by have := HF.out.at_; have := HF.out.few; (try dsimp only); omega)).mono ?_); rintro e w1 ⟨hk1, rfl⟩; have K1 := hid' (K0.out.trans hk1); clear hk1))
  exact ⟨rfl, K1.out, rfl⟩

theorem closeBracket192_y {W : World} {B p : Nat} {toks : List Tk} {s : St} (h : RdS W B p toks s) (hf : Fine1 toks s) (hq : signAt toks s.pl = ⟨#[93]⟩) :
    Calls Tryz.prog 192 #[.pointer (some ⟨p, 0, none⟩)] W (Res B p toks W (.ok { s with pl := s.pl + 1 })) := by
  have H0 := hid' h
  have HF := hid' hf
  have K0 := hid' (KQ.rfl B p W)
  clear h hf
  go_enter Tryz.func192, Tryz.ntmps192
  go_wp2_with (first
    | (go_at_call 179; (with_reducible refine (take_ok _ H0.out hq (by have := HF.out.at_; have := HF.out.few; (try dsimp only); omega) (by have := HF.out.at_; have := HF.out.few; (try dsimp only); omega)).mono ?_); rintro e w1 ⟨hk1, rfl, hR1⟩; have H1 := hid' hR1; have K1 := hid' (K0.out.trans hk1); clear hR1 hk1))
  first
    | (go_end0; exact ⟨K1.out, rfl, H1.out⟩)
    | exact bodyPost_ret (results_none rfl _ _ _) rfl ⟨K1.out, rfl, H1.out⟩

theorem closeBracket192_n {W : World} {B p : Nat} {toks : List Tk} {s : St} (h : RdS W B p toks s) (hf : Fine1 toks s) (hq : ¬ signAt toks s.pl = ⟨#[93]⟩) :
    Calls Tryz.prog 192 #[.pointer (some ⟨p, 0, none⟩)] W (Res B p toks W (.error (tk toks s.pl).pos)) := by
  have H0 := hid' h
  have HF := hid' hf
  have K0 := hid' (KQ.rfl B p W)
  clear h hf
  go_enter Tryz.func192, Tryz.ntmps192
  go_wp2_with (first
    | (go_at_call 179; (with_reducible refine (take_no _ H0.out hq (by have := HF.out.at_; have := HF.out.few; (try dsimp only); omega) (by have := HF.out.at_; have := HF.out.few; (try dsimp only); omega)).mono ?_); rintro e w1 ⟨hk1, rfl⟩; have K1 := hid' (K0.out.trans hk1); clear hk1))
  exact ⟨rfl, K1.out, rfl⟩

theorem semicolon182_y {W : World} {B p : Nat} {toks : List Tk} {s : St} (h : RdS W B p toks s) (hf : Fine1 toks s) (hq : signAt toks s.pl = ⟨#[59]⟩) :
    Calls Tryz.prog 182 #[.pointer (some ⟨p, 0, none⟩)] W (Res B p toks W (.ok { s with pl := s.pl + 1 })) := by
  have H0 := hid' h
  have HF := hid' hf
  have K0 := hid' (KQ.rfl B p W)
  clear h hf
  go_enter Tryz.func182, Tryz.ntmps182
  go_wp2_with (first
    | (go_at_call 179; (with_reducible refine (take_ok _ H0.out hq (by have := HF.out.at_; have := HF.out.few; (try dsimp only); omega) (by have := HF.out.at_; have := HF.out.few; (try dsimp only); omega)).mono ?_); rintro e w1 ⟨hk1, rfl, hR1⟩; have H1 := hid' hR1; have K1 := hid' (K0.out.trans hk1); clear hR1 hk1))
  first
    | (go_end0; exact ⟨K1.out, rfl, H1.out⟩)
    | exact bodyPost_ret (results_none rfl _ _ _) rfl ⟨K1.out, rfl, H1.out⟩

theorem semicolon182_n {W : World} {B p : Nat} {toks : List Tk} {s : St} (h : RdS W B p toks s) (hf : Fine1 toks s) (hq : ¬ signAt toks s.pl = ⟨#[59]⟩) :
    Calls Tryz.prog 182 #[.pointer (some ⟨p, 0, none⟩)] W (Res B p toks W (.error (tk toks s.pl).pos)) := by
  have H0 := hid' h
  have HF := hid' hf
  have K0 := hid' (KQ.rfl B p W)
  clear h hf
  go_enter Tryz.func182, Tryz.ntmps182
  go_wp2_with (first
    | (go_at_call 179; (with_reducible refine (take_no _ H0.out hq (by have := HF.out.at_; have := HF.out.few; (try dsimp only); omega) (by have := HF.out.at_; have := HF.out.few; (try dsimp only); omega)).mono ?_); rintro e w1 ⟨hk1, rfl⟩; have K1 := hid' (K0.out.trans hk1); clear hk1))
  exact ⟨rfl, K1.out, rfl⟩

theorem closeBrace265_y {W : World} {B p : Nat} {toks : List Tk} {s : St} (h : RdS W B p toks s) (hf : Fine1 toks s) (hq : signAt toks s.pl = ⟨#[125]⟩) :
    Calls Tryz.prog 265 #[.pointer (some ⟨p, 0, none⟩)] W (Res B p toks W (.ok { s with pl := s.pl + 1 })) := by
  have H0 := hid' h
  have HF := hid' hf
  have K0 := hid' (KQ.rfl B p W)
  clear h hf
  go_enter Tryz.func265, Tryz.ntmps265
  go_wp2_with (first
    | (go_at_call 179; (with_reducible refine (take_ok _ H0.out hq (by have := HF.out.at_; have := HF.out.few; (try dsimp only); omega) (by have := HF.out.at_; have := HF.out.few; (try dsimp only); omega)).mono ?_); rintro e w1 ⟨hk1, rfl, hR1⟩; have H1 := hid' hR1; have K1 := hid' (K0.out.trans hk1); clear hR1 hk1))
  first
    | (go_end0; exact ⟨K1.out, rfl, H1.out⟩)
    | exact bodyPost_ret (results_none rfl _ _ _) rfl ⟨K1.out, rfl, H1.out⟩

theorem closeBrace265_n {W : World} {B p : Nat} {toks : List Tk} {s : St} (h : RdS W B p toks s) (hf : Fine1 toks s) (hq : ¬ signAt toks s.pl = ⟨#[125]⟩) :
    Calls Tryz.prog 265 #[.pointer (some ⟨p, 0, none⟩)] W (Res B p toks W (.error (tk toks s.pl).pos)) := by
  have H0 := hid' h
  have HF := hid' hf
  have K0 := hid' (KQ.rfl B p W)
  clear h hf
  go_enter Tryz.func265, Tryz.ntmps265
  go_wp2_with (first
    | (go_at_call 179; (with_reducible refine (take_no _ H0.out hq (by have := HF.out.at_; have := HF.out.few; (try dsimp only); omega) (by have := HF.out.at_; have := HF.out.few; (try dsimp only); omega)).mono ?_); rintro e w1 ⟨hk1, rfl⟩; have K1 := hid' (K0.out.trans hk1); clear hk1))
  exact ⟨rfl, K1.out, rfl⟩
end Go.Proofs.YtjeioblhpfogfaaGreatDoor
namespace Go.Proofs.YtjeioblhpfogfaaGreatDoor
open Go.RowKit

theorem none272 {W : World} {B p : Nat} {toks : List Tk} {s : St} (h : RdS W B p toks s) (hf : Fine toks s)  :
    Calls Tryz.prog 272 #[.pointer (some ⟨p, 0, none⟩)] W (Res B p toks W (.ok { s with pl := s.pl + 1, done := s.done ++ [⟨⟨56, ⟨#[]⟩, 0, false, (tk toks s.pl).pos⟩, [], (tk toks s.pl).pos⟩] })) := by
  have H0 := hid' h
  have HF := hid' hf
  have K0 := hid' (KQ.rfl B p W)
  clear h hf
  go_enter Tryz.func272, Tryz.ntmps272
  go_wp2_with (first
    | (go_at_call 194; (with_reducible refine (leaf_agg 56 _ _ _ H0.out (by have := om HF; (try dsimp only); omega) (by have := om HF; (try dsimp only); omega) (by have := HF.out.done; (try dsimp only); omega)).mono ?_); rintro e w1 ⟨hk1, rfl, hR1⟩; have H1 := hid' hR1; have K1 := hid' (K0.out.trans hk1); clear hR1 hk1))
  first
    | (go_end0; exact ⟨K1.out, rfl, H1.out⟩)
    | exact bodyPost_ret (results_none rfl _ _ _) rfl ⟨K1.out, rfl, H1.out⟩

theorem alone286_y {W : World} {B p : Nat} {toks : List Tk} {s : St} (k : Int) (h : RdS W B p toks s) (hf : Fine toks s) (hn : s.pl + 1 < toks.length) (hq : signAt toks (s.pl + 1) = ⟨#[59]⟩) :
    Calls Tryz.prog 286 #[.pointer (some ⟨p, 0, none⟩), .int .i64 k] W (Res B p toks W (.ok { s with pl := s.pl + 2, done := s.done ++ [⟨⟨k, ⟨#[]⟩, 0, false, (tk toks s.pl).pos⟩, [], (tk toks s.pl).pos⟩] })) := by
  have H0 := hid' h
  have HF := hid' hf
  have K0 := hid' (KQ.rfl B p W)
  clear h hf
  go_enter Tryz.func286, Tryz.ntmps286
  go_wp2_with (first
    | (go_at_call 194; (with_reducible refine (leaf_agg k _ _ _ H0.out (by have := om HF; (try dsimp only); omega) (by have := om HF; (try dsimp only); omega) (by have := HF.out.done; (try dsimp only); omega)).mono ?_); rintro e w1 ⟨hk1, rfl, hR1⟩; have H1 := hid' hR1; have K1 := hid' (K0.out.trans hk1); clear hR1 hk1)
    | (go_at_call 182; (with_reducible refine (semicolon182_y H1.out ⟨hn, HF.out.few, (by have := HF.out.todo; (try dsimp only); (try simp only [List.length_cons]); omega), (by have := HF.out.begun; (try dsimp only); (try simp only [List.length_cons]); omega), (by have := HF.out.done; (try dsimp only); (try simp only [List.length_append, List.length_singleton]); omega)⟩ hq).mono ?_); rintro e w2 ⟨hk2, rfl, hR2⟩; have H2 := hid' hR2; have K2 := hid' (K1.out.trans hk2); clear hR2 hk2))
  first
    | (go_end0; exact ⟨K2.out, rfl, H2.out⟩)
    | exact bodyPost_ret (results_none rfl _ _ _) rfl ⟨K2.out, rfl, H2.out⟩

theorem alone286_n {W : World} {B p : Nat} {toks : List Tk} {s : St} (k : Int) (h : RdS W B p toks s) (hf : Fine toks s) (hn : s.pl + 1 < toks.length) (hq : ¬ signAt toks (s.pl + 1) = ⟨#[59]⟩) :
    Calls Tryz.prog 286 #[.pointer (some ⟨p, 0, none⟩), .int .i64 k] W (Res B p toks W (.error (tk toks (s.pl + 1)).pos)) := by
  have H0 := hid' h
  have HF := hid' hf
  have K0 := hid' (KQ.rfl B p W)
  clear h hf
  go_enter Tryz.func286, Tryz.ntmps286
  go_wp2_with (first
    | (go_at_call 194; (with_reducible refine (leaf_agg k _ _ _ H0.out (by have := om HF; (try dsimp only); omega) (by have := om HF; (try dsimp only); omega) (by have := HF.out.done; (try dsimp only); omega)).mono ?_); rintro e w1 ⟨hk1, rfl, hR1⟩; have H1 := hid' hR1; have K1 := hid' (K0.out.trans hk1); clear hR1 hk1)
    | (go_at_call 182; (with_reducible refine (semicolon182_n H1.out ⟨hn, HF.out.few, (by have := HF.out.todo; (try dsimp only); (try simp only [List.length_cons]); omega), (by have := HF.out.begun; (try dsimp only); (try simp only [List.length_cons]); omega), (by have := HF.out.done; (try dsimp only); (try simp only [List.length_append, List.length_singleton]); omega)⟩ hq).mono ?_); rintro e w2 ⟨hk2, rfl⟩; have K2 := hid' (K1.out.trans hk2); clear hk2))
  exact ⟨rfl, K2.out, rfl⟩

theorem breaking277_y {W : World} {B p : Nat} {toks : List Tk} {s : St} (h : RdS W B p toks s) (hf : Fine toks s) (hn : s.pl + 1 < toks.length) (hq : signAt toks (s.pl + 1) = ⟨#[59]⟩) :
    Calls Tryz.prog 277 #[.pointer (some ⟨p, 0, none⟩)] W (Res B p toks W (.ok { s with pl := s.pl + 2, done := s.done ++ [⟨⟨53, ⟨#[]⟩, 0, false, (tk toks s.pl).pos⟩, [], (tk toks s.pl).pos⟩] })) := by
  have H0 := hid' h
  have HF := hid' hf
  have K0 := hid' (KQ.rfl B p W)
  clear h hf
  go_enter Tryz.func277, Tryz.ntmps277
  go_wp2_with (first
    | (go_at_call 286; (with_reducible refine (alone286_y 53 H0.out HF.out hn hq).mono ?_); rintro e w1 ⟨hk1, rfl, hR1⟩; have H1 := hid' hR1; have K1 := hid' (K0.out.trans hk1); clear hR1 hk1))
  first
    | (go_end0; exact ⟨K1.out, rfl, H1.out⟩)
    | exact bodyPost_ret (results_none rfl _ _ _) rfl ⟨K1.out, rfl, H1.out⟩

theorem breaking277_n {W : World} {B p : Nat} {toks : List Tk} {s : St} (h : RdS W B p toks s) (hf : Fine toks s) (hn : s.pl + 1 < toks.length) (hq : ¬ signAt toks (s.pl + 1) = ⟨#[59]⟩) :
    Calls Tryz.prog 277 #[.pointer (some ⟨p, 0, none⟩)] W (Res B p toks W (.error (tk toks (s.pl + 1)).pos)) := by
  have H0 := hid' h
  have HF := hid' hf
  have K0 := hid' (KQ.rfl B p W)
  clear h hf
  go_enter Tryz.func277, Tryz.ntmps277
  go_wp2_with (first
    | (go_at_call 286; (with_reducible refine (alone286_n 53 H0.out HF.out hn hq).mono ?_); rintro e w1 ⟨hk1, rfl⟩; have K1 := hid' (K0.out.trans hk1); clear hk1))
  exact ⟨rfl, K1.out, rfl⟩

theorem continuing278_y {W : World} {B p : Nat} {toks : List Tk} {s : St} (h : RdS W B p toks s) (hf : Fine toks s) (hn : s.pl + 1 < toks.length) (hq : signAt toks (s.pl + 1) = ⟨#[59]⟩) :
    Calls Tryz.prog 278 #[.pointer (some ⟨p, 0, none⟩)] W (Res B p toks W (.ok { s with pl := s.pl + 2, done := s.done ++ [⟨⟨54, ⟨#[]⟩, 0, false, (tk toks s.pl).pos⟩, [], (tk toks s.pl).pos⟩] })) := by
  have H0 := hid' h
  have HF := hid' hf
  have K0 := hid' (KQ.rfl B p W)
  clear h hf
  go_enter Tryz.func278, Tryz.ntmps278
  go_wp2_with (first
    | (go_at_call 286; (with_reducible refine (alone286_y 54 H0.out HF.out hn hq).mono ?_); rintro e w1 ⟨hk1, rfl, hR1⟩; have H1 := hid' hR1; have K1 := hid' (K0.out.trans hk1); clear hR1 hk1))
  first
    | (go_end0; exact ⟨K1.out, rfl, H1.out⟩)
    | exact bodyPost_ret (results_none rfl _ _ _) rfl ⟨K1.out, rfl, H1.out⟩

theorem continuing278_n {W : World} {B p : Nat} {toks : List Tk} {s : St} (h : RdS W B p toks s) (hf : Fine toks s) (hn : s.pl + 1 < toks.length) (hq : ¬ signAt toks (s.pl + 1) = ⟨#[59]⟩) :
    Calls Tryz.prog 278 #[.pointer (some ⟨p, 0, none⟩)] W (Res B p toks W (.error (tk toks (s.pl + 1)).pos)) := by
  have H0 := hid' h
  have HF := hid' hf
  have K0 := hid' (KQ.rfl B p W)
  clear h hf
  go_enter Tryz.func278, Tryz.ntmps278
  go_wp2_with (first
    | (go_at_call 286; (with_reducible refine (alone286_n 54 H0.out HF.out hn hq).mono ?_); rintro e w1 ⟨hk1, rfl⟩; have K1 := hid' (K0.out.trans hk1); clear hk1))
  exact ⟨rfl, K1.out, rfl⟩

theorem returning279_n {W : World} {B p : Nat} {toks : List Tk} {s : St} (h : RdS W B p toks s) (hf : Fine toks s) (hq : ¬ signAt toks s.pl = ⟨#[114, 101, 116, 117, 114, 110]⟩) :
    Calls Tryz.prog 279 #[.pointer (some ⟨p, 0, none⟩)] W (Res B p toks W (.error (tk toks s.pl).pos)) := by
  have H0 := hid' h
  have HF := hid' hf
  have K0 := hid' (KQ.rfl B p W)
  clear h hf
  go_enter Tryz.func279, Tryz.ntmps279
  go_wp2_with (first
    | (go_at_call 128; (with_reducible refine (begin_is _ H0.out (by have := om HF; (try dsimp only); omega) (by have := HF.out.begun; (try dsimp only); omega)).mono ?_); rintro e w1 ⟨hk1, rfl, hR1⟩; have H1 := hid' hR1; have K1 := hid' (K0.out.trans hk1); clear hR1 hk1)
    | (go_at_call 179; (with_reducible refine (take_no _ H1.out hq (by have := om HF; (try dsimp only); omega) (by have := om HF; (try dsimp only); omega)).mono ?_); rintro e w2 ⟨hk2, rfl⟩; have K2 := hid' (K1.out.trans hk2); clear hk2))
  exact ⟨rfl, K2.out, rfl⟩

theorem returning279_e {W : World} {B p : Nat} {toks : List Tk} {s : St} (h : RdS W B p toks s) (hf : Fine toks s) (hq : signAt toks s.pl = ⟨#[114, 101, 116, 117, 114, 110]⟩) (hn : s.pl + 1 < toks.length) (h1 : signAt toks (s.pl + 1) = ⟨#[59]⟩) :
    Calls Tryz.prog 279 #[.pointer (some ⟨p, 0, none⟩)] W (Res B p toks W (.ok { s with pl := s.pl + 1, todo := 182 :: 40 :: s.todo, begun := ⟨⟨55, ⟨#[]⟩, 0, false, (tk toks s.pl).pos⟩, 0, s.done.length⟩ :: s.begun })) := by
  have H0 := hid' h
  have HF := hid' hf
  have K0 := hid' (KQ.rfl B p W)
  clear h hf
  go_enter Tryz.func279, Tryz.ntmps279
  go_wp2_with (first
    | (go_at_call 128; (with_reducible refine (begin_is _ H0.out (by have := om HF; (try dsimp only); omega) (by have := HF.out.begun; (try dsimp only); omega)).mono ?_); rintro e w1 ⟨hk1, rfl, hR1⟩; have H1 := hid' hR1; have K1 := hid' (K0.out.trans hk1); clear hR1 hk1)
    | (go_at_call 179; (with_reducible refine (take_ok _ H1.out hq (by have := om HF; (try dsimp only); omega) (by have := om HF; (try dsimp only); omega)).mono ?_); rintro e w2 ⟨hk2, rfl, hR2⟩; have H2 := hid' hR2; have K2 := hid' (K1.out.trans hk2); clear hR2 hk2)
    | (go_at_call 38; (with_reducible refine (then_2 _ _ H2.out (by have := HF.out.todo; (try dsimp only); (try simp only [List.length_cons]); omega)).mono ?_); rintro e w3 ⟨hk3, rfl, hR3⟩; have H3 := hid' hR3; have K3 := hid' (K2.out.trans hk3); clear hR3 hk3)
    | (go_at_call 88; (with_reducible refine (sign_is H3.out h1 (by have := om HF; (try dsimp only); omega) (by have := om HF; (try dsimp only); omega)).mono ?_); rintro e w4 ⟨rfl, hb4⟩; have H4 := hid' (H3.out.below hb4); have K4 := hid' (K3.out.trans (KQ.of_below hb4)); clear hb4))
  first
    | (go_end0; exact ⟨K4.out, rfl, H4.out⟩)
    | exact bodyPost_ret (results_none rfl _ _ _) rfl ⟨K4.out, rfl, H4.out⟩

theorem returning279_x {W : World} {B p : Nat} {toks : List Tk} {s : St} {sx : ByteArray} (h : RdS W B p toks s) (hf : Fine toks s) (hq : signAt toks s.pl = ⟨#[114, 101, 116, 117, 114, 110]⟩) (hn : s.pl + 1 < toks.length) (h1 : signAt toks (s.pl + 1) = sx) (q0 : (sx.toList == [59]) = false) :
    Calls Tryz.prog 279 #[.pointer (some ⟨p, 0, none⟩)] W (Res B p toks W (.ok { s with pl := s.pl + 1, todo := 24 :: 182 :: 40 :: s.todo, begun := ⟨⟨55, ⟨#[]⟩, 0, false, (tk toks s.pl).pos⟩, 0, s.done.length⟩ :: s.begun })) := by
  have H0 := hid' h
  have HF := hid' hf
  have K0 := hid' (KQ.rfl B p W)
  clear h hf
  go_enter Tryz.func279, Tryz.ntmps279
  go_wp2_with (first
    | (go_at_call 128; (with_reducible refine (begin_is _ H0.out (by have := om HF; (try dsimp only); omega) (by have := HF.out.begun; (try dsimp only); omega)).mono ?_); rintro e w1 ⟨hk1, rfl, hR1⟩; have H1 := hid' hR1; have K1 := hid' (K0.out.trans hk1); clear hR1 hk1)
    | (go_at_call 179; (with_reducible refine (take_ok _ H1.out hq (by have := om HF; (try dsimp only); omega) (by have := om HF; (try dsimp only); omega)).mono ?_); rintro e w2 ⟨hk2, rfl, hR2⟩; have H2 := hid' hR2; have K2 := hid' (K1.out.trans hk2); clear hR2 hk2)
    | (go_at_call 38; (with_reducible refine (then_2 _ _ H2.out (by have := HF.out.todo; (try dsimp only); (try simp only [List.length_cons]); omega)).mono ?_); rintro e w3 ⟨hk3, rfl, hR3⟩; have H3 := hid' hR3; have K3 := hid' (K2.out.trans hk3); clear hR3 hk3)
    | (go_at_call 88; (with_reducible refine (sign_is H3.out h1 (by have := om HF; (try dsimp only); omega) (by have := om HF; (try dsimp only); omega)).mono ?_); rintro e w4 ⟨rfl, hb4⟩; have H4 := hid' (H3.out.below hb4); have K4 := hid' (K3.out.trans (KQ.of_below hb4)); clear hb4)
    | (go_at_call 38; (with_reducible refine (then_1 _ H4.out (by have := HF.out.todo; (try dsimp only); (try simp only [List.length_cons]); omega)).mono ?_); rintro e w5 ⟨hk5, rfl, hR5⟩; have H5 := hid' hR5; have K5 := hid' (K4.out.trans hk5); clear hR5 hk5))
  first
    | (go_end0; exact ⟨K5.out, rfl, H5.out⟩)
    | exact bodyPost_ret (results_none rfl _ _ _) rfl ⟨K5.out, rfl, H5.out⟩

theorem loop276_n {W : World} {B p : Nat} {toks : List Tk} {s : St} (h : RdS W B p toks s) (hf : Fine toks s) (hq : ¬ signAt toks s.pl = ⟨#[102, 111, 114]⟩) :
    Calls Tryz.prog 276 #[.pointer (some ⟨p, 0, none⟩)] W (Res B p toks W (.error (tk toks s.pl).pos)) := by
  have H0 := hid' h
  have HF := hid' hf
  have K0 := hid' (KQ.rfl B p W)
  clear h hf
  go_enter Tryz.func276, Tryz.ntmps276
  go_wp2_with (first
    | (go_at_call 128; (with_reducible refine (begin_is _ H0.out (by have := om HF; (try dsimp only); omega) (by have := HF.out.begun; (try dsimp only); omega)).mono ?_); rintro e w1 ⟨hk1, rfl, hR1⟩; have H1 := hid' hR1; have K1 := hid' (K0.out.trans hk1); clear hR1 hk1)
    | (go_at_call 179; (with_reducible refine (take_no _ H1.out hq (by have := om HF; (try dsimp only); omega) (by have := om HF; (try dsimp only); omega)).mono ?_); rintro e w2 ⟨hk2, rfl⟩; have K2 := hid' (K1.out.trans hk2); clear hk2))
  exact ⟨rfl, K2.out, rfl⟩

theorem loop276_m {W : World} {B p : Nat} {toks : List Tk} {s : St} (h : RdS W B p toks s) (hf : Fine toks s) (hq : signAt toks s.pl = ⟨#[102, 111, 114]⟩) (hn : s.pl + 1 < toks.length) (h1 : ¬ signAt toks (s.pl + 1) = ⟨#[40]⟩) :
    Calls Tryz.prog 276 #[.pointer (some ⟨p, 0, none⟩)] W (Res B p toks W (.error (tk toks (s.pl + 1)).pos)) := by
  have H0 := hid' h
  have HF := hid' hf
  have K0 := hid' (KQ.rfl B p W)
  clear h hf
  go_enter Tryz.func276, Tryz.ntmps276
  go_wp2_with (first
    | (go_at_call 128; (with_reducible refine (begin_is _ H0.out (by have := om HF; (try dsimp only); omega) (by have := HF.out.begun; (try dsimp only); omega)).mono ?_); rintro e w1 ⟨hk1, rfl, hR1⟩; have H1 := hid' hR1; have K1 := hid' (K0.out.trans hk1); clear hR1 hk1)
    | (go_at_call 179; (with_reducible refine (take_ok _ H1.out hq (by have := om HF; (try dsimp only); omega) (by have := om HF; (try dsimp only); omega)).mono ?_); rintro e w2 ⟨hk2, rfl, hR2⟩; have H2 := hid' hR2; have K2 := hid' (K1.out.trans hk2); clear hR2 hk2)
    | (go_at_call 179; (with_reducible refine (take_no _ H2.out h1 hn (by have := om HF; (try dsimp only); omega)).mono ?_); rintro e w3 ⟨hk3, rfl⟩; have K3 := hid' (K2.out.trans hk3); clear hk3))
  exact ⟨rfl, K3.out, rfl⟩

theorem loop276_y {W : World} {B p : Nat} {toks : List Tk} {s : St} (h : RdS W B p toks s) (hf : Fine toks s) (hq : signAt toks s.pl = ⟨#[102, 111, 114]⟩) (hn : s.pl + 1 < toks.length) (h1 : signAt toks (s.pl + 1) = ⟨#[40]⟩) :
    Calls Tryz.prog 276 #[.pointer (some ⟨p, 0, none⟩)] W (Res B p toks W (.ok { s with pl := s.pl + 2, todo := 252 :: 182 :: 252 :: 182 :: 252 :: 184 :: 251 :: 40 :: s.todo, begun := ⟨⟨52, ⟨#[]⟩, 0, false, (tk toks s.pl).pos⟩, 0, s.done.length⟩ :: s.begun })) := by
  have H0 := hid' h
  have HF := hid' hf
  have K0 := hid' (KQ.rfl B p W)
  clear h hf
  go_enter Tryz.func276, Tryz.ntmps276
  go_wp2_with (first
    | (go_at_call 128; (with_reducible refine (begin_is _ H0.out (by have := om HF; (try dsimp only); omega) (by have := HF.out.begun; (try dsimp only); omega)).mono ?_); rintro e w1 ⟨hk1, rfl, hR1⟩; have H1 := hid' hR1; have K1 := hid' (K0.out.trans hk1); clear hR1 hk1)
    | (go_at_call 179; (with_reducible refine (take_ok _ H1.out hq (by have := om HF; (try dsimp only); omega) (by have := om HF; (try dsimp only); omega)).mono ?_); rintro e w2 ⟨hk2, rfl, hR2⟩; have H2 := hid' hR2; have K2 := hid' (K1.out.trans hk2); clear hR2 hk2)
    | (go_at_call 179; (with_reducible refine (take_ok _ H2.out h1 hn (by have := om HF; (try dsimp only); omega)).mono ?_); rintro e w3 ⟨hk3, rfl, hR3⟩; have H3 := hid' hR3; have K3 := hid' (K2.out.trans hk3); clear hR3 hk3)
    | (go_at_call 38; (with_reducible refine (then_8 _ _ _ _ _ _ _ _ H3.out (by have := HF.out.todo; (try dsimp only); (try simp only [List.length_cons]); omega)).mono ?_); rintro e w4 ⟨hk4, rfl, hR4⟩; have H4 := hid' hR4; have K4 := hid' (K3.out.trans hk4); clear hR4 hk4))
  first
    | (go_end0; exact ⟨K4.out, rfl, H4.out⟩)
    | exact bodyPost_ret (results_none rfl _ _ _) rfl ⟨K4.out, rfl, H4.out⟩

theorem until285_n {W : World} {B p : Nat} {toks : List Tk} {s : St} (h : RdS W B p toks s) (hf : Fine toks s) (hq : ¬ signAt toks s.pl = ⟨#[119, 104, 105, 108, 101]⟩) :
    Calls Tryz.prog 285 #[.pointer (some ⟨p, 0, none⟩)] W (Res B p toks W (.error (tk toks s.pl).pos)) := by
  have H0 := hid' h
  have HF := hid' hf
  have K0 := hid' (KQ.rfl B p W)
  clear h hf
  go_enter Tryz.func285, Tryz.ntmps285
  go_wp2_with (first
    | (go_at_call 179; (with_reducible refine (take_no _ H0.out hq (by have := om HF; (try dsimp only); omega) (by have := om HF; (try dsimp only); omega)).mono ?_); rintro e w1 ⟨hk1, rfl⟩; have K1 := hid' (K0.out.trans hk1); clear hk1))
  exact ⟨rfl, K1.out, rfl⟩

theorem until285_m {W : World} {B p : Nat} {toks : List Tk} {s : St} (h : RdS W B p toks s) (hf : Fine toks s) (hq : signAt toks s.pl = ⟨#[119, 104, 105, 108, 101]⟩) (hn : s.pl + 1 < toks.length) (h1 : ¬ signAt toks (s.pl + 1) = ⟨#[40]⟩) :
    Calls Tryz.prog 285 #[.pointer (some ⟨p, 0, none⟩)] W (Res B p toks W (.error (tk toks (s.pl + 1)).pos)) := by
  have H0 := hid' h
  have HF := hid' hf
  have K0 := hid' (KQ.rfl B p W)
  clear h hf
  go_enter Tryz.func285, Tryz.ntmps285
  go_wp2_with (first
    | (go_at_call 179; (with_reducible refine (take_ok _ H0.out hq (by have := om HF; (try dsimp only); omega) (by have := om HF; (try dsimp only); omega)).mono ?_); rintro e w1 ⟨hk1, rfl, hR1⟩; have H1 := hid' hR1; have K1 := hid' (K0.out.trans hk1); clear hR1 hk1)
    | (go_at_call 283; (with_reducible refine (test283_n H1.out ⟨hn, HF.out.few, (by have := HF.out.todo; (try dsimp only); (try simp only [List.length_cons]); omega), (by have := HF.out.begun; (try dsimp only); (try simp only [List.length_cons]); omega), (by have := HF.out.done; (try dsimp only); (try simp only [List.length_append, List.length_singleton]); omega)⟩ h1).mono ?_); rintro e w2 ⟨hk2, rfl⟩; have K2 := hid' (K1.out.trans hk2); clear hk2))
  exact ⟨rfl, K2.out, rfl⟩

theorem until285_y {W : World} {B p : Nat} {toks : List Tk} {s : St} (h : RdS W B p toks s) (hf : Fine toks s) (hq : signAt toks s.pl = ⟨#[119, 104, 105, 108, 101]⟩) (hn : s.pl + 1 < toks.length) (h1 : signAt toks (s.pl + 1) = ⟨#[40]⟩) :
    Calls Tryz.prog 285 #[.pointer (some ⟨p, 0, none⟩)] W (Res B p toks W (.ok { s with pl := s.pl + 2, todo := 24 :: 184 :: s.todo })) := by
  have H0 := hid' h
  have HF := hid' hf
  have K0 := hid' (KQ.rfl B p W)
  clear h hf
  go_enter Tryz.func285, Tryz.ntmps285
  go_wp2_with (first
    | (go_at_call 179; (with_reducible refine (take_ok _ H0.out hq (by have := om HF; (try dsimp only); omega) (by have := om HF; (try dsimp only); omega)).mono ?_); rintro e w1 ⟨hk1, rfl, hR1⟩; have H1 := hid' hR1; have K1 := hid' (K0.out.trans hk1); clear hR1 hk1)
    | (go_at_call 283; (with_reducible refine (test283_y H1.out ⟨hn, HF.out.few, (by have := HF.out.todo; (try dsimp only); (try simp only [List.length_cons]); omega), (by have := HF.out.begun; (try dsimp only); (try simp only [List.length_cons]); omega), (by have := HF.out.done; (try dsimp only); (try simp only [List.length_append, List.length_singleton]); omega)⟩ h1).mono ?_); rintro e w2 ⟨hk2, rfl, hR2⟩; have H2 := hid' hR2; have K2 := hid' (K1.out.trans hk2); clear hR2 hk2))
  first
    | (go_end0; exact ⟨K2.out, rfl, H2.out⟩)
    | exact bodyPost_ret (results_none rfl _ _ _) rfl ⟨K2.out, rfl, H2.out⟩

def stOf (sx : ByteArray) : Nat := if sx.toList == [123] then 185 else if sx.toList == [59] then 272 else if sx.toList == [105, 102] then 273 else if sx.toList == [119, 104, 105, 108, 101] then 274 else if sx.toList == [100, 111] then 275 else if sx.toList == [102, 111, 114] then 276 else if sx.toList == [98, 114, 101, 97, 107] then 277 else if sx.toList == [99, 111, 110, 116, 105, 110, 117, 101] then 278 else if sx.toList == [114, 101, 116, 117, 114, 110] then 279 else 280
theorem statementOf263 (sx : ByteArray) (w : World) : Calls Tryz.prog 263 #[.string sx] w fun e w' => e = .returned (.func (.func (stOf sx)) #[] #[]) ∧ Below w.heap.size w w' := by
  go_enter Tryz.func263, Tryz.ntmps263
  go_wp2
  all_goals
    first
      | (exfalso; simp_all; done)
      | (go_ret
         refine ⟨?_, Below.refl _ _⟩
         unfold stOf
         simp only [*]
         rfl)

theorem statement251 {W : World} {B p : Nat} {toks : List Tk} {s : St} {sx : ByteArray} (h : RdS W B p toks s) (hf : Fine toks s) (hq : signAt toks s.pl = sx) :
    Calls Tryz.prog 251 #[.pointer (some ⟨p, 0, none⟩)] W (Res B p toks W (.ok { s with todo := stOf sx :: s.todo })) := by
  have H0 := hid' h
  have HF := hid' hf
  have K0 := hid' (KQ.rfl B p W)
  clear h hf
  go_enter Tryz.func251, Tryz.ntmps251
  go_wp2_with (first
    | (go_at_call 88; (with_reducible refine (sign_is H0.out hq (by have := om HF; (try dsimp only); omega) (by have := om HF; (try dsimp only); omega)).mono ?_); rintro e w1 ⟨rfl, hb1⟩; have H1 := hid' (H0.out.below hb1); have K1 := hid' (K0.out.trans (KQ.of_below hb1)); clear hb1)
    | (go_at_call 263; (with_reducible refine (statementOf263 _ _).mono ?_); rintro e w2 ⟨rfl, hb2⟩; have H2 := hid' (H1.out.below hb2); have K2 := hid' (K1.out.trans (KQ.of_below hb2)); clear hb2)
    | (go_at_call 38; (with_reducible refine (then_1 _ H2.out (by have := HF.out.todo; (try dsimp only); (try simp only [List.length_cons]); omega)).mono ?_); rintro e w3 ⟨hk3, rfl, hR3⟩; have H3 := hid' hR3; have K3 := hid' (K2.out.trans hk3); clear hR3 hk3))
  first
    | (go_end0; exact ⟨K3.out, rfl, H3.out⟩)
    | exact bodyPost_ret (results_none rfl _ _ _) rfl ⟨K3.out, rfl, H3.out⟩
end Go.Proofs.YtjeioblhpfogfaaGreatDoor
