/- Steps: the innermost node's fields; names. -/
import Derived.Test.YtjeioblhpfogfaaGreatDoorX15
import Derived.Deep.RegionWith
set_option linter.unusedVariables false
set_option linter.unusedSimpArgs false
set_option maxRecDepth 20000
set_option maxHeartbeats 8000000
namespace Go.Proofs.YtjeioblhpfogfaaGreatDoor
open Go.RowKit

/-- The reader, and where its innermost node lies. -/
def Top (w : World) (B p : Nat) (toks : List Tk) (s : St) (l : List Bg) (g o : Nat) : Prop := ∃ tv ov dv kvs cap, Rd w B p toks s tv ov (.slice (some ⟨g, 0, none⟩) (l.length + 1) cap) dv kvs ∧ o = l.length * 8 ∧ s.begun.length = l.length + 1
theorem Top.rd {w : World} {B p : Nat} {toks : List Tk} {s : St} {l : List Bg} {g o : Nat} (h : Top w B p toks s l g o) : RdS w B p toks s := by
  obtain ⟨tv, ov, dv, kvs, cap, h, _⟩ := h
  exact ⟨_, _, _, _, _, h⟩
theorem Top.below {w w' : World} {B p : Nat} {toks : List Tk} {s : St} {l : List Bg} {g o : Nat} (h : Top w B p toks s l g o) (hb : Below w.heap.size w w') : Top w' B p toks s l g o := by
  obtain ⟨tv, ov, dv, kvs, cap, h, e⟩ := h
  exact ⟨_, _, _, _, _, h.below hb, e⟩
theorem Top.cells {w : World} {B p : Nat} {toks : List Tk} {s : St} {b : Bg} {l : List Bg} {g o : Nat} (h : Top w B p toks s l g o) (hb : s.begun = b :: l) :
    w.cell? ⟨g, o, none⟩ = some (.int .i64 b.x.kind) ∧ w.cell? ⟨g, o + 1, none⟩ = some (.string b.x.str) ∧ w.cell? ⟨g, o + 2, none⟩ = some (.int .u32 b.x.num) ∧ w.cell? ⟨g, o + 3, none⟩ = some (.bool b.x.flag) ∧ w.cell? ⟨g, o + 6, none⟩ = some (.int .i64 b.level) ∧ (∀ j, w.frozen? ⟨g, j, none⟩ = false) ∧ g < w.heap.size := by
  obtain ⟨tv, ov, dv, kvs, cap, h, rfl, _⟩ := h
  obtain ⟨g', cap', e, hc, hg, ho, k0, k1, k2, k3, k4, k5, k6, k7⟩ := h.top hb
  injection e with e1 _ e3
  injection e1 with e1
  injection e1 with e1
  subst e1
  refine ⟨k0, k1, k2, k3, k6, fun j => ?_, hg⟩
  rcases h.begun.2 with ⟨e', _⟩ | ⟨g', c, cur, e', _, hh, _⟩
  · cases e'
  · injection e' with e1
    injection e1 with e1
    injection e1 with e1
    subst e1
    simp [World.frozen?, hh]
theorem Top.set {w : World} {B p j : Nat} {toks : List Tk} {s : St} {b b' : Bg} {l : List Bg} {g o : Nat} {v : Value} (h : Top w B p toks s l g o) (hb : s.begun = b :: l) (hj : j < 8) (hv : bgC b' = (bgC b).set j v) :
    Top (w.setCell ⟨g, o + j, none⟩ v) B p toks { s with begun := b' :: l } l g o ∧ KQ B p w (w.setCell ⟨g, o + j, none⟩ v) := by
  obtain ⟨tv, ov, dv, kvs, cap, h, rfl, _⟩ := h
  obtain ⟨h1, h2⟩ := h.setTop hb hj hv
  exact ⟨⟨_, _, _, _, _, h1, rfl, rfl⟩, h2⟩
theorem top_is {w : World} {B p : Nat} {toks : List Tk} {s : St} {b : Bg} {l : List Bg} (h : RdS w B p toks s) (hb : s.begun = b :: l) (hn : l.length ≤ 1000000000) :
    Calls Tryz.prog 129 #[.pointer (some ⟨p, 0, none⟩)] w fun e w' => ∃ g o, e = .returned (.pointer (some ⟨g, o, none⟩)) ∧ Below w.heap.size w w' ∧ Top w' B p toks s l g o := by
  obtain ⟨tv, ov, bv, dv, kvs, h⟩ := h
  obtain ⟨g, cap, rfl, hc, hg, ho, _⟩ := h.top hb
  refine (innermost129 (B := B) h.cells.2.2.2.1 hn).mono ?_
  rintro e w' ⟨rfl, m, rfl⟩
  have hb' : Below w.heap.size w (w.drewN m) := bdN (Below.refl _ _) _
  exact ⟨g, _, rfl, hb', ⟨_, _, _, _, _, h.below hb', rfl, by rw [hb]; rfl⟩⟩
theorem skipT {w : World} {B p : Nat} {toks : List Tk} {s : St} {l : List Bg} {g o : Nat} (h : Top w B p toks s l g o) (hj : s.pl ≤ 9000000000000000000) :
    Calls Tryz.prog 93 #[.pointer (some ⟨p, 0, none⟩)] w fun e w' => e = .returned (.tuple #[]) ∧ Top w' B p toks { s with pl := s.pl + 1 } l g o ∧ KQ B p w w' := by
  obtain ⟨tv, ov, dv, kvs, cap, h, e⟩ := h
  obtain ⟨c0, c1, c2, c3, c4, hp⟩ := h.cells
  have f1 := h.frz 1
  have HR := hid' (h.setPl (s.pl + 1))
  have HE := hid' e
  clear h e
  go_enter Tryz.func93, Tryz.ntmps93
  go_wp2
  go_end0
  exact ⟨rfl, ⟨_, _, _, _, _, HR.out, HE.out⟩, (KQ.rfl _ _ _).turn _ _⟩
theorem nameT {w : World} {B p : Nat} {toks : List Tk} {s : St} {l : List Bg} {g o : Nat} (h : Top w B p toks s l g o) (hl : s.pl < toks.length) (hn : toks.length ≤ 9000000000000000000) (hk : (tk toks s.pl).kind = 2) :
    Calls Tryz.prog 180 #[.pointer (some ⟨p, 0, none⟩)] w fun e w' => e = .returned (.string (tk toks s.pl).text) ∧ Top w' B p toks { s with pl := s.pl + 1 } l g o ∧ KQ B p w w' := by
  have HA := token75 h.rd hl
  rw [tk_eq hl] at HA
  have HS : Hid (∀ W, Below w.heap.size w W → Calls Tryz.prog 93 #[.pointer (some ⟨p, 0, none⟩)] W fun e w' => e = .returned (.tuple #[]) ∧ Top w' B p toks { s with pl := s.pl + 1 } l g o ∧ KQ B p W w') := fun W hb => skipT (h.below hb) (by omega)
  have HP : Hid (∃ cs f, w.heap[p]? = some (.cells cs 65 f)) := by
    obtain ⟨_, _, _, _, _, h, _⟩ := h
    exact h.head'
  clear h
  obtain ⟨x, hx⟩ : ∃ x, x = tk toks s.pl := ⟨_, rfl⟩
  rw [← hx] at HA hk ⊢
  clear hx
  unfold tkV at HA
  obtain ⟨kd, tx, d0, e0, ps, g0⟩ := x
  simp only at HA hk ⊢
  subst hk
  go_enter Tryz.func180, Tryz.ntmps180
  go_wp2_with (first
    | (go_at_call 75; (with_reducible refine HA.mono ?_); rintro e w1 ⟨rfl, hb⟩)
    | (go_at_call 93; (with_reducible refine (HS.out _ (hb.alloc hb.size _)).mono ?_); rintro e w2 ⟨rfl, hR, hK⟩; have hx1 := hK.box (b := w1.heap.size) (below_head HP.out (hb.alloc hb.size _)) (heap_alloc_new w1 _) (by decide) (by decide) (by decide) (by decide); have k1 : w2.cell? ⟨w1.heap.size, 1, none⟩ = some (.string tx) := (by rw [cell_of_row w2 _ _ _ _ _ hx1]; rfl)))
  go_ret
  exact ⟨rfl, hR, (KQ.of_below (hb.alloc hb.size _)).trans hK⟩
theorem name_ok {w : World} {B p : Nat} {toks : List Tk} {s : St} (h : RdS w B p toks s) (hl : s.pl < toks.length) (hn : toks.length ≤ 9000000000000000000) (hk : (tk toks s.pl).kind = 2) :
    Calls Tryz.prog 180 #[.pointer (some ⟨p, 0, none⟩)] w fun e w' => e = .returned (.string (tk toks s.pl).text) ∧ RdS w' B p toks { s with pl := s.pl + 1 } ∧ KQ B p w w' := by
  refine (name180 h hl hn).mono ?_
  rintro e w' ⟨h1, h2⟩
  rw [tk_eq hl, if_pos hk] at h2
  exact ⟨h2.1, h2.2, h1⟩
theorem name_no {w : World} {B p : Nat} {toks : List Tk} {s : St} (h : RdS w B p toks s) (hl : s.pl < toks.length) (hn : toks.length ≤ 9000000000000000000) (hk : ¬ (tk toks s.pl).kind = 2) :
    Calls Tryz.prog 180 #[.pointer (some ⟨p, 0, none⟩)] w (Res B p toks w (.error (tk toks s.pl).pos)) := by
  refine (name180 h hl hn).mono ?_
  rintro e w' ⟨h1, h2⟩
  rw [tk_eq hl, if_neg hk] at h2
  exact ⟨h1, h2⟩
theorem token_is {w : World} {B p : Nat} {toks : List Tk} {s : St} (h : RdS w B p toks s) (hl : s.pl < toks.length) :
    Calls Tryz.prog 75 #[.pointer (some ⟨p, 0, none⟩)] w fun e w' => e = .returned (tkV (tk toks s.pl)) ∧ Below w.heap.size w w' := by
  rw [← tk_eq hl]
  exact token75 h hl
theorem leaf_is {W : World} {B p : Nat} {toks : List Tk} {s : St} (x : NdH) (h : RdS W B p toks s) (hl : s.pl < toks.length) (hn : toks.length ≤ 9000000000000000000) (hd : s.done.length ≤ 1000000000) :
    Calls Tryz.prog 194 #[.pointer (some ⟨p, 0, none⟩), ndV x nilV] W (Res B p toks W (.ok { s with pl := s.pl + 1, done := s.done ++ [⟨{ x with pos := (tk toks s.pl).pos }, [], (tk toks s.pl).pos⟩] })) := by
  rw [← tk_eq hl]
  exact leaf194 x h hl hn hd
end Go.Proofs.YtjeioblhpfogfaaGreatDoor
namespace Go.Proofs.YtjeioblhpfogfaaGreatDoor
open Go.RowKit

theorem token_agg {w : World} {B p : Nat} {toks : List Tk} {s : St} (h : RdS w B p toks s) (hl : s.pl < toks.length) :
    Calls Tryz.prog 75 #[.pointer (some ⟨p, 0, none⟩)] w fun e w' => e = .returned (.agg #[.int .i64 (tk toks s.pl).kind, .string (tk toks s.pl).text, .int .u32 (tk toks s.pl).num, .bool (tk toks s.pl).uns, .int .i64 (tk toks s.pl).pos, .int .i64 (tk toks s.pl).fin]) ∧ Below w.heap.size w w' := token_is h hl
theorem lay_nil {W : World} {B p : Nat} {toks : List Tk} {s : St} (k : Int) (str : ByteArray) (n : Int) (f : Bool) (ps : Int) (h : RdS W B p toks s) (hn : s.done.length ≤ 1000000000) :
    Calls Tryz.prog 78 #[.pointer (some ⟨p, 0, none⟩), .agg #[.int .i64 k, .string str, .int .u32 n, .bool f, .slice none 0 0, .int .i64 ps]] W (Res B p toks W (.ok { s with done := s.done ++ [⟨⟨k, str, n, f, ps⟩, [], ps⟩] })) := lay78 (n := 0) (ks := []) ⟨k, str, n, f, ps⟩ h ⟨rfl, none, 0, rfl⟩ hn
theorem leaf_agg {W : World} {B p : Nat} {toks : List Tk} {s : St} (k : Int) (str : ByteArray) (n : Int) (f : Bool) (h : RdS W B p toks s) (hl : s.pl < toks.length) (hn : toks.length ≤ 9000000000000000000) (hd : s.done.length ≤ 1000000000) :
    Calls Tryz.prog 194 #[.pointer (some ⟨p, 0, none⟩), .agg #[.int .i64 k, .string str, .int .u32 n, .bool f, .slice none 0 0, .int .i64 0]] W (Res B p toks W (.ok { s with pl := s.pl + 1, done := s.done ++ [⟨⟨k, str, n, f, (tk toks s.pl).pos⟩, [], (tk toks s.pl).pos⟩] })) := leaf_is ⟨k, str, n, f, 0⟩ h hl hn hd
theorem RdS.head' {w : World} {B p : Nat} {toks : List Tk} {s : St} (h : RdS w B p toks s) : ∃ cs f, w.heap[p]? = some (.cells cs 65 f) := by
  obtain ⟨_, _, _, _, _, h⟩ := h
  exact h.head'
theorem box_six {w : World} {b : Nat} {c0 c1 c2 c3 c4 c5 : Value} {T : TypeId} (h : w.heap[b]? = some (.cells #[c0, c1, c2, c3, c4, c5] T (0, 0))) :
    w.cell? ⟨b, 0, none⟩ = some c0 ∧ w.cell? ⟨b, 1, none⟩ = some c1 ∧ w.cell? ⟨b, 2, none⟩ = some c2 ∧ w.cell? ⟨b, 3, none⟩ = some c3 ∧ w.cell? ⟨b, 4, none⟩ = some c4 ∧ w.cell? ⟨b, 5, none⟩ = some c5 ∧ (∀ o, w.frozen? ⟨b, o, none⟩ = false) ∧ b < w.heap.size := by
  refine ⟨?_, ?_, ?_, ?_, ?_, ?_, fun o => by simp [World.frozen?, h], lt_of_heap h⟩ <;> rw [cell_of_row w b _ _ _ _ h] <;> rfl

theorem typed183_n {W : World} {B p : Nat} {toks : List Tk} {s : St} {sx : ByteArray} (h : RdS W B p toks s) (hf : Fine1 toks s) (hq : signAt toks s.pl = sx) (q1 : tyWord sx = false) :
    Calls Tryz.prog 183 #[.pointer (some ⟨p, 0, none⟩)] W (Res B p toks W (.error (tk toks s.pl).pos)) := by
  have H0 := hid' h
  have HF := hid' hf
  have K0 := hid' (KQ.rfl B p W)
  clear h hf
  go_enter Tryz.func183, Tryz.ntmps183
  go_wp2_with (first
    | (go_at_call 88; (with_reducible refine (sign_is H0.out hq (by have := HF.out.at_; have := HF.out.few; (try dsimp only); omega) (by have := HF.out.few; omega)).mono ?_); rintro e w1 ⟨rfl, hb1⟩; have H1 := hid' (H0.out.below hb1); have K1 := hid' (K0.out.trans (KQ.of_below hb1)); clear hb1)
    | (go_at_call 131; (with_reducible refine (isType131 _ _).mono ?_); rintro e w2 ⟨rfl, hb2⟩; have H2 := hid' (H1.out.below hb2); have K2 := hid' (K1.out.trans (KQ.of_below hb2)); clear hb2)
    | (go_at_call 91; (with_reducible refine (wrong_is H2.out HF.out.at_).mono ?_); rintro e w3 ⟨hk3, rfl⟩; have K3 := hid' (K2.out.trans hk3); clear hk3))
  exact ⟨rfl, K3.out, rfl⟩
theorem typed183_w {W : World} {B p : Nat} {toks : List Tk} {s : St} {sx : ByteArray} (h : RdS W B p toks s) (hf : Fine1 toks s) (hq : signAt toks s.pl = sx) (q1 : tyWord sx = true) (q2 : (sx.toList == [115, 116, 114, 117, 99, 116]) = false) :
    Calls Tryz.prog 183 #[.pointer (some ⟨p, 0, none⟩)] W (Res B p toks W (.ok { s with pl := s.pl + 1, done := s.done ++ [⟨⟨16, sx, 0, false, (tk toks s.pl).pos⟩, [], (tk toks s.pl).pos⟩] })) := by
  have H0 := hid' h
  have HF := hid' hf
  have K0 := hid' (KQ.rfl B p W)
  have hf4 := fld42_4
  clear h hf
  go_enter Tryz.func183, Tryz.ntmps183
  go_wp2_with (first
    | (go_at_call 88; (with_reducible refine (sign_is H0.out hq (by have := HF.out.at_; have := HF.out.few; (try dsimp only); omega) (by have := HF.out.few; omega)).mono ?_); rintro e w1 ⟨rfl, hb1⟩; have H1 := hid' (H0.out.below hb1); have K1 := hid' (K0.out.trans (KQ.of_below hb1)); clear hb1)
    | (go_at_call 131; (with_reducible refine (isType131 _ _).mono ?_); rintro e w2 ⟨rfl, hb2⟩; have H2 := hid' (H1.out.below hb2); have K2 := hid' (K1.out.trans (KQ.of_below hb2)); clear hb2)
    | (go_at_call 75; (with_reducible refine (token_agg H2.out HF.out.at_).mono ?_); rintro e w3 ⟨rfl, hb3⟩; have H3 := hid' (H2.out.below hb3); have K3 := hid' (K2.out.trans (KQ.of_below hb3)); clear hb3)
    | (go_at_call 93; (with_reducible refine (skip_is (H3.out.below (below1 w3 _)) (by have := HF.out.at_; have := HF.out.few; (try dsimp only); omega)).mono ?_); rintro e w4 ⟨hk4, rfl, hR4⟩; obtain ⟨l0, l1, l2, l3, l4, l5, lf, ll⟩ := box_six (hk4.box (b := w3.heap.size) (H3.out.below (below1 w3 _)).head' (heap_alloc_new w3 _) (by decide) (by decide) (by decide) (by decide)); have H4 := hid' hR4; have K4 := hid' (K3.out.trans ((KQ.of_below (below1 w3 _)).trans hk4)); clear hR4 hk4)
    | (go_at_call 78; (with_reducible refine (lay_nil _ _ _ _ _ H4.out (by have := HF.out.done; (try dsimp only); omega)).mono ?_); rintro e w5 ⟨hk5, rfl, hR5⟩; have H5 := hid' hR5; have K5 := hid' (K4.out.trans hk5); clear hR5 hk5))
  go_end0
  exact ⟨K5.out, rfl, H5.out⟩
theorem isType_struct (w : World) : Calls Tryz.prog 131 #[.string ⟨#[115, 116, 114, 117, 99, 116]⟩] w fun e w' => e = .returned (.bool true) ∧ Below w.heap.size w w' := by
  have h := isType131 ⟨#[115, 116, 114, 117, 99, 116]⟩ w
  have e : tyWord ⟨#[115, 116, 114, 117, 99, 116]⟩ = true := by
    unfold tyWord
    simp [toList_data]
  rw [e] at h
  exact h
theorem skipR {w : World} {B p : Nat} {toks : List Tk} {s : St} {tv ov bv dv : Value} {kvs : List Value} (h : Rd w B p toks s tv ov bv dv kvs) (hj : s.pl ≤ 9000000000000000000) :
    Calls Tryz.prog 93 #[.pointer (some ⟨p, 0, none⟩)] w fun e w' => e = .returned (.tuple #[]) ∧ Rd w' B p toks { s with pl := s.pl + 1 } tv ov bv dv kvs ∧ KQ B p w w' := by
  obtain ⟨c0, c1, c2, c3, c4, hp⟩ := h.cells
  have f1 := h.frz 1
  have HR := hid' (h.setPl (s.pl + 1))
  clear h
  go_enter Tryz.func93, Tryz.ntmps93
  go_wp2
  go_end0
  exact ⟨rfl, HR.out, (KQ.rfl _ _ _).turn _ _⟩
theorem nameR {w : World} {B p : Nat} {toks : List Tk} {s : St} {tv ov bv dv : Value} {kvs : List Value} (h : Rd w B p toks s tv ov bv dv kvs) (hl : s.pl < toks.length) (hn : toks.length ≤ 9000000000000000000) (hk : (tk toks s.pl).kind = 2) :
    Calls Tryz.prog 180 #[.pointer (some ⟨p, 0, none⟩)] w fun e w' => e = .returned (.string (tk toks s.pl).text) ∧ Rd w' B p toks { s with pl := s.pl + 1 } tv ov bv dv kvs ∧ KQ B p w w' := by
  have HA := token75 ⟨_, _, _, _, _, h⟩ hl
  rw [tk_eq hl] at HA
  have HS : Hid (∀ W, Below w.heap.size w W → Calls Tryz.prog 93 #[.pointer (some ⟨p, 0, none⟩)] W fun e w' => e = .returned (.tuple #[]) ∧ Rd w' B p toks { s with pl := s.pl + 1 } tv ov bv dv kvs ∧ KQ B p W w') := fun W hb => skipR (h.below hb) (by omega)
  have HP := hid' h.head'
  clear h
  obtain ⟨x, hx⟩ : ∃ x, x = tk toks s.pl := ⟨_, rfl⟩
  rw [← hx] at HA hk ⊢
  clear hx
  unfold tkV at HA
  obtain ⟨kd, tx, d0, e0, ps, g0⟩ := x
  simp only at HA hk ⊢
  subst hk
  go_enter Tryz.func180, Tryz.ntmps180
  go_wp2_with (first
    | (go_at_call 75; (with_reducible refine HA.mono ?_); rintro e w1 ⟨rfl, hb⟩)
    | (go_at_call 93; (with_reducible refine (HS.out _ (hb.alloc hb.size _)).mono ?_); rintro e w2 ⟨rfl, hR, hK⟩; have hx1 := hK.box (b := w1.heap.size) (below_head HP.out (hb.alloc hb.size _)) (heap_alloc_new w1 _) (by decide) (by decide) (by decide) (by decide); have k1 : w2.cell? ⟨w1.heap.size, 1, none⟩ = some (.string tx) := (by rw [cell_of_row w2 _ _ _ _ _ hx1]; rfl)))
  go_ret
  exact ⟨rfl, hR, (KQ.of_below (hb.alloc hb.size _)).trans hK⟩
/-- A cell of a box that none of the reader's trees knows is another one. -/
theorem Rd.box {w3 w5 : World} {B p bx o : Nat} {toks : List Tk} {s3 s5 : St} {tv ov bv dv : Value} {kvs : List Value} {cs : Array Value} (h3 : Rd w3 B p toks s3 tv ov bv dv kvs) (h5 : Rd w5 B p toks s5 tv ov bv dv kvs) (hs : s5.done = s3.done) (hK : KQ B p w3 w5) (hb : w3.heap.size ≤ bx) (hx : w5.heap[bx]? = some (.cells cs 25 (0, 0))) (v : Value) :
    Rd (w5.setCell ⟨bx, o, none⟩ v) B p toks s5 tv ov bv dv kvs := by
  have hh := setCell_heap (o := o) hx v
  have own : ∀ {b0 e z n : Nat} {u : Value} {xs : List Value}, ¬ e = 25 → w5.ownsRow b0 e z u n xs → (w5.setCell ⟨bx, o, none⟩ v).ownsRow b0 e z u n xs := fun {b0 e z n u xs} hne ho => by
    refine ⟨ho.1, ho.2.imp id fun ⟨g, cap, cur, a1, a2, a3, a4⟩ => ⟨g, cap, cur, a1, a2, ?_, a4⟩⟩
    rw [hh g, if_neg (fun e' => by subst e'; rw [hx] at a3; injection a3 with a3; injection a3 with _ a3; exact hne a3.symm)]
    exact a3
  refine ⟨?_, by rw [World.size_setCell]; exact h5.low, own (by decide) h5.tok, own (by decide) h5.todo, own (by decide) h5.begun, own (by decide) h5.done, h5.kids.1, fun i h1 h2 => ?_⟩
  · rw [hh p, if_neg (fun e' => by have := h5.head; rw [e', hx] at this; injection this with this; injection this with _ this; cases this)]
    exact h5.head
  · obtain ⟨n, hn⟩ := h3.kids.2 i (by rw [← hs]; exact h1) h2
    refine ⟨n, ?_⟩
    have hk : s5.done[i].ks = (s3.done[i]'(by rw [← hs]; exact h1)).ks := by simp only [hs]
    rw [hk]
    refine hn.at fun b cs' f e => ?_
    have hlt := lt_of_heap e
    rw [hh b, if_neg (by omega), hK.box h3.head' e (by decide) (by decide) (by decide) (by decide), e]
def structW (t : ByteArray) : ByteArray := ⟨#[115, 116, 114, 117, 99, 116]⟩ ++ (⟨#[32]⟩ ++ t)
theorem typed183_s {W : World} {B p : Nat} {toks : List Tk} {s : St} (h : RdS W B p toks s) (hf : Fine1 toks s) (hq : signAt toks s.pl = ⟨#[115, 116, 114, 117, 99, 116]⟩) (hn : s.pl + 1 < toks.length) (hk : (tk toks (s.pl + 1)).kind = 2) (ht : (tk toks (s.pl + 1)).text.size ≤ 1000000) :
    Calls Tryz.prog 183 #[.pointer (some ⟨p, 0, none⟩)] W (Res B p toks W (.ok { s with pl := s.pl + 2, done := s.done ++ [⟨⟨16, structW (tk toks (s.pl + 1)).text, 0, false, (tk toks s.pl).pos⟩, [], (tk toks s.pl).pos⟩] })) := by
  have H0 := hid' h
  have HF := hid' hf
  have K0 := hid' (KQ.rfl B p W)
  have hf4 := fld42_4
  have HN := hid' hn
  have HK := hid' hk
  unfold structW
  clear h hf hn hk
  go_enter Tryz.func183, Tryz.ntmps183
  go_wp2_with (first
    | (go_at_call 88; (with_reducible refine (sign_is H0.out hq (by have := HF.out.at_; have := HF.out.few; (try dsimp only); omega) (by have := HF.out.few; omega)).mono ?_); rintro e w1 ⟨rfl, hb1⟩; have H1 := hid' (H0.out.below hb1); have K1 := hid' (K0.out.trans (KQ.of_below hb1)); clear hb1)
    | (go_at_call 131; (with_reducible refine (isType_struct _).mono ?_); rintro e w2 ⟨rfl, hb2⟩; have H2 := hid' (H1.out.below hb2); have K2 := hid' (K1.out.trans (KQ.of_below hb2)); clear hb2)
    | (go_at_call 75; (with_reducible refine (token_agg H2.out HF.out.at_).mono ?_); rintro e w3 ⟨rfl, hb3⟩; obtain ⟨tv, ov, bv, dv, kvs, hR3⟩ := H2.out.below hb3; have H3 := hid' hR3; have K3 := hid' (K2.out.trans (KQ.of_below hb3)); clear hb3 hR3)
    | (go_at_call 93; (with_reducible refine (skipR (H3.out.below (below1 w3 _)) (by have := HF.out.at_; have := HF.out.few; (try dsimp only); omega)).mono ?_); rintro e w4 ⟨rfl, hR4, hk4⟩; have hx4 := hid' (hk4.box (b := w3.heap.size) (H3.out.below (below1 w3 _)).head' (heap_alloc_new w3 _) (by decide) (by decide) (by decide) (by decide)); obtain ⟨l0, l1, l2, l3, l4, l5, lf, ll⟩ := box_six hx4.out; have H4 := hid' hR4; have J4 := hid' ((KQ.of_below (below1 w3 _)).trans hk4); have K4 := hid' (K3.out.trans J4.out); clear hR4 hk4))
  obtain ⟨bx, hbx⟩ : ∃ bx, bx = w3.heap.size := ⟨_, rfl⟩
  have HLE : Hid (w3.heap.size ≤ bx) := Nat.le_of_eq hbx.symm
  rw [← hbx] at hx4 l0 l1 l2 l3 l4 l5 lf ll ⊢
  have lf1 := lf 1
  have HC : Hid (∀ W', Below w4.heap.size w4 W' → Calls Tryz.prog 180 #[.pointer (some ⟨p, 0, none⟩)] W' fun e w' => e = .returned (.string (tk toks (s.pl + 1)).text) ∧ Rd w' B p toks { s with pl := s.pl + 2 } tv ov bv dv kvs ∧ KQ B p W' w') := fun W' hb => nameR (H4.out.below hb) HN.out (by have := HF.out.few; omega) HK.out
  obtain ⟨tx, htx⟩ : ∃ tx, tx = (tk toks (s.pl + 1)).text := ⟨_, rfl⟩
  rw [← htx] at HC ht ⊢
  have HDR : Hid (Below w4.heap.size w4 w4.drew) := (Below.refl _ _).drew
  have HH := hid' H4.out.head'
  have HTX := hid' htx
  clear htx hbx lf
  go_region_with (first
    | (go_at_call 180; (with_reducible refine (HC.out _ HDR.out).mono ?_); rintro e w5 ⟨rfl, hR5, hk5⟩; have hx5 := hid' (hk5.box (b := bx) (below_head HH.out HDR.out) ((HDR.out.block _ ll).trans hx4.out) (by decide) (by decide) (by decide) (by decide)); obtain ⟨m0, m1, m2, m3, m4, m5, mf, ml⟩ := box_six hx5.out; have mf1 := mf 1; have H5 := hid' hR5; have J5 := hid' (J4.out.trans ((KQ.of_below HDR.out).trans hk5)); have K5 := hid' (K3.out.trans J5.out); clear hR5 hk5 mf))
  all_goals
    have H6 := hid' (H3.out.box (o := 1) H5.out rfl J5.out HLE.out hx5.out (.string (⟨#[115, 116, 114, 117, 99, 116]⟩ ++ (⟨#[32]⟩ ++ tx))))
    have hx6 := setCell_heap (o := 1) hx5.out (.string (⟨#[115, 116, 114, 117, 99, 116]⟩ ++ (⟨#[32]⟩ ++ tx))) bx
    rw [if_pos rfl] at hx6
    replace hx6 : (w5.setCell ⟨bx, 1, none⟩ (.string (⟨#[115, 116, 114, 117, 99, 116]⟩ ++ (⟨#[32]⟩ ++ tx)))).heap[bx]? = some (.cells #[.int .i64 16, .string (⟨#[115, 116, 114, 117, 99, 116]⟩ ++ (⟨#[32]⟩ ++ tx)), .int .u32 0, .bool false, .slice none 0 0, .int .i64 (tk toks s.pl).pos] 25 (0, 0)) := hx6
    have K6 : Hid (KQ B p W (w5.setCell ⟨bx, 1, none⟩ (.string (⟨#[115, 116, 114, 117, 99, 116]⟩ ++ (⟨#[32]⟩ ++ tx))))) := Kept.setC K5.out (fun hlt => by have h1 := K3.out.size; have h2 := HLE.out; omega) _
    generalize w5.setCell ⟨bx, 1, none⟩ (.string (⟨#[115, 116, 114, 117, 99, 116]⟩ ++ (⟨#[32]⟩ ++ tx))) = w6 at *
    obtain ⟨n0, n1, n2, n3, n4, n5, nf, nl⟩ := box_six hx6
    have R6 : Hid (RdS w6 B p toks { s with pl := s.pl + 2 }) := ⟨_, _, _, _, _, H6.out⟩
    clear hx6
    go_wp2_with (go_at_call 78; (with_reducible refine (lay_nil _ _ _ _ _ R6.out (by have := HF.out.done; (try dsimp only); omega)).mono ?_); rintro e w7 ⟨hk7, rfl, hR7⟩)
    go_end0
    rw [HTX.out] at hR7
    exact ⟨K6.out.trans hk7, rfl, hR7⟩
end Go.Proofs.YtjeioblhpfogfaaGreatDoor
