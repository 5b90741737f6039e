/- Steps: where parentheses start. -/
import Derived.Test.YtjeioblhpfogfaaGreatDoorX21
set_option linter.unusedVariables false
set_option linter.unusedSimpArgs false
set_option maxRecDepth 20000
set_option maxHeartbeats 8000000
namespace Go.Proofs.YtjeioblhpfogfaaGreatDoor
open Go.RowKit

theorem leaveR {W : World} {B p : Nat} {toks : List Tk} {s : St} {b : Bg} {l : List Bg} {tv ov bv dv : Value} {kvs : List Value} (h : Rd W B p toks s tv ov bv dv kvs) (hb : s.begun = b :: l) (hn : s.begun.length ≤ 1000000000) :
    Calls Tryz.prog 77 #[.pointer (some ⟨p, 0, none⟩)] W fun e w' => e = .returned (bgV b) ∧ (∃ bv', Rd w' B p toks { s with begun := l } tv ov bv' dv kvs) ∧ KQ B p W w' := by
  obtain ⟨g, cap, rfl, hcap, hg, hown, k0, k1, k2, k3, k4, k5, k6, k7⟩ := h.top hb
  obtain ⟨c0, c1, c2, c3, c4, hp⟩ := h.cells
  have f3 := h.frz 3
  have HR := hid' h
  have HO := hid' hown
  rw [hb, List.length_cons] at hn
  have h1 : (l.length : Int) < (l.length : Int) + 1 := by omega
  have hcap' : (l.length : Int) ≤ cap := by omega
  clear h hown
  unfold bgV
  go_enter Tryz.func77, Tryz.ntmps77
  go_wp2
  have hR : Rd (W.setCell ⟨p, 3, none⟩ (.slice (some ⟨g, 0, none⟩) l.length cap)) B p toks { s with begun := l } tv ov (.slice (some ⟨g, 0, none⟩) l.length cap) dv kvs :=
    Rd.mk' HR.out.head HR.out.low 3 _ rfl HR.out.tok HR.out.todo HO.out HR.out.done HR.out.kids
  have hK := (KQ.rfl B p W).turn 3 (.slice (some ⟨g, 0, none⟩) l.length cap)
  refine bodyPost_ret (v := .agg #[.int .i64 b.x.kind, .string b.x.str, .int .u32 b.x.num, .bool b.x.flag, .slice none 0 0, .int .i64 b.x.pos, .int .i64 b.level, .int .i64 (b.first : Int)]) (by simp [results, Tryz.results77, go_sem]) rfl ⟨rfl, ⟨_, hR.below ((below1 _ _).alloc (by simp) _)⟩, hK.trans (KQ.of_below ((below1 _ _).alloc (by simp) _))⟩
/-- The last node starts elsewhere. -/
theorem Rd.setStart {w : World} {B p g cap : Nat} {toks : List Tk} {s : St} {l : List Dn} {d : Dn} {tv ov bv : Value} {kvs : List Value} (h : Rd w B p toks s tv ov bv (.slice (some ⟨g, 0, none⟩) (l.length + 1) cap) kvs) (hd : s.done = l ++ [d]) (v : Int) :
    Rd (w.setCell ⟨g, l.length * 7 + 6, none⟩ (.int .i64 v)) B p toks { s with done := l ++ [{ d with start := v }] } tv ov bv (.slice (some ⟨g, 0, none⟩) (l.length + 1) cap) kvs ∧ KQ B p w (w.setCell ⟨g, l.length * 7 + 6, none⟩ (.int .i64 v)) := by
  have hk := h.kids
  have hkl : kvs.length = l.length + 1 := by rw [hk.1, hd, List.length_append, List.length_singleton]
  have ho := h.done
  rw [hd, dnsC_split l [d] kvs (by rw [hk.1, hd]), List.length_append, List.length_singleton] at ho
  obtain ⟨kv, hkv⟩ : ∃ kv, kvs.drop l.length = [kv] := by
    have : (kvs.drop l.length).length = 1 := by simp; omega
    match h : kvs.drop l.length, this with
    | [a], _ => exact ⟨a, rfl⟩
  rw [hkv] at ho
  have hx : dnsC [d] [kv] = dnC d kv := by simp [dnsC]
  rw [hx] at ho
  obtain ⟨hl, ⟨e, _⟩ | ⟨g', cap', cur, e, hg, hh, hn, hc, hs, ht⟩⟩ := ho
  · cases e
  injection e with e1 _ e3
  injection e1 with e1
  injection e1 with e1
  subst e1 e3
  have hh' := setCell_heap (o := l.length * 7 + 6) hh (.int .i64 v)
  have own : ∀ {b0 e z n : Nat} {u : Value} {xs : List Value}, ¬ e = 107 → w.ownsRow b0 e z u n xs → (w.setCell ⟨g, l.length * 7 + 6, none⟩ (.int .i64 v)).ownsRow b0 e z u n xs := fun {b0 e z n u xs} hne ho => by
    refine ⟨ho.1, ho.2.imp id fun ⟨g', cap, cur, a1, a2, a3, a4⟩ => ⟨g', cap, cur, a1, a2, ?_, a4⟩⟩
    rw [hh' g', if_neg (fun e' => by subst e'; rw [hh] at a3; injection a3 with a3; injection a3 with _ a3; exact hne a3.symm)]
    exact a3
  have hbl : (dnsC l (kvs.take l.length)).length = l.length * 7 := dnsC_length _ _ (by simp; omega)
  refine ⟨⟨?_, by rw [World.size_setCell]; exact h.low, own (by decide) h.tok, own (by decide) h.todo, own (by decide) h.begun, ?_, ?_, fun i h1 h2 => ?_⟩, ?_⟩
  · rw [hh' p, if_neg (fun e' => by have := h.head; rw [e', hh] at this; injection this with this; injection this with _ this; cases this)]
    exact h.head
  · show World.ownsRow _ B 107 7 _ (l ++ [{ d with start := v }]).length (dnsC (l ++ [{ d with start := v }]) kvs)
    rw [dnsC_split l _ kvs (by rw [hkl, List.length_append]; rfl), hkv, List.length_append, List.length_singleton]
    have hx2 : dnsC [{ d with start := v }] [kv] = (dnC d kv).set 6 (.int .i64 v) := by simp [dnsC, dnC]
    rw [hx2]
    have e2 : dnsC l (kvs.take l.length) ++ (dnC d kv).set 6 (.int .i64 v) = (dnsC l (kvs.take l.length) ++ dnC d kv).set (l.length * 7 + 6) (.int .i64 v) := by
      rw [List.set_append_right _ _ (by omega), hbl, Nat.add_sub_cancel_left]
    refine ⟨by rw [e2, List.length_set]; exact hl, .inr ⟨g, cap, _, rfl, hg, by rw [hh' g, if_pos rfl], hn, hc, by simp [hs], ?_⟩⟩
    rw [e2, ← ht]
    simp [List.take_set]
  · show kvs.length = (l ++ [{ d with start := v }]).length
    rw [hkl, List.length_append]
    rfl
  · have h1' : i < s.done.length := by rw [hd]; simpa using h1
    obtain ⟨n, hn⟩ := h.kids.2 i h1' h2
    refine ⟨n, ?_⟩
    have e4 : (l ++ [{ d with start := v }])[i].ks = s.done[i].ks := by
      simp only [hd]
      by_cases hi : i < l.length
      · rw [List.getElem_append_left hi, List.getElem_append_left hi]
      · have hi' : i = l.length := by simp at h1; omega
        subst hi'
        simp
    rw [e4]
    refine hn.at fun b cs f e => ?_
    rw [hh' b, if_neg (fun e' => by subst e'; rw [hh] at e; injection e with e; injection e with _ e; cases e)]
  · exact Kept.setC (Kept.rfl _ _) (fun _ => .inr ⟨hg, .inr (.inr ⟨_, _, hh⟩)⟩) _
theorem fld68_0 : ∀ (a b c d e f g i : Value) (W : World), (Instr.field 68 (.agg #[a, b, c, d, e, f, g, i]) 0).run Tryz.prog W = .ok (.agg #[a, b, c, d, e, f]) W := fun _ _ _ _ _ _ _ _ _ => by kernel_rfl
theorem fld25_5 : ∀ (a b c d e f : Value) (W : World), (Instr.field 25 (.agg #[a, b, c, d, e, f]) 5).run Tryz.prog W = .ok f W := fun _ _ _ _ _ _ _ => by kernel_rfl
end Go.Proofs.YtjeioblhpfogfaaGreatDoor
namespace Go.Proofs.YtjeioblhpfogfaaGreatDoor
open Go.RowKit

theorem start_cell {w : World} {B p g cap : Nat} {toks : List Tk} {s : St} {l : List Dn} {d : Dn} {tv ov bv : Value} {kvs : List Value} (h : Rd w B p toks s tv ov bv (.slice (some ⟨g, 0, none⟩) (l.length + 1) cap) kvs) (hd : s.done = l ++ [d]) :
    w.cell? ⟨g, l.length * 7 + 6, none⟩ = some (.int .i64 d.start) ∧ w.frozen? ⟨g, l.length * 7 + 6, none⟩ = false := by
  obtain ⟨g', cap', e, hcap, hg, hown, e1, e2, hc, _⟩ := h.parts hd (by simp)
  injection e with e1' _ e3
  injection e1' with e1'
  injection e1' with e1'
  subst e1'
  have hst := (hc 0 (by simp) (by rw [e2]; simp)).1 6 _ rfl
  rw [Nat.zero_mul, Nat.zero_add] at hst
  refine ⟨hst, ?_⟩
  rcases h.done.2 with ⟨e', _⟩ | ⟨g', c, cur, e', _, hh, _⟩
  · cases e'
  · injection e' with e1
    injection e1 with e1
    injection e1 with e1
    subst e1
    simp [World.frozen?, hh]
theorem startThere191 {W : World} {B p : Nat} {toks : List Tk} {s : St} {b : Bg} {lb : List Bg} {l : List Dn} {d : Dn} (h : RdS W B p toks s) (hf : Fine toks s) (hb : s.begun = b :: lb) (hd : s.done = l ++ [d]) :
    Calls Tryz.prog 191 #[.pointer (some ⟨p, 0, none⟩)] W (Res B p toks W (.ok { s with begun := lb, done := l ++ [{ d with start := b.x.pos }] })) := by
  obtain ⟨tv, ov, bv, dv, kvs, hR⟩ := h
  have hlB : l.length ≤ 100000000 := by
    have := hf.done
    rw [hd, List.length_append] at this
    omega
  obtain ⟨g, cap, rfl, hcap, hg, hown, e1, e2, hc, _⟩ := hR.parts hd (by simp)
  have hst := (hc 0 (by simp) (by rw [e2]; simp)).1 6 _ rfl
  rw [Nat.zero_mul, Nat.zero_add] at hst
  simp only [List.getElem_cons_zero] at hst
  simp only [List.length_singleton] at hR hcap
  obtain ⟨c0, c1, c2, c3, c4, hp⟩ := hR.cells
  have hw1 : IntKind.i64.wrap ((l.length : Int) + 1 - 1) = (l.length : Int) := by rw [Go.IntWalk.i64_in _ (by omega)]; omega
  have hw2 : IntKind.i64.wrap (l.length : Int) = (l.length : Int) := Go.IntWalk.i64_in _ (by omega)
  have h1 : (l.length : Int) < (l.length : Int) + 1 := by omega
  have h2 : (l.length : Int) + 1 - 1 = (l.length : Int) := by omega
  have f0 := fld68_0
  have f5 := fld25_5
  have HR := hid' hR
  have HD := hid' hd
  have HC : Hid (∀ W', Below W.heap.size W W' → Calls Tryz.prog 77 #[.pointer (some ⟨p, 0, none⟩)] W' fun e w' => e = .returned (.agg #[.int .i64 b.x.kind, .string b.x.str, .int .u32 b.x.num, .bool b.x.flag, .slice none 0 0, .int .i64 b.x.pos, .int .i64 b.level, .int .i64 (b.first : Int)]) ∧ (∃ bv', Rd w' B p toks { s with begun := lb } tv ov bv' (.slice (some ⟨g, 0, none⟩) (l.length + 1) cap) kvs) ∧ KQ B p W' w') := fun W' hb' => leaveR (hR.below hb') hb (by have := hf.begun; omega)
  have HDR : Hid (Below W.heap.size W W.drew) := (Below.refl _ _).drew
  clear hR hown e1 e2 hc c0 c1 c2 c3 hst hb hd hf
  go_enter Tryz.func191, Tryz.ntmps191
  go_wp2_with fail
  go_region_with (first
    | (go_at_call 77; (with_reducible refine (HC.out _ HDR.out).mono ?_); rintro e w3 ⟨rfl, ⟨bv', hR3⟩, hk3⟩; have H3 := hid' hR3; have K3 := hid' ((KQ.of_below (B := B) (p := p) HDR.out).trans hk3); obtain ⟨n0, n1, n2, n3, n4, n5⟩ := hR3.cells; have m6 := start_cell hR3 HD.out; obtain ⟨m6, m7⟩ := m6; clear hR3 hk3 n0 n1 n2 n3))
  all_goals
    have H4 := hid' (H3.out.setStart HD.out b.x.pos)
    go_end0
    exact ⟨K3.out.trans H4.out.2, rfl, ⟨_, _, _, _, _, H4.out.1⟩⟩
end Go.Proofs.YtjeioblhpfogfaaGreatDoor
