/- The innermost node: asked, turned, left; a node begun over another. -/
import Derived.Test.YtjeioblhpfogfaaGreatDoorX13
import Derived.Test.YtjeioblhpfogfaaGreatDoorX14
set_option linter.unusedVariables false
set_option linter.unusedSimpArgs false
set_option maxRecDepth 20000
set_option maxHeartbeats 8000000
namespace Go.Proofs.YtjeioblhpfogfaaGreatDoor
open Go.RowKit

/-- A row's first part, and the cells behind it. -/
theorem own_part {w : World} {B e z n m : Nat} {v : Value} {xs ys : List Value} (h : w.ownsRow B e z v (n + m) (xs ++ ys)) (hx : xs.length = n * z) (hm : 0 < m) :
    ∃ g cap, v = .slice (some ⟨g, 0, none⟩) (n + m) cap ∧ n + m ≤ cap ∧ g < w.heap.size ∧ w.ownsRow B e z (.slice (some ⟨g, 0, none⟩) n cap) n xs ∧ ∀ j u, ys[j]? = some u → w.cell? ⟨g, n * z + j, none⟩ = some u := by
  have ho := h
  obtain ⟨hl, ⟨_, e'⟩ | ⟨g, cap, cur, rfl, hg, hh, hn, hc, hs, ht⟩⟩ := h
  · omega
  refine ⟨g, cap, rfl, hn, lt_of_heap hh, ⟨hx, .inr ⟨g, cap, cur, rfl, hg, hh, by omega, hc, hs, ?_⟩⟩, fun j u hu => ?_⟩
  · have := congrArg (List.take (n * z)) ht
    rw [List.take_take, Nat.min_eq_left (Nat.mul_le_mul_right _ (by omega)), List.take_append_of_le_length (by omega), List.take_of_length_le (l := xs) (by omega)] at this
    exact this
  · have := ho.cells (g := g) rfl (n * z + j) u (by rw [List.getElem?_append_right (by omega), hx, Nat.add_sub_cancel_left]; exact hu)
    rwa [Addr.add_lit, Nat.zero_add] at this
theorem bgsC_length : ∀ (l : List Bg), (bgsC l).length = l.length * 8
  | [] => rfl
  | x :: r => by
    have : bgsC (x :: r) = bgC x ++ bgsC r := rfl
    rw [this, List.length_append, bgsC_length r, List.length_cons]
    show 8 + _ = _
    omega
theorem bgsC_top (b : Bg) (l : List Bg) : bgsC (b :: l).reverse = bgsC l.reverse ++ bgC b := by simp [bgsC]
/-- The innermost node's cells. -/
theorem Rd.top {w : World} {B p : Nat} {toks : List Tk} {s : St} {b : Bg} {l : List Bg} {tv ov bv dv : Value} {kvs : List Value} (h : Rd w B p toks s tv ov bv dv kvs) (hb : s.begun = b :: l) :
    ∃ g cap, bv = .slice (some ⟨g, 0, none⟩) (l.length + 1) cap ∧ l.length + 1 ≤ cap ∧ g < w.heap.size ∧ w.ownsRow B 68 8 (.slice (some ⟨g, 0, none⟩) l.length cap) l.length (bgsC l.reverse) ∧
      w.cell? ⟨g, l.length * 8, none⟩ = some (.int .i64 b.x.kind) ∧ w.cell? ⟨g, l.length * 8 + 1, none⟩ = some (.string b.x.str) ∧ w.cell? ⟨g, l.length * 8 + 2, none⟩ = some (.int .u32 b.x.num) ∧ w.cell? ⟨g, l.length * 8 + 3, none⟩ = some (.bool b.x.flag) ∧ w.cell? ⟨g, l.length * 8 + 4, none⟩ = some (.slice none 0 0) ∧ w.cell? ⟨g, l.length * 8 + 5, none⟩ = some (.int .i64 b.x.pos) ∧ w.cell? ⟨g, l.length * 8 + 6, none⟩ = some (.int .i64 b.level) ∧ w.cell? ⟨g, l.length * 8 + 7, none⟩ = some (.int .i64 (b.first : Int)) := by
  have ho := h.begun
  rw [hb, bgsC_top, List.length_cons] at ho
  obtain ⟨g, cap, e, hc, hg, h1, h2⟩ := own_part ho (by rw [bgsC_length, List.length_reverse]) (by omega)
  exact ⟨g, cap, e, hc, hg, h1, h2 0 _ rfl, h2 1 _ rfl, h2 2 _ rfl, h2 3 _ rfl, h2 4 _ rfl, h2 5 _ rfl, h2 6 _ rfl, h2 7 _ rfl⟩
def bgV (b : Bg) : Value := .agg #[.int .i64 b.x.kind, .string b.x.str, .int .u32 b.x.num, .bool b.x.flag, .slice none 0 0, .int .i64 b.x.pos, .int .i64 b.level, .int .i64 (b.first : Int)]
theorem leave77 {W : World} {B p : Nat} {toks : List Tk} {s : St} {b : Bg} {l : List Bg} (h : RdS W B p toks s) (hb : s.begun = b :: l) (hn : s.begun.length ≤ 1000000000) :
    Calls Tryz.prog 77 #[.pointer (some ⟨p, 0, none⟩)] W fun e w' => e = .returned (bgV b) ∧ RdS w' B p toks { s with begun := l } ∧ KQ B p W w' := by
  obtain ⟨tv, ov, bv, dv, kvs, h⟩ := h
  obtain ⟨g, cap, rfl, hcap, hg, hown, k0, k1, k2, k3, k4, k5, k6, k7⟩ := h.top hb
  obtain ⟨c0, c1, c2, c3, c4, hp⟩ := h.cells
  have f3 := h.frz 3
  have HR := hid' h
  have HO := hid' hown
  rw [hb, List.length_cons] at hn
  have h1 : (l.length : Int) < (l.length : Int) + 1 := by omega
  have hcap' : (l.length : Int) ≤ cap := by omega
  clear h hown
  unfold bgV
  go_enter Tryz.func77, Tryz.ntmps77
  go_wp2
  have hR : Rd (W.setCell ⟨p, 3, none⟩ (.slice (some ⟨g, 0, none⟩) l.length cap)) B p toks { s with begun := l } tv ov (.slice (some ⟨g, 0, none⟩) l.length cap) dv kvs :=
    Rd.mk' HR.out.head HR.out.low 3 _ rfl HR.out.tok HR.out.todo HO.out HR.out.done HR.out.kids
  have hK := (KQ.rfl B p W).turn 3 (.slice (some ⟨g, 0, none⟩) l.length cap)
  refine bodyPost_ret (v := .agg #[.int .i64 b.x.kind, .string b.x.str, .int .u32 b.x.num, .bool b.x.flag, .slice none 0 0, .int .i64 b.x.pos, .int .i64 b.level, .int .i64 (b.first : Int)]) (by simp [results, Tryz.results77, go_sem]) rfl ⟨rfl, ⟨tv, ov, _, dv, kvs, hR.below ((below1 _ _).alloc (by simp) _)⟩, hK.trans (KQ.of_below ((below1 _ _).alloc (by simp) _))⟩

theorem innermost129 {W : World} {B p g cap n : Nat} (c3 : W.cell? ⟨p, 3, none⟩ = some (.slice (some ⟨g, 0, none⟩) (n + 1) cap)) (hn : n ≤ 1000000000) :
    Calls Tryz.prog 129 #[.pointer (some ⟨p, 0, none⟩)] W fun e w' => e = .returned (.pointer (some ⟨g, n * 8, none⟩)) ∧ ∃ m, w' = W.drewN m := by
  have hw : IntKind.i64.wrap ((n : Int) + 1 - 1) = (n : Int) := by rw [Go.IntWalk.i64_in _ (by omega)]; omega
  have hw2 : IntKind.i64.wrap (n : Int) = (n : Int) := Go.IntWalk.i64_in _ (by omega)
  have h1 : (n : Int) < (n : Int) + 1 := by omega
  have h2 : (n : Int) + 1 - 1 = (n : Int) := by omega
  go_enter Tryz.func129, Tryz.ntmps129
  go_wp2
  go_quiet (fail)
  go_wp2
  go_ret
  exact ⟨rfl, _, rfl⟩
/-- A field of the innermost node is another one. -/
theorem Rd.setTop {w : World} {B p g cap j : Nat} {toks : List Tk} {s : St} {b b' : Bg} {l : List Bg} {tv ov dv v : Value} {kvs : List Value} (h : Rd w B p toks s tv ov (.slice (some ⟨g, 0, none⟩) (l.length + 1) cap) dv kvs) (hb : s.begun = b :: l) (hj : j < 8) (hv : bgC b' = (bgC b).set j v) :
    Rd (w.setCell ⟨g, l.length * 8 + j, none⟩ v) B p toks { s with begun := b' :: l } tv ov (.slice (some ⟨g, 0, none⟩) (l.length + 1) cap) dv kvs ∧ KQ B p w (w.setCell ⟨g, l.length * 8 + j, none⟩ v) := by
  have ho := h.begun
  rw [hb, bgsC_top, List.length_cons] at ho
  obtain ⟨hl, ⟨e, _⟩ | ⟨g', cap', cur, e, hg, hh, hn, hc, hs, ht⟩⟩ := ho
  · cases e
  injection e with e1 _ e3
  injection e1 with e1
  injection e1 with e1
  subst e1 e3
  have hh' := setCell_heap (o := l.length * 8 + j) hh v
  have own : ∀ {b0 e z n : Nat} {u : Value} {xs : List Value}, ¬ e = 68 → w.ownsRow b0 e z u n xs → (w.setCell ⟨g, l.length * 8 + j, none⟩ v).ownsRow b0 e z u n xs := fun {b0 e z n u xs} hne ho => by
    refine ⟨ho.1, ho.2.imp id fun ⟨g', cap, cur, a1, a2, a3, a4⟩ => ⟨g', cap, cur, a1, a2, ?_, a4⟩⟩
    rw [hh' g', if_neg (fun e' => by subst e'; rw [hh] at a3; injection a3 with a3; injection a3 with _ a3; exact hne a3.symm)]
    exact a3
  refine ⟨⟨?_, by rw [World.size_setCell]; exact h.low, own (by decide) h.tok, own (by decide) h.todo, ?_, own (by decide) h.done, h.kids.1, fun i h1 h2 => ?_⟩, ?_⟩
  · rw [hh' p, if_neg (fun e' => by have := h.head; rw [e', hh] at this; injection this with this; injection this with _ this; cases this)]
    exact h.head
  · show World.ownsRow _ B 68 8 _ (b' :: l).length (bgsC (b' :: l).reverse)
    rw [bgsC_top, List.length_cons]
    have hbl : (bgsC l.reverse).length = l.length * 8 := by rw [bgsC_length, List.length_reverse]
    have e2 : bgsC l.reverse ++ bgC b' = (bgsC l.reverse ++ bgC b).set (l.length * 8 + j) v := by
      rw [hv, List.set_append_right _ _ (by omega), hbl, Nat.add_sub_cancel_left]
    refine ⟨by rw [e2, List.length_set]; exact hl, .inr ⟨g, cap, _, rfl, hg, by rw [hh' g, if_pos rfl], hn, hc, by simp [hs], ?_⟩⟩
    rw [e2, ← ht]
    simp [List.take_set]
  · obtain ⟨n, hn⟩ := h.kids.2 i h1 h2
    refine ⟨n, hn.at fun b cs f e => ?_⟩
    rw [hh' b, if_neg (fun e' => by subst e'; rw [hh] at e; injection e with e; injection e with _ e; cases e)]
  · exact Kept.setC (Kept.rfl _ _) (fun _ => .inr ⟨hg, .inr (.inl ⟨_, _, hh⟩)⟩) v
end Go.Proofs.YtjeioblhpfogfaaGreatDoor
namespace Go.Proofs.YtjeioblhpfogfaaGreatDoor
open Go.RowKit

theorem dnsC_length : ∀ (l : List Dn) (kvs : List Value), kvs.length = l.length → (dnsC l kvs).length = l.length * 7
  | [], [], _ => rfl
  | x :: r, y :: kvs, h => by
    rw [dnsC, List.length_append, dnsC_length r kvs (by simpa using h), List.length_cons]
    show 7 + _ = _
    omega
theorem dnsC_split : ∀ (l m : List Dn) (kvs : List Value), kvs.length = (l ++ m).length → dnsC (l ++ m) kvs = dnsC l (kvs.take l.length) ++ dnsC m (kvs.drop l.length)
  | [], m, kvs, _ => by simp [dnsC]
  | x :: l, m, y :: kvs, h => by
    rw [List.cons_append, dnsC, dnsC_split l m kvs (by simpa using h)]
    simp [dnsC]
/-- The nodes read, in two parts. -/
theorem Rd.parts {w : World} {B p : Nat} {toks : List Tk} {s : St} {l m : List Dn} {tv ov bv dv : Value} {kvs : List Value} (h : Rd w B p toks s tv ov bv dv kvs) (hd : s.done = l ++ m) (hm : 0 < m.length) :
    ∃ g cap, dv = .slice (some ⟨g, 0, none⟩) (l.length + m.length) cap ∧ l.length + m.length ≤ cap ∧ g < w.heap.size ∧ w.ownsRow B 107 7 (.slice (some ⟨g, 0, none⟩) l.length cap) l.length (dnsC l (kvs.take l.length)) ∧
      (kvs.take l.length).length = l.length ∧ (kvs.drop l.length).length = m.length ∧ (∀ i (h : i < m.length) (h' : i < (kvs.drop l.length).length), (∀ j u, (dnC m[i] (kvs.drop l.length)[i])[j]? = some u → w.cell? ⟨g, l.length * 7 + (i * 7 + j), none⟩ = some u) ∧ ∃ n, Kr B n w (kvs.drop l.length)[i] m[i].ks) ∧ (∀ i (h : i < l.length) (h' : i < (kvs.take l.length).length), ∃ n, Kr B n w (kvs.take l.length)[i] l[i].ks) := by
  have hk := h.kids
  have ho := h.done
  rw [hd, dnsC_split l m kvs (by rw [hk.1, hd]), List.length_append] at ho
  have hk1 : kvs.length = l.length + m.length := by rw [hk.1, hd, List.length_append]
  have e1 : (kvs.take l.length).length = l.length := by simp; omega
  have e2 : (kvs.drop l.length).length = m.length := by simp; omega
  obtain ⟨g, cap, e, hc, hg, h1, h2⟩ := own_part ho (dnsC_length _ _ e1) hm
  refine ⟨g, cap, e, hc, hg, h1, e1, e2, fun i hi hi' => ⟨fun j u hu => h2 _ _ ?_, ?_⟩, fun i hi hi' => ?_⟩
  · have at' : ∀ (m : List Dn) (ks : List Value), ks.length = m.length → ∀ i (h : i < m.length) (h' : i < ks.length) j u, (dnC m[i] ks[i])[j]? = some u → (dnsC m ks)[i * 7 + j]? = some u := by
      intro m
      induction m with
      | nil => intro ks _ i h; simp at h
      | cons x m ih =>
        intro ks hl i h h' j u hu
        cases ks with
        | nil => simp at h'
        | cons y ks =>
          rw [dnsC]
          cases i with
          | zero =>
            have hj : j < 7 := (List.getElem?_eq_some_iff.1 hu).1
            rw [List.getElem?_append_left (by show 0 * 7 + j < 7; omega), Nat.zero_mul, Nat.zero_add]
            exact hu
          | succ i =>
            rw [List.getElem?_append_right (by show 7 ≤ _; omega), show (i + 1) * 7 + j - (dnC x y).length = i * 7 + j by show _ - 7 = _; omega]
            exact ih ks (by simpa using hl) i (by simpa using h) (by simpa using h') j u hu
    exact at' m _ e2 i hi hi' j u hu
  · obtain ⟨n, hn⟩ := hk.2 (l.length + i) (by rw [hd, List.length_append]; omega) (by omega)
    refine ⟨n, ?_⟩
    simp only [hd] at hn
    rw [List.getElem_append_right (by omega)] at hn
    simp only [Nat.add_sub_cancel_left] at hn
    rw [List.getElem_drop]
    exact hn
  · obtain ⟨n, hn⟩ := hk.2 i (by rw [hd, List.length_append]; omega) (by omega)
    refine ⟨n, ?_⟩
    simp only [hd] at hn
    rw [List.getElem_append_left hi] at hn
    rw [List.getElem_take]
    exact hn
theorem beginOver92 {W : World} {B p : Nat} {toks : List Tk} {s : St} {l : List Dn} {d : Dn} (k : Int) (str : ByteArray) (h : RdS W B p toks s) (hd : s.done = l ++ [d]) (hn : s.begun.length ≤ 1000000000) (hl : s.done.length ≤ 1000000000) :
    Calls Tryz.prog 92 #[.pointer (some ⟨p, 0, none⟩), .int .i64 k, .string str] W (Res B p toks W (.ok { s with begun := ⟨⟨k, str, 0, false, d.start⟩, 0, l.length⟩ :: s.begun })) := by
  obtain ⟨tv, ov, bv, dv, kvs, h⟩ := h
  obtain ⟨g, cap, rfl, hcap, hg, hown, e1, e2, hc, _⟩ := h.parts hd (by simp)
  have hst := (hc 0 (by simp) (by rw [e2]; simp)).1 6 _ rfl
  rw [Nat.zero_mul, Nat.zero_add] at hst
  simp only [List.getElem_cons_zero] at hst
  rw [List.length_singleton] at hcap
  simp only [List.length_singleton] at h
  obtain ⟨i68, hi, hz0, hz1, hz2⟩ := info_parts info68
  rw [hd, List.length_append, List.length_singleton] at hl
  have HR := hid' h
  obtain ⟨c0, c1, c2, c3, c4, hp⟩ := h.cells
  have h1 : (l.length : Int) < (l.length : Int) + 1 := by omega
  clear h hc hown
  go_enter Tryz.func92, Tryz.ntmps92
  go_wp2_with fail
  obtain ⟨W2, hW2⟩ : ∃ W2, W2 = W.alloc (.cells #[.int .i64 k, .string str, .int .u32 0, .bool false, .slice none 0 0, .int .i64 d.start] 25) := ⟨_, rfl⟩
  have hb2 : Below W.heap.size W W2 := by rw [hW2]; exact below1 _ _
  obtain ⟨k0, k1, k2, k3, k4, k5, hs2⟩ := box6 hW2
  have h2 := HR.out.below hb2
  obtain ⟨c0, c1, c2, c3, c4, hp⟩ := h2.cells
  have f3 := h2.frz 3
  rw [← hW2]
  have HY : Hid (((W2.alloc (.cells #[.int .i64 k, .string str, .int .u32 0, .bool false, .slice none 0 0, .int .i64 d.start, .int .i64 0, .int .i64 (l.length : Int)] 68)).drew).ownsRow B 68 8 bv s.begun.length (bgsC s.begun.reverse)) := (World.ownsRow.alloc h2.begun _).drew
  have HBD : Hid (Below W.heap.size W ((W2.alloc (.cells #[.int .i64 k, .string str, .int .u32 0, .bool false, .slice none 0 0, .int .i64 d.start, .int .i64 0, .int .i64 (l.length : Int)] 68)).drew)) := (hb2.alloc hb2.size _).drew
  have HLB : Hid (B ≤ W2.heap.size) := by
    have := h2.low
    show _ ≤ _
    omega
  obtain ⟨wb, hwb⟩ : ∃ wb, wb = W.heap.size := ⟨_, rfl⟩
  rw [← hwb] at hs2 k0 k1 k2 k3 k4 k5 ⊢
  have hwl : wb < W2.heap.size := by omega
  clear hW2 hwb hs2 hb2 h2 c0 c1 c2
  go_region_law (refine step_app rfl (.tmp 29) (.tmp 33) 62 rfl B 68 i68 (.agg #[.int .i64 0, .string ⟨#[]⟩, .int .u32 0, .bool false, .slice none 0 0, .int .i64 0, .int .i64 0, .int .i64 0]) 8 80 Tryz.underlying62 hi hz0 hz1 hz2 rfl (by decide) bv s.begun.length (bgsC s.begun.reverse) (by simp [Act.eval]) HY.out ⟨W2.heap.size, 0, none⟩ 1 1 [.int .i64 k, .string str, .int .u32 0, .bool false, .slice none 0 0, .int .i64 d.start, .int .i64 0, .int .i64 (l.length : Int)] (by simp [Act.eval]) rfl (cells8 (by simp [go_sem]) (by simp [go_sem]) (by simp [go_sem]) (by simp [go_sem]) (by simp [go_sem]) (by simp [go_sem]) (by simp [go_sem]) (by simp [go_sem])) (fun u hu => by simp at hu; rcases hu with rfl | rfl | rfl | rfl | rfl | rfl | rfl | rfl <;> rfl) (by unfold maxLen; omega) (by omega) (by have := HLB.out; simp; omega) ?_; intro v' w6 hown2 hgrow hloc; obtain ⟨ao', cap', rfl⟩ := own_shape hown2; obtain ⟨d0, d1, d2, d3, d4, d5, d6⟩ := HR.out.cells6 HBD.out HY.out (.inr (.inl rfl)) hgrow; have d5 := d5 3)
  all_goals
    have HP := hid' (HR.out.pushBegun (b := ⟨⟨k, str, 0, false, d.start⟩, 0, l.length⟩) HBD.out hgrow hown2)
    clear hown2 hgrow hloc d0 d1 d2 d3 d4 d5 d6
    go_wp2
    go_end0
    exact ⟨HP.out.2, rfl, ⟨_, _, _, _, _, HP.out.1⟩⟩
end Go.Proofs.YtjeioblhpfogfaaGreatDoor
namespace Go.Proofs.YtjeioblhpfogfaaGreatDoor
open Go.RowKit

def dnT (d : Dn) : Tr := Tr.node d.x d.ks
/-- The innermost node has its kids. -/
def finS (s : St) (b : Bg) (l : List Bg) : St := { s with begun := l, done := s.done.take b.first ++ [⟨b.x, (s.done.drop b.first).map dnT, b.x.pos⟩] }
theorem Kr.up {B : Nat} {w : World} : ∀ {n : Nat} {v : Value} {ks : List Tr}, Kr B n w v ks → Kr B (n + 1) w v ks
  | 0, v, ks, h => by
    obtain ⟨rfl, ao, cap, rfl⟩ := h
    rw [Kr]
    exact ⟨by simp, ao, cap, rfl, fun i hi => by simp at hi⟩
  | n + 1, v, ks, h => by
    rw [Kr] at h ⊢
    obtain ⟨hl, ao, cap, rfl, h⟩ := h
    refine ⟨hl, ao, cap, rfl, fun i hi => ?_⟩
    obtain ⟨b, off, x, kv, ks', h1, h2, h3, h4, h5⟩ := h i hi
    exact ⟨b, off, x, kv, ks', h1, h2, h3, h4, h5.up⟩
theorem Kr.le {B : Nat} {w : World} {n m : Nat} {v : Value} {ks : List Tr} (h : Kr B n w v ks) (hm : n ≤ m) : Kr B m w v ks := by
  induction hm with
  | refl => exact h
  | step _ ih => exact ih.up
theorem Kr.all {B : Nat} {w : World} : ∀ (m : List Dn) (kvs : List Value), kvs.length = m.length → (∀ i (h : i < m.length) (h' : i < kvs.length), ∃ n, Kr B n w kvs[i] m[i].ks) → ∃ N, ∀ i (h : i < m.length) (h' : i < kvs.length), Kr B N w kvs[i] m[i].ks
  | [], _, _, _ => ⟨0, fun i h => by simp at h⟩
  | d :: m, [], hl, _ => by simp at hl
  | d :: m, y :: kvs, hl, h => by
    obtain ⟨n0, h0⟩ := h 0 (by simp) (by simp)
    obtain ⟨N, hN⟩ := Kr.all m kvs (by simpa using hl) (fun i h1 h2 => by
      have := h (i + 1) (by simp; omega) (by simp; omega)
      simpa using this)
    refine ⟨max n0 N, fun i h1 h2 => ?_⟩
    cases i with
    | zero => exact h0.le (Nat.le_max_left _ _)
    | succ i =>
      have := (hN i (by simpa using h1) (by simpa using h2)).le (Nat.le_max_right n0 N)
      simpa using this
theorem make23 (n : Nat) (hn : n ≤ 1000000000) : ∃ M : Array Value, M.size = n * 6 ∧ ∀ W : World, (Instr.makeSlice 23 (.int .i64 (n : Int)) (.int .i64 (n : Int))).run Tryz.prog W = .ok (.slice (some ⟨W.heap.size, 0, none⟩) n n) (W.alloc (.cells M 25)) := by
  have info25 : (Tryz.prog.info? 25).map (fun i => (i.zero, i.size, i.bytes)) = some (some (.agg #[.int .i64 0, .string ⟨#[]⟩, .int .u32 0, .bool false, .slice none 0 0, .int .i64 0]), 6, 64) := by kernel_rfl
  obtain ⟨i0, hi, hz0, hz1, hz2⟩ := info_parts info25
  refine ⟨madeCells (Value.agg #[.int .i64 0, .string ⟨#[]⟩, .int .u32 0, .bool false, .slice none 0 0, .int .i64 0]).cells (n * i0.size), by rw [size_madeCells, hz1], fun W => ?_⟩
  have h := run_make (P := Tryz.prog) W 23 25 i0 _ Tryz.underlying23 hi hz0 .i64 .i64 (n : Int) (n : Int) (by omega) (by omega) (by rw [hz2]; omega) (by omega)
  simpa using h
theorem bg_cells {w : World} {g : Nat} {a b c d e f i k : Value} (h : w.heap[g]? = some (.cells #[a, b, c, d, e, f, i, k] 68 (0, 0))) :
    w.cell? ⟨g, 0, none⟩ = some a ∧ w.cell? ⟨g, 1, none⟩ = some b ∧ w.cell? ⟨g, 2, none⟩ = some c ∧ w.cell? ⟨g, 3, none⟩ = some d ∧ w.cell? ⟨g, 4, none⟩ = some e ∧ w.cell? ⟨g, 5, none⟩ = some f ∧ w.cell? ⟨g, 6, none⟩ = some i ∧ w.cell? ⟨g, 7, none⟩ = some k ∧ w.frozen? ⟨g, 4, none⟩ = false ∧ g < w.heap.size := by
  refine ⟨?_, ?_, ?_, ?_, ?_, ?_, ?_, ?_, by simp [World.frozen?, h], lt_of_heap h⟩ <;> rw [cell_of_row w g _ _ _ _ h] <;> rfl

/-- No kids. -/
theorem finish40_none {W : World} {B p : Nat} {toks : List Tk} {s : St} {b : Bg} {l : List Bg} (h : RdS W B p toks s) (hb : s.begun = b :: l) (hn : s.begun.length ≤ 1000000000) (hd : s.done.length ≤ 1000000000) (hf : b.first = s.done.length) :
    Calls Tryz.prog 40 #[.pointer (some ⟨p, 0, none⟩)] W (Res B p toks W (.ok (finS s b l))) := by
  have HL := leave77 h hb hn
  have HF : Hid (finS s b l = { s with begun := l, done := s.done ++ [⟨b.x, [], b.x.pos⟩] }) := by
    show _ = _
    unfold finS
    rw [hf, List.take_length, List.drop_length]
    rfl
  clear h
  unfold bgV at HL
  rw [HF.out]
  clear HF
  go_enter Tryz.func40, Tryz.ntmps40
  go_wp2_with (go_at_call 77; (with_reducible refine HL.mono ?_); rintro e w1 ⟨rfl, ⟨tv, ov, bv, dv, kvs, hR⟩, hK⟩)
  obtain ⟨W2, hW2⟩ : ∃ W2, W2 = w1.alloc (.cells #[.int .i64 b.x.kind, .string b.x.str, .int .u32 b.x.num, .bool b.x.flag, .slice none 0 0, .int .i64 b.x.pos, .int .i64 b.level, .int .i64 (s.done.length : Int)] 68) := ⟨_, rfl⟩
  rw [← hW2]
  have hb2 : Below w1.heap.size w1 W2 := by rw [hW2]; exact below1 _ _
  have hbx := heap_alloc_new w1 (.cells #[.int .i64 b.x.kind, .string b.x.str, .int .u32 b.x.num, .bool b.x.flag, .slice none 0 0, .int .i64 b.x.pos, .int .i64 b.level, .int .i64 (s.done.length : Int)] 68)
  rw [← hW2] at hbx
  have HK2 := hid' (hK.trans (KQ.of_below hb2))
  have h2 := hR.below hb2
  obtain ⟨x, lv, fi⟩ := b
  obtain ⟨xk, xs, xn, xf, xp⟩ := x
  simp only at hbx HK2 h2 ⊢
  obtain ⟨tb, htb⟩ : ∃ tb, tb = w1.heap.size := ⟨_, rfl⟩
  rw [← htb] at hbx ⊢
  obtain ⟨j0, j1, j2, j3, j4, j5, j6, j7, jf, jl⟩ := bg_cells hbx
  obtain ⟨c0, c1, c2, c3, c4, hp⟩ := h2.cells
  have f4 := h2.frz 4
  have hne : ¬ p = tb := fun e => by
    have := h2.head
    rw [e, hbx] at this
    injection this with this
    injection this with _ this
    cases this
  have hne' : ¬ tb = p := fun e => hne e.symm
  have HR := hid' h2
  have HBX := hid' hbx
  clear htb hW2 hb2 hR hK h2 hbx HL
  have hdv : (dv = .slice none 0 0 ∧ s.done.length = 0) ∨ ∃ g cap, dv = .slice (some ⟨g, 0, none⟩) s.done.length cap ∧ s.done.length ≤ cap := by
    rcases HR.out.done.2 with h | ⟨g, cap, cur, h, _, _, h2, _⟩
    · exact .inl h
    · exact .inr ⟨g, cap, h, h2⟩
  rcases hdv with ⟨rfl, h0⟩ | ⟨g, cap, rfl, hcap⟩
  all_goals
    go_quiet (fail)
    have hR3 := HR.out.below (bdN (Below.refl W2.heap.size W2) nq)
    have hbx3 : (W2.drewN nq).heap[tb]? = _ := HBX.out
    have HK3 : Hid (KQ B p W (W2.drewN nq)) := HK2.out.trans (KQ.of_below (bdN (Below.refl _ _) _))
    clear HR HBX HK2 j0 j1 j2 j3 j4 j5 j6 j7 jf jl c0 c1 c2 c3 c4 hp f4
    generalize W2.drewN nq = W3 at *
    obtain ⟨j0, j1, j2, j3, j4, j5, j6, j7, jf, jl⟩ := bg_cells hbx3
    obtain ⟨c0, c1, c2, c3, c4, hp⟩ := hR3.cells
    have f4 := hR3.frz 4
    have HR := hid' hR3
    have HBX := hid' hbx3
    clear hR3 hbx3
    try generalize (if cap = s.done.length then some (⟨g, 0, none⟩ : Addr) else some ⟨g, s.done.length * 7, none⟩) = ka
    have HF : Hid (∀ dv' : Value, (#[tv, .int .i64 (s.pl : Int), ov, bv, dv'] : Array Value).setIfInBounds 4 dv' = #[tv, .int .i64 (s.pl : Int), ov, bv, dv']) := fun _ => rfl
    have HT : Hid (∀ (W4 : World) (dv' : Value), Rd W3 B p toks { s with begun := l } tv ov bv dv' kvs → W4 = (W3.setCell ⟨p, 4, none⟩ dv').drew → RdS W4 B p toks { s with begun := l } ∧ KQ B p W W4) := fun W4 dv' hr e => by
      subst e
      have h1 := hr.turn (s' := { s with begun := l }) 4 dv' (HF.out dv') hr.tok hr.todo hr.begun hr.done hr.kids
      have h2 : Below (W3.setCell ⟨p, 4, none⟩ dv').heap.size (W3.setCell ⟨p, 4, none⟩ dv') (W3.setCell ⟨p, 4, none⟩ dv').drew := (Below.refl _ _).drew
      exact ⟨⟨tv, ov, bv, dv', kvs, h1.below h2⟩, (HK3.out.turn 4 dv').trans (KQ.of_below h2)⟩
    go_wp2
    go_region
    have HZ := hid' (HT.out _ _ HR.out rfl)
    have HLY := hid' (lay78 (n := 0) (ks := []) ⟨xk, xs, xn, xf, xp⟩ HZ.out.1 ⟨rfl, none, 0, rfl⟩ hd)
    unfold ndV at HLY
    clear HT HF
    go_wp2_with (go_at_call 78; (with_reducible refine HLY.out.mono ?_); rintro e w4 ⟨hK4, rfl, hR4⟩)
    go_end0
    exact ⟨HZ.out.2.trans hK4, rfl, hR4⟩
end Go.Proofs.YtjeioblhpfogfaaGreatDoor
namespace Go.Proofs.YtjeioblhpfogfaaGreatDoor
open Go.RowKit

/-- The kids' row, in its midst: i nodes are laid. -/
structure KidM (w1 : World) (tb kb : Nat) (xk : Int) (xs : ByteArray) (xn : Int) (xf : Bool) (xp lv : Int) (fi n : Nat) (m : List Dn) (ms : List Value) (i : Nat) (wr : World) : Prop where
  bel : Below w1.heap.size w1 wr
  box : wr.heap[tb]? = some (.cells #[.int .i64 xk, .string xs, .int .u32 xn, .bool xf, .slice (some ⟨kb, 0, none⟩) n n, .int .i64 xp, .int .i64 lv, .int .i64 (fi : Int)] 68 (0, 0))
  row : ∃ cs, wr.heap[kb]? = some (.cells cs 25 (0, 0)) ∧ cs.size = n * 6
  nds : ∀ j (h : j < m.length) (h' : j < ms.length), j < i → NdAt wr kb (j * 6) m[j].x ms[j]
theorem cs_cell {w : World} {b o : Nat} {cs : Array Value} {T : TypeId} (h : w.heap[b]? = some (.cells cs T (0, 0))) (ho : o < cs.size) : (∃ v, w.cell? ⟨b, o, none⟩ = some v) ∧ w.frozen? ⟨b, o, none⟩ = false := by
  refine ⟨⟨cs[o], ?_⟩, by simp [World.frozen?, h]⟩
  rw [cell_of_row w b _ _ _ _ h]
  simp [ho]
theorem set6_other (w : World) {b k : Nat} (h : ¬ k = b) (o0 o1 o2 o3 o4 o5 : Nat) (v0 v1 v2 v3 v4 v5 : Value) : ((((((w.setCell ⟨b, o0, none⟩ v0).setCell ⟨b, o1, none⟩ v1).setCell ⟨b, o2, none⟩ v2).setCell ⟨b, o3, none⟩ v3).setCell ⟨b, o4, none⟩ v4).setCell ⟨b, o5, none⟩ v5).drew.heap[k]? = w.heap[k]? := by
  have e : ∀ (W : World) (o : Nat) (v : Value), (W.setCell ⟨b, o, none⟩ v).heap[k]? = W.heap[k]? := fun W o v => Below.heap_setCell W ⟨b, o, none⟩ v k h
  have d : ∀ W : World, W.drew.heap = W.heap := fun _ => rfl
  rw [d, e, e, e, e, e, e]
theorem set6_row {w : World} {b : Nat} {cs : Array Value} {T : TypeId} {f : Nat × Nat} (h : w.heap[b]? = some (.cells cs T f)) (o0 o1 o2 o3 o4 o5 : Nat) (v0 v1 v2 v3 v4 v5 : Value) : ((((((w.setCell ⟨b, o0, none⟩ v0).setCell ⟨b, o1, none⟩ v1).setCell ⟨b, o2, none⟩ v2).setCell ⟨b, o3, none⟩ v3).setCell ⟨b, o4, none⟩ v4).setCell ⟨b, o5, none⟩ v5).drew.heap[b]? = some (.cells ((((((cs.setIfInBounds o0 v0).setIfInBounds o1 v1).setIfInBounds o2 v2).setIfInBounds o3 v3).setIfInBounds o4 v4).setIfInBounds o5 v5) T f) := by
  have d : ∀ W : World, W.drew.heap = W.heap := fun _ => rfl
  have st : ∀ (W : World) (cs : Array Value) (o : Nat) (v : Value), W.heap[b]? = some (.cells cs T f) → (W.setCell ⟨b, o, none⟩ v).heap[b]? = some (.cells (cs.setIfInBounds o v) T f) := fun W cs o v h => by
    have := setCell_heap (o := o) h v b
    rwa [if_pos rfl] at this
  rw [d]
  exact st _ _ _ _ (st _ _ _ _ (st _ _ _ _ (st _ _ _ _ (st _ _ _ _ (st _ _ _ _ h)))))
theorem set6_below {w1 w : World} {b : Nat} (h : Below w1.heap.size w1 w) (hb : w1.heap.size ≤ b) (o0 o1 o2 o3 o4 o5 : Nat) (v0 v1 v2 v3 v4 v5 : Value) : Below w1.heap.size w1 ((((((w.setCell ⟨b, o0, none⟩ v0).setCell ⟨b, o1, none⟩ v1).setCell ⟨b, o2, none⟩ v2).setCell ⟨b, o3, none⟩ v3).setCell ⟨b, o4, none⟩ v4).setCell ⟨b, o5, none⟩ v5).drew :=
  ((((((h.setCell hb _).setCell hb _).setCell hb _).setCell hb _).setCell hb _).setCell hb _).drew
/-- One more node. -/
theorem KidM.put {w1 wr : World} {tb kb : Nat} {xk : Int} {xs : ByteArray} {xn : Int} {xf : Bool} {xp lv : Int} {fi n : Nat} {m : List Dn} {ms : List Value} {i : Nat} (h : KidM w1 tb kb xk xs xn xf xp lv fi n m ms i wr) (hk : w1.heap.size ≤ kb) (hne : ¬ tb = kb) (hm : m.length = n) (hi : i < m.length) (hi' : i < ms.length) {W : World} (v0 v1 v2 v3 v4 v5 : Value)
    (hW : W = ((((((wr.setCell ⟨kb, i * 6, none⟩ v0).setCell ⟨kb, i * 6 + 1, none⟩ v1).setCell ⟨kb, i * 6 + 2, none⟩ v2).setCell ⟨kb, i * 6 + 3, none⟩ v3).setCell ⟨kb, i * 6 + 4, none⟩ v4).setCell ⟨kb, i * 6 + 5, none⟩ v5).drew)
    (hv : v0 = .int .i64 m[i].x.kind ∧ v1 = .string m[i].x.str ∧ v2 = .int .u32 m[i].x.num ∧ v3 = .bool m[i].x.flag ∧ v4 = ms[i] ∧ v5 = .int .i64 m[i].x.pos) :
    KidM w1 tb kb xk xs xn xf xp lv fi n m ms (i + 1) W := by
  obtain ⟨cs, hr, hs⟩ := h.row
  have s6 := set6_row hr (i * 6) (i * 6 + 1) (i * 6 + 2) (i * 6 + 3) (i * 6 + 4) (i * 6 + 5) v0 v1 v2 v3 v4 v5
  rw [← hW] at s6
  have hb : ∀ k, ¬ k = kb → W.heap[k]? = wr.heap[k]? := fun k hk => by
    rw [hW]
    exact set6_other wr hk _ _ _ _ _ _ _ _ _ _ _ _
  have hbel : Below w1.heap.size w1 W := by
    rw [hW]
    exact set6_below h.bel hk _ _ _ _ _ _ _ _ _ _ _ _
  clear hW
  refine ⟨hbel, (hb tb hne).trans h.box, ⟨_, s6, by simp [hs]⟩, fun j h1 h2 hj => ?_⟩
  have hc : ∀ o, W.cell? ⟨kb, o, none⟩ = _ := fun o => cell_of_row W kb o _ _ _ s6
  have hc0 : ∀ o, wr.cell? ⟨kb, o, none⟩ = _ := fun o => cell_of_row wr kb o _ _ _ hr
  by_cases hji : j = i
  · subst hji
    have b0 : j * 6 + 5 < cs.size := by omega
    obtain ⟨e0, e1, e2, e3, e4, e5⟩ := hv
    unfold NdAt
    rw [hc, hc, hc, hc, hc, hc, ← e0, ← e1, ← e2, ← e3, ← e4, ← e5]
    refine ⟨?_, ?_, ?_, ?_, ?_, ?_⟩ <;> simp [Array.getElem?_setIfInBounds] <;> omega
  · obtain ⟨h0, h1', h2', h3, h4, h5⟩ := h.nds j h1 h2 (by omega)
    rw [hc0] at h0 h1' h2' h3 h4 h5
    unfold NdAt
    rw [hc, hc, hc, hc, hc, hc]
    have far : ∀ o, o < 6 → ((((((cs.setIfInBounds (i * 6) v0).setIfInBounds (i * 6 + 1) v1).setIfInBounds (i * 6 + 2) v2).setIfInBounds (i * 6 + 3) v3).setIfInBounds (i * 6 + 4) v4).setIfInBounds (i * 6 + 5) v5)[j * 6 + o]? = cs[j * 6 + o]? := fun o ho => by
      simp only [Array.getElem?_setIfInBounds]
      rw [if_neg (by omega), if_neg (by omega), if_neg (by omega), if_neg (by omega), if_neg (by omega), if_neg (by omega)]
    refine ⟨?_, ?_, ?_, ?_, ?_, ?_⟩
    · exact (far 0 (by omega)).trans h0
    · rw [far 1 (by omega)]; exact h1'
    · rw [far 2 (by omega)]; exact h2'
    · rw [far 3 (by omega)]; exact h3
    · rw [far 4 (by omega)]; exact h4
    · rw [far 5 (by omega)]; exact h5

/-- Some kids. -/
theorem finish40_some {W : World} {B p : Nat} {toks : List Tk} {s : St} {b : Bg} {l : List Bg} (h : RdS W B p toks s) (hb : s.begun = b :: l) (hn : s.begun.length ≤ 1000000000) (hd : s.done.length ≤ 1000000000) (hf : b.first < s.done.length) :
    Calls Tryz.prog 40 #[.pointer (some ⟨p, 0, none⟩)] W (Res B p toks W (.ok (finS s b l))) := by
  have HL := leave77 h hb hn
  clear h
  unfold bgV at HL
  obtain ⟨dl, dm, hdd, hdl, hmp, hdm⟩ : ∃ dl dm, s.done = dl ++ dm ∧ dl.length = b.first ∧ 0 < dm.length ∧ dl.length + dm.length = s.done.length := ⟨s.done.take b.first, s.done.drop b.first, (List.take_append_drop _ _).symm, by simp; omega, by simp; omega, by simp; omega⟩
  have HFN : Hid (finS s b l = { s with begun := l, done := dl ++ [⟨b.x, dm.map dnT, b.x.pos⟩] }) := by
    show _ = _
    unfold finS
    rw [hdd, ← hdl, List.take_left, List.drop_left]
  rw [HFN.out]
  clear HFN
  obtain ⟨x, lv, fi⟩ := b
  obtain ⟨xk, xs, xn, xf, xp⟩ := x
  simp only at HL hf hdl ⊢
  subst hdl
  obtain ⟨M, hMs, hmk⟩ := make23 dm.length (by omega)
  go_enter Tryz.func40, Tryz.ntmps40
  go_wp2_with (go_at_call 77; (with_reducible refine HL.mono ?_); rintro e w1 ⟨rfl, ⟨tv, ov, bv, dv, kvs, hR⟩, hK⟩)
  obtain ⟨W2, hW2⟩ : ∃ W2, W2 = w1.alloc (.cells #[.int .i64 xk, .string xs, .int .u32 xn, .bool xf, .slice none 0 0, .int .i64 xp, .int .i64 lv, .int .i64 (dl.length : Int)] 68) := ⟨_, rfl⟩
  rw [← hW2]
  have hb2 : Below w1.heap.size w1 W2 := by rw [hW2]; exact below1 _ _
  have hbx := heap_alloc_new w1 (.cells #[.int .i64 xk, .string xs, .int .u32 xn, .bool xf, .slice none 0 0, .int .i64 xp, .int .i64 lv, .int .i64 (dl.length : Int)] 68)
  rw [← hW2] at hbx
  have hs2 : W2.heap.size = w1.heap.size + 1 := by rw [hW2]; simp
  obtain ⟨g, cap, rfl, hcap, hg, hown, e1, e2, hcs, hks⟩ := hR.parts hdd hmp
  obtain ⟨tb, htb⟩ : ∃ tb, tb = w1.heap.size := ⟨_, rfl⟩
  rw [← htb] at hbx hs2 ⊢
  obtain ⟨j0, j1, j2, j3, j4, j5, j6, j7, jf, jl⟩ := bg_cells hbx
  have h2 := hR.below hb2
  obtain ⟨c0, c1, c2, c3, c4, hp⟩ := h2.cells
  have hlt1 : (dl.length : Int) < (dl.length : Int) + dm.length := by omega
  have hq1 : ((dl.length + dm.length : Nat) : Int) = (dl.length : Int) + dm.length := by omega
  have HR := hid' hR
  have HCS := hid' hcs
  have HKS := hid' hks
  have HOW := hid' hown
  have HBX := hid' hbx
  have HB2 := hid' hb2
  have HK := hid' hK
  have HE := hid' (And.intro hdd (And.intro hdm (And.intro e1 (And.intro e2 (And.intro hs2 htb)))))
  clear hW2 h2 hcs hks hown hR hbx hb2 hK HL hdd hdm e1 e2 hs2 htb
  go_quiet (fail)
  have hb3 : Below w1.heap.size w1 (W2.drewN nq) := bdN HB2.out _
  have hbx3 : (W2.drewN nq).heap[tb]? = _ := HBX.out
  have hs3 : (W2.drewN nq).heap.size = tb + 1 := HE.out.2.2.2.2.1
  clear HBX HB2 j0 j1 j2 j3 j4 j5 j6 j7 jf jl c0 c1 c2 c3 c4 hp
  generalize W2.drewN nq = W3 at *
  obtain ⟨j0, j1, j2, j3, j4, j5, j6, j7, jf, jl⟩ := bg_cells hbx3
  have HB3 := hid' hb3
  have HBX := hid' hbx3
  have HS3 := hid' hs3
  have hpos : (0 : Int) < dm.length := by omega
  have hdmB : dm.length ≤ 1000000000 := by
    have := HE.out.2.1
    omega
  clear hb3 hbx3 hs3
  have HLT : Hid (g < tb) := by
    have h1 := HE.out.2.2.2.2.2
    show _ < _
    omega
  have HST : Hid (∀ W4, W4 = (W3.setCell ⟨tb, 4, none⟩ (.slice (some ⟨W3.heap.size, 0, none⟩) dm.length dm.length)).alloc (.cells M 25) → KidM w1 tb W3.heap.size xk xs xn xf xp lv dl.length dm.length dm (kvs.drop dl.length) 0 W4) := fun W4 e => by
    have ht := HE.out.2.2.2.2.2
    have h3 := HS3.out
    have hx' := setCell_heap (o := 4) HBX.out (.slice (some ⟨W3.heap.size, 0, none⟩) dm.length dm.length) tb
    rw [if_pos rfl] at hx'
    have hb4 : Below w1.heap.size w1 (W3.setCell ⟨tb, 4, none⟩ (.slice (some ⟨W3.heap.size, 0, none⟩) dm.length dm.length)) := HB3.out.setCell (by show _ ≤ tb; omega) _
    have hsz : (W3.setCell ⟨tb, 4, none⟩ (.slice (some ⟨W3.heap.size, 0, none⟩) dm.length dm.length)).heap.size = W3.heap.size := World.size_setCell _ _ _
    generalize W3.setCell ⟨tb, 4, none⟩ (.slice (some ⟨W3.heap.size, 0, none⟩) dm.length dm.length) = W5 at *
    subst e
    refine ⟨hb4.alloc hb4.size _, ?_, ⟨M, ?_, hMs⟩, fun j _ _ h => by omega⟩
    · rw [Below.heap_alloc _ _ _ (by omega)]
      exact hx'
    · rw [← hsz]
      exact heap_alloc_new W5 _
  go_wp2_with fail
  replace HST := hid' (HST.out _ rfl)
  generalize (W3.setCell ⟨tb, 4, none⟩ (.slice (some ⟨W3.heap.size, 0, none⟩) dm.length dm.length)).alloc (.cells M 25) = W4 at *
  obtain ⟨kb, hkb⟩ : ∃ kb, kb = W3.heap.size := ⟨_, rfl⟩
  rw [← hkb] at HST ⊢
  have HKB : Hid (w1.heap.size ≤ kb ∧ ¬ tb = kb) := by
    have h1 := HE.out.2.2.2.2.2
    have h2 := HS3.out
    refine ⟨?_, ?_⟩ <;> omega
  clear hkb HS3 HBX HB3 j0 j1 j2 j3 j4 j5 j6 j7 jf jl hmk
  go_loopw [24] (fun i wr => ∃ k : Nat, k ≤ dm.length ∧ i = .int .i64 (k : Nat) ∧ KidM w1 tb kb xk xs xn xf xp lv dl.length dm.length dm (kvs.drop dl.length) k wr) (fun i _ => dm.length - (intOf i).toNat)
  case atStart => exact ⟨0, Nat.zero_le _, rfl, HST.out⟩
  case round =>
    obtain ⟨k, hk1, rfl, hM⟩ := hrel
    have HM := hid' hM
    obtain ⟨j0, j1, j2, j3, j4, j5, j6, j7, jf, jl⟩ := bg_cells hM.box
    by_cases hlt : k < dm.length
    · have hlk : k < (kvs.drop dl.length).length := by rw [HE.out.2.2.2.1]; exact hlt
      have hcc := (HCS.out k hlt hlk).1
      obtain ⟨nk, hKk⟩ := (HCS.out k hlt hlk).2
      obtain ⟨hkl, ka, kc, hkv⟩ := hKk.shape
      have cell : ∀ j u, (dnC dm[k] (kvs.drop dl.length)[k])[j]? = some u → wr.cell? ⟨g, dl.length * 7 + k * 7 + j, none⟩ = some u := fun j u hu => by
        have := hcc j u hu
        rw [← Nat.add_assoc] at this
        exact (hM.bel.cell (p := ⟨g, dl.length * 7 + k * 7 + j, none⟩) hg).trans this
      have t0 := cell 0 _ rfl
      have t1 := cell 1 _ rfl
      have t2 := cell 2 _ rfl
      have t3 := cell 3 _ rfl
      have t4 := cell 4 _ rfl
      have t5 := cell 5 _ rfl
      rw [Nat.add_zero] at t0
      obtain ⟨cs, hr, hsz⟩ := hM.row
      have r0 := cs_cell (o := k * 6) hr (by omega)
      have r1 := cs_cell (o := k * 6 + 1) hr (by omega)
      have r2 := cs_cell (o := k * 6 + 2) hr (by omega)
      have r3 := cs_cell (o := k * 6 + 3) hr (by omega)
      have r4 := cs_cell (o := k * 6 + 4) hr (by omega)
      have r5 := cs_cell (o := k * 6 + 5) hr (by omega)
      obtain ⟨⟨q0, r0⟩, z0⟩ := r0
      obtain ⟨⟨q1, r1⟩, z1⟩ := r1
      obtain ⟨⟨q2, r2⟩, z2⟩ := r2
      obtain ⟨⟨q3, r3⟩, z3⟩ := r3
      obtain ⟨⟨q4, r4⟩, z4⟩ := r4
      obtain ⟨⟨q5, r5⟩, z5⟩ := r5
      have hkbl := lt_of_heap hr
      obtain ⟨dx, hdx⟩ : ∃ dx, dx = dm[k].x := ⟨_, rfl⟩
      obtain ⟨kl, hkl'⟩ : ∃ kl, kl = dm[k].ks.length := ⟨_, rfl⟩
      rw [hkv] at t4
      rw [← hkl'] at t4
      rw [← hdx] at t0 t1 t2 t3 t5
      have HPT : Hid (∀ (W' : World), W' = ((((((wr.setCell ⟨kb, k * 6, none⟩ (.int .i64 dx.kind)).setCell ⟨kb, k * 6 + 1, none⟩ (.string dx.str)).setCell ⟨kb, k * 6 + 2, none⟩ (.int .u32 dx.num)).setCell ⟨kb, k * 6 + 3, none⟩ (.bool dx.flag)).setCell ⟨kb, k * 6 + 4, none⟩ (.slice ka kl kc)).setCell ⟨kb, k * 6 + 5, none⟩ (.int .i64 dx.pos)).drew → KidM w1 tb kb xk xs xn xf xp lv dl.length dm.length dm (kvs.drop dl.length) (k + 1) W') := fun W' e => hM.put HKB.out.1 HKB.out.2 rfl hlt hlk (W := W') _ _ _ _ _ _ e (by subst hdx hkl'; exact ⟨rfl, rfl, rfl, rfl, hkv.symm, rfl⟩)
      have hltI : (k : Int) < dm.length := by omega
      have HKL : Hid (k + 1 ≤ dm.length) := hlt
      have hgk : ¬ g = kb := by
        have := HKB.out.1
        omega
      have hgk' : ¬ kb = g := fun e => hgk e.symm
      have htk : ¬ tb = kb := HKB.out.2
      have htk' : ¬ kb = tb := fun e => htk e.symm
      have HLT1 := hid' hlt
      clear hM hcc cell hKk hr hsz hdx hkl' hkv hkl HST
      clear hlk
      go_wp2_with fail
      go_region
      have HN := hid' (HPT.out _ rfl)
      clear HPT
      go_wp2
      exact ⟨⟨k + 1, HKL.out, by go_num, HN.out⟩, by have := HKL.out; simp [intOf]; omega⟩
    · have hkk : k = dm.length := by omega
      subst hkk
      have hRw := HR.out.below hM.bel
      have HRW := hid' hRw
      obtain ⟨c0, c1, c2, c3, c4, hp⟩ := hRw.cells
      have f4 := hRw.frz 4
      have htp : ¬ tb = p := fun e => by
        have h1 := hRw.head
        rw [← e, hM.box] at h1
        injection h1 with h1
        injection h1 with _ h1
        cases h1
      have htp' : ¬ p = tb := fun e => htp e.symm
      have HW5 : Hid (∀ W5, W5 = (wr.setCell ⟨p, 4, none⟩ (.slice (some ⟨g, 0, none⟩) dl.length cap)).drew → RdS W5 B p toks { s with begun := l, done := dl } ∧ KQ B p W W5 ∧ ∃ N, Kr B N W5 (.slice (some ⟨kb, 0, none⟩) dm.length dm.length) (dm.map dnT)) := fun W5 e => by
        subst e
        have hE := HE.out
        have h2 : Below (wr.setCell ⟨p, 4, none⟩ (.slice (some ⟨g, 0, none⟩) dl.length cap)).heap.size (wr.setCell ⟨p, 4, none⟩ (.slice (some ⟨g, 0, none⟩) dl.length cap)) (wr.setCell ⟨p, 4, none⟩ (.slice (some ⟨g, 0, none⟩) dl.length cap)).drew := (Below.refl _ _).drew
        have hr := HRW.out
        have h1 : Rd (wr.setCell ⟨p, 4, none⟩ (.slice (some ⟨g, 0, none⟩) dl.length cap)) B p toks { s with begun := l, done := dl } tv ov bv (.slice (some ⟨g, 0, none⟩) dl.length cap) (kvs.take dl.length) :=
          Rd.mk' hr.head hr.low 4 _ rfl hr.tok hr.todo hr.begun (owns_below HOW.out HM.out.bel) ⟨hE.2.2.1, fun i a1 a2 => by
            obtain ⟨n, hn⟩ := HKS.out i a1 a2
            exact ⟨n, hn.below HM.out.bel⟩⟩
        have hKw : KQ B p wr (wr.setCell ⟨p, 4, none⟩ (.slice (some ⟨g, 0, none⟩) dl.length cap)).drew := ((KQ.rfl B p wr).turn 4 _).trans (KQ.of_below h2)
        refine ⟨⟨tv, ov, bv, _, _, h1.below h2⟩, (HK.out.trans (KQ.of_below HM.out.bel)).trans hKw, ?_⟩
        obtain ⟨N, hN⟩ := Kr.all (B := B) (w := w1) dm (kvs.drop dl.length) hE.2.2.2.1 (fun i a1 a2 => (HCS.out i a1 a2).2)
        refine ⟨N + 1, Kr.kq (w := wr) ?_ hr.head' hKw⟩
        rw [Kr]
        obtain ⟨cs, hrw, _⟩ := HM.out.row
        refine ⟨by rw [List.length_map]; omega, some ⟨kb, 0, none⟩, dm.length, by rw [List.length_map], fun i hi => ?_⟩
        have hi1 : i < dm.length := by rw [List.length_map] at hi; exact hi
        have hi2 : i < (kvs.drop dl.length).length := by rw [hE.2.2.2.1]; exact hi1
        refine ⟨kb, 0, dm[i].x, (kvs.drop dl.length)[i], dm[i].ks, rfl, ⟨_, _, hrw⟩, ⟨by rw [List.getElem_map]; rfl, by rw [List.length_map]; exact Nat.le_refl _, Nat.le_trans HR.out.low HKB.out.1⟩, ?_, (hN i hi1 hi2).below HM.out.bel⟩
        rw [Nat.zero_add]
        exact HM.out.nds i hi1 hi2 hi1
      have hcapI : (dl.length : Int) ≤ cap := by omega
      clear hM hRw HST HCS HKS HOW
      go_wp2_with fail
      go_region
      have HZ := hid' (HW5.out _ rfl)
      obtain ⟨N, hN⟩ := HZ.out.2.2
      have HLY := hid' (lay78 (n := N) (ks := dm.map dnT) ⟨xk, xs, xn, xf, xp⟩ HZ.out.1 hN (by show dl.length ≤ _; omega))
      unfold ndV at HLY
      clear HW5 hN
      go_wp2_with (go_at_call 78; (with_reducible refine HLY.out.mono ?_); rintro e w4 ⟨hK4, rfl, hR4⟩)
      go_end0
      exact ⟨HZ.out.2.1.trans hK4, rfl, hR4⟩
end Go.Proofs.YtjeioblhpfogfaaGreatDoor
namespace Go.Proofs.YtjeioblhpfogfaaGreatDoor
open Go.RowKit

theorem finish40 {W : World} {B p : Nat} {toks : List Tk} {s : St} {b : Bg} {l : List Bg} (h : RdS W B p toks s) (hb : s.begun = b :: l) (hn : s.begun.length ≤ 1000000000) (hd : s.done.length ≤ 1000000000) (hf : b.first ≤ s.done.length) :
    Calls Tryz.prog 40 #[.pointer (some ⟨p, 0, none⟩)] W (Res B p toks W (.ok (finS s b l))) := by
  by_cases e : b.first = s.done.length
  · exact finish40_none h hb hn hd e
  · exact finish40_some h hb hn hd (by omega)
/-- A token, whatever the place. -/
def tk (toks : List Tk) (k : Nat) : Tk := toks[k]?.getD ⟨1, ⟨#[]⟩, 0, false, 0, 0⟩
theorem tk_eq {toks : List Tk} {k : Nat} (h : k < toks.length) : toks[k] = tk toks k := by unfold tk; rw [List.getElem?_eq_getElem h]; rfl
/-- What all steps ask: a token to come, and lists that are not too long. -/
structure Fine (toks : List Tk) (s : St) : Prop where
  at_ : s.pl < toks.length
  few : toks.length ≤ 1000000
  todo : s.todo.length ≤ 100000000
  begun : s.begun.length ≤ 100000000
  done : s.done.length ≤ 100000000
theorem om {toks : List Tk} {s : St} (h : Hid (Fine toks s)) : s.pl < toks.length ∧ toks.length ≤ 1000000 := ⟨h.out.at_, h.out.few⟩
/-- The same, with more room: for what steps call. -/
structure Fine1 (toks : List Tk) (s : St) : Prop where
  at_ : s.pl < toks.length
  few : toks.length ≤ 1000000
  todo : s.todo.length ≤ 200000000
  begun : s.begun.length ≤ 200000000
  done : s.done.length ≤ 200000000
theorem Fine.more {toks : List Tk} {s : St} (h : Fine toks s) : Fine1 toks s := ⟨h.at_, h.few, by have := h.todo; omega, by have := h.begun; omega, by have := h.done; omega⟩
def tyWord (sx : ByteArray) : Bool := sx.toList == [105, 110, 116] || sx.toList == [117, 105, 110, 116] || sx.toList == [99, 104, 97, 114] || sx.toList == [118, 111, 105, 100] || sx.toList == [115, 116, 114, 117, 99, 116]
theorem isType131 (sx : ByteArray) (w : World) : Calls Tryz.prog 131 #[.string sx] w fun e w' => e = .returned (.bool (tyWord sx)) ∧ Below w.heap.size w w' := by
  go_enter Tryz.func131, Tryz.ntmps131
  go_wp2
  all_goals
    first
      | (exfalso; simp_all; done)
      | (go_ret
         refine ⟨?_, Below.refl _ _⟩
         unfold tyWord
         simp only [*]
         rfl)
theorem sign_is {w : World} {B p : Nat} {toks : List Tk} {s : St} {sx : ByteArray} (h : RdS w B p toks s) (hq : signAt toks s.pl = sx) (hj : s.pl ≤ 9000000000000000000) (hn : toks.length ≤ 9000000000000000000) :
    Calls Tryz.prog 88 #[.pointer (some ⟨p, 0, none⟩)] w fun e w' => e = .returned (.string sx) ∧ Below w.heap.size w w' := by
  subst hq
  exact sign88 h hj hn
theorem ahead_is {w : World} {B p j : Nat} {toks : List Tk} {s : St} {sx : ByteArray} (h : RdS w B p toks s) (hq : signAt toks (s.pl + j) = sx) (hj : s.pl + j ≤ 9000000000000000000) (hn : toks.length ≤ 9000000000000000000) :
    Calls Tryz.prog 121 #[.pointer (some ⟨p, 0, none⟩), .int .i64 (j : Nat)] w fun e w' => e = .returned (.string sx) ∧ Below w.heap.size w w' := by
  subst hq
  exact ahead121 h hj hn
theorem ahead_1 {w : World} {B p : Nat} {toks : List Tk} {s : St} {sx : ByteArray} (h : RdS w B p toks s) (hq : signAt toks (s.pl + 1) = sx) (hj : s.pl + 1 ≤ 9000000000000000000) (hn : toks.length ≤ 9000000000000000000) :
    Calls Tryz.prog 121 #[.pointer (some ⟨p, 0, none⟩), .int .i64 1] w fun e w' => e = .returned (.string sx) ∧ Below w.heap.size w w' := ahead_is (j := 1) h hq hj hn
theorem ahead_2 {w : World} {B p : Nat} {toks : List Tk} {s : St} {sx : ByteArray} (h : RdS w B p toks s) (hq : signAt toks (s.pl + 2) = sx) (hj : s.pl + 2 ≤ 9000000000000000000) (hn : toks.length ≤ 9000000000000000000) :
    Calls Tryz.prog 121 #[.pointer (some ⟨p, 0, none⟩), .int .i64 2] w fun e w' => e = .returned (.string sx) ∧ Below w.heap.size w w' := ahead_is (j := 2) h hq hj hn
theorem ahead_3 {w : World} {B p : Nat} {toks : List Tk} {s : St} {sx : ByteArray} (h : RdS w B p toks s) (hq : signAt toks (s.pl + 3) = sx) (hj : s.pl + 3 ≤ 9000000000000000000) (hn : toks.length ≤ 9000000000000000000) :
    Calls Tryz.prog 121 #[.pointer (some ⟨p, 0, none⟩), .int .i64 3] w fun e w' => e = .returned (.string sx) ∧ Below w.heap.size w w' := ahead_is (j := 3) h hq hj hn
theorem take_ok {w : World} {B p : Nat} {toks : List Tk} {s : St} (sg : ByteArray) (h : RdS w B p toks s) (hq : signAt toks s.pl = sg) (hl : s.pl < toks.length) (hn : toks.length ≤ 9000000000000000000) :
    Calls Tryz.prog 179 #[.pointer (some ⟨p, 0, none⟩), .string sg] w (Res B p toks w (.ok { s with pl := s.pl + 1 })) := by
  have := take179 sg h hl hn
  unfold takeF at this
  rwa [if_pos hq] at this
theorem take_no {w : World} {B p : Nat} {toks : List Tk} {s : St} (sg : ByteArray) (h : RdS w B p toks s) (hq : ¬ signAt toks s.pl = sg) (hl : s.pl < toks.length) (hn : toks.length ≤ 9000000000000000000) :
    Calls Tryz.prog 179 #[.pointer (some ⟨p, 0, none⟩), .string sg] w (Res B p toks w (.error (tk toks s.pl).pos)) := by
  have := take179 sg h hl hn
  unfold takeF at this
  rw [if_neg hq] at this
  have e : (toks[s.pl]?.map Tk.pos).getD 0 = (tk toks s.pl).pos := by
    unfold tk
    rw [List.getElem?_eq_getElem hl]
    rfl
  rwa [e] at this
theorem wrong_is {w : World} {B p : Nat} {toks : List Tk} {s : St} (h : RdS w B p toks s) (hl : s.pl < toks.length) :
    Calls Tryz.prog 91 #[.pointer (some ⟨p, 0, none⟩)] w (Res B p toks w (.error (tk toks s.pl).pos)) := by
  rw [← tk_eq hl]
  exact wrong91 h hl
theorem skip_is {w : World} {B p : Nat} {toks : List Tk} {s : St} (h : RdS w B p toks s) (hj : s.pl ≤ 9000000000000000000) :
    Calls Tryz.prog 93 #[.pointer (some ⟨p, 0, none⟩)] w (Res B p toks w (.ok { s with pl := s.pl + 1 })) := (skip93 h hj).mono fun e w' h => ⟨h.2.2, h.1, h.2.1⟩
theorem begin_is {W : World} {B p : Nat} {toks : List Tk} {s : St} (k : Int) (h : RdS W B p toks s) (hl : s.pl < toks.length) (hn : s.begun.length ≤ 1000000000) :
    Calls Tryz.prog 128 #[.pointer (some ⟨p, 0, none⟩), .int .i64 k] W (Res B p toks W (.ok { s with begun := ⟨⟨k, ⟨#[]⟩, 0, false, (tk toks s.pl).pos⟩, 0, s.done.length⟩ :: s.begun })) := by
  rw [← tk_eq hl]
  exact begin128 k h hl hn
theorem nothing_is {W : World} {B p : Nat} {toks : List Tk} {s : St} (h : RdS W B p toks s) (hl : s.pl < toks.length) (hd : s.done.length ≤ 1000000000) :
    Calls Tryz.prog 264 #[.pointer (some ⟨p, 0, none⟩)] W (Res B p toks W (.ok { s with done := s.done ++ [⟨⟨56, ⟨#[]⟩, 0, false, (tk toks s.pl).pos⟩, [], (tk toks s.pl).pos⟩] })) := by
  rw [← tk_eq hl]
  exact nothing264 h hl hd
theorem toList_ne' {a : ByteArray} {l : List UInt8} (h : ¬ a = ⟨l.toArray⟩) : (a.toList == l) = false := by
  simp only [toList_data, beq_eq_false_iff_ne, ne_eq]
  intro e
  apply h
  cases a
  subst e
  rfl
end Go.Proofs.YtjeioblhpfogfaaGreatDoor
