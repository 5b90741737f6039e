/- The reader's small functions that may panic. -/
import Derived.Test.YtjeioblhpfogfaaGreatDoorX11
import Derived.WalkLawsBesides
import Derived.Deep.CutBlock
set_option linter.unusedVariables false
set_option linter.unusedSimpArgs false
set_option maxRecDepth 20000
set_option maxHeartbeats 8000000
namespace Go.Proofs.YtjeioblhpfogfaaGreatDoor
open Go.RowKit

/-- What a step leaves: another state, or a place. -/
def Res (B p : Nat) (toks : List Tk) (w : World) (r : Except Int St) (e : Ending) (w' : World) : Prop :=
  KQ B p w w' ∧ match r with
    | .ok s => e = .returned (.tuple #[]) ∧ RdS w' B p toks s
    | .error q => e = .panicked [{ v := .iface 104 (.agg #[.int .i64 q]), recovered := false }]
theorem fld42_4 : ∀ (a b c d e f : Value) (W : World), (Instr.field 42 (.agg #[a, b, c, d, e, f]) 4).run Tryz.prog W = .ok e W := fun _ _ _ _ _ _ _ => by kernel_rfl
theorem fld42_0 : ∀ (a b c d e f : Value) (W : World), (Instr.field 42 (.agg #[a, b, c, d, e, f]) 0).run Tryz.prog W = .ok a W := fun _ _ _ _ _ _ _ => by kernel_rfl
theorem fld42_1 : ∀ (a b c d e f : Value) (W : World), (Instr.field 42 (.agg #[a, b, c, d, e, f]) 1).run Tryz.prog W = .ok b W := fun _ _ _ _ _ _ _ => by kernel_rfl
theorem wrong91 {w : World} {B p : Nat} {toks : List Tk} {s : St} (h : RdS w B p toks s) (hl : s.pl < toks.length) :
    Calls Tryz.prog 91 #[.pointer (some ⟨p, 0, none⟩)] w (Res B p toks w (.error toks[s.pl].pos)) := by
  have HA := token75 h hl
  clear h
  unfold tkV at HA
  obtain ⟨x, hx⟩ : ∃ x, x = toks[s.pl] := ⟨_, rfl⟩
  rw [← hx] at HA ⊢
  clear hx
  obtain ⟨a0, b0, d0, e0, f0, g0⟩ := x
  simp only at HA ⊢
  have hf4 := fld42_4
  go_enter Tryz.func91, Tryz.ntmps91
  go_wp2_with (go_at_call 75; (with_reducible refine HA.mono ?_); rintro e w1 ⟨rfl, hb⟩)
  exact ⟨rfl, KQ.of_below hb, rfl⟩

theorem toList_data (s : ByteArray) : s.toList = s.data.toList := by
  exact ByteArray.toList_eq s
theorem toList_ne {a b : ByteArray} (h : ¬ a = b) : (a.toList == b.toList) = false := by
  simp only [toList_data, beq_eq_false_iff_ne, ne_eq]
  intro e
  apply h
  cases a; cases b
  simp_all
/-- A mark or a word that must come next. -/
def takeF (toks : List Tk) (sg : ByteArray) (s : St) : Except Int St :=
  if signAt toks s.pl = sg then .ok { s with pl := s.pl + 1 } else .error (toks[s.pl]?.map Tk.pos |>.getD 0)
theorem Res.after {B p : Nat} {toks : List Tk} {w w1 w' : World} {r : Except Int St} {e : Ending} (hb : KQ B p w w1) (h : Res B p toks w1 r e w') : Res B p toks w r e w' := ⟨hb.trans h.1, h.2⟩
theorem pos_at {toks : List Tk} {k : Nat} (h : k < toks.length) : toks[k].pos = (toks[k]?.map Tk.pos |>.getD 0) := by rw [List.getElem?_eq_getElem h]; rfl
theorem take179 {w : World} {B p : Nat} {toks : List Tk} {s : St} (sg : ByteArray) (h : RdS w B p toks s) (hl : s.pl < toks.length) (hn : toks.length ≤ 9000000000000000000) :
    Calls Tryz.prog 179 #[.pointer (some ⟨p, 0, none⟩), .string sg] w (Res B p toks w (takeF toks sg s)) := by
  have HA := sign88 h (by omega) hn
  have HW : Hid (∀ W, Below w.heap.size w W → Calls Tryz.prog 91 #[.pointer (some ⟨p, 0, none⟩)] W (Res B p toks W (.error toks[s.pl].pos))) := fun W hb => wrong91 (h.below hb) hl
  have HS : Hid (∀ W, Below w.heap.size w W → Calls Tryz.prog 93 #[.pointer (some ⟨p, 0, none⟩)] W fun e w' => e = .returned (.tuple #[]) ∧ RdS w' B p toks { s with pl := s.pl + 1 } ∧ KQ B p W w') := fun W hb => skip93 (h.below hb) (by omega)
  have HE := hid' (pos_at hl)
  clear h
  obtain ⟨sx, hsx⟩ : ∃ sx, sx = signAt toks s.pl := ⟨_, rfl⟩
  have HF : Hid (takeF toks sg s = if sx = sg then .ok { s with pl := s.pl + 1 } else .error toks[s.pl].pos) := by
    show _ = _
    unfold takeF
    rw [hsx, HE.out]
  rw [← hsx] at HA
  clear hsx HE
  by_cases hq : sx = sg
  · subst hq
    have HF' : Hid (takeF toks sx s = .ok { s with pl := s.pl + 1 }) := by
      show _ = _
      rw [HF.out, if_pos rfl]
    clear HF
    go_enter Tryz.func179, Tryz.ntmps179
    go_wp2_with (first
      | (go_at_call 88; (with_reducible refine HA.mono ?_); rintro e w1 ⟨rfl, hb⟩)
      | (go_at_call 93; (with_reducible refine (HS.out _ hb).mono ?_); rintro e w2 ⟨rfl, hR, hK⟩))
    go_end0
    rw [HF'.out]
    exact ⟨(KQ.of_below hb).trans hK, rfl, hR⟩
  · have hq' : (sx.toList == sg.toList) = false := toList_ne hq
    have HF' : Hid (takeF toks sg s = .error toks[s.pl].pos) := by
      show _ = _
      rw [HF.out, if_neg hq]
    clear HF
    go_enter Tryz.func179, Tryz.ntmps179
    go_wp2_with (first
      | (go_at_call 88; (with_reducible refine HA.mono ?_); rintro e w1 ⟨rfl, hb⟩)
      | (go_at_call 91; (with_reducible refine (HW.out _ hb).mono ?_); rintro e w2 ⟨hK, rfl⟩))
    rw [HF'.out]
    exact ⟨rfl, (KQ.of_below hb).trans hK, rfl⟩
end Go.Proofs.YtjeioblhpfogfaaGreatDoor
namespace Go.Proofs.YtjeioblhpfogfaaGreatDoor
open Go.RowKit

theorem info_parts {t : TypeId} {z : Value} {s b : Nat} (h : (Tryz.prog.info? t).map (fun i => (i.zero, i.size, i.bytes)) = some (some z, s, b)) : ∃ i, Tryz.prog.info? t = some i ∧ i.zero = some z ∧ i.size = s ∧ i.bytes = b := by
  cases hi : Tryz.prog.info? t with
  | none => rw [hi] at h; cases h
  | some i => rw [hi] at h; simp at h; exact ⟨i, rfl, h.1, h.2.1, h.2.2⟩

/-- append to a slice that the call itself made, as one step of a region that draws its order; where its row lies. -/
theorem step_app {P : Program} {ops : Array Oper} {o : Oper} {a : Act} {w : World} {K : Act → World → Prop} {Q : Exit → Act → World → Prop} {E : Prop}
    (hg : o.guard = none) (s x : Operand) (t : TypeId) (hop : o.op = Op.call { callee := Callee.builtin Builtin.append, args := #[s, x], argTypes := #[t, t] })
    (base : Nat) (e : TypeId) (i : TypeInfo) (z : Value) (size bytes : Nat) (h1 : P.underlying t = some (.slice e)) (h2 : P.info? e = some i) (h3 : i.zero = some z) (h4 : i.size = size) (h5 : i.bytes = bytes) (h6 : z.cells.size = size) (h7 : 0 < size)
    (v : Value) (n : Nat) (xs : List Value) (hs : a.eval s = v) (hown : w.ownsRow base e size v n xs)
    (ad : Addr) (m c : Nat) (news : List Value) (hx : a.eval x = .slice (some ad) m c) (hn : news.length = m * size) (hc : ∀ j u, news[j]? = some u → w.cell? (ad.add j) = some u) (h1c : ∀ u ∈ news, u.oneCell' = true)
    (b1 : n + m ≤ maxLen) (b2 : (n + m) * bytes ≤ 140737488355328) (hbase : base ≤ w.heap.size)
    (hK : ∀ v' w', w'.ownsRow base e size v' (n + m) (xs ++ news) → w.grownBy w' v.ownBlock → (v'.ownBlock = v.ownBlock ∨ v'.ownBlock = some w.heap.size) → K (a.put o.dst v') w') :
    if Region.wanted o (yielded ops a.tmps) = true then Oper.wp P o a w K Q else E := by
  have hw : Region.wanted o (yielded ops a.tmps) = true := by simp [Region.wanted, hg]
  rw [if_pos hw]
  obtain ⟨v', w', hrun, r1, r2, _, r3⟩ := run_append_own_at (P := P) w base t o.type e i z size bytes h1 h2 h3 h4 h5 h6 h7 v n xs hown ad m c news hn hc h1c b1 b2 hbase
  unfold Oper.wp
  simp [execOp, hop, resolve, invoke, builtin, hs, hx, hrun, Result.andThen]
  exact hK v' w' r1 r2 r3

theorem info60 : (Tryz.prog.info? 60).map (fun i => (i.zero, i.size, i.bytes)) = some (some (.nilFunc), 1, 8) := by kernel_rfl
theorem info68 : (Tryz.prog.info? 68).map (fun i => (i.zero, i.size, i.bytes)) = some (some (.agg #[.int .i64 0, .string ⟨#[]⟩, .int .u32 0, .bool false, .slice none 0 0, .int .i64 0, .int .i64 0, .int .i64 0]), 8, 80) := by kernel_rfl
theorem info107 : (Tryz.prog.info? 107).map (fun i => (i.zero, i.size, i.bytes)) = some (some (.agg #[.int .i64 0, .string ⟨#[]⟩, .int .u32 0, .bool false, .slice none 0 0, .int .i64 0, .int .i64 0]), 7, 72) := by kernel_rfl
theorem own_type {w : World} {B e z n : Nat} {v : Value} {xs : List Value} (h : w.ownsRow B e z v n xs) (k : Nat) (hk : v.ownBlock = some k) : B ≤ k ∧ ∃ cs f, w.heap[k]? = some (.cells cs e f) := by
  rcases h.2 with ⟨e', _⟩ | ⟨g, c, cur, e', hb', hh, _⟩
  · rw [e'] at hk; cases hk
  · rw [e'] at hk
    injection hk with hk
    subst hk
    exact ⟨hb', _, _, hh⟩
theorem own_grown {w w' : World} {B0 B e z n : Nat} {v u : Value} {xs : List Value} {e' z' n' : Nat} {ys : List Value} (h : w.ownsRow B0 e z v n xs) (ho : w.ownsRow B e' z' u n' ys) (hne : ¬ e = e') (hg : w.grownBy w' u.ownBlock) : w'.ownsRow B0 e z v n xs := by
  refine h.kept hg ?_
  cases hv : v.ownBlock with
  | none => exact .inl rfl
  | some k =>
    refine .inr fun hu => ?_
    obtain ⟨_, cs, f, h1⟩ := own_type h k hv
    obtain ⟨_, cs', f', h2⟩ := own_type ho k hu.symm
    rw [h1] at h2
    injection h2 with h2
    injection h2 with _ h2
    exact hne h2
/-- All but one list, where that one has grown. -/
theorem Rd.rest {w w' : World} {B p : Nat} {toks : List Tk} {s : St} {tv ov bv dv u : Value} {kvs : List Value} {e z n : Nat} {xs : List Value} (h : Rd w B p toks s tv ov bv dv kvs) (ho : w.ownsRow B e z u n xs) (he : e = 60 ∨ e = 68 ∨ e = 107) (hg : w.grownBy w' u.ownBlock) :
    w'.heap[p]? = some (.cells #[tv, .int .i64 (s.pl : Int), ov, bv, dv] 65 (0, 0)) ∧ w'.ownsRow 0 42 6 tv toks.length (tksC toks) ∧ (¬ e = 60 → w'.ownsRow B 60 1 ov s.todo.length (s.todo.reverse.map fnV)) ∧ (¬ e = 68 → w'.ownsRow B 68 8 bv s.begun.length (bgsC s.begun.reverse)) ∧ (¬ e = 107 → w'.ownsRow B 107 7 dv s.done.length (dnsC s.done kvs)) ∧ (∀ {n : Nat} {v : Value} {ks : List Tr}, Kr B n w v ks → Kr B n w' v ks) ∧ KQ B p w w' := by
  have hb : ∀ k, k < w.heap.size → (∀ cs f, ¬ w.heap[k]? = some (.cells cs e f)) → w'.heap[k]? = w.heap[k]? := fun k hk hn => hg.block k hk (fun e' => by
    obtain ⟨_, cs, f, h1⟩ := own_type ho k e'.symm
    exact hn cs f h1)
  refine ⟨?_, own_grown h.tok ho (by rcases he with rfl | rfl | rfl <;> decide) hg, fun hn => own_grown h.todo ho (fun e' => hn e'.symm) hg, fun hn => own_grown h.begun ho (fun e' => hn e'.symm) hg, fun hn => own_grown h.done ho (fun e' => hn e'.symm) hg, fun hk => hk.at fun b cs f hh => hb b (lt_of_heap hh) (fun cs' f' e' => ?_), hg.os, hg.tape, hg.output, hg.size, fun k hk hn => hg.block k hk (fun e2 => hn ?_)⟩
  · rw [hb p (lt_of_heap h.head) (fun cs f e' => by rw [h.head] at e'; injection e' with e'; injection e' with _ e'; rcases he with rfl | rfl | rfl <;> cases e')]
    exact h.head
  · rw [hh] at e'
    injection e' with e'
    injection e' with _ e'
    rcases he with rfl | rfl | rfl <;> cases e'
  · obtain ⟨h1, cs, f, h2⟩ := own_type ho k e2.symm
    refine .inr ⟨h1, ?_⟩
    rcases he with rfl | rfl | rfl
    · exact .inl ⟨_, _, h2⟩
    · exact .inr (.inl ⟨_, _, h2⟩)
    · exact .inr (.inr ⟨_, _, h2⟩)
theorem KQ.drew {B p : Nat} {w w' : World} (h : KQ B p w w') : KQ B p w w'.drew := Kept.drew h
/-- A step is laid. -/
theorem Rd.pushTodo {w w5 w6 : World} {B p k : Nat} {toks : List Tk} {s : St} {tv ov bv dv v' : Value} {kvs : List Value} (h : Rd w B p toks s tv ov bv dv kvs) (hb : Below w.heap.size w w5) (hg : w5.grownBy w6 ov.ownBlock) (ho : w6.ownsRow B 60 1 v' (s.todo.length + 1) (s.todo.reverse.map fnV ++ [fnV k])) :
    Rd (w6.setCell ⟨p, 2, none⟩ v') B p toks { s with todo := k :: s.todo } tv v' bv dv kvs ∧ KQ B p w (w6.setCell ⟨p, 2, none⟩ v') := by
  have h5 := h.below hb
  obtain ⟨r1, r2, _, r4, r5, r6, r7⟩ := h5.rest h5.todo (.inl rfl) hg
  have hR : Rd w6 B p toks { s with todo := k :: s.todo } tv ov bv dv kvs → True := fun _ => trivial
  have ho' : w6.ownsRow B 60 1 v' (k :: s.todo).length ((k :: s.todo).reverse.map fnV) := by
    rw [List.reverse_cons, List.map_append, List.length_cons]
    exact ho
  refine ⟨?_, ((KQ.of_below hb).trans r7).turn _ _⟩
  have hh := setCell_heap (o := 2) r1 v'
  have own : ∀ {b0 e z n : Nat} {u : Value} {xs : List Value}, ¬ e = 65 → w6.ownsRow b0 e z u n xs → (w6.setCell ⟨p, 2, none⟩ v').ownsRow b0 e z u n xs := fun {b0 e z n u xs} hne ho => by
    refine ⟨ho.1, ho.2.imp id fun ⟨g, cap, cur, a1, a2, a3, a4⟩ => ⟨g, cap, cur, a1, a2, ?_, a4⟩⟩
    rw [hh g, if_neg (fun e' => by subst e'; rw [r1] at a3; injection a3 with a3; injection a3 with _ a3; exact hne a3.symm)]
    exact a3
  refine ⟨?_, by rw [World.size_setCell]; exact Nat.le_trans (Nat.le_trans h.low hb.size) hg.size, own (by decide) r2, own (by decide) ho', own (by decide) (r4 (by decide)), own (by decide) (r5 (by decide)), h.kids.1, fun i h1 h2 => ?_⟩
  · rw [hh p, if_pos rfl]
    rfl
  · obtain ⟨n, hn⟩ := h5.kids.2 i h1 h2
    refine ⟨n, (r6 hn).at fun b cs f e => ?_⟩
    rw [hh b, if_neg (fun e' => by subst e'; rw [r1] at e; cases e)]

theorem own_shape {w : World} {B e z n : Nat} {v : Value} {xs : List Value} (h : w.ownsRow B e z v n xs) : ∃ ao cap, v = .slice ao n cap := by
  rcases h.2 with ⟨e', e2⟩ | ⟨g, c, cur, e', _⟩
  · exact ⟨_, _, by rw [e', e2]⟩
  · exact ⟨_, _, e'⟩
/-- The reader's cells behind an append. -/
theorem Rd.cells6 {w w5 w6 : World} {B p : Nat} {toks : List Tk} {s : St} {tv ov bv dv u : Value} {kvs : List Value} {e z n : Nat} {xs : List Value} (h : Rd w B p toks s tv ov bv dv kvs) (hb : Below w.heap.size w w5) (ho : w5.ownsRow B e z u n xs) (he : e = 60 ∨ e = 68 ∨ e = 107) (hg : w5.grownBy w6 u.ownBlock) :
    w6.cell? ⟨p, 0, none⟩ = some tv ∧ w6.cell? ⟨p, 1, none⟩ = some (.int .i64 (s.pl : Int)) ∧ w6.cell? ⟨p, 2, none⟩ = some ov ∧ w6.cell? ⟨p, 3, none⟩ = some bv ∧ w6.cell? ⟨p, 4, none⟩ = some dv ∧ (∀ o, w6.frozen? ⟨p, o, none⟩ = false) ∧ p < w6.heap.size := by
  have h0 := ((h.below hb).rest ho he hg).1
  refine ⟨?_, ?_, ?_, ?_, ?_, fun o => by simp [World.frozen?, h0], lt_of_heap h0⟩ <;> rw [cell_of_row w6 p _ _ _ _ h0] <;> rfl
/-- then, in its midst: i steps are laid. -/
theorem cells1 {w : World} {g : Nat} {a : Value} (h0 : w.cell? ⟨g, 0, none⟩ = some a) : ∀ (j : Nat) (u : Value), [a][j]? = some u → w.cell? ((⟨g, 0, none⟩ : Addr).add j) = some u := by
  intro j u hj
  rw [Addr.add_lit]
  match j, hj with
  | 0, hj => simp at hj; subst hj; simpa using h0

theorem then38 {W : World} {B p : Nat} {toks : List Tk} {s : St} (ks : List Nat) (h : RdS W B p toks s) (hk : ks.length ≤ 10) (hn : s.todo.length ≤ 1000000000) :
    Calls Tryz.prog 38 #[.pointer (some ⟨p, 0, none⟩), .slice (some ⟨W.heap.size, 0, none⟩) ks.length ks.length] (W.alloc (.cells (ks.map fnV).toArray 60)) (Res B p toks W (.ok { s with todo := ks ++ s.todo })) := by
  obtain ⟨W0, hW0⟩ : ∃ W0, W0 = W.alloc (.cells (ks.map fnV).toArray 60) := ⟨_, rfl⟩
  obtain ⟨sb, hsb⟩ : ∃ sb, sb = W.heap.size := ⟨_, rfl⟩
  have hbl : Below W.heap.size W W0 := by rw [hW0]; exact below1 _ _
  have HK0 := hid' (KQ.of_below (B := B) (p := p) hbl)
  have hst : W0.heap[sb]? = some (.cells (ks.map fnV).toArray 60 (0, 0)) := by rw [hW0, hsb]; exact heap_alloc_new W _
  have HST : Hid (∃ tv ov bv dv kvs, Rd W0 B p toks { s with todo := ks.drop (ks.length - 0) ++ s.todo } tv ov bv dv kvs ∧ ov.ownBlock ≠ some sb ∧ W0.heap[sb]? = some (.cells (ks.map fnV).toArray 60 (0, 0))) := by
    obtain ⟨tv, ov, bv, dv, kvs, h⟩ := h
    refine ⟨tv, ov, bv, dv, kvs, ?_, fun e => ?_, hst⟩
    · rw [Nat.sub_zero, List.drop_length]
      exact h.below hbl
    · have := (h.todo.lt sb e).2
      omega
  rw [← hW0, ← hsb]
  obtain ⟨i60, hi, hz0, hz1, hz2⟩ := info_parts info60
  clear hst hsb hW0 h hbl
  go_enter Tryz.func38, Tryz.ntmps38
  go_wp2_with fail
  go_loopw [7] (fun i wr => ∃ k : Nat, k ≤ ks.length ∧ i = .int .i64 (k : Nat) ∧ KQ B p W wr ∧ ∃ tv ov bv dv kvs, Rd wr B p toks { s with todo := ks.drop (ks.length - k) ++ s.todo } tv ov bv dv kvs ∧ ov.ownBlock ≠ some sb ∧ wr.heap[sb]? = some (.cells (ks.map fnV).toArray 60 (0, 0))) (fun i _ => ks.length - (intOf i).toNat)
  case atStart => exact ⟨0, Nat.zero_le _, rfl, HK0.out, HST.out⟩
  case round =>
    obtain ⟨k, hk1, rfl, hKQ, tv, ov, bv, dv, kvs, hR, hne, hst⟩ := hrel
    have HKQ := hid' hKQ
    clear hKQ HK0 HST
    by_cases hlt : k < ks.length
    · obtain ⟨m, hm⟩ : ∃ m, m = ks.length - 1 - k := ⟨_, rfl⟩
      have hml : m < ks.length := by omega
      obtain ⟨c0, c1, c2, c3, c4, hp⟩ := hR.cells
      have f2 := hR.frz 2
      have hx : wr.cell? ⟨sb, m, none⟩ = some (.func (.func ks[m]) #[] #[]) := by
        rw [cell_of_row wr sb m _ _ _ hst]
        simp [hml, fnV]
      have hsl := lt_of_heap hst
      have hw1 : IntKind.i64.wrap ((ks.length : Int) - 1) = (ks.length : Int) - 1 := Go.IntWalk.i64_in _ (by omega)
      have hw2 : IntKind.i64.wrap ((ks.length : Int) - 1 - (k : Int)) = (m : Int) := by rw [Go.IntWalk.i64_in _ (by omega)]; omega
      have hi2 : (m : Int) < ks.length := by omega
      have hlt' : (k : Int) < ks.length := by omega
      have HR := hid' hR
      have HNE := hid' hne
      have HSB := hid' hst
      obtain ⟨f, hf⟩ : ∃ f, f = ks[m] := ⟨_, rfl⟩
      rw [← hf] at hx
      have HDR : Hid (ks.drop (ks.length - (k + 1)) = f :: ks.drop (ks.length - k)) := by
        show _ = _
        rw [hf, show ks.length - (k + 1) = m by omega, List.drop_eq_getElem_cons hml, show m + 1 = ks.length - k by omega]
      have HTL : Hid ((ks.drop (ks.length - k) ++ s.todo).length ≤ 1000000010) := by
        show _ ≤ _
        rw [List.length_append, List.length_drop]
        omega
      obtain ⟨td, htd⟩ : ∃ td, td = ks.drop (ks.length - k) ++ s.todo := ⟨_, rfl⟩
      rw [← htd] at HR HTL
      have HTD := hid' htd
      have hown := HR.out.todo
      have HY : Hid (((wr.alloc (.cells #[.func (.func f) #[] #[]] 60)).drew).ownsRow B 60 1 ov td.length (td.reverse.map fnV)) := (World.ownsRow.alloc hown _).drew
      have HBD : Hid (Below wr.heap.size wr ((wr.alloc (.cells #[.func (.func f) #[] #[]] 60)).drew)) := (below1 _ _).drew
      have HLB : Hid (B ≤ wr.heap.size) := by
        have := HR.out.low
        show _ ≤ _
        omega
      clear hR hne hst hf htd hm hml hown
      go_wp2_with fail
      go_region_law (refine step_app rfl (.tmp 14) (.tmp 23) 61 rfl B 60 i60 .nilFunc 1 8 Tryz.underlying61 hi hz0 hz1 hz2 rfl (by decide) ov td.length (td.reverse.map fnV) (by simp [Act.eval]) HY.out ⟨wr.heap.size, 0, none⟩ 1 1 [.func (.func f) #[] #[]] (by simp [Act.eval]) rfl (cells1 (by simp [go_sem])) (fun u hu => by simp at hu; subst hu; rfl) (by have := HTL.out; unfold maxLen; omega) (by have := HTL.out; omega) (by have := HLB.out; simp; omega) ?_; intro v' w6 hown2 hgrow hloc; obtain ⟨ao', cap', rfl⟩ := own_shape hown2; obtain ⟨d0, d1, d2, d3, d4, d5, d6⟩ := HR.out.cells6 HBD.out HY.out (.inl rfl) hgrow; have d5 := d5 2)
      all_goals
        have HP := HR.out.pushTodo HBD.out hgrow hown2
        have HSB2 : Hid (w6.heap[sb]? = some (.cells (ks.map fnV).toArray 60 (0, 0))) := by
          show _ = _
          rw [hgrow.block sb (by simp; omega) (fun e => HNE.out e.symm), HBD.out.block sb hsl]
          exact HSB.out
        have HFN : Hid (KQ B p W (w6.setCell ⟨p, 2, none⟩ (.slice ao' (td.length + 1) cap')) ∧ ∃ tv ov bv dv kvs, Rd (w6.setCell ⟨p, 2, none⟩ (.slice ao' (td.length + 1) cap')) B p toks { s with todo := ks.drop (ks.length - (k + 1)) ++ s.todo } tv ov bv dv kvs ∧ ov.ownBlock ≠ some sb ∧ (w6.setCell ⟨p, 2, none⟩ (.slice ao' (td.length + 1) cap')).heap[sb]? = some (.cells (ks.map fnV).toArray 60 (0, 0))) := by
          refine ⟨HKQ.out.trans HP.2, tv, .slice ao' (td.length + 1) cap', bv, dv, kvs, ?_, ?_, ?_⟩
          · have := HP.1
            rw [HDR.out, List.cons_append, ← HTD.out]
            exact this
          · rcases hloc with e | e
            · rw [e]; exact HNE.out
            · rw [e]
              intro e2
              injection e2 with e2
              simp at e2
              omega
          · rw [Below.heap_setCell _ _ _ _ (by show sb ≠ p; intro e; have h1 := HR.out.head; rw [← e, HSB.out] at h1; injection h1 with h1; injection h1 with _ h1; cases h1)]
            exact HSB2.out
        clear HP HSB2 hown2 hgrow hloc d0 d1 d2 d3 d4 d5 d6
        go_wp2
        exact ⟨⟨k + 1, by omega, by go_num, HFN.out⟩, by simp [intOf]; omega⟩
    · have : k = ks.length := by omega
      subst this
      rw [Nat.sub_self, List.drop_zero] at hR
      have HR := hid' hR
      clear hR hne hst
      go_wp2
      go_end0
      exact ⟨HKQ.out, rfl, ⟨_, _, _, _, _, HR.out⟩⟩
theorem then_1 {W : World} {B p : Nat} {toks : List Tk} {s : St} (a : Nat) (h : RdS W B p toks s) (hn : s.todo.length ≤ 1000000000) :
    Calls Tryz.prog 38 #[.pointer (some ⟨p, 0, none⟩), .slice (some ⟨W.heap.size, 0, none⟩) 1 1] (W.alloc (.cells #[.func (.func a) #[] #[]] 60)) (Res B p toks W (.ok { s with todo := a :: s.todo })) := then38 [a] h (by simp) hn
theorem then_2 {W : World} {B p : Nat} {toks : List Tk} {s : St} (a b : Nat) (h : RdS W B p toks s) (hn : s.todo.length ≤ 1000000000) :
    Calls Tryz.prog 38 #[.pointer (some ⟨p, 0, none⟩), .slice (some ⟨W.heap.size, 0, none⟩) 2 2] (W.alloc (.cells #[.func (.func a) #[] #[], .func (.func b) #[] #[]] 60)) (Res B p toks W (.ok { s with todo := a :: b :: s.todo })) := then38 [a, b] h (by simp) hn
theorem then_3 {W : World} {B p : Nat} {toks : List Tk} {s : St} (a b c : Nat) (h : RdS W B p toks s) (hn : s.todo.length ≤ 1000000000) :
    Calls Tryz.prog 38 #[.pointer (some ⟨p, 0, none⟩), .slice (some ⟨W.heap.size, 0, none⟩) 3 3] (W.alloc (.cells #[.func (.func a) #[] #[], .func (.func b) #[] #[], .func (.func c) #[] #[]] 60)) (Res B p toks W (.ok { s with todo := a :: b :: c :: s.todo })) := then38 [a, b, c] h (by simp) hn
theorem then_4 {W : World} {B p : Nat} {toks : List Tk} {s : St} (a b c d : Nat) (h : RdS W B p toks s) (hn : s.todo.length ≤ 1000000000) :
    Calls Tryz.prog 38 #[.pointer (some ⟨p, 0, none⟩), .slice (some ⟨W.heap.size, 0, none⟩) 4 4] (W.alloc (.cells #[.func (.func a) #[] #[], .func (.func b) #[] #[], .func (.func c) #[] #[], .func (.func d) #[] #[]] 60)) (Res B p toks W (.ok { s with todo := a :: b :: c :: d :: s.todo })) := then38 [a, b, c, d] h (by simp) hn
theorem then_5 {W : World} {B p : Nat} {toks : List Tk} {s : St} (a b c d e : Nat) (h : RdS W B p toks s) (hn : s.todo.length ≤ 1000000000) :
    Calls Tryz.prog 38 #[.pointer (some ⟨p, 0, none⟩), .slice (some ⟨W.heap.size, 0, none⟩) 5 5] (W.alloc (.cells #[.func (.func a) #[] #[], .func (.func b) #[] #[], .func (.func c) #[] #[], .func (.func d) #[] #[], .func (.func e) #[] #[]] 60)) (Res B p toks W (.ok { s with todo := a :: b :: c :: d :: e :: s.todo })) := then38 [a, b, c, d, e] h (by simp) hn
theorem then_8 {W : World} {B p : Nat} {toks : List Tk} {s : St} (a b c d e f g i : Nat) (h : RdS W B p toks s) (hn : s.todo.length ≤ 1000000000) :
    Calls Tryz.prog 38 #[.pointer (some ⟨p, 0, none⟩), .slice (some ⟨W.heap.size, 0, none⟩) 8 8] (W.alloc (.cells #[.func (.func a) #[] #[], .func (.func b) #[] #[], .func (.func c) #[] #[], .func (.func d) #[] #[], .func (.func e) #[] #[], .func (.func f) #[] #[], .func (.func g) #[] #[], .func (.func i) #[] #[]] 60)) (Res B p toks W (.ok { s with todo := a :: b :: c :: d :: e :: f :: g :: i :: s.todo })) := then38 [a, b, c, d, e, f, g, i] h (by simp) hn
end Go.Proofs.YtjeioblhpfogfaaGreatDoor
namespace Go.Proofs.YtjeioblhpfogfaaGreatDoor
open Go.RowKit

theorem Rd.mk' {w : World} {B p : Nat} {toks : List Tk} {s' : St} {tv' ov' bv' dv' : Value} {kvs : List Value} {cs : Array Value} (r1 : w.heap[p]? = some (.cells cs 65 (0, 0))) (low : B ≤ w.heap.size) (o : Nat) (v : Value)
    (hc : cs.setIfInBounds o v = #[tv', .int .i64 (s'.pl : Int), ov', bv', dv'])
    (ht : w.ownsRow 0 42 6 tv' toks.length (tksC toks)) (hs : w.ownsRow B 60 1 ov' s'.todo.length (s'.todo.reverse.map fnV)) (hb : w.ownsRow B 68 8 bv' s'.begun.length (bgsC s'.begun.reverse)) (hd : w.ownsRow B 107 7 dv' s'.done.length (dnsC s'.done kvs)) (hk : kvs.length = s'.done.length ∧ ∀ i (h : i < s'.done.length) (h' : i < kvs.length), ∃ n, Kr B n w kvs[i] s'.done[i].ks) :
    Rd (w.setCell ⟨p, o, none⟩ v) B p toks s' tv' ov' bv' dv' kvs := by
  have hh := setCell_heap (o := o) r1 v
  have own : ∀ {b0 e z n : Nat} {u : Value} {xs : List Value}, ¬ e = 65 → w.ownsRow b0 e z u n xs → (w.setCell ⟨p, o, none⟩ v).ownsRow b0 e z u n xs := fun {b0 e z n u xs} hne ho => by
    refine ⟨ho.1, ho.2.imp id fun ⟨g, cap, cur, a1, a2, a3, a4⟩ => ⟨g, cap, cur, a1, a2, ?_, a4⟩⟩
    rw [hh g, if_neg (fun e' => by subst e'; rw [r1] at a3; injection a3 with a3; injection a3 with _ a3; exact hne a3.symm)]
    exact a3
  refine ⟨?_, by rw [World.size_setCell]; exact low, own (by decide) ht, own (by decide) hs, own (by decide) hb, own (by decide) hd, hk.1, fun i h1 h2 => ?_⟩
  · rw [hh p, if_pos rfl, hc]
  · obtain ⟨n, hn⟩ := hk.2 i h1 h2
    refine ⟨n, hn.at fun b cs f e => ?_⟩
    rw [hh b, if_neg (fun e' => by subst e'; rw [r1] at e; injection e with e; injection e with _ e; cases e)]
theorem dnsC_push : ∀ (l : List Dn) (kvs : List Value) (d : Dn) (v : Value), kvs.length = l.length → dnsC (l ++ [d]) (kvs ++ [v]) = dnsC l kvs ++ dnC d v
  | [], [], d, v, _ => by simp [dnsC]
  | x :: l, y :: kvs, d, v, h => by
    rw [List.cons_append, List.cons_append, dnsC, dnsC, dnsC_push l kvs d v (by simpa using h), List.append_assoc]
/-- A node is laid. -/
theorem Rd.pushDone {w w5 w6 : World} {B p n : Nat} {toks : List Tk} {s : St} {tv ov bv dv v' kv : Value} {kvs : List Value} {d : Dn} (h : Rd w B p toks s tv ov bv dv kvs) (hb : Below w.heap.size w w5) (hK : Kr B n w kv d.ks) (hg : w5.grownBy w6 dv.ownBlock) (ho : w6.ownsRow B 107 7 v' (s.done.length + 1) (dnsC s.done kvs ++ dnC d kv)) :
    Rd (w6.setCell ⟨p, 4, none⟩ v') B p toks { s with done := s.done ++ [d] } tv ov bv v' (kvs ++ [kv]) ∧ KQ B p w (w6.setCell ⟨p, 4, none⟩ v') := by
  have h5 := h.below hb
  obtain ⟨r1, r2, r3, r4, _, r6, r7⟩ := h5.rest h5.done (.inr (.inr rfl)) hg
  refine ⟨Rd.mk' r1 (Nat.le_trans (Nat.le_trans h.low hb.size) hg.size) 4 v' rfl r2 (r3 (by decide)) (r4 (by decide)) ?_ ⟨by simp [h.kids.1], fun i h1 h2 => ?_⟩, ((KQ.of_below hb).trans r7).turn _ _⟩
  · rw [dnsC_push _ _ _ _ h.kids.1, List.length_append]
    exact ho
  · by_cases hi : i < s.done.length
    · obtain ⟨n, hn⟩ := h5.kids.2 i hi (by have := h.kids.1; omega)
      refine ⟨n, ?_⟩
      rw [List.getElem_append_left (by have := h.kids.1; omega), List.getElem_append_left hi]
      exact r6 hn
    · have hi' : i = s.done.length := by simp at h1; omega
      subst hi'
      refine ⟨n, ?_⟩
      rw [List.getElem_append_right (by have := h.kids.1; omega), List.getElem_append_right (by omega)]
      simp
      exact r6 (hK.below hb)
/-- A node is begun. -/
theorem Rd.pushBegun {w w5 w6 : World} {B p : Nat} {toks : List Tk} {s : St} {tv ov bv dv v' : Value} {kvs : List Value} {b : Bg} (h : Rd w B p toks s tv ov bv dv kvs) (hb : Below w.heap.size w w5) (hg : w5.grownBy w6 bv.ownBlock) (ho : w6.ownsRow B 68 8 v' (s.begun.length + 1) (bgsC s.begun.reverse ++ bgC b)) :
    Rd (w6.setCell ⟨p, 3, none⟩ v') B p toks { s with begun := b :: s.begun } tv ov v' dv kvs ∧ KQ B p w (w6.setCell ⟨p, 3, none⟩ v') := by
  have h5 := h.below hb
  obtain ⟨r1, r2, r3, _, r5, r6, r7⟩ := h5.rest h5.begun (.inr (.inl rfl)) hg
  refine ⟨Rd.mk' r1 (Nat.le_trans (Nat.le_trans h.low hb.size) hg.size) 3 v' rfl r2 (r3 (by decide)) ?_ (r5 (by decide)) ⟨h.kids.1, fun i h1 h2 => ?_⟩, ((KQ.of_below hb).trans r7).turn _ _⟩
  · have e : bgsC (b :: s.begun).reverse = bgsC s.begun.reverse ++ bgC b := by simp [bgsC]
    rw [e]
    exact ho
  · obtain ⟨n, hn⟩ := h5.kids.2 i h1 h2
    exact ⟨n, r6 hn⟩
theorem Kr.shape {B n : Nat} {w : World} {v : Value} {ks : List Tr} (h : Kr B n w v ks) : ks.length ≤ 9223372036854775807 ∧ ∃ ao cap, v = .slice ao ks.length cap := by
  cases n with
  | zero => obtain ⟨rfl, ao, cap, rfl⟩ := h; exact ⟨by simp, _, _, rfl⟩
  | succ n => rw [Kr] at h; obtain ⟨h1, ao, cap, h2, _⟩ := h; exact ⟨h1, _, _, h2⟩
theorem cells7 {w : World} {g : Nat} {a b c d e f i : Value} (h0 : w.cell? ⟨g, 0, none⟩ = some a) (h1 : w.cell? ⟨g, 1, none⟩ = some b) (h2 : w.cell? ⟨g, 2, none⟩ = some c) (h3 : w.cell? ⟨g, 3, none⟩ = some d) (h4 : w.cell? ⟨g, 4, none⟩ = some e) (h5 : w.cell? ⟨g, 5, none⟩ = some f) (h6 : w.cell? ⟨g, 6, none⟩ = some i) : ∀ (j : Nat) (u : Value), [a, b, c, d, e, f, i][j]? = some u → w.cell? ((⟨g, 0, none⟩ : Addr).add j) = some u := by
  intro j u hj
  rw [Addr.add_lit, Nat.zero_add]
  match j, hj with
  | 0, hj => simp at hj; subst hj; exact h0
  | 1, hj => simp at hj; subst hj; exact h1
  | 2, hj => simp at hj; subst hj; exact h2
  | 3, hj => simp at hj; subst hj; exact h3
  | 4, hj => simp at hj; subst hj; exact h4
  | 5, hj => simp at hj; subst hj; exact h5
  | 6, hj => simp at hj; subst hj; exact h6
theorem cells8 {w : World} {g : Nat} {a b c d e f i k : Value} (h0 : w.cell? ⟨g, 0, none⟩ = some a) (h1 : w.cell? ⟨g, 1, none⟩ = some b) (h2 : w.cell? ⟨g, 2, none⟩ = some c) (h3 : w.cell? ⟨g, 3, none⟩ = some d) (h4 : w.cell? ⟨g, 4, none⟩ = some e) (h5 : w.cell? ⟨g, 5, none⟩ = some f) (h6 : w.cell? ⟨g, 6, none⟩ = some i) (h7 : w.cell? ⟨g, 7, none⟩ = some k) : ∀ (j : Nat) (u : Value), [a, b, c, d, e, f, i, k][j]? = some u → w.cell? ((⟨g, 0, none⟩ : Addr).add j) = some u := by
  intro j u hj
  rw [Addr.add_lit, Nat.zero_add]
  match j, hj with
  | 0, hj => simp at hj; subst hj; exact h0
  | 1, hj => simp at hj; subst hj; exact h1
  | 2, hj => simp at hj; subst hj; exact h2
  | 3, hj => simp at hj; subst hj; exact h3
  | 4, hj => simp at hj; subst hj; exact h4
  | 5, hj => simp at hj; subst hj; exact h5
  | 6, hj => simp at hj; subst hj; exact h6
  | 7, hj => simp at hj; subst hj; exact h7

theorem lay78 {W : World} {B p n : Nat} {toks : List Tk} {s : St} {kv : Value} {ks : List Tr} (x : NdH) (h : RdS W B p toks s) (hK : Kr B n W kv ks) (hn : s.done.length ≤ 1000000000) :
    Calls Tryz.prog 78 #[.pointer (some ⟨p, 0, none⟩), ndV x kv] W (Res B p toks W (.ok { s with done := s.done ++ [⟨x, ks, x.pos⟩] })) := by
  obtain ⟨tv, ov, bv, dv, kvs, h⟩ := h
  obtain ⟨c0, c1, c2, c3, c4, hp⟩ := h.cells
  have f4 := h.frz 4
  obtain ⟨hkl, ka, kc, rfl⟩ := hK.shape
  obtain ⟨i107, hi, hz0, hz1, hz2⟩ := info_parts info107
  have HR := hid' h
  have HK := hid' hK
  have hown := h.done
  obtain ⟨W1, hW1⟩ : ∃ W1, W1 = W.alloc (.cells #[.int .i64 x.kind, .string x.str, .int .u32 x.num, .bool x.flag, .slice ka ks.length kc, .int .i64 x.pos] 25) := ⟨_, rfl⟩
  have HB1 : Hid (Below W.heap.size W W1) := by rw [hW1]; exact below1 _ _
  have HW1 := hid' hW1
  have HY : Hid (((W1.alloc (.cells #[.int .i64 x.kind, .string x.str, .int .u32 x.num, .bool x.flag, .slice ka ks.length kc, .int .i64 x.pos, .int .i64 x.pos] 107)).drew).ownsRow B 107 7 dv s.done.length (dnsC s.done kvs)) := (World.ownsRow.alloc (owns_below hown HB1.out) _).drew
  have HBD : Hid (Below W.heap.size W ((W1.alloc (.cells #[.int .i64 x.kind, .string x.str, .int .u32 x.num, .bool x.flag, .slice ka ks.length kc, .int .i64 x.pos, .int .i64 x.pos] 107)).drew)) := (HB1.out.alloc HB1.out.size _).drew
  have HLB : Hid (B ≤ W1.heap.size) := by
    have := h.low
    have := HB1.out.size
    show _ ≤ _
    omega
  have HS1 : W1.heap.size = W.heap.size + 1 := by rw [hW1]; simp
  have k0 : W1.cell? ⟨W.heap.size, 0, none⟩ = some (.int .i64 x.kind) := by rw [hW1]; simp [go_sem]
  have k1 : W1.cell? ⟨W.heap.size, 1, none⟩ = some (.string x.str) := by rw [hW1]; simp [go_sem]
  have k2 : W1.cell? ⟨W.heap.size, 2, none⟩ = some (.int .u32 x.num) := by rw [hW1]; simp [go_sem]
  have k3 : W1.cell? ⟨W.heap.size, 3, none⟩ = some (.bool x.flag) := by rw [hW1]; simp [go_sem]
  have k4 : W1.cell? ⟨W.heap.size, 4, none⟩ = some (.slice ka ks.length kc) := by rw [hW1]; simp [go_sem]
  have k5 : W1.cell? ⟨W.heap.size, 5, none⟩ = some (.int .i64 x.pos) := by rw [hW1]; simp [go_sem]
  have d4 : W1.cell? ⟨p, 4, none⟩ = some dv := (HB1.out.cell (p := ⟨p, 4, none⟩) hp).trans c4
  have e4 : W1.frozen? ⟨p, 4, none⟩ = false := (HB1.out.frozen (p := ⟨p, 4, none⟩) hp).trans f4
  have hp1 : p < W1.heap.size := by omega
  clear h hK hown c0 c1 c2 c3 c4 f4
  unfold ndV
  go_enter Tryz.func78, Tryz.ntmps78
  go_wp2_with fail
  rw [← HW1.out]
  obtain ⟨wb, hwb⟩ : ∃ wb, wb = W.heap.size := ⟨_, rfl⟩
  rw [← hwb] at HS1 k0 k1 k2 k3 k4 k5 ⊢
  have hwl : wb < W1.heap.size := by omega
  clear hW1 HW1 hwb HS1 hp
  go_region_law (refine step_app rfl (.tmp 8) (.tmp 13) 63 rfl B 107 i107 (.agg #[.int .i64 0, .string ⟨#[]⟩, .int .u32 0, .bool false, .slice none 0 0, .int .i64 0, .int .i64 0]) 7 72 Tryz.underlying63 hi hz0 hz1 hz2 rfl (by decide) dv s.done.length (dnsC s.done kvs) (by simp [Act.eval]) HY.out ⟨W1.heap.size, 0, none⟩ 1 1 [.int .i64 x.kind, .string x.str, .int .u32 x.num, .bool x.flag, .slice ka ks.length kc, .int .i64 x.pos, .int .i64 x.pos] (by simp [Act.eval]) rfl (cells7 (by simp [go_sem]) (by simp [go_sem]) (by simp [go_sem]) (by simp [go_sem]) (by simp [go_sem]) (by simp [go_sem]) (by simp [go_sem])) (fun u hu => by simp at hu; rcases hu with rfl | rfl | rfl | rfl | rfl | rfl | rfl <;> rfl) (by unfold maxLen; omega) (by omega) (by have := HLB.out; simp; omega) ?_; intro v' w6 hown2 hgrow hloc; obtain ⟨ao', cap', rfl⟩ := own_shape hown2; obtain ⟨d0, d1, d2, d3, d4, d5, d6⟩ := HR.out.cells6 HBD.out HY.out (.inr (.inr rfl)) hgrow; have d5 := d5 4)
  all_goals
    have HP := hid' (HR.out.pushDone (d := ⟨x, ks, x.pos⟩) HBD.out HK.out hgrow hown2)
    clear hown2 hgrow hloc d0 d1 d2 d3 d4 d5 d6
    go_wp2
    go_end0
    exact ⟨HP.out.2, rfl, ⟨_, _, _, _, _, HP.out.1⟩⟩
end Go.Proofs.YtjeioblhpfogfaaGreatDoor
