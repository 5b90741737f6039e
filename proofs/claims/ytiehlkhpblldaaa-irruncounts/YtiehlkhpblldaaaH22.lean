/- leave: the registers that were hidden. -/
import Derived.Test.YtiehlkhpblldaaaH00
import Derived.Test.YtiehlkhpblldaaaH16
set_option linter.unusedVariables false
set_option linter.unusedSimpArgs false
set_option maxRecDepth 20000
set_option maxHeartbeats 8000000
namespace Go.Proofs.Ytiehlkhpblldaaa
open Go.RowKit Go.Maps
/-- One that may come at any time. -/
theorem headX_one {P : Program} {ops : Array Oper} {n x : Nat} {L : Nat → Array Bool → Act → Prop} {listed : Array Bool} {a : Act} (V : Nat → World) {ox : Oper} {p0 : Value} (hx : ops[x]? = some ox) (hn : x < n)
    (r0 : Region.ready .any ops listed = [x]) (hX : Region.wanted ox (yielded ops a.tmps) = true ∧ (execOp a.eval ox).run P (V 0) = .ok (.value p0) (V 1)) (h1 : L 1 (listed.setIfInBounds x true) (a.put ox.dst p0)) :
    HeadX P ops (fun s w' => w' = V s) n x L 1 0 listed a := by
  refine ⟨by rw [r0]; simp, fun i hi => ?_⟩
  rw [r0] at hi
  obtain rfl := List.mem_singleton.1 hi
  exact ⟨hn, .inl ⟨Nat.le_refl _, ox, p0, 1, hx, hX.1, fun w hw => ⟨V 1, .inl (by rw [hw]; exact hX.2), rfl⟩, h1⟩⟩
section
variable {C : Cst} {W0 W W' : World} {r : Nat} {s s' : St} {x : Vs} {t : Tp}
/-- The last of the hidden is as it was. -/
def undo1 (s : St) : St := match s.hidden.getLast? with
  | none => s
  | some e => { s with hidden := s.hidden.take (s.hidden.length - 1), banks := s.banks.set e.fn (some (((s.banks.getD e.fn none).getD []).set e.ix e.was)) }
def undoN : Nat → St → St
  | 0, s => s
  | n + 1, s => undo1 (undoN n s)
/-- All hidden have registers. -/
def HidOk (s : St) : Prop := ∀ e ∈ s.hidden, ∃ l, s.banks[e.fn]? = some (some l) ∧ e.ix < l.length
theorem undo1_is {s : St} {e : Hd} {l : List Rg} (h : s.hidden.getLast? = some e) (hb : s.banks[e.fn]? = some (some l)) : undo1 s = { s with hidden := s.hidden.take (s.hidden.length - 1), banks := s.banks.set e.fn (some (l.set e.ix e.was)) } := by
  unfold undo1
  rw [h]
  simp [List.getD, hb]
theorem undo1_ok {s : St} (h : HidOk s) : HidOk (undo1 s) := by
  cases hq : s.hidden.getLast? with
  | none => unfold undo1; rw [hq]; exact h
  | some e =>
    obtain ⟨l, hl, hi⟩ := h e (List.mem_of_getLast? hq)
    rw [undo1_is hq hl]
    intro a ha
    obtain ⟨m, hm, him⟩ := h a (List.mem_of_mem_take ha)
    dsimp only
    rw [List.getElem?_set]
    by_cases e1 : e.fn = a.fn
    · rw [e1] at hl
      rw [hl] at hm
      injection hm with hm
      injection hm with hm
      subst hm
      exact ⟨l.set e.ix e.was, by rw [if_pos e1, e1, if_pos (List.getElem?_eq_some_iff.1 hl).1], by rw [List.length_set]; exact him⟩
    · exact ⟨m, by rw [if_neg e1]; exact hm, him⟩
theorem RunM.undo2 {W3 : World} {e : Hd} {l : List Rg} {n : Nat} (h1 : RunM C W0 r W3 { s with hidden := s.hidden.take n } x t) (hq : s.hidden.getLast? = some e) (hl : s.banks[e.fn]? = some (some l)) (hi : e.ix < l.length) (hn : s.hidden.length = n + 1) :
    RunM C W0 r ((W3.setCell ⟨x.bb e.fn, e.ix * 2, none⟩ (.int .u32 e.was.v)).setCell ⟨x.bb e.fn, e.ix * 2 + 1, none⟩ (.int .i64 e.was.o)) (undo1 s) x t := by
  have h2 := h1.reg (fn := e.fn) (l := l) hl hi (c := 0) (by omega) ⟨e.was.v, l[e.ix].o⟩ (.int .u32 e.was.v) rfl
  have h3 := h2.reg (fn := e.fn) (l := l.set e.ix ⟨e.was.v, l[e.ix].o⟩) (by dsimp only; rw [List.getElem?_set_self (List.getElem?_eq_some_iff.1 hl).1]) (i := e.ix) (by simpa using hi) (c := 1) (by omega) e.was (.int .i64 e.was.o) (by rw [List.getElem_set_self]; rfl)
  rw [undo1_is hq hl, hn, Nat.add_sub_cancel]
  dsimp only at h3
  rw [List.set_set, List.set_set] at h3
  exact h3
theorem undoN_ok {s : St} (h : HidOk s) : ∀ n, HidOk (undoN n s)
  | 0 => h
  | n + 1 => undo1_ok (undoN_ok h n)
theorem undo1_same (s : St) : (undo1 s).calls = s.calls ∧ (undo1 s).hidden.length = s.hidden.length - 1 ∧ (undo1 s).low = s.low := by
  unfold undo1
  cases hq : s.hidden.getLast? with
  | none => have := List.getLast?_eq_none_iff.1 hq; simp [this]
  | some e => simp
theorem undoN_same (s : St) : ∀ n, (undoN n s).calls = s.calls ∧ (undoN n s).hidden.length = s.hidden.length - n ∧ (undoN n s).low = s.low
  | 0 => ⟨rfl, rfl, rfl⟩
  | n + 1 => by
    have h := undoN_same s n
    have h1 := undo1_same (undoN n s)
    exact ⟨h1.1.trans h.1, by show (undo1 (undoN n s)).hidden.length = _; rw [h1.2.1, h.2.1]; omega, h1.2.2.trans h.2.2⟩
/-- What leave sees of its innermost call. -/
structure Low (s : St) (x : Vs) (t : Tp) (c : Cl) (cb cap : Nat) : Prop where
  cv : x.cv = .slice (some ⟨cb, 0, none⟩) s.calls.length cap
  tt : t.t = .pointer (some ⟨cb, (s.calls.length - 1) * 6, none⟩)
  last : s.calls.getLast? = some c
theorem low_cells (h : RunM C W0 r W s x t) {c : Cl} {cb cap : Nat} (L : Low s x t c cb cap) : ∀ j, j < 6 → W.cell? ⟨cb, (s.calls.length - 1) * 6 + j, none⟩ = (Cl.cells c)[j]? := fun j hj => by
  have hcs := h.rows.cs
  rw [L.cv] at hcs
  have hl := L.last
  rw [List.getLast?_eq_getElem?] at hl
  obtain ⟨hlt, hce⟩ := List.getElem?_eq_some_iff.1 hl
  rw [World.ownsRow.cellAt hcs _ (by omega), flat_get cl6 _ _ _ hlt hj, hce]
/-- The last of the hidden, in memory. -/
theorem hid_cells (h : RunM C W0 r W s x t) {e : Hd} {hb cap n : Nat} (hq : s.hidden.getLast? = some e) (hn : s.hidden.length = n + 1) (ev : x.hv = .slice (some ⟨hb, 0, none⟩) (n + 1) cap) : ∀ j, j < 3 → W.cell? ⟨hb, n * 3 + j, none⟩ = (Hd.cells x.bb e)[j]? := fun j hj => by
  have hcs := h.rows.hs
  rw [hn, ev] at hcs
  rw [List.getLast?_eq_getElem?, hn] at hq
  obtain ⟨hlt, hce⟩ := List.getElem?_eq_some_iff.1 hq
  simp only [Nat.add_sub_cancel] at hce
  rw [World.ownsRow.cellAt hcs _ (by omega), flat_get (hd3 x.bb) _ _ _ (by omega) hj, hce]
def leftS (s : St) (c : Cl) (slots : Int) : St :=
  let s2 := popF (undoN (s.hidden.length - c.hd) s) slots
  { s2 with calls := s2.calls.take (s2.calls.length - 1) }
theorem hid_room2 {a : Nat} (h : a ≤ 1099511627776) : (a + 1) * 24 ≤ 140737488355328 := Nat.le_trans (Nat.mul_le_mul_right 24 (Nat.succ_le_succ h)) (by decide)
/-- The run ends. -/
def exitS (s : St) (told : Int) : St := { s with kind := 1, code := wrap32 told }
/-- The call goes on that had asked. -/
structure Back (C : Cst) (s s3 : St) (c' : Cl) (l' : List Rg) (i : In) : Prop where
  last : s3.calls.getLast? = some c'
  fn : c'.fn < C.p.funcs.length
  bank : s3.banks[c'.fn]? = some (some l')
  bk : c'.bk < (C.p.funcs[c'.fn]'fn).blocks.length
  nx : 0 < c'.nx
  code : (C.p.funcs[c'.fn]'fn).blocks[c'.bk].code[c'.nx - 1]? = some i
  d : i.dst = -1 ∨ (0 ≤ i.dst ∧ i.dst < l'.length)
def backF (s3 : St) (c' : Cl) (l' : List Rg) (i : In) (told : Int) : St := if i.dst = -1 then s3 else setS s3 c' l' i.dst.toNat told
def backL (c' : Cl) (l' : List Rg) (i : In) (told : Int) : List Rg := if i.dst = -1 then l' else l'.set i.dst.toNat ⟨told, c'.no⟩
set_option maxHeartbeats 20000000 in
theorem leave47 {c c' : Cl} {l l' : List Rg} {i : In} {told : Int} (h : RunM C W0 r W s x t) (T : Top C s x t c l) (hH : HidOk s) (hhd : c.hd ≤ s.hidden.length) (hhl : s.hidden.length ≤ 1099511627776) (hcl : s.calls.length ≤ 1099511627776)
    (hlow : -8388608 ≤ s.low ∧ s.low ≤ 8388608) (hsl : 0 ≤ (C.p.funcs[c.fn]'T.fn).slots ∧ (C.p.funcs[c.fn]'T.fn).slots ≤ 65536) (htold : 0 ≤ told ∧ told < 4294967296) (hback : 1 < s.calls.length → Back C s (leftS s c (C.p.funcs[c.fn]'T.fn).slots) c' l' i) :
    Calls Try.prog 47 #[.pointer (some ⟨r, 0, none⟩), .int .u32 told] W fun e w' => e = .returned (.tuple #[]) ∧ ((s.calls.length = 1 ∧ ∃ x', RunM C W0 r w' (exitS (leftS s c (C.p.funcs[c.fn]'T.fn).slots) told) x' t) ∨
      (1 < s.calls.length ∧ ∃ x' t', RunM C W0 r w' (backF (leftS s c (C.p.funcs[c.fn]'T.fn).slots) c' l' i told) x' t' ∧ Top C (backF (leftS s c (C.p.funcs[c.fn]'T.fn).slots) c' l' i told) x' t' c' (backL c' l' i told))) := by
  have H := hid' h
  have HT := hid' T
  have HH := hid' hH
  obtain ⟨cb, ccap, ecv, ett⟩ := T.tt
  have HLW : Hid (Low s x t c cb ccap) := ⟨ecv, ett, T.last⟩
  obtain ⟨n, hn⟩ : ∃ n, s.hidden.length - c.hd = n := ⟨_, rfl⟩
  have hpos : 0 < s.calls.length := by
    cases hs : s.calls with
    | nil => have := T.last; rw [hs] at this; cases this
    | cons a l => simp
  generalize hSL : (C.p.funcs[c.fn]'T.fn).slots = SL at *
  have HSD := hid' hSL
  clear h hH ecv ett hSL
  go_enter Try.func47, Try.ntmps47
  go_wp2
  go_loopw [4] (fun u wr => ∃ (k : Nat) (x1 : Vs), k ≤ n ∧ RunM C W0 r wr (undoN k s) x1 t ∧ Low (undoN k s) x1 t c cb ccap ∧ x1 = { x with hv := x1.hv }) (fun u wr => match wr.cell? ⟨r, 5, none⟩ with
    | some (.slice _ m _) => m
    | _ => 0)
  case atStart => exact ⟨0, x, Nat.zero_le _, H.out, HLW.out, rfl⟩
  case round =>
    obtain ⟨k, x1, hkn, hRk, hLk, hxk⟩ := hrel
    have HRK := hid' hRk
    have HLK := hid' hLk
    have HXK := hid' hxk
    have hS := undoN_same s k
    obtain ⟨ho, hcap, ehv, hhc⟩ := own_len hRk.rows.hs
    rw [hS.2.1] at ehv
    have c5 : wr.cell? ⟨r, 5, none⟩ = some (.slice ho (s.hidden.length - k) hcap) := by rw [← ehv]; exact hRk.cell 5
    have c11 : wr.cell? ⟨r, 11, none⟩ = some (.pointer (some ⟨cb, (s.calls.length - 1) * 6, none⟩)) := by rw [← hS.1, ← hLk.tt]; exact hRk.cell 11
    have k3 : wr.cell? ⟨cb, (s.calls.length - 1) * 6 + 3, none⟩ = some (.int .i64 c.hd) := by rw [← hS.1]; exact low_cells hRk hLk 3 (by omega)
    have fr := hRk.fro
    have HSM := hid' hS
    have HEV := hid' ehv
    clear hRk hLk hxk hS ehv
    obtain ⟨hn2, ehn⟩ : ∃ q, q = s.hidden.length - k := ⟨_, rfl⟩
    have EHN := hid' ehn
    rw [← ehn] at c5
    have HC5 := hid' c5
    by_cases hlt : k < n
    · have g1 : (c.hd : Int) < (hn2 : Int) := by omega
      have hnb : hn2 ≤ 1099511627776 := by omega
      clear ehn
      go_wp2
      go_quiet (fail)
      go_wp2
      clear c5 c11 k3 fr
      obtain ⟨W1, eW⟩ : ∃ W1, W1 = wr.drewN nq := ⟨_, rfl⟩
      have H1 : Hid (RunM C W0 r W1 (undoN k s) x1 t) := by unfold Hid; rw [eW]; exact HRK.out.drewN _
      rw [← eW]
      clear eW HRK
      obtain ⟨n1, hn1⟩ : ∃ n1, hn2 = n1 + 1 := ⟨hn2 - 1, by omega⟩
      have HN1 := hid' hn1
      have hul : (undoN k s).hidden.length = n1 + 1 := by rw [HSM.out.2.1, ← EHN.out]; exact hn1
      obtain ⟨e, he⟩ : ∃ e, (undoN k s).hidden.getLast? = some e := by
        cases hq : (undoN k s).hidden.getLast? with
        | none => rw [List.getLast?_eq_none_iff] at hq; rw [hq] at hul; simp at hul
        | some e => exact ⟨e, rfl⟩
      obtain ⟨lb, hlb, hix⟩ := undoN_ok HH.out k e (List.mem_of_getLast? he)
      have hhs := H1.out.rows.hs
      rw [hul] at hhs
      obtain ⟨hb, hcap2, ehv2, hhc2⟩ := own_form2 hhs
      have d5 : ∀ q : After W1, q.1.cell? ⟨r, 5, none⟩ = some (.slice (some ⟨hb, 0, none⟩) (n1 + 1) hcap2) := fun q => keep_cell (by rw [← ehv2]; exact H1.out.cell 5) q.2
      have hc3 := hid_cells H1.out he hul ehv2
      have e0 : ∀ q : After W1, q.1.cell? ⟨hb, n1 * 3, none⟩ = some (.pointer (some ⟨x1.bb e.fn, e.ix * 2, none⟩)) := fun q => keep_cell (hc3 0 (by omega)) q.2
      have e1 : ∀ q : After W1, q.1.cell? ⟨hb, n1 * 3 + 1, none⟩ = some (.int .u32 e.was.v) := fun q => keep_cell (hc3 1 (by omega)) q.2
      have e2 : ∀ q : After W1, q.1.cell? ⟨hb, n1 * 3 + 2, none⟩ = some (.int .i64 e.was.o) := fun q => keep_cell (hc3 2 (by omega)) q.2
      have hnw : IntKind.i64.wrap ((n1 : Int) + 1 - 1) = n1 := by simp [IntKind.wrap, IntKind.bits, IntKind.signed]; omega
      have hnw2 : IntKind.i64.wrap (n1 : Int) = n1 := by simp [IntKind.wrap, IntKind.bits, IntKind.signed]; omega
      have hni : (n1 : Int) < (n1 : Int) + 1 := by omega
      have hne := after_some W1
      have HQ := hid' he
      have HL := hid' hlb
      have HUL := hid' hul
      have HV2 := hid' ehv2
      have hn1b : n1 < 1099511627776 := by omega
      clear hhs hc3 he hlb hul ehv2 hn1 g1 hnb
      refine region_mix (fun q => match q with
        | 0 => W1.drew
        | _ => W1.drew.alloc (.cells #[.pointer none, .int .u32 0, .int .i64 0] 111)) 12 1 mixed (by kernel_rfl) rfl (fun q => by
          have hd : Below W1.heap.size W1 W1.drew := ⟨rfl, rfl, rfl, Nat.le_refl _, fun _ _ => rfl⟩
          cases q with
          | zero => exact hd
          | succ q => exact hd.alloc hd.size _) ?_
      simp only [List.take_succ_cons, List.take_zero, List.drop_succ_cons, List.drop_zero]
      repeat (
        refine wpFree_step (fun K hK => ?_)
        go_simp
        first
          | (refine hK _ ?_; clear hK K)
          | (apply Exists.intro
             refine ⟨fun _ => ?_, hK _ ?_⟩
             (with_reducible rfl)
             clear hK K))
      refine wpFree_nil ?_
      refine headX_one (fun q => match q with
        | 0 => W1.drew
        | _ => W1.drew.alloc (.cells #[.pointer none, .int .u32 0, .int .i64 0] 111)) (p0 := .pointer (some ⟨W1.heap.size, 0, none⟩)) rfl (by omega) (by kernel_rfl) ?_ ?_
      · exact ⟨by simp [go_sem], by simp [go_sem]⟩
      refine ⟨by kernel_rfl, ?_⟩
      clear d5 e0 e1 e2
      go_wp2
      have H2 : Hid (RunM C W0 r ((W1.alloc (.cells #[.pointer (some ⟨x1.bb e.fn, e.ix * 2, none⟩), .int .u32 e.was.v, .int .i64 e.was.o] 111)).drew) (undoN k s) x1 t) := (H1.out.on (below1 _ _)).drew
      have b0 : ((W1.alloc (.cells #[.pointer (some ⟨x1.bb e.fn, e.ix * 2, none⟩), .int .u32 e.was.v, .int .i64 e.was.o] 111)).drew).cell? ⟨W1.heap.size, 0, none⟩ = some (.pointer (some ⟨x1.bb e.fn, e.ix * 2, none⟩)) := by simp [go_sem]
      have b1 : ((W1.alloc (.cells #[.pointer (some ⟨x1.bb e.fn, e.ix * 2, none⟩), .int .u32 e.was.v, .int .i64 e.was.o] 111)).drew).cell? ⟨W1.heap.size, 1, none⟩ = some (.int .u32 e.was.v) := by simp [go_sem]
      have b2 : ((W1.alloc (.cells #[.pointer (some ⟨x1.bb e.fn, e.ix * 2, none⟩), .int .u32 e.was.v, .int .i64 e.was.o] 111)).drew).cell? ⟨W1.heap.size, 2, none⟩ = some (.int .i64 e.was.o) := by simp [go_sem]
      generalize (W1.alloc (.cells #[.pointer (some ⟨x1.bb e.fn, e.ix * 2, none⟩), .int .u32 e.was.v, .int .i64 e.was.o] 111)).drew = W2 at *
      have hrW : ¬ r = W1.heap.size := by have := H1.out.lt; omega
      have hrW2 : W1.heap.size ≠ r := fun e => hrW e.symm
      have c5 : W2.cell? ⟨r, 5, none⟩ = some (.slice (some ⟨hb, 0, none⟩) (n1 + 1) hcap2) := by rw [← HV2.out]; exact H2.out.cell 5
      have f5 := H2.out.fro 5
      go_region
      have H3 : Hid (RunM C W0 r ((W2.setCell ⟨r, 5, none⟩ (.slice (some ⟨hb, 0, none⟩) n1 hcap2)).drew) { undoN k s with hidden := (undoN k s).hidden.take n1 } { x1 with hv := .slice (some ⟨hb, 0, none⟩) n1 hcap2 } t) := (H2.out.popH HUL.out HV2.out).drew
      have KS := setK W2 r 5 (.slice (some ⟨hb, 0, none⟩) n1 hcap2)
      have b0' : ((W2.setCell ⟨r, 5, none⟩ (.slice (some ⟨hb, 0, none⟩) n1 hcap2)).drew).cell? ⟨W1.heap.size, 0, none⟩ = some (.pointer (some ⟨x1.bb e.fn, e.ix * 2, none⟩)) := (KS.cell (World.block_lt_of_cell? W2 _ b0) hrW2).trans b0
      have b1' : ((W2.setCell ⟨r, 5, none⟩ (.slice (some ⟨hb, 0, none⟩) n1 hcap2)).drew).cell? ⟨W1.heap.size, 1, none⟩ = some (.int .u32 e.was.v) := (KS.cell (World.block_lt_of_cell? W2 _ b1) hrW2).trans b1
      have b2' : ((W2.setCell ⟨r, 5, none⟩ (.slice (some ⟨hb, 0, none⟩) n1 hcap2)).drew).cell? ⟨W1.heap.size, 2, none⟩ = some (.int .i64 e.was.o) := (KS.cell (World.block_lt_of_cell? W2 _ b2) hrW2).trans b2
      clear b0 b1 b2 c5 f5 KS
      generalize (W2.setCell ⟨r, 5, none⟩ (.slice (some ⟨hb, 0, none⟩) n1 hcap2)).drew = W3 at *
      have hrow := H3.out.rows.bk e.fn lb HL.out
      dsimp only at hrow
      obtain ⟨v0, m0⟩ : ∃ v, W3.cell? ⟨x1.bb e.fn, e.ix * 2, none⟩ = some v := by
        rw [World.ownsRow.cellAt hrow _ (by omega)]
        exact ⟨_, List.getElem?_eq_getElem (by rw [flat_length rg2]; omega)⟩
      obtain ⟨v1, m1⟩ : ∃ v, W3.cell? ⟨x1.bb e.fn, e.ix * 2 + 1, none⟩ = some v := by
        rw [World.ownsRow.cellAt hrow _ (by omega)]
        exact ⟨_, List.getElem?_eq_getElem (by rw [flat_length rg2]; omega)⟩
      have mf : ∀ j, W3.frozen? ⟨x1.bb e.fn, j, none⟩ = false := fun j => World.ownsRow.frozenAt hrow j
      have HU := hid' (H3.out.undo2 HQ.out HL.out hix HUL.out)
      dsimp only at HU
      clear hrow
      go_wp2
      have hU2 := undoN_same s (k + 1)
      refine ⟨⟨k + 1, _, by omega, HU.out, ⟨?_, ?_, ?_⟩, ?_⟩, ?_⟩
      · dsimp only; rw [hU2.1, HLK.out.cv, HSM.out.1]
      · rw [hU2.1, HLK.out.tt, HSM.out.1]
      · rw [hU2.1, ← HSM.out.1]; exact HLK.out.last
      · rw [HXK.out]
      · rw [HU.out.cell 5, HC5.out]
        show n1 < hn2
        rw [HN1.out]; omega
    · have e : k = n := by omega
      subst e
      have g1 : ¬ (c.hd : Int) < (hn2 : Int) := by omega
      have hnb : hn2 ≤ 1099511627776 := by omega
      have HSL : Hid (s.hidden.length - c.hd = k) := hn
      clear ehn
      go_wp2
      go_quiet (fail)
      go_wp2
      clear c5 c11 k3 fr
      obtain ⟨W1, eW⟩ : ∃ W1, W1 = wr.drewN nq := ⟨_, rfl⟩
      have H1 : Hid (RunM C W0 r W1 (undoN k s) x1 t) := by unfold Hid; rw [eW]; exact HRK.out.drewN _
      rw [← eW]
      clear eW HRK
      obtain ⟨fb, fo, etf, hfn⟩ := top_fn H.out HT.out
      have d12 : ∀ q : After W1, q.1.cell? ⟨r, 12, none⟩ = some (.pointer (some ⟨fb, fo + c.fn * 5, none⟩)) := fun q => keep_cell (by rw [← etf]; exact H1.out.cell 12) q.2
      have d3 : ∀ q : After W1, q.1.cell? ⟨fb, fo + c.fn * 5 + 3, none⟩ = some (.int .i64 SL) := fun q => by rw [← HSD.out]; exact hfn q.1 (below_on H1.out.rows.below q.2 H1.out.rows.below.size) 3 (by omega)
      have hne := after_some W1
      have hlow2 := (undoN_same s k).2.2
      refine region_after 10 mixed (by kernel_rfl) ?_
      simp only [List.take_succ_cons, List.take_zero, List.drop_succ_cons, List.drop_zero]
      repeat (first | go_big_quiet_step (fail) | quiet_step (fail))
      refine wpQuiet_nil ?_
      intro w6 hb6
      have H6 := hid' (H1.out.on hb6)
      clear d12 d3 hb6
      have h67 := pop67 H6.out (n := SL) ⟨hsl.1, by omega⟩ (by rw [hlow2]; exact hlow)
      go_wp2_with (go_at_call 67; refine h67.mono ?_; rintro e7 w7 ⟨rfl, hR7⟩)
      obtain ⟨m, hm⟩ : ∃ m, s.calls.length = m + 1 := ⟨s.calls.length - 1, by omega⟩
      have hcm : (popF (undoN k s) SL).calls.length = m + 1 := by rw [← hm]; exact congrArg List.length (undoN_same s k).1
      have ecv : x1.cv = .slice (some ⟨cb, 0, none⟩) (m + 1) ccap := by rw [HLK.out.cv, ← hcm]; rfl
      have c9 : w7.cell? ⟨r, 9, none⟩ = some (.slice (some ⟨cb, 0, none⟩) (m + 1) ccap) := by rw [← ecv]; exact hR7.cell 9
      have f9 := hR7.fro
      have hmb : m < 1099511627776 := by omega
      have hmw : IntKind.i64.wrap (m : Int) = m := by simp [IntKind.wrap, IntKind.bits, IntKind.signed]; omega
      have hmc : m ≤ ccap := by
        obtain ⟨a1, cp, e1, h1⟩ := own_len hR7.rows.cs
        rw [ecv, hcm] at e1
        rw [hcm] at h1
        injection e1 with _ _ e3
        omega
      have H8 : Hid (RunM C W0 r ((w7.setCell ⟨r, 9, none⟩ (.slice (some ⟨cb, 0, none⟩) m ccap)).drew) { popF (undoN k s) SL with calls := (popF (undoN k s) SL).calls.take m } { x1 with cv := .slice (some ⟨cb, 0, none⟩) m ccap } t) := (hR7.popC hcm ecv).drew
      have HLS : Hid (leftS s c SL = { popF (undoN k s) SL with calls := (popF (undoN k s) SL).calls.take m }) := by
        unfold Hid leftS
        rw [HSL.out]
        dsimp only
        rw [hcm, Nat.add_sub_cancel]
      rw [HLS.out] at hback
      have HBACK := hid' hback
      have HM := hid' hm
      clear hcm ecv hR7 h67 hback hn HSL
      have HSH : Hid ((({ popF (undoN k s) SL with calls := (popF (undoN k s) SL).calls.take m } : St).hidden.length + 1) * 24 ≤ 140737488355328) := hid_room2 (by
        show (undoN k s).hidden.length ≤ _
        rw [(undoN_same s k).2.1]; omega)
      generalize { popF (undoN k s) SL with calls := (popF (undoN k s) SL).calls.take m } = S3 at *
      go_region
      clear c9 f9
      generalize (w7.setCell ⟨r, 9, none⟩ (.slice (some ⟨cb, 0, none⟩) m ccap)).drew = W8 at *
      have c9 : W8.cell? ⟨r, 9, none⟩ = some (.slice (some ⟨cb, 0, none⟩) m ccap) := H8.out.cell 9
      by_cases hz : m = 0
      · subst hz
        have c23 : W8.cell? ⟨r, 23, none⟩ = some (.int .i64 S3.kind) := H8.out.cell 23
        have c24 : W8.cell? ⟨r, 24, none⟩ = some (.int .i32 S3.code) := H8.out.cell 24
        have fr := H8.out.fro
        have hA := H8.out.put (s' := { S3 with kind := 1 }) (t' := t) 23 (.int .i64 1) rfl rfl
        have HA := hid' (hA.put (s' := exitS S3 told) (t' := t) 24 (.int .i32 (wrap32 told)) rfl rfl)
        clear hA
        go_wp2
        exact bodyPost_ret (v := .tuple #[]) (by simp [results, Try.results47]) rfl ⟨rfl, .inl ⟨HM.out, _, by rw [HLS.out]; exact HA.out⟩⟩
      · have hmz : ((m : Int) == 0) = false := by simp; omega
        have hB := HBACK.out (by omega)
        obtain ⟨bb, bo, bcap, ebv, hbb, hbc, hblk, hbok, hbig⟩ := src_block H8.out.rows.pg hB.fn hB.bk
        obtain ⟨hclt, hci⟩ := List.getElem?_eq_some_iff.1 hB.code
        obtain ⟨ib, io, icap, eiv, hic, hin⟩ := src_code hbok hclt
        have hI := hin _ hclt
        rw [hci] at hI
        have hbkl := hB.bk
        obtain ⟨NC, hNC⟩ : ∃ NC, NC = ((C.p.funcs[c'.fn]'hB.fn).blocks[c'.bk]'hB.bk).code.length := ⟨_, rfl⟩
        obtain ⟨NB, hNB⟩ : ∃ NB, NB = (C.p.funcs[c'.fn]'hB.fn).blocks.length := ⟨_, rfl⟩
        rw [← hNC] at eiv hclt hic
        rw [← hNB] at ebv hbkl hbc
        have hcl3 : S3.calls.length ≤ 140737488355328 := by
          have := own_len H8.out.rows.cs
          obtain ⟨a1, cp, e1, h1⟩ := this
          dsimp only at e1
          injection e1 with _ e2 _
          omega
        have h25 := resume25 H8.out hB.last hB.fn hB.bank hcl3
        have HB := hid' hB
        have HI := hid' hI
        have F : Hid (∀ w9 t', RunM C W0 r w9 S3 { x1 with cv := .slice (some ⟨cb, 0, none⟩) m ccap } t' → Top C S3 { x1 with cv := .slice (some ⟨cb, 0, none⟩) m ccap } t' c' l' → ∃ fb fo, ∀ q : After w9, q.1.cell? ⟨r, 12, none⟩ = some (.pointer (some ⟨fb, fo, none⟩)) ∧ q.1.cell? ⟨fb, fo + 4, none⟩ = some (.slice (some ⟨bb, bo, none⟩) NB bcap) ∧ q.1.cell? ⟨r, 11, none⟩ = some (.pointer (some ⟨cb, (m - 1) * 6, none⟩)) ∧ q.1.cell? ⟨cb, (m - 1) * 6 + 4, none⟩ = some (.int .i64 c'.bk) ∧ q.1.cell? ⟨cb, (m - 1) * 6 + 5, none⟩ = some (.int .i64 c'.nx) ∧ q.1.cell? ⟨bb, bo + c'.bk * 4, none⟩ = some (.slice (some ⟨ib, io, none⟩) NC icap) ∧ (∀ j, j < 7 → q.1.cell? ⟨ib, io + (c'.nx - 1) * 7 + j, none⟩ = (In.cells i)[j]?)) := fun w9 t' h9 T9 => by
          obtain ⟨fb, fo, etf, hfn⟩ := top_fn h9 T9
          obtain ⟨cb2, et2, hcc2, _, _, _, cp2, ecv2, hp2⟩ := T9.see h9
          dsimp only at ecv2
          injection ecv2 with a1 a2 _
          injection a1 with a1
          injection a1 with a1
          subst a1
          rw [← a2] at et2 hcc2
          refine ⟨fb, fo + c'.fn * 5, fun q => ?_⟩
          have hb := below_on h9.rows.below q.2 h9.rows.below.size
          refine ⟨keep_cell (by rw [← etf]; exact h9.cell 12) q.2, by rw [← ebv]; exact hfn q.1 hb 4 (by omega), keep_cell (by rw [← et2]; exact h9.cell 11) q.2, keep_cell (hcc2 4 (by omega)) q.2, keep_cell (hcc2 5 (by omega)) q.2, by rw [← eiv]; exact hblk q.1 hb 0 (by omega), fun j hj => HI.out.2.1 q.1 hb j hj⟩
        have hbki : (c'.bk : Int) < NB := by omega
        have hnxi : (c'.nx : Int) - 1 < NC := by have := HB.out.nx; omega
        have hnx := HB.out.nx
        have hnx0 : (0 : Int) ≤ (c'.nx : Int) - 1 := by omega
        have hnxt : ((c'.nx : Int) - 1).toNat = c'.nx - 1 := by omega
        obtain ⟨ao, acap, ea⟩ := hI.2.2.a.len
        obtain ⟨po, pcap, ep⟩ := hI.2.2.p.len
        go_wp2_with (go_at_call 25; refine h25.mono ?_; rintro e9 w9 ⟨rfl, t9, hR9, hT9⟩)
        obtain ⟨fb, fo, hF⟩ := F.out w9 t9 hR9 hT9
        obtain ⟨pn, hpn⟩ : ∃ pn, c'.nx = pn + 1 := ⟨c'.nx - 1, by omega⟩
        rw [hpn, Nat.add_sub_cancel] at hF
        have d12 := fun q => (hF q).1
        have d4 := fun q => (hF q).2.1
        have d11 := fun q => (hF q).2.2.1
        have k4 := fun q => (hF q).2.2.2.1
        have k5 : ∀ q : After w9, q.1.cell? ⟨cb, (m - 1) * 6 + 5, none⟩ = some (.int .i64 ((pn : Int) + 1)) := fun q => (hF q).2.2.2.2.1
        have b0 := fun q => (hF q).2.2.2.2.2.1
        have hI7 := fun q => in_cells (o := io + pn * 7) (hF q).2.2.2.2.2.2
        have i0 := fun q => (hI7 q).1
        have i1 := fun q => (hI7 q).2.1
        have i2 : ∀ q : After w9, q.1.cell? ⟨ib, io + pn * 7 + 2, none⟩ = some (.slice ao i.args.length acap) := fun q => by rw [← ea]; exact (hI7 q).2.2.1
        have i3 := fun q => (hI7 q).2.2.2.1
        have i4 := fun q => (hI7 q).2.2.2.2.1
        have i5 := fun q => (hI7 q).2.2.2.2.2.1
        have i6 : ∀ q : After w9, q.1.cell? ⟨ib, io + pn * 7 + 6, none⟩ = some (.slice po i.pred.length pcap) := fun q => by rw [← ep]; exact (hI7 q).2.2.2.2.2.2
        have hne := after_some w9
        have hpnw : IntKind.i64.wrap (pn : Int) = pn := by
          have := hbok.cl
          unfold big at this
          rw [← hNC] at this
          simp [IntKind.wrap, IntKind.bits, IntKind.signed]; omega
        have hpni : (pn : Int) < NC := by omega
        clear hnxi hnx hnx0 hnxt hpn
        clear hF hI7 c9 hNB hNC ebv eiv hblk hin hbok hci hbig ea ep hI hcl3 h25
        clear hclt
        refine region_mix (fun q => match q with
          | 0 => w9.drew
          | _ => w9.drew.alloc (.cells #[.int .i64 0, .int .i64 0, .slice none 0 0, .int .i32 0, .int .i64 0, .int .i64 0, .slice none 0 0] 51)) 27 1 mixed (by kernel_rfl) rfl (fun q => by
            have hd : Below w9.heap.size w9 w9.drew := ⟨rfl, rfl, rfl, Nat.le_refl _, fun _ _ => rfl⟩
            cases q with
            | zero => exact hd
            | succ q => exact hd.alloc hd.size _) ?_
        simp only [List.take_succ_cons, List.take_zero, List.drop_succ_cons, List.drop_zero]
        repeat (
          refine wpFree_step (fun K hK => ?_)
          go_simp
          first
            | (refine hK _ ?_; clear hK K)
            | (apply Exists.intro
               refine ⟨fun _ => ?_, hK _ ?_⟩
               (with_reducible rfl)
               clear hK K))
        refine wpFree_nil ?_
        refine headX_one (fun q => match q with
          | 0 => w9.drew
          | _ => w9.drew.alloc (.cells #[.int .i64 0, .int .i64 0, .slice none 0 0, .int .i32 0, .int .i64 0, .int .i64 0, .slice none 0 0] 51)) (p0 := .pointer (some ⟨w9.heap.size, 0, none⟩)) rfl (by omega) (by kernel_rfl) ?_ ?_
        · exact ⟨by simp [go_sem], by simp [go_sem]⟩
        refine ⟨by kernel_rfl, ?_⟩
        have H9 := hid' hR9
        have T9 := hid' hT9
        clear d12 d4 d11 k4 k5 b0 i0 i1 i2 i3 i4 i5 i6 hR9 hT9
        by_cases hd : i.dst = -1
        · have HF1 : Hid (backF S3 c' l' i told = S3) := by unfold Hid backF; rw [if_pos hd]
          have HF2 : Hid (backL c' l' i told = l') := by unfold Hid backL; rw [if_pos hd]
          go_wp2
          go_end0
          exact ⟨rfl, .inr ⟨by omega, _, t9, by rw [HLS.out, HF1.out]; exact (H9.out.on (below1 _ _)).drew, by rw [HLS.out, HF1.out, HF2.out]; exact T9.out⟩⟩
        · obtain ⟨d, hd2⟩ : ∃ d : Nat, i.dst = d := ⟨i.dst.toNat, by rcases HB.out.d with e | e <;> omega⟩
          have hdl : d < l'.length := by rcases HB.out.d with e | e <;> omega
          have HF1 : Hid (backF S3 c' l' i told = setS S3 c' l' d told) := by unfold Hid backF; rw [if_neg hd, hd2, Int.toNat_natCast]
          have HF2 : Hid (backL c' l' i told = l'.set d ⟨told, c'.no⟩) := by unfold Hid backL; rw [if_neg hd, hd2, Int.toNat_natCast]
          have hdi : ((d : Int) == -1) = false := by simp
          have H26 : Hid (∀ w, RunM C W0 r w S3 { x1 with cv := .slice (some ⟨cb, 0, none⟩) m ccap } t9 → Calls Try.prog 26 #[.pointer (some ⟨r, 0, none⟩), .int .i64 d, .int .u32 told] w fun e w' => e = .returned (.tuple #[]) ∧ ∃ x', RunM C W0 r w' (setS S3 c' l' d told) x' t9 ∧ Top C (setS S3 c' l' d told) x' t9 c' (l'.set d ⟨told, c'.no⟩)) := fun w hw => set26 hw T9.out hdl told HSH.out
          clear hd
          go_wp2_with (go_at_call 26; refine (H26.out _ ((H9.out.on (below1 _ _)).drew)).mono ?_; rintro e11 w11 ⟨rfl, x11, hR11, hT11⟩)
          go_end0
          exact ⟨rfl, .inr ⟨by omega, x11, t9, by rw [HLS.out, HF1.out]; exact hR11, by rw [HLS.out, HF1.out, HF2.out]; exact hT11⟩⟩
end
end Go.Proofs.Ytiehlkhpblldaaa
