/- The reader's small functions. -/
import Derived.Test.YtjeioblhpfogfaaGreatDoorX09
import Derived.Test.YtjeioblhpfogfaaGreatDoorX10
set_option linter.unusedVariables false
set_option linter.unusedSimpArgs false
set_option maxRecDepth 20000
set_option maxHeartbeats 8000000
namespace Go.Proofs.YtjeioblhpfogfaaGreatDoor
open Go.RowKit

theorem KQ.rfl (B p : Nat) (w : World) : KQ B p w w := Kept.rfl _ _
theorem KQ.trans {B p : Nat} {a b c : World} (h : KQ B p a b) (k : KQ B p b c) : KQ B p a c := by
  refine ⟨k.os.trans h.os, k.tape.trans h.tape, k.output.trans h.output, Nat.le_trans h.size k.size, fun i hi hn => (k.block i (Nat.lt_of_lt_of_le hi h.size) (fun hs => hn ?_)).trans (h.block i hi hn)⟩
  unfold SQ at hs ⊢
  rw [h.block i hi hn] at hs
  exact hs
theorem KQ.of_below {B p : Nat} {w w' : World} (h : Below w.heap.size w w') : KQ B p w w' := Kept.of_below h
theorem Kr.at {B : Nat} {w w' : World} (hb : ∀ (b : Nat) cs f, w.heap[b]? = some (.cells cs 25 f) → w'.heap[b]? = w.heap[b]?) : ∀ {n : Nat} {v : Value} {ks : List Tr}, Kr B n w v ks → Kr B n w' v ks
  | 0, _, _, h => h
  | n + 1, v, ks, h => by
    rw [Kr] at h ⊢
    obtain ⟨hl, ao, cap, rfl, h⟩ := h
    refine ⟨hl, ao, cap, rfl, fun i hi => ?_⟩
    obtain ⟨b, off, x, kv, ks', ha, ⟨cs, f, hh⟩, hk, ⟨h0, h1, h2, h3, h4, h5⟩, hr⟩ := h i hi
    have e := hb b cs f hh
    refine ⟨b, off, x, kv, ks', ha, ⟨cs, f, e.trans hh⟩, hk, ⟨?_, ?_, ?_, ?_, ?_, ?_⟩, hr.at hb⟩
    · exact (World.cell?_of_block (w := w) e).trans h0
    · exact (World.cell?_of_block (w := w) e).trans h1
    · exact (World.cell?_of_block (w := w) e).trans h2
    · exact (World.cell?_of_block (w := w) e).trans h3
    · exact (World.cell?_of_block (w := w) e).trans h4
    · exact (World.cell?_of_block (w := w) e).trans h5
theorem lt_of_heap {w : World} {b : Nat} {o : Obj} (h : w.heap[b]? = some o) : b < w.heap.size := (Array.getElem?_eq_some_iff.1 h).1
theorem Kr.below {B : Nat} {w w' : World} {n : Nat} {v : Value} {ks : List Tr} (h : Kr B n w v ks) (hb : Below w.heap.size w w') : Kr B n w' v ks := h.at fun b cs f hh => hb.block b (lt_of_heap hh)
theorem Kr.kq {B p : Nat} {w w' : World} {n : Nat} {v : Value} {ks : List Tr} (h : Kr B n w v ks) (hp : ∃ cs f, w.heap[p]? = some (.cells cs 65 f)) (hb : KQ B p w w') : Kr B n w' v ks := h.at fun b cs f hh => hb.block b (lt_of_heap hh) (fun hs => by
  obtain ⟨cp, fp, hp⟩ := hp
  rcases hs with rfl | ⟨_, ⟨_, _, e⟩ | ⟨_, _, e⟩ | ⟨_, _, e⟩⟩
  · rw [hh] at hp; cases hp
  · rw [hh] at e; cases e
  · rw [hh] at e; cases e
  · rw [hh] at e; cases e)
theorem owns_below {w w' : World} {B e z n : Nat} {v : Value} {xs : List Value} (h : w.ownsRow B e z v n xs) (hb : Below w.heap.size w w') : w'.ownsRow B e z v n xs := by
  obtain ⟨h1, h2, h3, h4, h5⟩ := hb
  exact h.kept (row := none) ⟨h1, h2, h3, h4, fun k hk _ => h5 k hk⟩ (by cases v.ownBlock <;> simp)
theorem Rd.below {w w' : World} {B p : Nat} {toks : List Tk} {s : St} {tv ov bv dv : Value} {kvs : List Value} (h : Rd w B p toks s tv ov bv dv kvs) (hb : Below w.heap.size w w') : Rd w' B p toks s tv ov bv dv kvs :=
  ⟨(hb.block p (lt_of_heap h.head)).trans h.head, Nat.le_trans h.low hb.size, owns_below h.tok hb, owns_below h.todo hb, owns_below h.begun hb, owns_below h.done hb, h.kids.1, fun i h1 h2 => by
    obtain ⟨n, hn⟩ := h.kids.2 i h1 h2
    exact ⟨n, hn.below hb⟩⟩
theorem RdS.below {w w' : World} {B p : Nat} {toks : List Tk} {s : St} (h : RdS w B p toks s) (hb : Below w.heap.size w w') : RdS w' B p toks s := by
  obtain ⟨a, b, c, d, e, h⟩ := h
  exact ⟨a, b, c, d, e, h.below hb⟩
theorem bdN {n : Nat} {w w' : World} (h : Below n w w') (k : Nat) : Below n w (w'.drewN k) := ⟨h.os, h.tape, h.output, h.size, h.block⟩
theorem mixed : Tryz.prog.follows .mixedOrders = true := by kernel_rfl
def tkV (x : Tk) : Value := .agg #[.int .i64 x.kind, .string x.text, .int .u32 x.num, .bool x.uns, .int .i64 x.pos, .int .i64 x.fin]

theorem below_set6' {n : Nat} {w w' : World} {b : Nat} (h : Below n w w') (hb : n ≤ b) (v0 v1 v2 v3 v4 v5 : Value) : Below n w ((((((w'.setCell ⟨b, 0, none⟩ v0).setCell ⟨b, 1, none⟩ v1).setCell ⟨b, 2, none⟩ v2).setCell ⟨b, 3, none⟩ v3).setCell ⟨b, 4, none⟩ v4).setCell ⟨b, 5, none⟩ v5) := by
  have st : ∀ (W : World) (o : Nat) (v : Value), Below n w W → Below n w (W.setCell ⟨b, o, none⟩ v) := fun W o v hW =>
    ⟨hW.os, hW.tape, hW.output, by rw [World.size_setCell]; exact hW.size, fun k hk => (Below.heap_setCell _ _ _ _ (by show k ≠ b; omega)).trans (hW.block k hk)⟩
  exact st _ _ _ (st _ _ _ (st _ _ _ (st _ _ _ (st _ _ _ (st _ _ _ h)))))

theorem token75 {w : World} {B p : Nat} {toks : List Tk} {s : St} (h : RdS w B p toks s) (hl : s.pl < toks.length) :
    Calls Tryz.prog 75 #[.pointer (some ⟨p, 0, none⟩)] w fun e w' => e = .returned (tkV toks[s.pl]) ∧ Below w.heap.size w w' := by
  obtain ⟨tv, ov, bv, dv, kvs, h⟩ := h
  obtain ⟨g, cap, rfl, hcap, t0, t1, t2, t3, t4, t5⟩ := h.tokAt s.pl hl
  obtain ⟨c0, c1, c2, c3, c4, hp⟩ := h.cells
  have hg : g < w.heap.size := by
    have := h.tok.lt g rfl
    exact this.2
  obtain ⟨x, hx⟩ : ∃ x, x = toks[s.pl] := ⟨_, rfl⟩
  rw [← hx] at t0 t1 t2 t3 t4 t5 ⊢
  obtain ⟨k, hk⟩ : ∃ k, k = s.pl := ⟨_, rfl⟩
  rw [← hk] at hl c1 t0 t1 t2 t3 t4 t5
  clear h hx hk
  unfold tkV
  go_enter Tryz.func75, Tryz.ntmps75
  go_wp2
  have hk1 : (k : Int) < toks.length := by omega
  refine region_quiet_tail (C := fun w' => ∃ n, w' = (w.alloc (.cells #[.int .i64 0, .string ⟨#[]⟩, .int .u32 0, .bool false, .int .i64 0, .int .i64 0] 42)).drewN n) 10 mixed (by kernel_rfl) ⟨1, rfl⟩ ?_
  simp only [List.take_succ_cons, List.take_zero, List.drop_succ_cons, List.drop_zero]
  repeat quiet_step (fail)
  refine wpQuiet_nil ?_
  rintro _ ⟨nq, rfl⟩
  go_wp2
  refine bodyPost_ret (v := .agg #[.int .i64 x.kind, .string x.text, .int .u32 x.num, .bool x.uns, .int .i64 x.pos, .int .i64 x.fin]) (by simp [results, Tryz.results75, go_sem]) rfl ⟨rfl, below_set6' (bdN (below1 _ _) _) (Nat.le_refl _) _ _ _ _ _ _⟩

/-- The mark or the word at a place; of all else nothing. -/
def signAt (toks : List Tk) (k : Nat) : ByteArray := match toks[k]? with
  | some t => if t.kind = 4 ∨ t.kind = 3 then t.text else ⟨#[]⟩
  | none => ⟨#[]⟩
theorem ahead121 {w : World} {B p j : Nat} {toks : List Tk} {s : St} (h : RdS w B p toks s) (hj : s.pl + j ≤ 9000000000000000000) (hn : toks.length ≤ 9000000000000000000) :
    Calls Tryz.prog 121 #[.pointer (some ⟨p, 0, none⟩), .int .i64 (j : Nat)] w fun e w' => e = .returned (.string (signAt toks (s.pl + j))) ∧ Below w.heap.size w w' := by
  obtain ⟨tv, ov, bv, dv, kvs, h⟩ := h
  obtain ⟨c0, c1, c2, c3, c4, hp⟩ := h.cells
  obtain ⟨ao, cap, htv⟩ : ∃ ao cap, tv = .slice ao toks.length cap := by
    obtain ⟨_, ⟨e, e2⟩ | ⟨g, cap, cur, e, _⟩⟩ := h.tok
    · exact ⟨_, _, by rw [e, e2]⟩
    · exact ⟨_, _, e⟩
  by_cases hlt : s.pl + j < toks.length
  · obtain ⟨g, cap, rfl, hcap, t0, t1, t2, t3, t4, t5⟩ := h.tokAt (s.pl + j) hlt
    have hsg : Hid (signAt toks (s.pl + j) = if toks[s.pl + j].kind = 4 ∨ toks[s.pl + j].kind = 3 then toks[s.pl + j].text else ⟨#[]⟩) := by
      show _ = _
      unfold signAt
      rw [List.getElem?_eq_getElem hlt]
    obtain ⟨x, hx⟩ : ∃ x, x = toks[s.pl + j] := ⟨_, rfl⟩
    rw [← hx] at t0 t1 t2 t3 t4 t5 hsg
    obtain ⟨k, hk⟩ : ∃ k, k = s.pl := ⟨_, rfl⟩
    rw [← hk] at hlt c1 t0 t1 t2 t3 t4 t5 hsg hj ⊢
    have h1 : ¬ (toks.length : Int) ≤ (k : Int) + j := by omega
    have h2 : (k : Int) + j < toks.length := by omega
    have h9 := h
    clear h hx hk htv
    obtain ⟨m, hm⟩ : ∃ m, m = k + j := ⟨_, rfl⟩
    rw [← hm] at t0 t1 t2 t3 t4 t5 hsg
    have hw1 : IntKind.i64.wrap ((k : Int) + (j : Int)) = (m : Int) := by rw [Go.IntWalk.i64_in _ (by omega), hm]; omega
    have hw2 : (k : Int) + (j : Int) = (m : Int) := by omega
    have h3 : (m : Int) < toks.length := by omega
    have hw3 : wrap64 (m : Int) = (m : Int) := by unfold wrap64; omega
    have h4 : ¬ (toks.length : Int) ≤ (m : Int) := by omega
    have hg : g < w.heap.size := (h9.tok.lt g rfl).2
    clear h9
    have e4 : (x.kind = 4 ∧ (x.kind == 4) = true) ∨ (x.kind = 3 ∧ (x.kind == 4) = false ∧ (x.kind == 3) = true) ∨ (¬ x.kind = 4 ∧ ¬ x.kind = 3 ∧ (x.kind != 4) = true ∧ (x.kind != 3) = true) := by
      by_cases a : x.kind = 4
      · exact .inl ⟨a, by simp [a]⟩
      · by_cases b : x.kind = 3
        · exact .inr (.inl ⟨b, by simp [b], by simp [b]⟩)
        · exact .inr (.inr ⟨a, b, by simp [a], by simp [b]⟩)
    obtain ⟨kd, hkd⟩ : ∃ kd, kd = x.kind := ⟨_, rfl⟩
    obtain ⟨tx, htx⟩ : ∃ tx, tx = x.text := ⟨_, rfl⟩
    rw [← hkd] at e4 t0 hsg
    rw [← htx] at t1 hsg
    rw [show signAt toks (k + j) = signAt toks m by rw [hm]]
    clear hkd htx hm h1 h2 hj hn hlt
    rcases e4 with ⟨a, e4⟩ | ⟨a, e4, e3⟩ | ⟨a, b, e4, e3⟩
    all_goals
      try subst a
      go_enter Tryz.func121, Tryz.ntmps121
      go_wp2
      go_quiet (fail)
      have hc0 : (w.drewN nq).cell? ⟨p, 0, none⟩ = _ := c0
      have hc1 : (w.drewN nq).cell? ⟨p, 1, none⟩ = _ := c1
      have ht0 : (w.drewN nq).cell? ⟨g, m * 6, none⟩ = _ := t0
      have ht1 : (w.drewN nq).cell? ⟨g, m * 6 + 1, none⟩ = _ := t1
      have ht2 : (w.drewN nq).cell? ⟨g, m * 6 + 2, none⟩ = _ := t2
      have ht3 : (w.drewN nq).cell? ⟨g, m * 6 + 3, none⟩ = _ := t3
      have ht4 : (w.drewN nq).cell? ⟨g, m * 6 + 4, none⟩ = _ := t4
      have ht5 : (w.drewN nq).cell? ⟨g, m * 6 + 5, none⟩ = _ := t5
      have hpW : p < (w.drewN nq).heap.size := hp
      have hgW : g < (w.drewN nq).heap.size := hg
      have HB : Hid (Below w.heap.size w (w.drewN nq)) := bdN (Below.refl _ _) _
      clear c0 c1 c2 c3 c4 t0 t1 t2 t3 t4 t5 hp hg
      generalize w.drewN nq = W at *
      go_wp2
      go_region
      have HB2 : Hid (∀ o : Obj, Below w.heap.size w (W.alloc o).drew) := fun o => (HB.out.alloc HB.out.size o).drew
      go_wp2
      go_ret
      refine ⟨?_, HB2.out _⟩
      rw [hsg.out]
      first
        | (rw [if_pos (by simp)]; rfl)
        | (rw [if_neg (fun e => e.elim a b)]; rfl)
  · have hsg : Hid (signAt toks (s.pl + j) = ⟨#[]⟩) := by
      show _ = _
      unfold signAt
      rw [List.getElem?_eq_none (by omega)]
    obtain ⟨k, hk⟩ : ∃ k, k = s.pl := ⟨_, rfl⟩
    rw [← hk] at hlt c1 hsg hj ⊢
    obtain ⟨m, hm⟩ : ∃ m, m = k + j := ⟨_, rfl⟩
    rw [← hm] at hsg ⊢
    have hw1 : IntKind.i64.wrap ((k : Int) + (j : Int)) = (m : Int) := by rw [Go.IntWalk.i64_in _ (by omega), hm]; omega
    have hw2 : (k : Int) + (j : Int) = (m : Int) := by omega
    have hw3 : wrap64 (m : Int) = (m : Int) := by unfold wrap64; omega
    have h4 : (toks.length : Int) ≤ (m : Int) := by omega
    subst htv
    clear h hk hm hlt hj hn
    go_enter Tryz.func121, Tryz.ntmps121
    go_wp2
    go_quiet (fail)
    go_wp2
    go_ret
    exact ⟨by rw [hsg.out]; rfl, bdN (Below.refl _ _) _⟩

theorem sign88 {w : World} {B p : Nat} {toks : List Tk} {s : St} (h : RdS w B p toks s) (hj : s.pl ≤ 9000000000000000000) (hn : toks.length ≤ 9000000000000000000) :
    Calls Tryz.prog 88 #[.pointer (some ⟨p, 0, none⟩)] w fun e w' => e = .returned (.string (signAt toks s.pl)) ∧ Below w.heap.size w w' := by
  have HA : Calls Tryz.prog 121 #[.pointer (some ⟨p, 0, none⟩), .int .i64 0] w fun e w' => e = .returned (.string (signAt toks s.pl)) ∧ Below w.heap.size w w' := ahead121 (j := 0) h hj hn
  clear h
  obtain ⟨sg, hsg⟩ : ∃ sg, sg = signAt toks s.pl := ⟨_, rfl⟩
  rw [← hsg] at HA ⊢
  clear hsg
  go_enter Tryz.func88, Tryz.ntmps88
  go_wp2_with (go_at_call 121; (with_reducible refine HA.mono ?_); rintro e w1 ⟨rfl, hb⟩)
  go_ret
  exact ⟨rfl, hb⟩

/-- The next token, gone by. -/
theorem Rd.head' {w : World} {B p : Nat} {toks : List Tk} {s : St} {tv ov bv dv : Value} {kvs : List Value} (h : Rd w B p toks s tv ov bv dv kvs) : ∃ cs f, w.heap[p]? = some (.cells cs 65 f) := ⟨_, _, h.head⟩
theorem setCell_heap {w : World} {p o : Nat} {cs : Array Value} {T : TypeId} {f : Nat × Nat} (h : w.heap[p]? = some (.cells cs T f)) (v : Value) (k : Nat) : (w.setCell ⟨p, o, none⟩ v).heap[k]? = if k = p then some (.cells (cs.setIfInBounds o v) T f) else w.heap[k]? := by
  by_cases e : k = p
  · subst e
    rw [if_pos rfl]
    unfold World.setCell
    simp [Array.getElem?_modify, h]
  · rw [if_neg e]
    exact Below.heap_setCell _ _ _ _ (by show k ≠ p; exact e)
/-- A cell of the reader's block is another one. -/
theorem Rd.turn {w : World} {B p : Nat} {toks : List Tk} {s s' : St} {tv ov bv dv tv' ov' bv' dv' : Value} {kvs : List Value} (h : Rd w B p toks s tv ov bv dv kvs) (o : Nat) (v : Value)
    (hc : (#[tv, .int .i64 (s.pl : Int), ov, bv, dv] : Array Value).setIfInBounds o v = #[tv', .int .i64 (s'.pl : Int), ov', bv', dv'])
    (ht : w.ownsRow 0 42 6 tv' toks.length (tksC toks)) (hs : w.ownsRow B 60 1 ov' s'.todo.length (s'.todo.reverse.map fnV)) (hb : w.ownsRow B 68 8 bv' s'.begun.length (bgsC s'.begun.reverse)) (hd : w.ownsRow B 107 7 dv' s'.done.length (dnsC s'.done kvs)) (hk : kvs.length = s'.done.length ∧ ∀ i (h : i < s'.done.length) (h' : i < kvs.length), ∃ n, Kr B n w kvs[i] s'.done[i].ks) :
    Rd (w.setCell ⟨p, o, none⟩ v) B p toks s' tv' ov' bv' dv' kvs := by
  have hh := setCell_heap (o := o) h.head v
  have hK : Kept (fun b => b = p) w (w.setCell ⟨p, o, none⟩ v) := (Kept.rfl _ w).setC (S := fun b => b = p) (fun _ => Eq.refl _) v
  have own : ∀ {b0 e z n : Nat} {u : Value} {xs : List Value}, ¬ e = 65 → w.ownsRow b0 e z u n xs → (w.setCell ⟨p, o, none⟩ v).ownsRow b0 e z u n xs := fun {b0 e z n u xs} hne ho => by
    refine ⟨ho.1, ho.2.imp id fun ⟨g, cap, cur, a1, a2, a3, a4⟩ => ⟨g, cap, cur, a1, a2, ?_, a4⟩⟩
    rw [hh g, if_neg (fun e' => by subst e'; rw [h.head] at a3; injection a3 with a3; injection a3 with _ a3; exact hne a3.symm)]
    exact a3
  refine ⟨?_, by rw [World.size_setCell]; exact h.low, own (by decide) ht, own (by decide) hs, own (by decide) hb, own (by decide) hd, hk.1, fun i h1 h2 => ?_⟩
  · rw [hh p, if_pos rfl, hc]
  · obtain ⟨n, hn⟩ := hk.2 i h1 h2
    refine ⟨n, hn.at fun b cs f e => ?_⟩
    rw [hh b, if_neg (fun e' => by subst e'; rw [h.head] at e; cases e)]
theorem KQ.turn {B p : Nat} {w w' : World} (h : KQ B p w w') (o : Nat) (v : Value) : KQ B p w (w'.setCell ⟨p, o, none⟩ v) := Kept.setC h (fun _ => .inl (Eq.refl _)) v
theorem Rd.setPl {w : World} {B p : Nat} {toks : List Tk} {s : St} {tv ov bv dv : Value} {kvs : List Value} (h : Rd w B p toks s tv ov bv dv kvs) (k : Nat) :
    Rd (w.setCell ⟨p, 1, none⟩ (.int .i64 (k : Int))) B p toks { s with pl := k } tv ov bv dv kvs := h.turn 1 _ rfl h.tok h.todo h.begun h.done h.kids
theorem skip93 {w : World} {B p : Nat} {toks : List Tk} {s : St} (h : RdS w B p toks s) (hj : s.pl ≤ 9000000000000000000) :
    Calls Tryz.prog 93 #[.pointer (some ⟨p, 0, none⟩)] w fun e w' => e = .returned (.tuple #[]) ∧ RdS w' B p toks { s with pl := s.pl + 1 } ∧ KQ B p w w' := by
  obtain ⟨tv, ov, bv, dv, kvs, h⟩ := h
  obtain ⟨c0, c1, c2, c3, c4, hp⟩ := h.cells
  have f1 := h.frz 1
  have HR := hid' (h.setPl (s.pl + 1))
  clear h
  go_enter Tryz.func93, Tryz.ntmps93
  go_wp2
  go_end0
  exact ⟨rfl, ⟨_, _, _, _, _, HR.out⟩, (KQ.rfl _ _ _).turn _ _⟩

end Go.Proofs.YtjeioblhpfogfaaGreatDoor
