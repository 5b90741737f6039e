/- The document's parser goes on behind what is wrong: how a plain program and it go side by side. -/
import Derived.Test.YtjeioblhpfogfaaGreatDoorX19
import Derived.Test.YtjeioblhpfogfaaGreatDoorX28
set_option linter.unusedVariables false
set_option linter.unusedSimpArgs false
set_option maxRecDepth 20000
set_option maxHeartbeats 8000000
namespace Go.Proofs.YtjeioblhpfogfaaGreatDoor
open Go.RowKit

/-- Whatever a program comes to, another one comes to. -/
def Red (toks : List Tk) (g g' : Pg) : Prop := ∀ m r, runP toks m g' = some r → ∃ n, runP toks n g = some r
theorem Red.rfl {toks : List Tk} {g : Pg} : Red toks g g := fun m r h => ⟨m, h⟩
theorem Red.trans {toks : List Tk} {a b c : Pg} (h : Red toks a b) (k : Red toks b c) : Red toks a c := fun m r e => by
  obtain ⟨n, e⟩ := k m r e
  exact h n r e
theorem runP_ret {toks : List Tk} {n : Nat} {r : Rs} : runP toks n (.ret r) = some r := by cases n <;> rfl
theorem Red.call {toks : List Tk} {c : Pc} {k k1 : Nat} {ts : List Tr} {f : List Tr → Nat → Pg} (h : Red toks (body toks c k) (.back ts k1)) : Red toks (.call c k f) (f ts k1) := fun m r e => by
  obtain ⟨n, e1⟩ := h 0 _ runP_ret
  refine ⟨max n m + 1, ?_⟩
  show runP toks (max n m + 1) ⟨.ok (c, k, f)⟩ = _
  rw [runP, runP_more toks n _ _ e1 _ (by omega)]
  exact runP_more toks m _ _ e _ (by omega)
theorem Red.wrong {toks : List Tk} {c : Pc} {k : Nat} {q : Int} {f : List Tr → Nat → Pg} (h : Red toks (body toks c k) (.ret (.error q))) : Red toks (.call c k f) (.ret (.error q)) := fun m r e => by
  obtain ⟨n, e1⟩ := h 0 _ runP_ret
  refine ⟨n + 1, ?_⟩
  rw [runP_ret] at e
  injection e with e
  subst e
  show runP toks (n + 1) ⟨.ok (c, k, f)⟩ = _
  rw [runP, e1]
/-- What is to be said where the document's parser stands: it stood good or not at its beginning (b0, q0), and stands good or not (b, q); what is left is g. -/
structure At (toks : List Tk) (b0 : Bool) (q0 : Int) (g0 : Pg) (b : Bool) (q : Int) (g : Pg) : Prop where
  was : b0 = true → b = true ∧ q = q0
  bad : b0 = false → b = true → Red toks g0 (.ret (.error q))
  good : b0 = false → b = false → Red toks g0 g
theorem At.rfl {toks : List Tk} {b : Bool} {q : Int} {g : Pg} : At toks b q g b q g := ⟨fun h => ⟨h, Eq.refl _⟩, fun h1 h2 => (by rw [h1] at h2; cases h2), fun _ _ => Red.rfl⟩
theorem At.red {toks : List Tk} {b0 b : Bool} {q0 q : Int} {g0 g g' : Pg} (h : At toks b0 q0 g0 b q g) (hr : Red toks g g') : At toks b0 q0 g0 b q g' := ⟨h.was, h.bad, fun h1 h2 => (h.good h1 h2).trans hr⟩
/-- What is left does not matter where something was wrong. -/
theorem At.any {toks : List Tk} {b0 : Bool} {q0 q : Int} {g0 g g' : Pg} (h : At toks b0 q0 g0 true q g) : At toks b0 q0 g0 true q g' := ⟨h.was, h.bad, fun _ h2 => by cases h2⟩
theorem At.yes {toks : List Tk} {b0 b : Bool} {q0 q : Int} {g0 x y : Pg} {c : Prop} [Decidable c] (h : At toks b0 q0 g0 b q (if c then x else y)) (hc : c) : At toks b0 q0 g0 b q x := by rw [if_pos hc] at h; exact h
theorem At.not {toks : List Tk} {b0 b : Bool} {q0 q : Int} {g0 x y : Pg} {c : Prop} [Decidable c] (h : At toks b0 q0 g0 b q (if c then x else y)) (hc : ¬ c) : At toks b0 q0 g0 b q y := by rw [if_neg hc] at h; exact h
/-- What no makes of the place. -/
def noQ (toks : List Tk) (k : Nat) (b : Bool) (q : Int) : Int := if b = true then q else (tk toks k).pos
theorem At.no {toks : List Tk} {b0 b : Bool} {q0 q : Int} {g0 g : Pg} {k : Nat} (h : At toks b0 q0 g0 b q (.wrong toks k)) : At toks b0 q0 g0 true (noQ toks k b q) g := by
  unfold noQ
  refine ⟨fun h1 => ?_, fun h1 _ => ?_, fun _ h2 => by cases h2⟩
  · obtain ⟨e1, e2⟩ := h.was h1
    rw [if_pos e1]
    exact ⟨Eq.refl _, e2⟩
  · cases b with
    | true => rw [if_pos (Eq.refl _)]; exact h.bad h1 (Eq.refl _)
    | false => rw [if_neg (by simp)]; exact h.good h1 (Eq.refl _)
/-- What take comes to. -/
def takK (toks : List Tk) (s : ByteArray) (k : Nat) : Nat := if signAt toks k = s then k + 1 else k
def takB (toks : List Tk) (s : ByteArray) (k : Nat) (b : Bool) : Bool := if signAt toks k = s then b else true
def takQ (toks : List Tk) (s : ByteArray) (k : Nat) (b : Bool) (q : Int) : Int := if signAt toks k = s then q else noQ toks k b q
theorem At.take {toks : List Tk} {b0 b : Bool} {q0 q : Int} {g0 : Pg} {k : Nat} {s : ByteArray} {f : Nat → Pg} (h : At toks b0 q0 g0 b q (eat toks s k f)) : At toks b0 q0 g0 (takB toks s k b) (takQ toks s k b q) (f (takK toks s k)) := by
  unfold takK takB takQ
  unfold eat at h
  by_cases hc : signAt toks k = s
  · rw [if_pos hc] at h
    rw [if_pos hc, if_pos hc, if_pos hc]
    exact h
  · rw [if_neg hc] at h
    rw [if_neg hc, if_neg hc, if_neg hc]
    exact h.no
/-- What a piece of the document's parser comes to. -/
structure OutD (toks : List Tk) (c : Pc) (k : Nat) (b : Bool) (q : Int) (k' : Nat) (b' : Bool) (q' : Int) (ts : List Tr) : Prop where
  le : k ≤ k'
  at_ : At toks b q (body toks c k) b' q' (.back ts k')
theorem At.call {toks : List Tk} {b0 b b' : Bool} {q0 q q' : Int} {g0 : Pg} {c : Pc} {k k' : Nat} {ts : List Tr} {f : List Tr → Nat → Pg} (h : At toks b0 q0 g0 b q (.call c k f)) (o : OutD toks c k b q k' b' q' ts) : At toks b0 q0 g0 b' q' (f ts k') := by
  refine ⟨fun h1 => ?_, fun h1 h2 => ?_, fun h1 h2 => ?_⟩
  · obtain ⟨e1, e2⟩ := h.was h1
    obtain ⟨e3, e4⟩ := o.at_.was e1
    exact ⟨e3, e4.trans e2⟩
  · cases b with
    | true =>
      obtain ⟨e3, e4⟩ := o.at_.was (Eq.refl _)
      rw [e4]
      exact h.bad h1 (Eq.refl _)
    | false => exact (h.good h1 (Eq.refl _)).trans (Red.wrong (o.at_.bad (Eq.refl _) h2))
  · cases b with
    | true =>
      obtain ⟨e3, e4⟩ := o.at_.was (Eq.refl _)
      rw [h2] at e3
      cases e3
    | false => exact (h.good h1 (Eq.refl _)).trans (Red.call (o.at_.good (Eq.refl _) h2))
/-- A call at a program's end. -/
theorem At.last {toks : List Tk} {b0 b : Bool} {q0 q : Int} {g0 : Pg} {c : Pc} {k : Nat} (h : At toks b0 q0 g0 b q (.call c k .back)) : At toks b0 q0 g0 b q (body toks c k) := by
  refine h.red fun m r e => ?_
  refine ⟨m + 1, ?_⟩
  show runP toks (m + 1) ⟨.ok (c, k, .back)⟩ = _
  rw [runP, e]
  cases r with
  | error q => rfl
  | ok r =>
    obtain ⟨ts, k1⟩ := r
    exact runP_ret
/-- A good end goes on. -/
theorem OutD.on {toks : List Tk} (hT : TokOk toks) {c : Pc} {k k' : Nat} {b b' : Bool} {q q' : Int} {ts : List Tr} (o : OutD toks c k b q k' b' q' ts) (hc : okP c) (hk : k < toks.length) (hb : b' = false) : k + loP c ≤ k' := by
  cases b with
  | true =>
    have := (o.at_.was (Eq.refl _)).1
    rw [hb] at this
    cases this
  | false =>
    obtain ⟨n, e⟩ := o.at_.good (Eq.refl _) hb 0 _ runP_ret
    exact (adv hT n c k hc hk ts k' e).1
end Go.Proofs.YtjeioblhpfogfaaGreatDoor
namespace Go.Proofs.YtjeioblhpfogfaaGreatDoor
open Go.RowKit

theorem row_tok {w : World} {toks : List Tk} {tv : Value} (ho : w.ownsRow 0 42 6 tv toks.length (tksC toks)) (i : Nat) (hi : i < toks.length) :
    ∃ g cap, tv = .slice (some ⟨g, 0, none⟩) toks.length cap ∧ toks.length ≤ cap ∧ w.cell? ⟨g, i * 6, none⟩ = some (.int .i64 toks[i].kind) ∧ w.cell? ⟨g, i * 6 + 1, none⟩ = some (.string toks[i].text) ∧ w.cell? ⟨g, i * 6 + 2, none⟩ = some (.int .u32 toks[i].num) ∧ w.cell? ⟨g, i * 6 + 3, none⟩ = some (.bool toks[i].uns) ∧ w.cell? ⟨g, i * 6 + 4, none⟩ = some (.int .i64 toks[i].pos) ∧ w.cell? ⟨g, i * 6 + 5, none⟩ = some (.int .i64 toks[i].fin) := by
  have ho2 := ho
  obtain ⟨hlen, ⟨_, e⟩ | ⟨g, cap, cur, e, hg, hh, hn, hm, hs, ht⟩⟩ := ho2
  · omega
  refine ⟨g, cap, e, hn, ?_⟩
  have hc : ∀ j, j < 6 → ∀ u, (tkC toks[i])[j]? = some u → w.cell? ⟨g, i * 6 + j, none⟩ = some u := fun j hj u hu => by
    have := ho.cells (g := g) (by rw [e]; rfl) (i * 6 + j) u (by rw [tksC_at _ _ _ hi hj]; exact hu)
    rwa [Addr.add_lit, Nat.zero_add] at this
  exact ⟨hc 0 (by omega) _ rfl, hc 1 (by omega) _ rfl, hc 2 (by omega) _ rfl, hc 3 (by omega) _ rfl, hc 4 (by omega) _ rfl, hc 5 (by omega) _ rfl⟩
/-- Nothing but the reader's block has turned. -/
def Kp (p : Nat) (w w' : World) : Prop := Kept (fun b => b = p) w w'
theorem Kp.rfl (p : Nat) (w : World) : Kp p w w := Kept.rfl _ _
theorem Kp.trans {p : Nat} {a b c : World} (h : Kp p a b) (k : Kp p b c) : Kp p a c := Kept.trans h k
theorem Kp.of_below {p : Nat} {w w' : World} (h : Below w.heap.size w w') : Kp p w w' := Kept.of_below h
theorem Kp.alloc {p : Nat} {w w' : World} (h : Kp p w w') (o : Obj) : Kp p w (w'.alloc o) := Kept.alloc h o
theorem Kp.drew {p : Nat} {w w' : World} (h : Kp p w w') : Kp p w w'.drew := Kept.drew h
theorem Kp.turn {p : Nat} {w w' : World} (h : Kp p w w') (o : Nat) (v : Value) : Kp p w (w'.setCell ⟨p, o, none⟩ v) := Kept.setC h (fun _ => Eq.refl _) v
/-- The document's reader. -/
structure RS (w : World) (p : Nat) (toks : List Tk) (tv : Value) (k : Nat) (b : Bool) (q : Int) : Prop where
  head : w.heap[p]? = some (.cells #[tv, .int .i64 (k : Int), .bool b, .int .i64 q] 49 (0, 0))
  tok : w.ownsRow 0 42 6 tv toks.length (tksC toks)
  at_ : k < toks.length
  few : toks.length ≤ 1000000
theorem RS.cells {w : World} {p k : Nat} {toks : List Tk} {tv : Value} {b : Bool} {q : Int} (h : RS w p toks tv k b q) :
    w.cell? ⟨p, 0, none⟩ = some tv ∧ w.cell? ⟨p, 1, none⟩ = some (.int .i64 (k : Int)) ∧ w.cell? ⟨p, 2, none⟩ = some (.bool b) ∧ w.cell? ⟨p, 3, none⟩ = some (.int .i64 q) ∧ p < w.heap.size := by
  have h0 := h.head
  refine ⟨?_, ?_, ?_, ?_, lt_of_heap h0⟩ <;> rw [cell_of_row w p _ _ _ _ h0] <;> rfl
theorem RS.frz {w : World} {p k : Nat} {toks : List Tk} {tv : Value} {b : Bool} {q : Int} (h : RS w p toks tv k b q) (o : Nat) : w.frozen? ⟨p, o, none⟩ = false := by
  simp [World.frozen?, h.head]
theorem RS.below {w w' : World} {p k : Nat} {toks : List Tk} {tv : Value} {b : Bool} {q : Int} (h : RS w p toks tv k b q) (hb : Below w.heap.size w w') : RS w' p toks tv k b q :=
  ⟨(hb.block p (lt_of_heap h.head)).trans h.head, owns_below h.tok hb, h.at_, h.few⟩
theorem RS.alloc {w : World} {p k : Nat} {toks : List Tk} {tv : Value} {b : Bool} {q : Int} (h : RS w p toks tv k b q) (o : Obj) : RS (w.alloc o) p toks tv k b q := h.below (below1 w o)
theorem RS.drew {w : World} {p k : Nat} {toks : List Tk} {tv : Value} {b : Bool} {q : Int} (h : RS w p toks tv k b q) : RS w.drew p toks tv k b q := h.below ((Below.refl _ _).drew)
theorem RS.own {w w' : World} {p k : Nat} {toks : List Tk} {tv : Value} {b : Bool} {q : Int} (h : RS w p toks tv k b q) (hk : Kp p w w') : w'.ownsRow 0 42 6 tv toks.length (tksC toks) := by
  have ho := h.tok
  refine ⟨ho.1, ho.2.imp id fun ⟨g, cap, cur, a1, a2, a3, a4⟩ => ⟨g, cap, cur, a1, a2, ?_, a4⟩⟩
  rw [hk.block g (lt_of_heap a3) (fun e' => by subst e'; rw [h.head] at a3; cases a3)]
  exact a3
/-- A cell of the reader's block is another one. -/
theorem RS.turn {w : World} {p k k' : Nat} {toks : List Tk} {tv : Value} {b b' : Bool} {q q' : Int} (h : RS w p toks tv k b q) (o : Nat) (v : Value)
    (hc : (#[tv, .int .i64 (k : Int), .bool b, .int .i64 q] : Array Value).setIfInBounds o v = #[tv, .int .i64 (k' : Int), .bool b', .int .i64 q']) (hk : k' < toks.length) : RS (w.setCell ⟨p, o, none⟩ v) p toks tv k' b' q' := by
  refine ⟨?_, h.own ((Kp.rfl p w).turn o v), hk, h.few⟩
  rw [setCell_heap h.head v p, if_pos rfl, hc]
/-- A box of a node. -/
def Bx (w : World) (bx : Nat) (x : NdH) (kv : Value) : Prop := w.heap[bx]? = some (.cells #[.int .i64 x.kind, .string x.str, .int .u32 x.num, .bool x.flag, kv, .int .i64 x.pos] 25 (0, 0))
theorem Bx.six {w : World} {bx : Nat} {x : NdH} {kv : Value} (h : Bx w bx x kv) : w.cell? ⟨bx, 0, none⟩ = some (.int .i64 x.kind) ∧ w.cell? ⟨bx, 1, none⟩ = some (.string x.str) ∧ w.cell? ⟨bx, 2, none⟩ = some (.int .u32 x.num) ∧ w.cell? ⟨bx, 3, none⟩ = some (.bool x.flag) ∧ w.cell? ⟨bx, 4, none⟩ = some kv ∧ w.cell? ⟨bx, 5, none⟩ = some (.int .i64 x.pos) ∧ (∀ o, w.frozen? ⟨bx, o, none⟩ = false) ∧ bx < w.heap.size := box_six h
theorem Bx.below {w w' : World} {bx : Nat} {x : NdH} {kv : Value} (h : Bx w bx x kv) (hb : Below w.heap.size w w') : Bx w' bx x kv := (hb.block bx (lt_of_heap h)).trans h
theorem Bx.alloc {w : World} {bx : Nat} {x : NdH} {kv : Value} (h : Bx w bx x kv) (o : Obj) : Bx (w.alloc o) bx x kv := h.below (below1 w o)
theorem Bx.kp {w w' : World} {p k bx : Nat} {x : NdH} {kv : Value} {toks : List Tk} {tv : Value} {b : Bool} {q : Int} (h : Bx w bx x kv) (hr : RS w p toks tv k b q) (hk : Kp p w w') : Bx w' bx x kv :=
  (hk.block bx (lt_of_heap h) (fun e' => by subst e'; have h0 := hr.head; unfold Bx at h; rw [h] at h0; cases h0)).trans h
theorem Bx.new (w : World) (x : NdH) (kv : Value) : Bx (w.alloc (.cells #[.int .i64 x.kind, .string x.str, .int .u32 x.num, .bool x.flag, kv, .int .i64 x.pos] 25)) w.heap.size x kv := heap_alloc_new w _

theorem now21 {w : World} {p k : Nat} {toks : List Tk} {tv : Value} {b : Bool} {q : Int} (h : RS w p toks tv k b q) :
    Calls Tryz.prog 21 #[.pointer (some ⟨p, 0, none⟩)] w fun e w' => e = .returned (.agg #[.int .i64 (tk toks k).kind, .string (tk toks k).text, .int .u32 (tk toks k).num, .bool (tk toks k).uns, .int .i64 (tk toks k).pos, .int .i64 (tk toks k).fin]) ∧ Below w.heap.size w w' := by
  have hl := h.at_
  obtain ⟨g, cap, rfl, hcap, t0, t1, t2, t3, t4, t5⟩ := row_tok h.tok k hl
  obtain ⟨c0, c1, c2, c3, hp⟩ := h.cells
  have hg : g < w.heap.size := (h.tok.lt g rfl).2
  have hx : tk toks k = toks[k] := by
    unfold tk
    rw [List.getElem?_eq_getElem hl]
    rfl
  obtain ⟨x, hx2⟩ : ∃ x, x = toks[k] := ⟨_, rfl⟩
  rw [hx]
  rw [← hx2] at t0 t1 t2 t3 t4 t5 ⊢
  clear h hx hx2
  go_enter Tryz.func21, Tryz.ntmps21
  go_wp2
  have hk1 : (k : Int) < toks.length := by omega
  refine region_quiet_tail (C := fun w' => ∃ n, w' = (w.alloc (.cells #[.int .i64 0, .string ⟨#[]⟩, .int .u32 0, .bool false, .int .i64 0, .int .i64 0] 42)).drewN n) 10 mixed (by kernel_rfl) ⟨1, rfl⟩ ?_
  simp only [List.take_succ_cons, List.take_zero, List.drop_succ_cons, List.drop_zero]
  repeat quiet_step (fail)
  refine wpQuiet_nil ?_
  rintro _ ⟨nq, rfl⟩
  go_wp2
  refine bodyPost_ret (v := .agg #[.int .i64 x.kind, .string x.text, .int .u32 x.num, .bool x.uns, .int .i64 x.pos, .int .i64 x.fin]) (by simp [results, Tryz.results21, go_sem]) rfl ⟨rfl, below_set6' (bdN (below1 _ _) _) (Nat.le_refl _) _ _ _ _ _ _⟩
theorem mark42 {w : World} {p k : Nat} {toks : List Tk} {tv : Value} {b : Bool} {q : Int} (s : ByteArray) (h : RS w p toks tv k b q) :
    Calls Tryz.prog 42 #[.pointer (some ⟨p, 0, none⟩), .string s] w fun e w' => e = .returned (.bool (decide ((tk toks k).kind = 4 ∧ (tk toks k).text = s))) ∧ Below w.heap.size w w' := by
  have HA : Hid (∀ W, Below w.heap.size w W → Calls Tryz.prog 21 #[.pointer (some ⟨p, 0, none⟩)] W fun e w' => e = .returned (.agg #[.int .i64 (tk toks k).kind, .string (tk toks k).text, .int .u32 (tk toks k).num, .bool (tk toks k).uns, .int .i64 (tk toks k).pos, .int .i64 (tk toks k).fin]) ∧ Below W.heap.size W w') := fun W hb => now21 (h.below hb)
  clear h
  generalize tk toks k = x at *
  obtain ⟨kd, tx, nm, un, ps, fi⟩ := x
  dsimp only at HA ⊢
  have hf0 := fld42_0
  have hf1 := fld42_1
  have e4 : (kd = 4 ∧ (kd == 4) = true) ∨ (¬ kd = 4 ∧ (kd == 4) = false) := by
    by_cases a : kd = 4
    · exact .inl ⟨a, by simp [a]⟩
    · exact .inr ⟨a, by simp [a]⟩
  rcases e4 with ⟨a, e4⟩ | ⟨a, e4⟩
  · subst a
    by_cases hs : tx = s
    · subst hs
      rw [show decide ((4 : Int) = 4 ∧ tx = tx) = true by simp]
      go_enter Tryz.func42, Tryz.ntmps42
      go_wp2_with (first
        | (go_at_call 21; (with_reducible refine (HA.out _ (hb1.out)).mono ?_); rintro e w2 ⟨rfl, hb⟩; have hb2 := hid' (below_on hb1.out hb); clear hb)
        | (go_at_call 21; (with_reducible refine (HA.out _ (Below.refl _ _)).mono ?_); rintro e w1 ⟨rfl, hb⟩; have hb1 := hid' hb; clear hb))
      go_ret
      exact ⟨rfl, hb2.out⟩
    · have hs1 := toList_ne hs
      rw [show decide ((4 : Int) = 4 ∧ tx = s) = false by simp [hs]]
      go_enter Tryz.func42, Tryz.ntmps42
      go_wp2_with (first
        | (go_at_call 21; (with_reducible refine (HA.out _ (hb1.out)).mono ?_); rintro e w2 ⟨rfl, hb⟩; have hb2 := hid' (below_on hb1.out hb); clear hb)
        | (go_at_call 21; (with_reducible refine (HA.out _ (Below.refl _ _)).mono ?_); rintro e w1 ⟨rfl, hb⟩; have hb1 := hid' hb; clear hb))
      go_ret
      exact ⟨rfl, hb2.out⟩
  · rw [show decide (kd = 4 ∧ tx = s) = false by simp [a]]
    go_enter Tryz.func42, Tryz.ntmps42
    go_wp2_with (go_at_call 21; (with_reducible refine (HA.out _ (Below.refl _ _)).mono ?_); rintro e w1 ⟨rfl, hb⟩; have hb1 := hid' hb; clear hb)
    go_ret
    exact ⟨rfl, hb1.out⟩
end Go.Proofs.YtjeioblhpfogfaaGreatDoor
namespace Go.Proofs.YtjeioblhpfogfaaGreatDoor
open Go.RowKit

theorem word125 {w : World} {p k : Nat} {toks : List Tk} {tv : Value} {b : Bool} {q : Int} (s : ByteArray) (h : RS w p toks tv k b q) :
    Calls Tryz.prog 125 #[.pointer (some ⟨p, 0, none⟩), .string s] w fun e w' => e = .returned (.bool (decide ((tk toks k).kind = 3 ∧ (tk toks k).text = s))) ∧ Below w.heap.size w w' := by
  have HA : Hid (∀ W, Below w.heap.size w W → Calls Tryz.prog 21 #[.pointer (some ⟨p, 0, none⟩)] W fun e w' => e = .returned (.agg #[.int .i64 (tk toks k).kind, .string (tk toks k).text, .int .u32 (tk toks k).num, .bool (tk toks k).uns, .int .i64 (tk toks k).pos, .int .i64 (tk toks k).fin]) ∧ Below W.heap.size W w') := fun W hb => now21 (h.below hb)
  clear h
  generalize tk toks k = x at *
  obtain ⟨kd, tx, nm, un, ps, fi⟩ := x
  dsimp only at HA ⊢
  have hf0 := fld42_0
  have hf1 := fld42_1
  have e4 : (kd = 3 ∧ (kd == 3) = true) ∨ (¬ kd = 3 ∧ (kd == 3) = false) := by
    by_cases a : kd = 3
    · exact .inl ⟨a, by simp [a]⟩
    · exact .inr ⟨a, by simp [a]⟩
  rcases e4 with ⟨a, e4⟩ | ⟨a, e4⟩
  · subst a
    by_cases hs : tx = s
    · subst hs
      rw [show decide ((3 : Int) = 3 ∧ tx = tx) = true by simp]
      go_enter Tryz.func125, Tryz.ntmps125
      go_wp2_with (first
        | (go_at_call 21; (with_reducible refine (HA.out _ (hb1.out)).mono ?_); rintro e w2 ⟨rfl, hb⟩; have hb2 := hid' (below_on hb1.out hb); clear hb)
        | (go_at_call 21; (with_reducible refine (HA.out _ (Below.refl _ _)).mono ?_); rintro e w1 ⟨rfl, hb⟩; have hb1 := hid' hb; clear hb))
      go_ret
      exact ⟨rfl, hb2.out⟩
    · have hs1 := toList_ne hs
      rw [show decide ((3 : Int) = 3 ∧ tx = s) = false by simp [hs]]
      go_enter Tryz.func125, Tryz.ntmps125
      go_wp2_with (first
        | (go_at_call 21; (with_reducible refine (HA.out _ (hb1.out)).mono ?_); rintro e w2 ⟨rfl, hb⟩; have hb2 := hid' (below_on hb1.out hb); clear hb)
        | (go_at_call 21; (with_reducible refine (HA.out _ (Below.refl _ _)).mono ?_); rintro e w1 ⟨rfl, hb⟩; have hb1 := hid' hb; clear hb))
      go_ret
      exact ⟨rfl, hb2.out⟩
  · rw [show decide (kd = 3 ∧ tx = s) = false by simp [a]]
    go_enter Tryz.func125, Tryz.ntmps125
    go_wp2_with (go_at_call 21; (with_reducible refine (HA.out _ (Below.refl _ _)).mono ?_); rintro e w1 ⟨rfl, hb⟩; have hb1 := hid' hb; clear hb)
    go_ret
    exact ⟨rfl, hb1.out⟩

theorem Kp.newBox {p : Nat} {w w' : World} {o : Obj} (hk : Kp p (w.alloc o) w') (hp : p < w.heap.size) : w'.heap[w.heap.size]? = some o :=
  (Kept.block hk w.heap.size (by simp) (Nat.ne_of_gt hp)).trans (heap_alloc_new w o)
/-- Does a text begin with a small letter? -/
def lowB (t : ByteArray) : Bool := match t.data.toList with
  | c :: _ => decide (97 ≤ c) && decide (c ≤ 122)
  | [] => false
/-- Words begin with a letter, marks don't. -/
structure TokW (toks : List Tk) : Prop where
  wd : ∀ k, (tk toks k).kind = 3 → lowB (tk toks k).text = true
  mrk : ∀ k, (tk toks k).kind = 4 → lowB (tk toks k).text = false
  en : ∀ k, (tk toks k).kind = 1 → (tk toks k).text = ⟨#[]⟩
  kds : ∀ k, 1 ≤ (tk toks k).kind ∧ (tk toks k).kind ≤ 7
theorem sign_of {toks : List Tk} {k : Nat} (h : k < toks.length) : signAt toks k = if (tk toks k).kind = 4 ∨ (tk toks k).kind = 3 then (tk toks k).text else ⟨#[]⟩ := by
  unfold signAt tk
  rw [List.getElem?_eq_getElem h]
  rfl
theorem mark_sign {toks : List Tk} {k : Nat} {s : ByteArray} (hW : TokW toks) (hk : k < toks.length) (hs : lowB s = false) (h0 : ¬ s = ⟨#[]⟩) : ((tk toks k).kind = 4 ∧ (tk toks k).text = s) ↔ signAt toks k = s := by
  rw [sign_of hk]
  constructor
  · rintro ⟨h1, h2⟩
    rw [if_pos (.inl h1), h2]
  · intro h
    split at h
    · rename_i h1
      rcases h1 with h1 | h1
      · exact ⟨h1, h⟩
      · have := hW.wd k h1
        rw [h, hs] at this
        cases this
    · exact absurd h.symm h0
theorem word_sign {toks : List Tk} {k : Nat} {s : ByteArray} (hW : TokW toks) (hk : k < toks.length) (hs : lowB s = true) : ((tk toks k).kind = 3 ∧ (tk toks k).text = s) ↔ signAt toks k = s := by
  have h0 : ¬ s = ⟨#[]⟩ := fun e => by rw [e] at hs; cases hs
  rw [sign_of hk]
  constructor
  · rintro ⟨h1, h2⟩
    rw [if_pos (.inr h1), h2]
  · intro h
    split at h
    · rename_i h1
      rcases h1 with h1 | h1
      · have := hW.mrk k h1
        rw [h, hs] at this
        cases this
      · exact ⟨h1, h⟩
    · exact absurd h.symm h0
theorem mark_is {w : World} {p k : Nat} {toks : List Tk} {tv : Value} {b : Bool} {q : Int} (s : ByteArray) (hW : TokW toks) (hs : lowB s = false) (h0 : ¬ s = ⟨#[]⟩) (h : RS w p toks tv k b q) :
    Calls Tryz.prog 42 #[.pointer (some ⟨p, 0, none⟩), .string s] w fun e w' => e = .returned (.bool (decide (signAt toks k = s))) ∧ Below w.heap.size w w' := by
  have := mark42 s h
  rwa [show decide ((tk toks k).kind = 4 ∧ (tk toks k).text = s) = decide (signAt toks k = s) from decide_eq_decide.2 (mark_sign hW h.at_ hs h0)] at this
theorem word_is {w : World} {p k : Nat} {toks : List Tk} {tv : Value} {b : Bool} {q : Int} (s : ByteArray) (hW : TokW toks) (hs : lowB s = true) (h : RS w p toks tv k b q) :
    Calls Tryz.prog 125 #[.pointer (some ⟨p, 0, none⟩), .string s] w fun e w' => e = .returned (.bool (decide (signAt toks k = s))) ∧ Below w.heap.size w w' := by
  have := word125 s h
  rwa [show decide ((tk toks k).kind = 3 ∧ (tk toks k).text = s) = decide (signAt toks k = s) from decide_eq_decide.2 (word_sign hW h.at_ hs)] at this
theorem next54 {w : World} {p k : Nat} {toks : List Tk} {tv : Value} {b : Bool} {q : Int} (h : RS w p toks tv k b q) (hn : k + 1 < toks.length) :
    Calls Tryz.prog 54 #[.pointer (some ⟨p, 0, none⟩)] w fun e w' => e = .returned (.tuple #[]) ∧ Kp p w w' ∧ RS w' p toks tv (k + 1) b q := by
  obtain ⟨c0, c1, c2, c3, hp⟩ := h.cells
  have f1 := h.frz 1
  obtain ⟨ao, cap, htv⟩ : ∃ ao cap, tv = .slice ao toks.length cap := by
    obtain ⟨_, ⟨e, e2⟩ | ⟨g, cap, cur, e, _⟩⟩ := h.tok
    · exact ⟨_, _, by rw [e, e2]⟩
    · exact ⟨_, _, e⟩
  have hfew := h.few
  have HR : Hid (∀ nq, RS ((w.drewN nq).setCell ⟨p, 1, none⟩ (.int .i64 ((k : Int) + 1))) p toks tv (k + 1) b q ∧ Kp p w ((w.drewN nq).setCell ⟨p, 1, none⟩ (.int .i64 ((k : Int) + 1)))) := fun nq => by
    have hb := bdN (Below.refl w.heap.size w) nq
    exact ⟨(h.below hb).turn 1 _ rfl hn, (Kp.of_below hb).turn _ _⟩
  subst htv
  have hl : (k : Int) + 1 < toks.length := by omega
  have hw1 : IntKind.i64.wrap ((k : Int) + 1) = (k : Int) + 1 := Go.IntWalk.i64_in _ (by omega)
  clear h
  go_enter Tryz.func54, Tryz.ntmps54
  go_wp2
  go_quiet (fail)
  have hc0 : (w.drewN nq).cell? ⟨p, 0, none⟩ = _ := c0
  have hc1 : (w.drewN nq).cell? ⟨p, 1, none⟩ = _ := c1
  have hf1 : (w.drewN nq).frozen? ⟨p, 1, none⟩ = _ := f1
  have hpW : p < (w.drewN nq).heap.size := hp
  have HR2 := hid' (HR.out nq)
  clear c0 c1 c2 c3 f1 hp HR
  generalize w.drewN nq = W at *
  go_wp2
  go_end0
  exact ⟨rfl, HR2.out.2, HR2.out.1⟩
theorem no47 {w : World} {p k : Nat} {toks : List Tk} {tv : Value} {b : Bool} {q : Int} (h : RS w p toks tv k b q) :
    Calls Tryz.prog 47 #[.pointer (some ⟨p, 0, none⟩)] w fun e w' => e = .returned (.tuple #[]) ∧ Kp p w w' ∧ RS w' p toks tv k true (noQ toks k b q) := by
  obtain ⟨c0, c1, c2, c3, hp⟩ := h.cells
  have f2 := h.frz 2
  have hl := hid' h.at_
  have hf4 := fld42_4
  cases b with
  | true =>
    have HR := hid' h
    clear h
    go_enter Tryz.func47, Tryz.ntmps47
    go_wp2
    go_end0
    exact ⟨rfl, Kp.rfl _ _, HR.out⟩
  | false =>
    have HR : Hid (RS (w.setCell ⟨p, 2, none⟩ (.bool true)) p toks tv k true q ∧ Kp p w (w.setCell ⟨p, 2, none⟩ (.bool true))) := ⟨h.turn 2 _ rfl h.at_, (Kp.rfl p w).turn _ _⟩
    clear h
    go_enter Tryz.func47, Tryz.ntmps47
    go_wp2_with (go_at_call 21; (with_reducible refine (now21 HR.out.1).mono ?_); rintro e w1 ⟨rfl, hb⟩; have H1 := hid' (HR.out.1.below hb); have K1 := hid' (HR.out.2.trans (Kp.of_below hb)); obtain ⟨d0, d1, d2, d3, dp⟩ := H1.out.cells; have df := H1.out.frz 3; clear hb)
    go_end0
    refine ⟨rfl, K1.out.turn _ _, H1.out.turn 3 _ ?_ hl.out⟩
    unfold noQ
    rfl
theorem take80 {w : World} {p k : Nat} {toks : List Tk} {tv : Value} {b : Bool} {q : Int} (s : ByteArray) (hW : TokW toks) (hT : TokOk toks) (hs : lowB s = false) (h0 : ¬ s = ⟨#[]⟩) (h : RS w p toks tv k b q) :
    Calls Tryz.prog 80 #[.pointer (some ⟨p, 0, none⟩), .string s] w fun e w' => e = .returned (.tuple #[]) ∧ Kp p w w' ∧ RS w' p toks tv (takK toks s k) (takB toks s k b) (takQ toks s k b q) := by
  have HA := mark_is s hW hs h0 h
  have HF := hid' h
  clear h
  unfold takK takB takQ
  by_cases hc : signAt toks k = s
  · rw [if_pos hc, if_pos hc, if_pos hc]
    have HN := hid' (hT.sign hc h0)
    rw [show decide (signAt toks k = s) = true by simp [hc]] at HA
    clear hc
    go_enter Tryz.func80, Tryz.ntmps80
    go_wp2_with (first
      | (go_at_call 42; (with_reducible refine HA.mono ?_); rintro e w1 ⟨rfl, hb⟩; have H1 := hid' (HF.out.below hb); have K1 := hid' (Kp.of_below (p := p) hb); clear hb)
      | (go_at_call 54; (with_reducible refine (next54 H1.out HN.out).mono ?_); rintro e w2 ⟨rfl, hk2, hr2⟩))
    go_end0
    exact ⟨rfl, K1.out.trans hk2, hr2⟩
  · rw [if_neg hc, if_neg hc, if_neg hc]
    rw [show decide (signAt toks k = s) = false by simp [hc]] at HA
    clear hc
    go_enter Tryz.func80, Tryz.ntmps80
    go_wp2_with (first
      | (go_at_call 42; (with_reducible refine HA.mono ?_); rintro e w1 ⟨rfl, hb⟩; have H1 := hid' (HF.out.below hb); have K1 := hid' (Kp.of_below (p := p) hb); clear hb)
      | (go_at_call 47; (with_reducible refine (no47 H1.out).mono ?_); rintro e w2 ⟨rfl, hk2, hr2⟩))
    go_end0
    exact ⟨rfl, K1.out.trans hk2, hr2⟩
/-- What named comes to. -/
def namK (toks : List Tk) (k : Nat) : Nat := if (tk toks k).kind = 2 then k + 1 else k
def namB (toks : List Tk) (k : Nat) (b : Bool) : Bool := if (tk toks k).kind = 2 then b else true
def namQ (toks : List Tk) (k : Nat) (b : Bool) (q : Int) : Int := if (tk toks k).kind = 2 then q else noQ toks k b q
def namT (toks : List Tk) (k : Nat) : ByteArray := if (tk toks k).kind = 2 then (tk toks k).text else ⟨#[]⟩
theorem At.nam {toks : List Tk} {b0 b : Bool} {q0 q : Int} {g0 : Pg} {k : Nat} {f : ByteArray → Nat → Pg} (h : At toks b0 q0 g0 b q (nam toks k f)) : At toks b0 q0 g0 (namB toks k b) (namQ toks k b q) (f (namT toks k) (namK toks k)) := by
  unfold namK namB namQ namT
  unfold Go.Proofs.YtjeioblhpfogfaaGreatDoor.nam at h
  by_cases hc : (tk toks k).kind = 2
  · rw [if_pos hc] at h
    rw [if_pos hc, if_pos hc, if_pos hc, if_pos hc]
    exact h
  · rw [if_neg hc] at h
    rw [if_neg hc, if_neg hc, if_neg hc, if_neg hc]
    exact h.no
theorem named44 {w : World} {p k : Nat} {toks : List Tk} {tv : Value} {b : Bool} {q : Int} (hT : TokOk toks) (h : RS w p toks tv k b q) :
    Calls Tryz.prog 44 #[.pointer (some ⟨p, 0, none⟩)] w fun e w' => e = .returned (.string (namT toks k)) ∧ Kp p w w' ∧ RS w' p toks tv (namK toks k) (namB toks k b) (namQ toks k b q) := by
  have HA := now21 h
  have HF := hid' h
  have HN : Hid ((tk toks k).kind = 2 → k + 1 < toks.length) := fun e => hT.next _ h.at_ (by rw [e]; decide)
  clear h
  unfold namK namB namQ namT
  obtain ⟨q2, hq2⟩ : ∃ q2, noQ toks k b q = q2 := ⟨_, rfl⟩
  have HQ := hid' hq2
  rw [hq2]
  clear hq2
  generalize hx : tk toks k = x at HA HN ⊢
  have HX := hid' hx
  clear hx
  obtain ⟨kd, tx, nm, un, ps, fi⟩ := x
  dsimp only at HA HN ⊢
  by_cases hc : kd = 2
  · subst hc
    have HN2 := hid' (HN.out rfl)
    clear HN
    rw [if_pos rfl, if_pos rfl, if_pos rfl, if_pos rfl]
    go_enter Tryz.func44, Tryz.ntmps44
    go_wp2_with (first
      | (go_at_call 21; (with_reducible refine HA.mono ?_); rintro e w1 ⟨rfl, hb⟩; have H1 := hid' (HF.out.below hb); have K1 := hid' (Kp.of_below (p := p) hb); clear hb)
      | (go_at_call 54; (with_reducible refine (next54 (H1.out.alloc _) HN2.out).mono ?_); rintro e w2 ⟨rfl, hk2, hr2⟩; have hx4 := hid' (hk2.newBox (lt_of_heap H1.out.head)); obtain ⟨l0, l1, l2, l3, l4, l5, lf, ll⟩ := box_six hx4.out; have H2 := hid' hr2; have K2 := hid' ((K1.out.alloc _).trans hk2); clear hk2 hr2))
    go_ret
    exact ⟨rfl, K2.out, H2.out⟩
  · rw [if_neg hc, if_neg hc, if_neg hc, if_neg hc]
    have hc' : (kd != 2) = true := by simp [hc]
    go_enter Tryz.func44, Tryz.ntmps44
    go_wp2_with (first
      | (go_at_call 21; (with_reducible refine HA.mono ?_); rintro e w1 ⟨rfl, hb⟩; have H1 := hid' (HF.out.below hb); have K1 := hid' (Kp.of_below (p := p) hb); clear hb)
      | (go_at_call 47; (with_reducible refine (no47 (H1.out.alloc _)).mono ?_); rintro e w2 ⟨rfl, hk2, hr2⟩; have H2 := hid' hr2; have K2 := hid' ((K1.out.alloc _).trans hk2); clear hk2 hr2))
    go_ret
    have h2 := H2.out
    rw [HQ.out] at h2
    exact ⟨rfl, K2.out, h2⟩
end Go.Proofs.YtjeioblhpfogfaaGreatDoor
