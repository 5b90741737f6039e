/- call: what is handed on lies in an array of its own. -/
import Derived.Test.YtiehlkhpblldaaaH15
import Derived.Test.YtiehlkhpblldaaaH16
import Derived.Test.YtiehlkhpblldaaaH17
import Derived.Test.YtiehlkhpblldaaaH19
import Derived.Test.YtiehlkhpblldaaaH21
import Derived.Test.YtiehlkhpblldaaaH24
import Derived.Test.YtiehlkhpblldaaaH32
import Derived.Test.YtiehlkhpblldaaaH33
import Derived.Test.YtiehlkhpblldaaaH34
import Derived.Deep.AppendSrc
import Derived.Laws.BytesArg
set_option linter.unusedVariables false
set_option linter.unusedSimpArgs false
set_option maxRecDepth 20000
set_option maxHeartbeats 8000000
namespace Go.Proofs.Ytiehlkhpblldaaa
open Go.RowKit Go.Maps
section
variable {C : Cst} {W0 W W' : World} {r : Nat} {s s' : St} {x : Vs} {t : Tp}
/-- The array has other cells. -/
theorem RunM.roomW (h : RunM C W0 r W s x t) {g : Nat} {cur cs : Array Value} {fr : Nat × Nat} (hb : W.heap[g]? = some (.cells cur 134 fr)) (hB : W0.heap.size ≤ g) (K : Kept (fun k => k = g) W W') (hc : W'.heap[g]? = some (.cells cs 134 (0, 0))) : RunM { C with room := some (g, cs) } W0 r W' s x t := by
  have q := h.rows
  refine ⟨⟨q.below.trans (K.below q.below.size (fun k e => by omega)), q.pg, q.sv, q.svl, own_ty q.bs hb (by decide) K, fun i l hi => own_ty (q.bk i l hi) hb (by decide) K, q.bi, own_ty q.hs hb (by decide) K, own_ty q.gs hb (by decide) K, own_ty q.ks hb (by decide) K, own_ty q.os hb (by decide) K, q.gk, q.go, q.ko, own_ty q.cs hb (by decide) K, own_ty q.xs hb (by decide) K, ?_⟩, h.rr, ?_⟩
  · intro g' cs' e
    injection e with e
    injection e with e1 e2
    subst e1 e2
    exact hc
  · refine (K.block r h.lt (fun e => ?_)).trans h.rc
    subst e
    have := h.rc
    rw [hb] at this
    injection this with this
    injection this with _ h2
    exact absurd h2 (by decide)
theorem RunM.noRoom {q : Option (Nat × Array Value)} (h : RunM { C with room := q } W0 r W s x t) (hC : C.room = none) : RunM C W0 r W s x t :=
  have q := h.rows
  ⟨⟨q.below, q.pg, q.sv, q.svl, q.bs, q.bk, q.bi, q.hs, q.gs, q.ks, q.os, q.gk, q.go, q.ko, q.cs, q.xs, fun g cs e => by rw [hC] at e; cases e⟩, h.rr, h.rc⟩
theorem Top.roomC {c : Cl} {l : List Rg} {q : Option (Nat × Array Value)} (T : Top C s x t c l) : Top { C with room := q } s x t c l := ⟨T.last, T.tt, T.fn, T.tf, T.bank, T.tb⟩
theorem Top.noRoom {c : Cl} {l : List Rg} {q : Option (Nat × Array Value)} (T : Top { C with room := q } s x t c l) : Top C s x t c l := ⟨T.last, T.tt, T.fn, T.tf, T.bank, T.tb⟩
theorem inf79 : (Try.prog.info? 79).map (fun i => (i.zero, i.size, i.bytes)) = some (some (.int .u32 0), 1, 4) := by kernel_rfl
/-- One more lies in the array. -/
theorem room_append {w : World} {g k a : Nat} {cs : Array Value} {v : Int} (hg : w.heap[g]? = some (.cells cs 134 (0, 0))) (hk : k < cs.size) (h12 : k + 1 ≤ 12) (ha : w.cell? ⟨a, 0, none⟩ = some (.int .u32 v)) (ty : TypeId) :
    (Builtin.append_ #[70, 70] ty #[.slice (some ⟨g, 0, none⟩) k 12, .slice (some ⟨a, 0, none⟩) 1 1]).run Try.prog w = .ok (.slice (some ⟨g, 0, none⟩) (k + 1) 12) (w.setCell ⟨g, k, none⟩ (.int .u32 v)) := by
  obtain ⟨i, hi, hzz⟩ := Option.map_eq_some_iff.1 inf79
  simp only [Prod.mk.injEq] at hzz
  obtain ⟨_, hs1, _⟩ := hzz
  have hsrc : _root_.Go.Src Try.prog i.size 70 (.slice (some ⟨a, 0, none⟩) 1 1) 1 [.int .u32 v] w := _root_.Go.Src.ofSlice w Try.underlying70 ⟨a, 0, none⟩ 1 1 [.int .u32 v] (by rw [hs1]; rfl) (fun j u hj => by
    match j with
    | 0 => simp at hj; subst hj; exact ha
    | j + 1 => simp at hj) (fun u hu => by simp at hu; subst hu; rfl)
  have := run_append_room_src w 70 70 ty 79 i Try.underlying70 hi g 0 k 12 _ 1 _ hsrc h12 (fun j hj => by
    simp at hj
    subst hj
    rw [hs1, cell_of_row w g _ _ 134 (0, 0) hg]
    simp [hk]) (fun j hj => by exact frozen_of_row w g _ _ 134 hg)
  rw [this, hs1]
  simp [World.setCells]
set_option maxHeartbeats 20000000 in
theorem call51 {c : Cl} {l : List Rg} {b o n : Nat} {i : In} {R : Ending → World → Prop} (h : RunM C W0 r W s x t) (T : Top C s x t c l) (hI : InAt W0 b o i) (hn : i.imm = n) (hlen : i.args.length ≤ 12) (ha : ∀ k (hk : k < i.args.length), 0 ≤ i.args[k] ∧ i.args[k] < l.length)
    (h17 : ∀ w g cs, RunM { C with room := some (g, cs) } W0 r w s x t → (∀ j (hj : j < i.args.length), cs[j]? = some (.int .u32 (getR l i.args[j].toNat c.no))) → Calls Try.prog 17 #[.pointer (some ⟨r, 0, none⟩), .int .i64 n, .slice (some ⟨g, 0, none⟩) i.args.length 12] w fun e w' => e = .returned (.tuple #[]) ∧ R e w') :
    Calls Try.prog 51 #[.pointer (some ⟨r, 0, none⟩), .pointer (some ⟨b, o, none⟩)] W fun e w' => e = .returned (.tuple #[]) ∧ R e w' := by
  have H := hid' h
  have HT := hid' T
  have HI := hid' hI
  have H17 := hid' h17
  have HA := hid' ha
  have hi2 := hI.2.2.hi
  rw [hn] at hi2
  obtain ⟨ao, acap, eav⟩ := hI.2.2.a.len
  have hw0 : b < W.heap.size := Nat.lt_of_lt_of_le hI.1 h.rows.below.size
  have hy : ∀ w', Below W.heap.size W w' → w'.cell? ⟨b, o + 2, none⟩ = some (.slice ao i.args.length acap) ∧ w'.cell? ⟨b, o + 3, none⟩ = some (.int .i32 n) := fun w' hb => by
    have := in_cells (HI.out.2.1 w' (below_on H.out.rows.below hb H.out.rows.below.size))
    rw [← eav, ← hn]
    exact ⟨this.2.2.1, this.2.2.2.1⟩
  have HY := hid' hy
  have y2 : W.cell? ⟨b, o + 2, none⟩ = some (.slice ao i.args.length acap) := (hy W (Below.refl _ _)).1
  clear h T hI h17 ha hy
  go_enter Try.func51, Try.ntmps51
  go_wp2
  have hz : ∀ j : Nat, ¬ j < 0 := fun j => Nat.not_lt_zero j
  have H0 : Hid (RunM { C with room := some (W.heap.size, #[.int .u32 0, .int .u32 0, .int .u32 0, .int .u32 0, .int .u32 0, .int .u32 0, .int .u32 0, .int .u32 0, .int .u32 0, .int .u32 0, .int .u32 0, .int .u32 0]) } W0 r (W.alloc (.cells #[.int .u32 0, .int .u32 0, .int .u32 0, .int .u32 0, .int .u32 0, .int .u32 0, .int .u32 0, .int .u32 0, .int .u32 0, .int .u32 0, .int .u32 0, .int .u32 0] 134)) s x t) := (H.out.on (below1 _ _)).roomW (heap_alloc_new _ _) H.out.rows.below.size (Kept.rfl _ _) (heap_alloc_new _ _)
  have HB0 := hid' (below1 W (.cells #[.int .u32 0, .int .u32 0, .int .u32 0, .int .u32 0, .int .u32 0, .int .u32 0, .int .u32 0, .int .u32 0, .int .u32 0, .int .u32 0, .int .u32 0, .int .u32 0] 134))
  have hg0 : (W.alloc (.cells #[.int .u32 0, .int .u32 0, .int .u32 0, .int .u32 0, .int .u32 0, .int .u32 0, .int .u32 0, .int .u32 0, .int .u32 0, .int .u32 0, .int .u32 0, .int .u32 0] 134)).heap.size = W.heap.size + 1 := by simp
  generalize W.alloc (.cells #[.int .u32 0, .int .u32 0, .int .u32 0, .int .u32 0, .int .u32 0, .int .u32 0, .int .u32 0, .int .u32 0, .int .u32 0, .int .u32 0, .int .u32 0, .int .u32 0] 134) = W1 at *
  have HG : Hid (W.heap.size ≥ W0.heap.size) := H.out.rows.below.size
  have hlen2 : (0 : Int) ≤ i.args.length := by omega
  go_loopw [5, 14] (fun v i' wr => ∃ (k : Nat) (cs : Array Value), k ≤ i.args.length ∧ i' = .int .i64 k ∧ v = .slice (some ⟨W.heap.size, 0, none⟩) k 12 ∧ cs.size = 12 ∧ (∀ j (hj : j < i.args.length), j < k → cs[j]? = some (.int .u32 (getR l i.args[j].toNat c.no))) ∧ RunM { C with room := some (W.heap.size, cs) } W0 r wr s x t ∧ Below W.heap.size W wr) (fun _ i' _ => i.args.length - (intOf i').toNat)
  case atStart => exact ⟨0, _, Nat.zero_le _, rfl, rfl, rfl, fun j _ h => absurd h (hz j), H0.out, HB0.out⟩
  case round =>
    obtain ⟨k, cs, hkN, rfl, rfl, hcs, hlay, hR, hB⟩ := hrel
    have HR := hid' hR
    have HBW := hid' hB
    have HL := hid' hlay
    clear hR hB hlay y2
    by_cases hk : k < i.args.length
    · obtain ⟨ab, ao', cap', eav', hab, hcap, hcell⟩ := args_at HI.out hk
      rw [eav] at eav'
      injection eav' with e1 e2 e3
      subst e1 e3
      have a1 : wr.cell? ⟨ab, ao' + k, none⟩ = some (.int .i64 i.args[k]) := hcell wr (HR.out.rows.below) k hk
      obtain ⟨m, hm⟩ : ∃ m : Nat, i.args[k] = m := ⟨i.args[k].toNat, by have := HA.out k hk; omega⟩
      have hml : m < l.length := by have := HA.out k hk; omega
      rw [hm] at a1
      have h46 := get46 HR.out HT.out.roomC hml
      have HM : Hid (i.args[k].toNat = m) := by unfold Hid; rw [hm]; rfl
      have hki : (k : Int) < i.args.length := by omega
      have hk12 : (k : Int) < 12 := by omega
      have hkb : (k : Int) < acap := by omega
      clear hcell
      generalize hgv : getR l m c.no = gv at *
      go_wp2_with (first
        | (go_at_call 46; refine h46.mono ?_; rintro e1 w1 ⟨rfl, hb1⟩; have HB1 := hid' hb1; have h1 := (HR.out.on hb1).on (below1 w1 (.cells #[.int .u32 gv] 79)); have hrun := fun ty => room_append (h1.rows.rm _ _ rfl) (k := k) (a := w1.heap.size) (v := gv) (by omega) (by omega) (by rw [cell_of_row _ _ _ _ 79 (0, 0) (heap_alloc_new _ _)]; rfl) ty; have H1 := hid' h1; clear h1 hb1)
        | (at_builtin; refine wpList_append_run rfl _ _ rfl _ _ _ rfl rfl (hrun _) ?_; clear hrun))
      refine ⟨⟨k + 1, cs.setIfInBounds k (.int .u32 gv), by omega, by go_num, rfl, by simpa using hcs, ?_, ?_, ?_⟩, ?_⟩
      · intro j hj hjk
        by_cases e : j = k
        · subst e
          rw [HM.out, hgv, Array.getElem?_setIfInBounds_self_of_lt (by omega)]
        · rw [Array.getElem?_setIfInBounds_ne (by omega)]
          exact HL.out j hj (by omega)
      · exact H1.out.roomW (H1.out.rows.rm _ _ rfl) HG.out (setK _ _ _ _) (heap_setCell_same _ _ _ _ 134 _ (H1.out.rows.rm _ _ rfl))
      · have b1 : Below W.heap.size W w1 := below_up HBW.out HB1.out
        have b2 : Below W.heap.size W (w1.alloc (.cells #[.int .u32 gv] 79)) := b1.alloc b1.size _
        exact b2.trans ((setK _ _ _ _).below b2.size (fun q e => by omega))
      · simp [intOf]; omega
    · have e : k = i.args.length := by omega
      subst e
      have y3 := (HY.out wr HBW.out).2
      have h17 := H17.out wr _ cs HR.out (fun j hj => HL.out j hj hj)
      have hwn : IntKind.i64.wrap (n : Int) = n := by simp [IntKind.wrap, IntKind.bits, IntKind.signed]; omega
      go_wp2_with (go_at_call 17; refine h17.mono ?_; rintro e1 w1 ⟨rfl, hRR⟩)
      go_end0
      exact ⟨rfl, hRR⟩
end
end Go.Proofs.Ytiehlkhpblldaaa
namespace Go.Proofs.Ytiehlkhpblldaaa
open Go.RowKit Go.Maps
section
variable {C : Cst} {W0 W W' : World} {r : Nat} {s s' : St} {x : Vs} {t : Tp} {c : Cl} {l : List Rg}
/-- What a part of a step leaves in memory. -/
def Mem (C : Cst) (W0 : World) (r : Nat) (S : St) (e : Ending) (w' : World) : Prop := ∃ x' t', RunM C W0 r w' S x' t' ∧ (S.kind = 0 → ∃ c' l', Top C S x' t' c' l')
theorem fn_is {n : Nat} (h : n < C.p.funcs.length) : C.p.funcs[n] = fnOf C n := by unfold fnOf; simp [List.getD, h]
theorem bl_is {n k : Nat} (h : n < C.p.funcs.length) (hk : k < (C.p.funcs[n]).blocks.length) : (C.p.funcs[n]).blocks[k] = blOf C n k := by
  unfold blOf fnOf
  simp [List.getD, h, hk]
theorem room24 {a b : Nat} (ha : a ≤ 700000) (hb : b ≤ 65536) : (a + b + 1) * 24 ≤ 140737488355328 := by omega
theorem Num.hid {j d : Nat} (h : Num C j d s) : s.hidden.length ≤ 700000 := by have := h.nh; omega
theorem Num.fuel {j d : Nat} (h : Num C j d s) : s.fuel ≤ 9223372036854775807 := by have := h.nc; omega
theorem arrive_ (h : RunM C W0 r W s x t) (T : Top C s x t c l) (P : PgOk C.p) (hC : Core C s) {j d : Nat} (N : Num C j d s) {bk : Nat} (hb : bk < (fnOf C c.fn).blocks.length) (f : Int) :
    Calls Try.prog 27 #[.pointer (some ⟨r, 0, none⟩), .int .i64 bk, .int .i64 f] W fun e w' => e = .returned (.tuple #[]) ∧ ∃ x', RunM C W0 r w' (arrF s c l (blOf C c.fn bk).code bk f).1 x' t ∧ Top C (arrF s c l (blOf C c.fn bk).code bk f).1 x' t (arrS s c bk (blOf C c.fn bk).code) (arrF s c l (blOf C c.fn bk).code bk f).2 := by
  have hf := T.fn
  have hb' : bk < (C.p.funcs[c.fn]'T.fn).blocks.length := by rw [fn_is hf]; exact hb
  have eb := bl_is hf hb'
  have hr := hC.bk _ _ T.bank
  have h27 := arrive27 (bk := bk) (from_ := f) h T hb'
  rw [eb] at h27
  have hlen := code_len P hf hb
  have hph := phN_le (blOf C c.fn bk).code
  refine h27 (fun i hi hp => ?_) (fun hp => (phi_ok P hf hb hr.1 hp).2) N.fuel hr.2 (room24 N.hid (by omega)) (by have := N.nc; omega)
  have := (phi_ok P hf hb hr.1 hp).1
  have e : (blOf C c.fn bk).code.getD i in0 = (blOf C c.fn bk).code[i] := by simp [List.getD, hi]
  rw [e] at this
  exact this
/-- A call that begins. -/
theorem ent_mid (hC : Core C s) (hN : Num C 12 1 s) (P : PgOk C.p) {fn : Nat} (hf : fn < C.p.funcs.length) (hall : ∀ c ∈ s.calls, AtOk C c ∧ 0 < c.nx) {args : List Int} (hn : (args.length : Int) = (fnOf C fn).params) (ha : ∀ a ∈ args, 0 ≤ a ∧ a < 4294967296) (hok : entOk C s (fnOf C fn).slots = true) :
    Core C (setsF (newC (bankS (pushG s (fnOf C fn).slots.toNat) fn (fnOf C fn).regs.toNat) fn) (begS s fn (fnOf C fn).slots.toNat (fnOf C fn).regs.toNat) (bankL (pushG s (fnOf C fn).slots.toNat) fn (fnOf C fn).regs.toNat) (argsP args)).1 ∧ Num C 0 0 (setsF (newC (bankS (pushG s (fnOf C fn).slots.toNat) fn (fnOf C fn).regs.toNat) fn) (begS s fn (fnOf C fn).slots.toNat (fnOf C fn).regs.toNat) (bankL (pushG s (fnOf C fn).slots.toNat) fn (fnOf C fn).regs.toNat) (argsP args)).1 ∧ args.length ≤ (bankL (pushG s (fnOf C fn).slots.toNat) fn (fnOf C fn).regs.toNat).length ∧ args.length ≤ 12 := by
  have hF := P.fn fn hf
  have eF : C.p.funcs.getD fn fn0 = fnOf C fn := rfl
  rw [eF] at hF
  unfold entOk at hok
  simp only [Bool.and_eq_true, decide_eq_true_eq] at hok
  obtain ⟨c1, c2, c3⟩ := hC.beg_ P hf hok.2 hall
  have n1 := Num.beg_ (d := 0) hN fn (fnOf C fn).slots.toNat (fnOf C fn).regs.toNat
  generalize hb : begS s fn (fnOf C fn).slots.toNat (fnOf C fn).regs.toNat = B at *
  generalize hnc : newC (bankS (pushG s (fnOf C fn).slots.toNat) fn (fnOf C fn).regs.toNat) fn = q at *
  have hq : q.fn = fn := by rw [← hnc]; rfl
  generalize bankL (pushG s (fnOf C fn).slots.toNat) fn (fnOf C fn).regs.toNat = m at *
  have hm := c1.bk _ _ c3
  have hpl : (argsP args).length = args.length := by simp [argsP]
  have hpa := hF.pa
  have hrg := hF.rg
  obtain ⟨d1, d2⟩ := Core.sets_ (c := q) (argsP args) c1 (by rw [hq]; exact c3) (args_ok (by omega) ha)
  have hr := setsF_rest q (argsP args) B m
  have hl := setsF_len q (argsP args) B m
  exact ⟨d1, Num.of (k := 12) n1 hr (by have := hl.2.1; omega), by omega, by omega⟩
theorem enter_ (h : RunM C W0 r W s x t) (hC : Core C s) (hN : Num C 12 1 s) (P : PgOk C.p) {fn : Nat} (hf : fn < C.p.funcs.length) (hall : ∀ c ∈ s.calls, AtOk C c ∧ 0 < c.nx) {args : List Int} (hn : (args.length : Int) = (fnOf C fn).params) (ha : ∀ a ∈ args, 0 ≤ a ∧ a < 4294967296) {av : Value} (hav : ArgsV C av args) :
    Calls Try.prog 17 #[.pointer (some ⟨r, 0, none⟩), .int .i64 fn, av] W fun e w' => e = .returned (.tuple #[]) ∧ Mem C W0 r (entF C s fn (fnOf C fn) args) e w' := by
  have hF := P.fn fn hf
  have eF : C.p.funcs.getD fn fn0 = fnOf C fn := rfl
  rw [eF] at hF
  have e := fn_is hf
  have hcl : s.calls.length ≤ 40000 := by have := hN.nc; omega
  cases hok : entOk C s (fnOf C fn).slots with
  | false =>
    have h17 := enter17_no (av := av) h hf (by omega) (by rw [e]; exact hF.sl) hC.mem (by rw [e]; exact hok)
    refine h17.mono ?_
    rintro e1 w1 ⟨rfl, x', hR⟩
    refine ⟨rfl, x', t, ?_, ?_⟩
    · unfold entF
      rw [hok]
      exact hR
    · unfold entF
      rw [hok]
      intro h0
      cases h0
  | true =>
    obtain ⟨m1, m2, m3, m4⟩ := ent_mid hC hN P hf hall hn ha hok
    have hpa := hF.pa
    have hrg := hF.rg
    refine enter17_yes (R := Mem C W0 r (entF C s fn (fnOf C fn) args)) h hf (by omega) (by rw [e]; exact hF.sl) (by rw [e]; omega) hC.mem (by rw [e]; exact hok) hC.hid hC.bl (by have := hN.nb; omega) (by have := hN.hid; omega) hav m4 (by rw [e]; exact m3) ?_
    rw [e]
    intro w x' t' hR hT
    unfold entF
    rw [hok, if_pos rfl]
    dsimp only
    have eb : (fnOf C fn).blocks.getD 0 ⟨undef, [], 0, 0, undef, []⟩ = blOf C fn 0 := rfl
    rw [eb]
    have := arrive_ hR hT P m1 m2 (bk := 0) (show 0 < (fnOf C fn).blocks.length from hF.nb) (-1)
    refine this.mono ?_
    rintro e1 w1 ⟨rfl, x2, hR2, hT2⟩
    exact ⟨rfl, x2, t', hR2, fun _ => ⟨_, _, hT2⟩⟩
/-- A call's end. -/
theorem leave_ (h : RunM C W0 r W s x t) (T : Top C s x t c l) (hC : Core C s) (hN : Num C 1 0 s) (P : PgOk C.p) {told : Int} (ht : 0 ≤ told ∧ told < 4294967296) :
    Calls Try.prog 47 #[.pointer (some ⟨r, 0, none⟩), .int .u32 told] W fun e w' => e = .returned (.tuple #[]) ∧ Mem C W0 r (levF C s c told) e w' := by
  have hm : c ∈ s.calls := List.mem_of_getLast? T.last
  have hf := T.fn
  have hF := P.fn c.fn hf
  have eF : C.p.funcs.getD c.fn fn0 = fnOf C c.fn := rfl
  rw [eF] at hF
  have e := fn_is hf
  obtain ⟨k1, k2⟩ := hC.left_ P T.last
  have hcl : s.calls.length ≤ 40000 := by have := hN.nc; omega
  have hlen : (leftS s c (fnOf C c.fn).slots).calls.length = s.calls.length - 1 := by rw [k2]; simp
  have hlow := hC.mem.l1
  have h47 := fun c' l' i => leave47 (c' := c') (l' := l') (i := i) (told := told) h T hC.hid (hC.cs c hm).2.2 (by have := hN.hid; omega) (by omega) (by omega) (by rw [e]; exact hF.sl) ht
  rw [e] at h47
  unfold levF
  dsimp only
  generalize leftS s c (fnOf C c.fn).slots = q at *
  cases hg : q.calls.getLast? with
  | none =>
    dsimp only
    have hq0 : q.calls.length = 0 := by
      have := List.getLast?_eq_none_iff.1 hg
      rw [this]; rfl
    have hs1 : s.calls.length = 1 := by
      obtain ⟨m, em, _⟩ := last_split T.last
      have : s.calls.length = m.length + 1 := by rw [em]; simp
      omega
    refine (h47 c l in0 (fun h1 => by omega)).mono ?_
    rintro e1 w1 ⟨rfl, hR⟩
    rcases hR with ⟨_, x', hR⟩ | ⟨h1, _⟩
    · exact ⟨rfl, x', t, hR, fun h0 => by cases h0⟩
    · omega
  | some c' =>
    dsimp only
    have hm' : c' ∈ q.calls := List.mem_of_getLast? hg
    have hpos : 0 < q.calls.length := List.length_pos_of_mem hm'
    obtain ⟨hf', ⟨m, hb'⟩, _⟩ := k1.cs c' hm'
    have hm2 := hm'
    rw [k2] at hm2
    obtain ⟨hat, hnx⟩ := hC.pos c' hm2
    have er : regsOf q c'.fn = m := by unfold regsOf; simp [List.getD, hb']
    have hr := k1.bk _ _ hb'
    have hk : c'.nx - 1 < (blOf C c'.fn c'.bk).code.length := by have := hat.hi; omega
    have hfit := fit_at P hf' hat.bk hk
    rw [er]
    have hbk' : c'.bk < (C.p.funcs[c'.fn]'hf').blocks.length := by rw [fn_is hf']; exact hat.bk
    have hB : Back C s q c' m ((blOf C c'.fn c'.bk).code.getD (c'.nx - 1) in0) := by
      refine ⟨hg, hf', hb', hbk', hnx, ?_, ?_⟩
      · rw [bl_is hf' hbk', List.getElem?_eq_getElem hk]
        simp [List.getD, hk]
      · by_cases e1 : ((blOf C c'.fn c'.bk).code.getD (c'.nx - 1) in0).dst = -1
        · exact .inl e1
        · have := hfit.yes e1
          right
          omega
    refine (h47 c' m _ (fun _ => hB)).mono ?_
    rintro e1 w1 ⟨rfl, hR⟩
    rcases hR with ⟨h1, _⟩ | ⟨_, x', t', hR, hT⟩
    · omega
    · exact ⟨rfl, x', t', hR, fun _ => ⟨_, _, hT⟩⟩
/-- A block's end. -/
theorem finish_ {b o : Nat} (h : RunM C W0 r W s x t) (T : Top C s x t c l) (hC : Core C s) (hN : Num C 1 0 s) (P : PgOk C.p) (ha : AtOk C c) (hY : BlAt W0 b o (blOf C c.fn c.bk)) :
    Calls Try.prog 29 #[.pointer (some ⟨r, 0, none⟩), .pointer (some ⟨b, o, none⟩)] W fun e w' => e = .returned (.tuple #[]) ∧ Mem C W0 r (finF C s c l (blOf C c.fn c.bk)) e w' := by
  have hf := T.fn
  have hr := hC.bk _ _ T.bank
  unfold finF
  by_cases he : (blOf C c.fn c.bk).en = 3
  · rw [if_pos he]
    have hm : blOf C c.fn c.bk ∈ (fnOf C c.fn).blocks := by
      have e : blOf C c.fn c.bk = (fnOf C c.fn).blocks[c.bk]'ha.bk := by unfold blOf; simp [List.getD, ha.bk]
      rw [e]
      exact List.getElem_mem ha.bk
    have hend := (P.fn c.fn hf).en _ hm
    have eF : C.p.funcs.getD c.fn fn0 = fnOf C c.fn := rfl
    rw [eF] at hend
    unfold endF at hend
    rw [if_neg (by omega), if_neg (by omega), if_pos he] at hend
    simp only [Bool.and_eq_true, decide_eq_true_eq, winF] at hend
    exact finish29_return (R := Mem C W0 r _) h T hY he (by omega) (fun w hR => leave_ hR T hC hN P (toldR_ok hr.2 _ _))
  · rw [if_neg he]
    obtain ⟨w1, w2, w3, w4, w5⟩ := way_ok P hf ha.bk he c l
    have h27 : ∀ w, RunM C W0 r w s x t → Calls Try.prog 27 #[.pointer (some ⟨r, 0, none⟩), .int .i64 (wayF l c (blOf C c.fn c.bk)), .int .i64 c.bk] w fun e w' => e = .returned (.tuple #[]) ∧ Mem C W0 r (arrF s c l (blOf C c.fn (wayF l c (blOf C c.fn c.bk))).code (wayF l c (blOf C c.fn c.bk)) c.bk).1 e w' := fun w hR => by
      refine (arrive_ hR T P hC hN w2 c.bk).mono ?_
      rintro e1 w1 ⟨rfl, x2, hR2, hT2⟩
      exact ⟨rfl, x2, t, hR2, fun _ => ⟨_, _, hT2⟩⟩
    have hto : ∀ k, k < (blOf C c.fn c.bk).to.length → wayF l c (blOf C c.fn c.bk) = ((blOf C c.fn c.bk).to.getD k 0).toNat → (blOf C c.fn c.bk).to[k]? = some ((wayF l c (blOf C c.fn c.bk) : Nat) : Int) := fun k hk ew => by
      have h0 := w5 k hk
      rw [ew, Int.toNat_of_nonneg h0, List.getElem?_eq_getElem hk]
      simp [List.getD, hk]
    rcases w1 with h1 | h2
    · exact finish29_jump (R := Mem C W0 r _) h T hY h1 (w3 h1) (hto 0 (by have := w3 h1; omega) (by unfold wayF; rw [if_pos h1])) h27
    · obtain ⟨x1, x2, x3⟩ := w4 h2
      have h1 : ¬ (blOf C c.fn c.bk).en = 1 := by omega
      refine finish29_branch (R := Mem C W0 r _) h T hY h2 x1 (a := (blOf C c.fn c.bk).arg.toNat) (by omega) (by omega) (hto _ (by rw [x1]; split <;> omega) (by unfold wayF; rw [if_neg h1])) h27
theorem InAt.args1 {b o : Nat} {i : In} (hlen : i.args.length = 1) {R : Int} (ha : ∀ a ∈ i.args, 0 ≤ a ∧ a < R) : i.args[0]? = some ((arg i 0 : Nat) : Int) ∧ ((arg i 0 : Nat) : Int) < R := by
  have h0 : 0 < i.args.length := by omega
  have e : i.args.getD 0 0 = i.args[0] := by simp [List.getD, h0]
  have := ha _ (List.getElem_mem h0)
  unfold arg
  rw [List.getElem?_eq_getElem h0, e, Int.toNat_of_nonneg this.1]
  exact ⟨rfl, this.2⟩
/-- An instruction. -/
theorem do_ {b o : Nat} {i : In} (h : RunM C W0 r W s x t) (T : Top C s x t c l) (M : Mid C s c l i) (P : PgOk C.p) (hroom : C.room = none) (hz : C.input.size ≤ big2) (hI : InAt W0 b o i) :
    Calls Try.prog 30 #[.pointer (some ⟨r, 0, none⟩), .pointer (some ⟨b, o, none⟩)] W fun e w' => e = .returned (.tuple #[]) ∧ Mem C W0 r (doF C s c l i) e w' := by
  have hr := M.regs
  have hN := M.num
  have hh : (s.hidden.length + 1) * 24 ≤ 140737488355328 := by have := hN.hid; omega
  have hfit := M.fit
  have set_ : ∀ v : Int, (Calls Try.prog 30 #[.pointer (some ⟨r, 0, none⟩), .pointer (some ⟨b, o, none⟩)] W fun e w' => e = .returned (.tuple #[]) ∧ ∃ x', RunM C W0 r w' (setS s c l i.dst.toNat v) x' t ∧ Top C (setS s c l i.dst.toNat v) x' t c (l.set i.dst.toNat ⟨v, c.no⟩)) → Calls Try.prog 30 #[.pointer (some ⟨r, 0, none⟩), .pointer (some ⟨b, o, none⟩)] W fun e w' => e = .returned (.tuple #[]) ∧ Mem C W0 r (setS s c l i.dst.toNat v) e w' := fun v hv => by
    refine hv.mono ?_
    rintro e1 w1 ⟨rfl, x', hR, hT⟩
    exact ⟨rfl, x', t, hR, fun _ => ⟨_, _, hT⟩⟩
  unfold doF
  by_cases h1 : i.op = 1
  · rw [if_pos h1]
    have hd := hfit.dst2 (by unfold shF; rw [h1]; rfl)
    exact set_ _ (do30_const h T hI h1 (d := i.dst.toNat) (by omega) (by omega) hh)
  rw [if_neg h1]
  by_cases h2 : i.op = 2
  · rw [if_pos h2]
    unfold shF at hfit
    rw [h2] at hfit
    have hd := hfit.dst2 rfl
    have hlen : i.args.length = 1 := by have q : (i.args.length : Int) = 1 := hfit.n; omega
    obtain ⟨a1, a2⟩ := InAt.args1 (b := b) (o := o) hlen hfit.a
    exact set_ _ (do30_copy h T hI h2 (d := i.dst.toNat) (by omega) (by omega) hlen a1 (by omega) hh)
  rw [if_neg h2]
  by_cases h3 : i.op = 3
  · rw [if_pos h3]
    unfold shF at hfit
    rw [h3] at hfit
    have hd := hfit.dst2 rfl
    have hlen : i.args.length = 2 := by have q : (i.args.length : Int) = 2 := hfit.n; omega
    have a0 := hfit.arg (k := 0) (by omega)
    have a1 := hfit.arg (k := 1) (by omega)
    have ht := hN.nt
    refine do30_alu (R := Mem C W0 r _) h hI h3 ?_
    refine (reckon49 h T hI ⟨hlen, by omega, by omega⟩ (by omega) hr.2 (by omega) hh).mono ?_
    rintro e1 w1 ⟨rfl, x', l', hR, hT⟩
    exact ⟨rfl, x', t, hR, fun _ => ⟨_, _, hT⟩⟩
  rw [if_neg h3]
  by_cases h4 : i.op = 4
  · rw [if_pos h4]
    have hd := hfit.dst2 (by unfold shF; rw [h4]; rfl)
    exact set_ _ (do30_global h T hI h4 (d := i.dst.toNat) (by omega) (by omega) hh)
  rw [if_neg h4]
  by_cases h5 : i.op = 5
  · rw [if_pos h5]
    have hd := hfit.dst2 (by unfold shF; rw [h5]; rfl)
    exact set_ _ (do30_slot h T hI h5 (d := i.dst.toNat) (by omega) (by omega) hh)
  rw [if_neg h5]
  by_cases h6 : i.op = 6
  · rw [if_pos h6]
    unfold shF at hfit
    rw [h6] at hfit
    have hd := hfit.dst2 rfl
    have hlen : i.args.length = 1 := by have q : (i.args.length : Int) = 1 := hfit.n; omega
    have a0 := hfit.arg (k := 0) (by omega)
    have hw : i.wide = 1 ∨ i.wide = 4 := by
      have := hfit.wide
      unfold wideF at this
      simpa using this
    refine do30_load (R := Mem C W0 r _) h hI h6 ?_
    refine (access50 h T hI ⟨hw, by omega, by omega, fun _ => by omega, fun e => absurd h6 e⟩ M.core.mem hr.2 hh).mono ?_
    rintro e1 w1 ⟨rfl, x', l', hR, hT⟩
    exact ⟨rfl, x', t, hR, fun _ => ⟨_, _, hT⟩⟩
  rw [if_neg h6]
  by_cases h7 : i.op = 7
  · rw [if_pos h7]
    unfold shF at hfit
    rw [h7] at hfit
    have hlen : i.args.length = 2 := by have q : (i.args.length : Int) = 2 := hfit.n; omega
    have a0 := hfit.arg (k := 0) (by omega)
    have a1 := hfit.arg (k := 1) (by omega)
    have hw : i.wide = 1 ∨ i.wide = 4 := by
      have := hfit.wide
      unfold wideF at this
      simpa using this
    refine do30_store (R := Mem C W0 r _) h hI h7 ?_
    refine (access50 h T hI ⟨hw, by omega, by omega, fun e => absurd e h6, fun _ => by omega⟩ M.core.mem hr.2 hh).mono ?_
    rintro e1 w1 ⟨rfl, x', l', hR, hT⟩
    exact ⟨rfl, x', t, hR, fun _ => ⟨_, _, hT⟩⟩
  rw [if_neg h7]
  by_cases h8 : i.op = 8
  · rw [if_pos h8]
    unfold shF at hfit
    rw [h8] at hfit
    have hlen : i.args.length = 1 := by have q : (i.args.length : Int) = 1 := hfit.n; omega
    obtain ⟨a1, a2⟩ := InAt.args1 (b := b) (o := o) hlen hfit.a
    refine (do30_check h T hI h8 hlen a1 (by omega)).mono ?_
    rintro e1 w1 ⟨rfl, hR, hT⟩
    exact ⟨rfl, x, t, hR, fun _ => ⟨_, _, hT⟩⟩
  rw [if_neg h8]
  by_cases h9 : i.op = 9
  · rw [if_pos h9]
    have hf : FitR (fnOf C c.fn).regs (shC C.p i.imm) i := by
      unfold shF at hfit
      rw [h9] at hfit
      exact hfit
    by_cases hw : winF i.imm 0 ((C.p.funcs.length : Nat) - 1) = true
    · unfold shC at hf
      rw [if_pos hw] at hf
      unfold winF at hw
      simp only [decide_eq_true_eq] at hw
      have hlt : i.imm.toNat < C.p.funcs.length := by omega
      have hn := hf.n
      dsimp only at hn
      rw [List.getElem?_eq_getElem hlt] at hn
      have e : fnOf C i.imm.toNat = C.p.funcs[i.imm.toNat] := (fn_is hlt).symm
      have hn2 : (i.args.length : Int) = (fnOf C i.imm.toNat).params := by rw [e]; simpa using hn
      have hpa := (P.fn _ hlt).pa
      have eF : C.p.funcs.getD i.imm.toNat fn0 = fnOf C i.imm.toNat := rfl
      rw [eF] at hpa
      have hall : ∀ y ∈ s.calls, AtOk C y ∧ 0 < y.nx := by
        obtain ⟨m, em, ed⟩ := last_split M.last
        intro y hy
        rw [em] at hy
        rcases List.mem_append.1 hy with hy | hy
        · exact M.core.pos y (by rw [ed]; exact hy)
        · simp only [List.mem_singleton] at hy
          subst hy
          exact ⟨M.at_, M.nx⟩
      refine do30_call (R := Mem C W0 r _) h hI h9 ?_
      refine call51 (R := Mem C W0 r _) h T hI (n := i.imm.toNat) (by omega) (by omega) (fun k hk => by have := hf.a _ (List.getElem_mem hk); omega) ?_
      intro w g cs hR hcs
      have hC' : Core { C with room := some (g, cs) } s := ⟨M.core.bl, M.core.bk, M.core.hid, M.core.was, M.core.cs, fun y hy => ⟨⟨(M.core.pos y hy).1.bk, (M.core.pos y hy).1.lo, (M.core.pos y hy).1.hi⟩, (M.core.pos y hy).2⟩, M.core.hd, M.core.mem, M.core.low⟩
      have hN' : Num { C with room := some (g, cs) } 12 1 s := ⟨by have := hN.nh; omega, hN.nc, hN.nb, hN.nt, hN.no, hN.ob, hN.us⟩
      refine (enter_ (C := { C with room := some (g, cs) }) hR hC' hN' P hlt (fun y hy => ⟨⟨(hall y hy).1.bk, (hall y hy).1.lo, (hall y hy).1.hi⟩, (hall y hy).2⟩) (args := argsOf l c.no i) (show (((argsOf l c.no i).length : Nat) : Int) = (fnOf C i.imm.toNat).params by rw [← hn2]; simp [argsOf]) (fun a ha => by
        obtain ⟨b, _, rfl⟩ := List.mem_map.1 ha
        exact getR_ok hr.2 _ _) ⟨some ⟨g, 0, none⟩, 12, by simp [argsOf], fun _ => ⟨g, cs, rfl, rfl, fun j hj => by
          have hj' : j < i.args.length := by simpa [argsOf] using hj
          rw [hcs j hj']
          simp [argsOf]⟩⟩).mono ?_
      rintro e1 w1 ⟨rfl, x', t', hR, hT⟩
      refine ⟨rfl, x', t', hR.noRoom hroom, fun h0 => ?_⟩
      obtain ⟨c', l', hT⟩ := hT h0
      exact ⟨c', l', hT.noRoom⟩
    · unfold shC at hf
      rw [if_neg hw] at hf
      exact absurd rfl hf.has
  rw [if_neg h9]
  by_cases h10 : i.op = 10
  · rw [if_pos h10]
    have hd := hfit.dst2 (by unfold shF; rw [h10]; rfl)
    refine (do30_getw h T hI h10 (d := i.dst.toNat) (by omega) (by omega) hN.us hz hh).mono ?_
    rintro e1 w1 ⟨rfl, x', hR, hT⟩
    exact ⟨rfl, x', t, hR, fun _ => ⟨_, _, hT⟩⟩
  rw [if_neg h10]
  by_cases h11 : i.op = 11
  · rw [if_pos h11]
    unfold shF at hfit
    rw [h11] at hfit
    have hlen : i.args.length = 1 := by have q : (i.args.length : Int) = 1 := hfit.n; omega
    obtain ⟨a1, a2⟩ := InAt.args1 (b := b) (o := o) hlen hfit.a
    refine (do30_put h T hI h11 hlen a1 (by omega) (by have := hN.no; omega)).mono ?_
    rintro e1 w1 ⟨rfl, x', hR, hT⟩
    exact ⟨rfl, x', t, hR, fun _ => ⟨_, _, hT⟩⟩
  rw [if_neg h11]
  exfalso
  have := hfit.has
  unfold shF at this
  rw [if_neg h1, if_neg h2, if_neg h3, if_neg h4, if_neg h5, if_neg h6, if_neg h7, if_neg h8, if_neg h9, if_neg h10, if_neg h11, if_neg M.n12] at this
  exact this rfl
/-- A step. -/
theorem step_ (h : RunM C W0 r W s x t) (T : Top C s x t c l) (G : Good C s) (P : PgOk C.p) (hroom : C.room = none) (hz : C.input.size ≤ big2) :
    Calls Try.prog 18 #[.pointer (some ⟨r, 0, none⟩)] W fun e w' => e = .returned (.tuple #[]) ∧ Mem C W0 r (stepF C s) e w' := by
  obtain ⟨c', hl, ha⟩ := G.top
  have hl2 := T.last
  rw [hl] at hl2
  injection hl2 with hl2
  subst hl2
  have hf := T.fn
  have er : regsOf s c'.fn = l := by unfold regsOf; simp [List.getD, T.bank]
  have hb' : c'.bk < (C.p.funcs[c'.fn]'T.fn).blocks.length := by rw [fn_is hf]; exact ha.bk
  have eb := bl_is hf hb'
  unfold stepF
  by_cases hfu : s.fuel < 1
  · rw [if_pos hfu]
    refine (step18_fuel h hfu).mono ?_
    rintro e1 w1 ⟨rfl, hR⟩
    exact ⟨rfl, x, t, hR, fun h0 => by cases h0⟩
  · rw [if_neg hfu, hl]
    dsimp only
    rw [er]
    by_cases hn : c'.nx = (blOf C c'.fn c'.bk).code.length
    · rw [if_pos hn]
      refine step18_end (R := Mem C W0 r _) h T (by omega) G.num.fuel hb' (by rw [eb]; exact hn) ?_
      rw [eb]
      intro w b o hR hB
      exact finish_ (s := { s with fuel := s.fuel - 1 }) hR (T.same rfl rfl) (G.core.congr rfl) ((G.num.spent (by omega)).less (by omega) (by omega)) P ha hB
    · rw [if_neg hn]
      have hlt : c'.nx < (blOf C c'.fn c'.bk).code.length := by have := ha.hi; omega
      refine step18_do (R := Mem C W0 r _) (i := (blOf C c'.fn c'.bk).code.getD c'.nx in0) h T (by omega) G.num.fuel hb' (by rw [eb, List.getElem?_eq_getElem hlt]; simp [List.getD, hlt]) ?_
      intro w b o hR hT hI
      exact do_ hR hT (G.mid P (by omega) hl ha T.bank hn) P hroom hz hI
end
end Go.Proofs.Ytiehlkhpblldaaa
namespace Go.Proofs.Ytiehlkhpblldaaa
open Go.RowKit Go.Maps

def cstOf (p : Pg) (input : ByteArray) (deep sf sa : Int) (sv : Value) (sl : List Int) : Cst := ⟨p, input, deep, sf, sa, sv, sl, none⟩
/-- The run ahead of its first call. -/
def st0 (p : Pg) (fuel : Int) : St := ⟨List.replicate p.funcs.length none, [], laidF p, [], 8388608, [], 0, [], [], fuel, 0, 0, 0, 0, 0⟩
def tp0 : Tp := ⟨.pointer none, .pointer none, .slice none 0 0⟩
/-- The run, Main called. -/
def st1 (C : Cst) (fuel : Int) : St := entF C (st0 C.p fuel) C.p.main.toNat (fnOf C C.p.main.toNat) []
/-- Steps, till it has ended. -/
def runN (C : Cst) : Nat → St → St
  | 0, s => s
  | n + 1, s => if s.kind = 0 then runN C n (stepF C s) else s
def runF (C : Cst) (fuel : Int) : St := runN C (fuel.toNat + 1) (st1 C fuel)
def endV (S : St) : Value := .agg #[.int .i64 S.kind, .int .i32 S.code, .int .i64 S.trap, .string (strOfNums S.out), .int .i64 S.used]

theorem own_nil (W : World) (B : Nat) (e : TypeId) (z : Nat) : W.ownsRow B e z (.slice none 0 0) 0 [] := ⟨by simp, .inl ⟨rfl, rfl⟩⟩
theorem own_blk {W : World} {B g : Nat} {e : TypeId} {xs : List Value} (hg : B ≤ g) (h : W.heap[g]? = some (.cells xs.toArray e (0, 0))) (hl : xs.length ≤ maxLen) {n : Nat} (hn : xs.length = n) : W.ownsRow B e 1 (.slice (some ⟨g, 0, none⟩) n n) n xs := by
  subst hn
  exact ⟨by simp, .inr ⟨g, xs.length, xs.toArray, rfl, hg, h, Nat.le_refl _, hl, by simp, by simp⟩⟩
theorem banks_nil (n : Nat) : (List.replicate n (none : Option (List Rg))).mapIdx (bankV (fun _ => 0)) = List.replicate n (.slice none 0 0) := by
  apply List.ext_getElem?
  intro i
  rw [List.getElem?_mapIdx]
  by_cases h : i < n
  · simp [h, bankV]
  · simp [h]
section
variable {C : Cst} {W0 W : World}
/-- The run is made. -/
theorem run_begins {p : Pg} {input : ByteArray} {deep sf sa fuel : Int} {sv : Value} {sl : List Int} (hp : Pg.ok W0 p) (hsv : Src icell W0 sv sl) (hsl : sl.length * 8 ≤ big) (hB : Below W0.heap.size W0 W) {bg gg G : Nat} (hbg : W0.heap.size ≤ bg) (hb : W.heap[bg]? = some (.cells (List.replicate p.funcs.length (.slice none 0 0)).toArray 69 (0, 0))) (hgg : W0.heap.size ≤ gg) (hG : p.global = G) (hG2 : G ≤ 65536) (hg : W.heap[gg]? = some (.cells (flat bcel (laidF p)).toArray 5 (0, 0))) (hf : p.funcs.length ≤ 256) :
    RunM (cstOf p input deep sf sa sv sl) W0 W.heap.size (W.alloc (.cells (rcells (cstOf p input deep sf sa sv sl) (st0 p fuel) ⟨.slice (some ⟨bg, 0, none⟩) p.funcs.length p.funcs.length, .slice none 0 0, .slice (some ⟨gg, 0, none⟩) G G, .slice none 0 0, .slice none 0 0, .slice none 0 0, .slice none 0 0, fun _ => 0⟩ tp0) 72)) (st0 p fuel) ⟨.slice (some ⟨bg, 0, none⟩) p.funcs.length p.funcs.length, .slice none 0 0, .slice (some ⟨gg, 0, none⟩) G G, .slice none 0 0, .slice none 0 0, .slice none 0 0, .slice none 0 0, fun _ => 0⟩ tp0 := by
  have hgl : (laidF p).length = G := by unfold laidF; rw [laidN_len, hG]; rfl
  have hlt1 := (Array.getElem?_eq_some_iff.1 hb).1
  have hlt2 := (Array.getElem?_eq_some_iff.1 hg).1
  refine ⟨⟨hB.alloc hB.size _, hp, hsv, hsl, ?_, ?_, ?_, own_nil _ _ _ _, ?_, own_nil _ _ _ _, own_nil _ _ _ _, ?_, ?_, ?_, own_nil _ _ _ _, own_nil _ _ _ _, ?_⟩, hB.size, heap_alloc_new _ _⟩
  · show (W.alloc _).ownsRow _ 69 1 (.slice (some ⟨bg, 0, none⟩) p.funcs.length p.funcs.length) (List.replicate p.funcs.length none).length ((List.replicate p.funcs.length none).mapIdx (bankV (fun _ => 0)))
    rw [banks_nil, List.length_replicate]
    exact own_blk hbg (by rw [Below.heap_alloc _ _ _ hlt1]; exact hb) (by simp; unfold maxLen; omega) (by simp)
  · intro i l h
    have : (List.replicate p.funcs.length (none : Option (List Rg)))[i]? = some (some l) := h
    rw [List.getElem?_replicate] at this
    split at this <;> cases this
  · intro i j l m h
    have : (List.replicate p.funcs.length (none : Option (List Rg)))[i]? = some (some l) := h
    rw [List.getElem?_replicate] at this
    split at this <;> cases this
  · show (W.alloc _).ownsRow _ 5 1 (.slice (some ⟨gg, 0, none⟩) G G) (laidF p).length (flat bcel (laidF p))
    rw [hgl]
    exact own_blk hgg (by rw [Below.heap_alloc _ _ _ hlt2]; exact hg) (by rw [flat_length by1, hgl]; unfold maxLen; omega) (by rw [flat_length by1, hgl]; omega)
  · intro b _ h
    cases h
  · intro b _ h
    cases h
  · intro b h
    cases h
  · intro g cs h
    cases h
/-- What holds ahead of the first call. -/
theorem st0_core (P : PgOk C.p) (fuel : Int) : Core C (st0 C.p fuel) := by
  refine ⟨by simp [st0], ?_, fun e he => (by cases he), fun e he => (by cases he), fun c hc => (by cases hc), fun c hc => (by cases hc), List.Pairwise.nil, ?_, by simp [st0]⟩
  · intro i l h
    have : (List.replicate C.p.funcs.length (none : Option (List Rg)))[i]? = some (some l) := h
    rw [List.getElem?_replicate] at this
    split at this <;> cases this
  · have hg := P.gl
    refine ⟨⟨by show (8126464 : Int) ≤ 8388608; decide, by show (8388608 : Int) ≤ 8388608; decide⟩, Nat.zero_le _, by show (8388608 : Int) - 8388608 ≤ ((0 : Nat) : Int); decide, ?_, fun k hk => by simp [st0] at hk, ?_⟩
    · show (laidF C.p).length ≤ 65536
      unfold laidF
      rw [laidN_len]
      omega
    · show BytesOk (laidF C.p)
      unfold laidF laidN
      generalize C.p.data.take C.p.data.length = ds
      have : ∀ (ds : List Fi) (l : List Int), BytesOk l → BytesOk (ds.foldl (fun l d => putL l d.at_.toNat (bytL d.by_)) l) := by
        intro ds
        induction ds with
        | nil => intro l h; exact h
        | cons d ds ih =>
          intro l h
          refine ih _ (bytes_put _ _ _ h (fun k hk => ?_))
          have e : (bytL d.by_)[k] = ((d.by_.data.toList[k]'(by simpa [bytL] using hk)).toNat : Int) := by simp [bytL]
          rw [e]
          have := (d.by_.data.toList[k]'(by simpa [bytL] using hk)).toNat_lt
          omega
      exact this ds _ (bytes_rep _)
theorem st0_num {fuel : Int} (hf : fuel ≤ 32768) : Num C 12 1 (st0 C.p fuel) := by
  refine ⟨by simp [st0]; omega, by simp [st0]; omega, by simp [st0]; omega, by simp [st0]; omega, by simp [st0]; omega, fun k hk => by simp [st0] at hk, Nat.zero_le _⟩
theorem st1_kpt (P : PgOk C.p) {fuel : Int} (hf : fuel ≤ 32768) : Kpt C (st1 C fuel) :=
  kpt_enter (st0_core P fuel) (st0_num hf) P (by have := P.main; omega) (fun c hc => by cases hc) (by
    show (0 : Int) = _
    exact P.pm.symm) (fun a ha => by cases ha)
end
end Go.Proofs.Ytiehlkhpblldaaa
namespace Go.Proofs.Ytiehlkhpblldaaa
open Go.RowKit Go.Maps

/-- An instruction of the document. -/
def iDo (C : Cst) (call : Nat → List Int → Ds → Int × Ds) (fn : Nat) (i : In) (l : List Int) (d : Ds) : Bool × List Int × Ds :=
  if i.op = 1 then (true, l.set i.dst.toNat (i.imm % 4294967296), d)
  else if i.op = 2 then (true, l.set i.dst.toNat (l.getD (arg i 0) 0), d)
  else if i.op = 3 then
    if aluT i.alu (l.getD (arg i 1) 0) = 0 then (true, l.set i.dst.toNat (aluV i.alu (l.getD (arg i 0) 0) (l.getD (arg i 1) 0)), couB (couF C fn i) d)
    else (false, l, { couB (couF C fn i) d with trap := aluT i.alu (l.getD (arg i 1) 0) })
  else if i.op = 4 then (true, l.set i.dst.toNat ((16777216 + i.imm % 4294967296) % 4294967296), d)
  else if i.op = 5 then (true, l.set i.dst.toNat ((d.low % 4294967296 + i.imm % 4294967296) % 4294967296), d)
  else if i.op = 6 then
    match loadN d ((l.getD (arg i 0) 0 + i.imm) % 4294967296) i.wide.toNat 0 with
    | some z => (true, l.set i.dst.toNat z, d)
    | none => (false, l, { d with trap := 5 })
  else if i.op = 7 then
    if stOkD d ((l.getD (arg i 0) 0 + i.imm) % 4294967296) i.wide.toNat then (true, l, storeN d ((l.getD (arg i 0) 0 + i.imm) % 4294967296) (l.getD (arg i 1) 0) i.wide.toNat)
    else (false, l, { d with trap := 5 })
  else if i.op = 8 then
    if l.getD (arg i 0) 0 = 0 then (false, l, { d with trap := i.imm }) else (true, l, d)
  else if i.op = 9 then
    if (call i.imm.toNat (i.args.map (fun a => l.getD a.toNat 0)) d).2.over = true ∨ (call i.imm.toNat (i.args.map (fun a => l.getD a.toNat 0)) d).2.trap ≠ 0 then (false, l, (call i.imm.toNat (i.args.map (fun a => l.getD a.toNat 0)) d).2)
    else (true, if i.dst = -1 then l else l.set i.dst.toNat (call i.imm.toNat (i.args.map (fun a => l.getD a.toNat 0)) d).1, (call i.imm.toNat (i.args.map (fun a => l.getD a.toNat 0)) d).2)
  else if i.op = 10 then
    if h : d.used < C.input.size then (true, l.set i.dst.toNat ((C.input[d.used]'h).toNat : Int), { d with used := d.used + 1 })
    else (true, l.set i.dst.toNat 4294967295, d)
  else if i.op = 11 then (true, l, { d with out := d.out ++ [l.getD (arg i 0) 0 % 256] })
  else (true, l, d)
/-- A block's code. -/
def codD (C : Cst) (call : Nat → List Int → Ds → Int × Ds) (fn : Nat) : List In → List Int → Ds → Bool × List Int × Ds
  | [], l, d => (true, l, d)
  | i :: t, l, d =>
    if i.op = 12 then codD C call fn t l d
    else if d.fuel ≤ 0 then (false, l, spendD d)
    else if (iDo C call fn i l (spendD d)).1 then codD C call fn t (iDo C call fn i l (spendD d)).2.1 (iDo C call fn i l (spendD d)).2.2
    else (false, (iDo C call fn i l (spendD d)).2.1, (iDo C call fn i l (spendD d)).2.2)
def wayD (l : List Int) (b : Bl) : Nat := (b.to.getD (if b.en = 2 ∧ l.getD b.arg.toNat 0 = 0 then 1 else 0) 0).toNat
def toldD (l : List Int) (a : Int) : Int := if a < 0 then 0 else l.getD a.toNat 0
/-- A block's end. -/
def endD (body : Nat → Int → List Int → Ds → Int × Ds) (b : Bl) (at_ : Nat) (l : List Int) (d : Ds) : Int × Ds :=
  if d.fuel ≤ 0 then (0, spendD d)
  else if b.en = 3 then (toldD l b.arg, spendD d)
  else body (wayD l b) at_ l (spendD d)
/-- A block behind its OpPhis. -/
def blkD (C : Cst) (call : Nat → List Int → Ds → Int × Ds) (body : Nat → Int → List Int → Ds → Int × Ds) (fn at_ : Nat) (b : Bl) (cs : List In) (l : List Int) (d : Ds) : Int × Ds :=
  if (codD C call fn cs l d).1 then endD body b at_ (codD C call fn cs l d).2.1 (codD C call fn cs l d).2.2
  else (0, (codD C call fn cs l d).2.2)
/-- A call begins. -/
def begD (d : Ds) (n : Nat) : Ds := { d with calls := d.calls + 1, low := d.low - n, sk := putL d.sk (d.low - n - 8126464).toNat (List.replicate n 0) }
def endC (d : Ds) (n : Int) : Ds := { d with low := d.low + n, calls := d.calls - 1 }
def regD (args : List Int) (n : Nat) : List Int := args ++ List.replicate (n - args.length) 0
def callD (C : Cst) (body : Nat → Nat → Int → List Int → Ds → Int × Ds) (fn : Nat) (args : List Int) (d : Ds) : Int × Ds :=
  if C.deep ≤ d.calls ∨ d.low - (fnOf C fn).slots < 8126464 then (0, { d with trap := 3 })
  else ((body fn 0 (-1) (regD args (fnOf C fn).regs.toNat) (begD d (fnOf C fn).slots.toNat)).1, endC (body fn 0 (-1) (regD args (fnOf C fn).regs.toNat) (begD d (fnOf C fn).slots.toNat)).2 (fnOf C fn).slots)
/-- A function's blocks. -/
def bodyD (C : Cst) : Nat → Nat → Nat → Int → List Int → Ds → Int × Ds
  | 0, _, _, _, _, d => (0, d)
  | n + 1, fn, at_, from_, l, d =>
    if phisOk d (phN (blOf C fn at_).code) then
      blkD C (callD C (bodyD C n)) (bodyD C n fn) fn at_ (blOf C fn at_) (blOf C fn at_).code (phisL d l from_ (blOf C fn at_).code) (phisD d (phN (blOf C fn at_).code))
    else (0, phisD d (phN (blOf C fn at_).code))

/-- What holds of the document's run. -/
structure DOk (C : Cst) (j : Nat) (d : Ds) : Prop where
  mem : DmOk d
  byt : DbOk d
  fu : d.fuel ≤ 32768
  cn : 0 ≤ d.count ∧ d.count + d.fuel.toNat + j ≤ 40000
  ol : d.out.length + d.fuel.toNat + j ≤ 40000
  us : d.used ≤ C.input.size
  ca : 0 ≤ d.calls ∧ d.calls + d.fuel.toNat + j ≤ 40000
  ob : BytesOk d.out
structure KeepD (d d' : Ds) : Prop where
  low : d'.low = d.low
  calls : d'.calls = d.calls
  fuel : d'.fuel ≤ d.fuel
theorem KeepD.rfl_ (d : Ds) : KeepD d d := ⟨rfl, rfl, Int.le_refl _⟩
theorem KeepD.trans {a b c : Ds} (h : KeepD a b) (k : KeepD b c) : KeepD a c := ⟨k.low.trans h.low, k.calls.trans h.calls, Int.le_trans k.fuel h.fuel⟩
section
variable {C : Cst} {d d' : Ds} {l : List Int}
theorem DOk.less {j k : Nat} (h : DOk C j d) (hk : k ≤ j) : DOk C k d := ⟨h.mem, h.byt, h.fu, by have := h.cn; omega, by have := h.ol; omega, h.us, by have := h.ca; omega, h.ob⟩
theorem DmOk.of (h : DmOk d) (e : (d'.gl, d'.sk, d'.low) = (d.gl, d.sk, d.low)) : DmOk d' := by
  simp only [Prod.mk.injEq] at e
  obtain ⟨e1, e2, e3⟩ := e
  exact ⟨by rw [e1]; exact h.g, by rw [e2]; exact h.k, by rw [e3]; exact h.l⟩
theorem DbOk.of (h : DbOk d) (e : (d'.gl, d'.sk) = (d.gl, d.sk)) : DbOk d' := by
  simp only [Prod.mk.injEq] at e
  obtain ⟨e1, e2⟩ := e
  exact ⟨by rw [e1]; exact h.g, by rw [e2]; exact h.k⟩
/-- Only numbers that nothing is asked of turn. -/
theorem DOk.same {j : Nat} (h : DOk C j d) (e : (d'.gl, d'.sk, d'.low, d'.fuel, d'.count, d'.out, d'.used, d'.calls) = (d.gl, d.sk, d.low, d.fuel, d.count, d.out, d.used, d.calls)) : DOk C j d' := by
  simp only [Prod.mk.injEq] at e
  obtain ⟨e1, e2, e3, e4, e5, e6, e7, e8⟩ := e
  exact ⟨h.mem.of (by rw [e1, e2, e3]), h.byt.of (by rw [e1, e2]), by rw [e4]; exact h.fu, by rw [e4, e5]; exact h.cn, by rw [e4, e6]; exact h.ol, by rw [e7]; exact h.us, by rw [e4, e8]; exact h.ca, by rw [e6]; exact h.ob⟩
theorem DOk.spend {j : Nat} (h : DOk C j d) (hf : 0 < d.fuel) : DOk C (j + 1) (spendD d) ∧ KeepD d (spendD d) ∧ (spendD d).fuel = d.fuel - 1 ∧ (spendD d).trap = d.trap ∧ (spendD d).over = d.over := by
  unfold spendD
  rw [if_neg (by omega)]
  refine ⟨⟨h.mem.of rfl, h.byt.of rfl, by have := h.fu; dsimp only; omega, by have := h.cn; dsimp only; omega, by have := h.ol; dsimp only; omega, h.us, by have := h.ca; dsimp only; omega, h.ob⟩, ⟨rfl, rfl, by dsimp only; omega⟩, rfl, rfl, rfl⟩
theorem DOk.spent {j : Nat} (h : DOk C j d) (hf : d.fuel ≤ 0) : DOk C j (spendD d) ∧ KeepD d (spendD d) ∧ (spendD d).over = true := by
  unfold spendD
  rw [if_pos hf]
  exact ⟨h.same rfl, ⟨rfl, rfl, Int.le_refl _⟩, rfl⟩
theorem WordsOk.set (h : WordsOk l) (a : Nat) {z : Int} (hz : 0 ≤ z ∧ z < 4294967296) : WordsOk (l.set a z) := by
  intro k
  by_cases e : k = a
  · subst e
    by_cases hk : k < l.length
    · simp [List.getD, hk]; exact hz
    · simp [List.getD, hk]
  · have := h k
    simpa [List.getD, List.getElem?_set_ne (Ne.symm e)] using this
theorem WordsOk.app (h : WordsOk l) (n : Nat) : WordsOk (l ++ List.replicate n 0) := by
  intro k
  by_cases hk : k < l.length
  · have := h k
    simpa [List.getD, List.getElem?_append_left hk] using this
  · have : (l ++ List.replicate n (0 : Int)).getD k 0 = 0 := by
      simp only [List.getD]
      rw [List.getElem?_append_right (by omega), List.getElem?_replicate]
      split <;> rfl
    rw [this]
    omega
theorem DOk.cou {j : Nat} (h : DOk C (j + 1) d) (cf : Bool) : DOk C j (couB cf d) ∧ KeepD d (couB cf d) ∧ (couB cf d).trap = d.trap ∧ (couB cf d).over = d.over := by
  unfold couB
  cases cf
  · exact ⟨h.less (by omega), .rfl_ _, rfl, rfl⟩
  · exact ⟨⟨h.mem.of rfl, h.byt.of rfl, h.fu, by have := h.cn; simp; omega, by have := h.ol; simp; omega, h.us, by have := h.ca; simp; omega, h.ob⟩, ⟨rfl, rfl, Int.le_refl _⟩, rfl, rfl⟩
theorem loadN_ok (hB : DbOk d) (a : Int) : ∀ (n : Nat) (w : Int), 0 ≤ w ∧ w < 4294967296 → ∀ z, loadN d a n w = some z → 0 ≤ z ∧ z < 4294967296
  | 0, w, hw, z, h => by
    unfold loadN at h
    injection h with h
    subst h
    exact hw
  | n + 1, w, hw, z, h => by
    unfold loadN at h
    split at h
    · cases h
    · exact loadN_ok hB a n _ (by omega) z h
theorem getD_set (l : List Int) (k : Nat) (b : Int) (o : Nat) : (l.set k b).getD o 0 = if k = o ∧ k < l.length then b else l.getD o 0 := by
  simp only [List.getD]
  rw [List.getElem?_set]
  by_cases e : k = o
  · subst e
    by_cases hk : k < l.length
    · simp [hk]
    · simp [hk]
  · simp [e]
theorem set_ok {l : List Int} {b : Int} (h : ∀ o, 0 ≤ l.getD o 0 ∧ l.getD o 0 < 256) (hb : 0 ≤ b ∧ b < 256) (k o : Nat) : 0 ≤ (l.set k b).getD o 0 ∧ (l.set k b).getD o 0 < 256 := by
  rw [getD_set]
  split
  · exact hb
  · exact h o
theorem putB_ok (hB : DbOk d) (a b : Int) (hb : 0 ≤ b ∧ b < 256) : DbOk (putB d a b) := by
  unfold putB
  split
  · exact hB
  · exact ⟨hB.g, fun o => set_ok hB.k hb _ o⟩
  · exact ⟨fun o => set_ok hB.g hb _ o, hB.k⟩
theorem storeN_ok (hB : DbOk d) (a w : Int) : ∀ n, DbOk (storeN d a w n)
  | 0 => hB
  | n + 1 => putB_ok (storeN_ok hB a w n) _ _ (by omega)
theorem putB_rest (d : Ds) (a b : Int) : ((putB d a b).fuel, (putB d a b).count, (putB d a b).out, (putB d a b).used, (putB d a b).calls, (putB d a b).trap, (putB d a b).over) = (d.fuel, d.count, d.out, d.used, d.calls, d.trap, d.over) := by
  unfold putB
  split <;> rfl
theorem storeN_rest (d : Ds) (a w : Int) : ∀ n, ((storeN d a w n).fuel, (storeN d a w n).count, (storeN d a w n).out, (storeN d a w n).used, (storeN d a w n).calls, (storeN d a w n).trap, (storeN d a w n).over) = (d.fuel, d.count, d.out, d.used, d.calls, d.trap, d.over)
  | 0 => rfl
  | n + 1 => (putB_rest _ _ _).trans (storeN_rest d a w n)
theorem DOk.stored {j : Nat} (h : DOk C j d) (a w : Int) (n : Nat) : DOk C j (storeN d a w n) ∧ KeepD d (storeN d a w n) ∧ (storeN d a w n).trap = d.trap ∧ (storeN d a w n).over = d.over := by
  have hs := store_same d a w n
  have hr := storeN_rest d a w n
  simp only [Prod.mk.injEq] at hr
  obtain ⟨e1, e2, e3, e4, e5, e6, e7⟩ := hr
  exact ⟨⟨hs.ok h.mem, storeN_ok h.byt a w n, by rw [e1]; exact h.fu, by rw [e1, e2]; exact h.cn, by rw [e1, e3]; exact h.ol, by rw [e4]; exact h.us, by rw [e1, e5]; exact h.ca, by rw [e3]; exact h.ob⟩, ⟨hs.l, e5, by rw [e1]; exact Int.le_refl _⟩, e6, e7⟩
/-- What a call keeps, if less than n of fuel is left. -/
def CallKeep (C : Cst) (call : Nat → List Int → Ds → Int × Ds) (n : Nat) : Prop :=
  ∀ fn args d, fn < C.p.funcs.length → (args.length : Int) = (fnOf C fn).params → WordsOk args → DOk C 1 d → d.fuel.toNat < n → d.trap = 0 → d.over = false → DOk C 0 (call fn args d).2 ∧ KeepD d (call fn args d).2 ∧ 0 ≤ (call fn args d).1 ∧ (call fn args d).1 < 4294967296
theorem words_map (hl : WordsOk l) (xs : List Int) : WordsOk (xs.map (fun a => l.getD a.toNat 0)) := by
  intro k
  by_cases hk : k < xs.length
  · have : (xs.map (fun a => l.getD a.toNat 0)).getD k 0 = l.getD (xs[k]).toNat 0 := by simp [List.getD, hk]
    rw [this]
    exact hl _
  · have : (xs.map (fun a => l.getD a.toNat 0)).getD k 0 = 0 := by simp [List.getD, hk]
    rw [this]
    omega
/-- A call of a program that may be. -/
theorem call_fit {slots regs : Int} {preds : List Int} {i : In} (P : PgOk C.p) (hop : i.op = 9) (hF : FitR regs (shF C.p slots preds i.op i.imm) i) : i.imm.toNat < C.p.funcs.length ∧ (i.args.length : Int) = (fnOf C i.imm.toNat).params ∧ 0 ≤ i.imm ∧ (i.dst = -1 ∨ 0 ≤ i.dst ∧ i.dst < regs) := by
  have hf := hF
  unfold shF at hf
  rw [hop] at hf
  have hf : FitR regs (shC C.p i.imm) i := hf
  by_cases hw : winF i.imm 0 ((C.p.funcs.length : Nat) - 1) = true
  · unfold shC at hf
    rw [if_pos hw] at hf
    unfold winF at hw
    simp only [decide_eq_true_eq] at hw
    have hlt : i.imm.toNat < C.p.funcs.length := by omega
    have hn := hf.n
    dsimp only at hn
    rw [List.getElem?_eq_getElem hlt] at hn
    have e : fnOf C i.imm.toNat = C.p.funcs[i.imm.toNat] := by unfold fnOf; simp [List.getD, hlt]
    refine ⟨hlt, by rw [e]; simpa using hn, hw.1, ?_⟩
    by_cases e1 : i.dst = -1
    · exact .inl e1
    · exact .inr (hf.yes e1).2
  · unfold shC at hf
    rw [if_neg hw] at hf
    exact absurd rfl hf.has
theorem ite_ind {α : Type} {P : α → Prop} {c : Prop} [Decidable c] {a b : α} (h : c → P a) (k : ¬ c → P b) : P (if c then a else b) := by
  by_cases e : c
  · rw [if_pos e]; exact h e
  · rw [if_neg e]; exact k e
/-- What an instruction keeps. -/
structure InsK (C : Cst) (l : List Int) (d : Ds) (q : Bool × List Int × Ds) : Prop where
  ok : DOk C 0 q.2.2
  keep : KeepD d q.2.2
  words : WordsOk q.2.1
  len : q.2.1.length = l.length
  flags : q.1 = true → q.2.2.trap = 0 ∧ q.2.2.over = false
theorem ins_keep {call : Nat → List Int → Ds → Int × Ds} {n : Nat} (P : PgOk C.p) (hC : CallKeep C call n) {slots regs : Int} {preds : List Int} {i : In} (hF : FitR regs (shF C.p slots preds i.op i.imm) i) {fn : Nat} (hl : WordsOk l) (hD : DOk C 1 d) (hf : d.fuel.toNat < n) (ht : d.trap = 0) (ho : d.over = false) :
    InsK C l d (iDo C call fn i l d) := by
  have hx := hl (arg i 0)
  have hy := hl (arg i 1)
  have set_ : ∀ z : Int, 0 ≤ z ∧ z < 4294967296 → InsK C l d (true, l.set i.dst.toNat z, d) := fun z hz => ⟨hD.less (by omega), .rfl_ _, hl.set _ hz, by simp, fun _ => ⟨ht, ho⟩⟩
  have trap_ : ∀ k : Int, InsK C l d (false, l, { d with trap := k }) := fun k => ⟨(hD.less (by omega)).same rfl, ⟨rfl, rfl, Int.le_refl _⟩, hl, rfl, fun e => by cases e⟩
  have stay_ : InsK C l d (true, l, d) := ⟨hD.less (by omega), .rfl_ _, hl, rfl, fun _ => ⟨ht, ho⟩⟩
  unfold iDo
  refine ite_ind (fun _ => set_ _ (by omega)) (fun _ => ?_)
  refine ite_ind (fun _ => set_ _ hx) (fun _ => ?_)
  refine ite_ind (fun _ => ?_) (fun _ => ?_)
  · obtain ⟨k1, k2, k3, k4⟩ := hD.cou (couF C fn i)
    refine ite_ind (fun _ => ?_) (fun _ => ?_)
    · exact ⟨k1, k2, hl.set _ (aluV_bound _ _ _ hx.1 hx.2 hy.1 hy.2), by simp, fun _ => ⟨by rw [k3]; exact ht, by rw [k4]; exact ho⟩⟩
    · exact ⟨k1.same rfl, ⟨k2.low, k2.calls, k2.fuel⟩, hl, rfl, fun e => by cases e⟩
  refine ite_ind (fun _ => set_ _ (by omega)) (fun _ => ?_)
  refine ite_ind (fun _ => set_ _ (by omega)) (fun _ => ?_)
  refine ite_ind (fun _ => ?_) (fun _ => ?_)
  · cases h : loadN d ((l.getD (arg i 0) 0 + i.imm) % 4294967296) i.wide.toNat 0 with
    | some z => exact set_ _ (loadN_ok hD.byt _ _ _ (by omega) z h)
    | none => exact trap_ 5
  refine ite_ind (fun _ => ?_) (fun _ => ?_)
  · refine ite_ind (fun _ => ?_) (fun _ => trap_ 5)
    obtain ⟨k1, k2, k3, k4⟩ := (hD.less (Nat.zero_le 1)).stored ((l.getD (arg i 0) 0 + i.imm) % 4294967296) (l.getD (arg i 1) 0) i.wide.toNat
    exact ⟨k1, k2, hl, rfl, fun _ => ⟨by rw [k3]; exact ht, by rw [k4]; exact ho⟩⟩
  refine ite_ind (fun _ => ite_ind (fun _ => trap_ _) (fun _ => stay_)) (fun _ => ?_)
  refine ite_ind (fun hop => ?_) (fun _ => ?_)
  · obtain ⟨f1, f2, _, _⟩ := call_fit P hop hF
    obtain ⟨q1, q2, q3⟩ := hC i.imm.toNat (i.args.map (fun a => l.getD a.toNat 0)) d f1 (by rw [List.length_map]; exact f2) (words_map hl _) hD hf ht ho
    generalize call i.imm.toNat (i.args.map (fun a => l.getD a.toNat 0)) d = q at *
    refine ite_ind (fun _ => ⟨q1, q2, hl, rfl, fun e => by cases e⟩) (fun hno => ⟨q1, q2, ?_, ?_, fun _ => ⟨?_, ?_⟩⟩)
    · exact ite_ind (P := fun m => WordsOk m) (fun _ => hl) (fun _ => hl.set _ q3)
    · exact ite_ind (P := fun m : List Int => m.length = l.length) (fun _ => rfl) (fun _ => by simp)
    · exact Classical.byContradiction fun e => hno (.inr e)
    · cases ho2 : q.2.over with
      | true => exact absurd (.inl ho2) hno
      | false => rfl
  refine ite_ind (fun _ => ?_) (fun _ => ?_)
  · split
    · rename_i hu
      refine ⟨?_, ⟨rfl, rfl, Int.le_refl _⟩, hl.set _ ?_, by simp, fun _ => ⟨ht, ho⟩⟩
      · exact ⟨hD.mem.of rfl, hD.byt.of rfl, hD.fu, by have := hD.cn; dsimp only; omega, by have := hD.ol; dsimp only; omega, by dsimp only; omega, by have := hD.ca; dsimp only; omega, hD.ob⟩
      · have := (C.input[d.used]'hu).toNat_lt
        omega
    · exact set_ _ (by omega)
  refine ite_ind (fun _ => ?_) (fun _ => stay_)
  refine ⟨⟨hD.mem.of rfl, hD.byt.of rfl, hD.fu, by have := hD.cn; dsimp only; omega, by have := hD.ol; simp; omega, hD.us, by have := hD.ca; dsimp only; omega, ?_⟩, ⟨rfl, rfl, Int.le_refl _⟩, hl, rfl, fun _ => ⟨ht, ho⟩⟩
  exact bytes_app hD.ob (fun k hk => by
    have : k = 0 := by simp at hk; omega
    subst this
    simp
    omega)
end
end Go.Proofs.Ytiehlkhpblldaaa
namespace Go.Proofs.Ytiehlkhpblldaaa
open Go.RowKit Go.Maps
section
variable {C : Cst} {d d' : Ds} {l : List Int}
def predOf (C : Cst) (fn bk : Nat) : List Int := (predsF (fnOf C fn).blocks).getD bk []
/-- An instruction fits in its block. -/
def FitB (C : Cst) (fn bk : Nat) (i : In) : Prop := FitR (fnOf C fn).regs (shF C.p (fnOf C fn).slots (predOf C fn bk) i.op i.imm) i
theorem fit_all (P : PgOk C.p) {fn bk : Nat} (hf : fn < C.p.funcs.length) (hb : bk < (fnOf C fn).blocks.length) {k : Nat} (hk : k < (blOf C fn bk).code.length) : FitB C fn bk ((blOf C fn bk).code.getD k in0) := fit_is (cod_fit _ _ (code_ok P hf hb) k hk).1
theorem fit_mem (P : PgOk C.p) {fn bk : Nat} (hf : fn < C.p.funcs.length) (hb : bk < (fnOf C fn).blocks.length) {i : In} (hi : i ∈ (blOf C fn bk).code) : FitB C fn bk i := by
  obtain ⟨k, hk, e⟩ := List.getElem_of_mem hi
  have := fit_all P hf hb hk
  rwa [show (blOf C fn bk).code.getD k in0 = i by simp [List.getD, hk, e]] at this
theorem phi_fit (P : PgOk C.p) {fn bk : Nat} (hf : fn < C.p.funcs.length) (hb : bk < (fnOf C fn).blocks.length) {l : List Int} (hl : (l.length : Int) = (fnOf C fn).regs) : ∀ k (hk : k < (blOf C fn bk).code.length), k < phN (blOf C fn bk).code → PhiD l.length (blOf C fn bk).code[k] := fun k hk hp => by
  have h := fit_all P hf hb hk
  have e : (blOf C fn bk).code.getD k in0 = (blOf C fn bk).code[k] := by simp [List.getD, hk]
  rw [e] at h
  have hop := phN_yes _ k hk hp
  unfold FitB shF at h
  rw [hop] at h
  have h : FitR (fnOf C fn).regs ⟨2, ((predOf C fn bk).length : Nat), 0, 0, false, false, predOf C fn bk⟩ (blOf C fn bk).code[k] := h
  have hd := h.dst2 rfl
  have hn := h.n
  dsimp only at hn
  refine ⟨by omega, ?_, fun k hk => ?_⟩
  · rw [h.pred]; dsimp only; omega
  · have := h.arg hk; omega
theorem DOk.phis (h : DOk C 0 d) (N : Nat) : DOk C 0 (phisD d N) ∧ KeepD d (phisD d N) ∧ (phisOk d N = true → (phisD d N).trap = d.trap ∧ (phisD d N).over = d.over) ∧ (phisOk d N = false → (phisD d N).over = true) := by
  unfold phisD
  cases e : phisOk d N with
  | true =>
    rw [if_pos rfl]
    have hN : N = 0 ∨ (N : Int) ≤ d.fuel := by unfold phisOk at e; simpa using e
    exact ⟨⟨h.mem.of rfl, h.byt.of rfl, by have := h.fu; dsimp only; omega, by have := h.cn; dsimp only; omega, by have := h.ol; dsimp only; omega, h.us, by have := h.ca; dsimp only; omega, h.ob⟩, ⟨rfl, rfl, by dsimp only; omega⟩, fun _ => ⟨rfl, rfl⟩, fun e => by cases e⟩
  | false =>
    rw [if_neg (by decide)]
    exact ⟨⟨h.mem.of rfl, h.byt.of rfl, by have := h.fu; dsimp only; omega, by have := h.cn; dsimp only; omega, by have := h.ol; dsimp only; omega, h.us, by have := h.ca; dsimp only; omega, h.ob⟩, ⟨rfl, rfl, by dsimp only; omega⟩, (fun e => by cases e), fun _ => rfl⟩
theorem phiK_ok (hl : WordsOk l) (f : Int) (i : In) : ∀ n, 0 ≤ phiK l f i n ∧ phiK l f i n < 4294967296
  | 0 => ⟨by simp [phiK], by simp [phiK]⟩
  | n + 1 => by
    rw [phiK_succ]
    split
    · exact hl _
    · exact phiK_ok hl f i n
theorem setsL_words : ∀ (q : List (Nat × Int)) {l : List Int}, WordsOk l → (∀ y ∈ q, 0 ≤ y.2 ∧ y.2 < 4294967296) → WordsOk (setsL l q)
  | [], l, h, _ => h
  | y :: q, l, h, hq => by
    have := setsL_words q (h.set y.1 (hq y (by simp))) (fun z hz => hq z (by simp [hz]))
    simpa [setsL] using this
theorem setsL_len2 : ∀ (q : List (Nat × Int)) (l : List Int), (setsL l q).length = l.length
  | [], l => rfl
  | y :: q, l => by
    have := setsL_len2 q (l.set y.1 y.2)
    unfold setsL at *
    rw [List.foldl_cons, this, List.length_set]
theorem phisL_ok (hl : WordsOk l) (d : Ds) (f : Int) (code : List In) : WordsOk (phisL d l f code) ∧ (phisL d l f code).length = l.length := by
  unfold phisL
  split
  · refine ⟨setsL_words _ hl (fun y hy => ?_), setsL_len2 _ _⟩
    obtain ⟨k, _, rfl⟩ := List.mem_map.1 hy
    exact phiK_ok hl f _ _
  · exact ⟨hl, rfl⟩
theorem cod_keep {call : Nat → List Int → Ds → Int × Ds} {n : Nat} (P : PgOk C.p) (hC : CallKeep C call n) {fn bk : Nat} : ∀ (cs : List In) {l : List Int} {d : Ds}, (∀ i ∈ cs, FitB C fn bk i) → WordsOk l → DOk C 0 d → d.fuel.toNat < n + 1 → d.trap = 0 → d.over = false → InsK C l d (codD C call fn cs l d)
  | [], l, d, _, hl, hD, _, ht, ho => ⟨hD, .rfl_ _, hl, rfl, fun _ => ⟨ht, ho⟩⟩
  | i :: t, l, d, hF, hl, hD, hf, ht, ho => by
    unfold codD
    refine ite_ind (fun _ => cod_keep P hC t (fun j hj => hF j (by simp [hj])) hl hD hf ht ho) (fun h12 => ?_)
    refine ite_ind (fun h0 => ?_) (fun h0 => ?_)
    · obtain ⟨a, b, c⟩ := hD.spent h0
      exact ⟨a, b, hl, rfl, fun e => by cases e⟩
    · obtain ⟨a, b, e1, e2, e3⟩ := hD.spend (by omega)
      have k := ins_keep P hC (hF i (by simp)) (fn := fn) hl a (by rw [e1]; omega) (by rw [e2]; exact ht) (by rw [e3]; exact ho)
      refine ite_ind (fun hq => ?_) (fun _ => ⟨k.ok, b.trans k.keep, k.words, k.len, fun e => by cases e⟩)
      have hfu := (b.trans k.keep).fuel
      have r := cod_keep P hC t (fun j hj => hF j (by simp [hj])) k.words k.ok (by omega) (k.flags hq).1 (k.flags hq).2
      exact ⟨r.ok, (b.trans k.keep).trans r.keep, r.words, r.len.trans k.len, r.flags⟩
/-- What a body keeps. -/
structure BodK (C : Cst) (d : Ds) (q : Int × Ds) : Prop where
  ok : DOk C 0 q.2
  keep : KeepD d q.2
  told : 0 ≤ q.1 ∧ q.1 < 4294967296
theorem way_is (P : PgOk C.p) {fn bk : Nat} (hf : fn < C.p.funcs.length) (hb : bk < (fnOf C fn).blocks.length) (he : (blOf C fn bk).en ≠ 3) (l : List Int) : wayD l (blOf C fn bk) < (fnOf C fn).blocks.length := by
  have hw := way_ok P hf hb he ⟨0, fn, 0, 0, bk, 0⟩ (if l.getD (blOf C fn bk).arg.toNat 0 = 0 then [] else List.replicate ((blOf C fn bk).arg.toNat + 1) ⟨1, 0⟩)
  have e : wayD l (blOf C fn bk) = wayF (if l.getD (blOf C fn bk).arg.toNat 0 = 0 then [] else List.replicate ((blOf C fn bk).arg.toNat + 1) ⟨1, 0⟩) ⟨0, fn, 0, 0, bk, 0⟩ (blOf C fn bk) := by
    unfold wayD wayF
    rcases hw.1 with e1 | e1
    · rw [if_pos e1, if_neg (by omega)]
    · rw [if_neg (show ¬ (blOf C fn bk).en = 1 by omega)]
      by_cases hz : l.getD (blOf C fn bk).arg.toNat 0 = 0
      · rw [if_pos ⟨e1, hz⟩, if_pos hz, if_pos (by simp [getR])]
      · rw [if_neg (fun q => hz q.2), if_neg hz, if_neg (by simp [getR])]
  rw [e]
  exact hw.2.1
theorem DOk.beg {j n : Nat} (h : DOk C (j + 1) d) (hs : 8126464 ≤ d.low - n) : DOk C j (begD d n) := by
  have hm := h.mem
  refine ⟨⟨hm.g, by show (putL _ _ _).length = _; rw [putL_length]; exact hm.k, ?_⟩, ⟨h.byt.g, ?_⟩, h.fu, by have := h.cn; show 0 ≤ d.count ∧ d.count + d.fuel.toNat + j ≤ 40000; omega, by have := h.ol; show d.out.length + d.fuel.toNat + j ≤ 40000; omega, h.us, ?_, h.ob⟩
  · have := hm.l
    show 8126464 ≤ d.low - n ∧ d.low - n ≤ 8388608
    omega
  · have key : ∀ (k : Nat) (q : List Int) (o : Nat), (∀ o, 0 ≤ q.getD o 0 ∧ q.getD o 0 < 256) → ∀ x, 0 ≤ (putL q o (List.replicate k 0)).getD x 0 ∧ (putL q o (List.replicate k 0)).getD x 0 < 256 := by
      intro k
      induction k with
      | zero => intro q o hq x; exact hq x
      | succ k ih => intro q o hq x; exact ih _ _ (set_ok hq (by omega) _) x
    exact key _ _ _ h.byt.k
  · have := h.ca
    show 0 ≤ d.calls + 1 ∧ d.calls + 1 + d.fuel.toNat + j ≤ 40000
    omega
theorem regD_ok {xs : List Int} (h : WordsOk xs) {n : Nat} (hn : xs.length ≤ n) : WordsOk (regD xs n) ∧ (regD xs n).length = n := ⟨h.app _, by simp [regD]; omega⟩
theorem call_keep (P : PgOk C.p) {body : Nat → Nat → Int → List Int → Ds → Int × Ds} {n : Nat} (hB : ∀ fn l d, fn < C.p.funcs.length → WordsOk l → (l.length : Int) = (fnOf C fn).regs → DOk C 0 d → d.trap = 0 → d.over = false → d.fuel.toNat < n → BodK C d (body fn 0 (-1) l d)) : CallKeep C (callD C body) n := by
  intro fn xs d hfn hxs hw hD hf ht ho
  have hF := P.fn fn hfn
  have eF : C.p.funcs.getD fn fn0 = fnOf C fn := rfl
  rw [eF] at hF
  unfold callD
  refine ite_ind (P := fun q : Int × Ds => DOk C 0 q.2 ∧ KeepD d q.2 ∧ 0 ≤ q.1 ∧ q.1 < 4294967296) (fun _ => ⟨(hD.less (by omega)).same rfl, ⟨rfl, rfl, Int.le_refl _⟩, by show (0 : Int) ≤ 0; decide, by show (0 : Int) < 4294967296; decide⟩) (fun hno => ?_)
  have hs := hF.sl
  have hr := hF.rg
  have hpa := hF.pa
  have hsn : ((fnOf C fn).slots.toNat : Int) = (fnOf C fn).slots := by omega
  have hb := hD.beg (n := (fnOf C fn).slots.toNat) (by rw [hsn]; omega)
  obtain ⟨r1, r2⟩ := regD_ok hw (n := (fnOf C fn).regs.toNat) (by omega)
  have k := hB fn _ (begD d (fnOf C fn).slots.toNat) hfn r1 (by rw [r2]; omega) hb ht ho hf
  generalize body fn 0 (-1) (regD xs (fnOf C fn).regs.toNat) (begD d (fnOf C fn).slots.toNat) = q at *
  have hl : q.2.low = d.low - ((fnOf C fn).slots.toNat : Int) := k.keep.low
  have hc : q.2.calls = d.calls + 1 := k.keep.calls
  have hfu : q.2.fuel ≤ d.fuel := k.keep.fuel
  have hdl := hD.mem.l
  have ko := k.ok
  refine ⟨⟨⟨ko.mem.g, ko.mem.k, ?_⟩, ⟨ko.byt.g, ko.byt.k⟩, ko.fu, ko.cn, ko.ol, ko.us, ?_, ko.ob⟩, ⟨?_, ?_, hfu⟩, k.told⟩
  · show 8126464 ≤ q.2.low + (fnOf C fn).slots ∧ q.2.low + (fnOf C fn).slots ≤ 8388608
    omega
  · have := ko.ca
    have := hD.ca
    show 0 ≤ q.2.calls - 1 ∧ q.2.calls - 1 + q.2.fuel.toNat + 0 ≤ 40000
    omega
  · show q.2.low + (fnOf C fn).slots = d.low
    omega
  · show q.2.calls - 1 = d.calls
    omega
theorem body_keep (P : PgOk C.p) : ∀ (n fn at_ : Nat) (f : Int) (l : List Int) (d : Ds), fn < C.p.funcs.length → at_ < (fnOf C fn).blocks.length → WordsOk l → (l.length : Int) = (fnOf C fn).regs → DOk C 0 d → d.trap = 0 → d.over = false → d.fuel.toNat < n → BodK C d (bodyD C n fn at_ f l d)
  | 0, _, _, _, _, _, _, _, _, _, _, _, _, h => by omega
  | n + 1, fn, at_, f, l, d, hfn, hat, hw, hl, hD, ht, ho, hf => by
    have hFn := P.fn fn hfn
    have k := cod_keep P (call_keep P (body := bodyD C n) (n := n) (fun fn l d h1 h2 h3 h4 h5 h6 h7 => body_keep P n fn 0 (-1) l d h1 (P.fn fn h1).nb h2 h3 h4 h5 h6 h7)) (fn := fn) (bk := at_) (blOf C fn at_).code (l := phisL d l f (blOf C fn at_).code) (d := phisD d (phN (blOf C fn at_).code)) (fun i hi => fit_mem P hfn hat hi) (phisL_ok hw _ _ _).1 (hD.phis _).1
    have hp := hD.phis (phN (blOf C fn at_).code)
    have hpl := phisL_ok hw d f (blOf C fn at_).code
    unfold bodyD
    refine ite_ind (fun hok => ?_) (fun hno => ⟨hp.1, hp.2.1, by show (0 : Int) ≤ 0; decide, by show (0 : Int) < 4294967296; decide⟩)
    have k := k (by have := hp.2.1.fuel; omega) (by rw [(hp.2.2.1 hok).1]; exact ht) (by rw [(hp.2.2.1 hok).2]; exact ho)
    unfold blkD
    generalize codD C (callD C (bodyD C n)) fn (blOf C fn at_).code (phisL d l f (blOf C fn at_).code) (phisD d (phN (blOf C fn at_).code)) = q at *
    refine ite_ind (fun hq => ?_) (fun _ => ⟨k.ok, hp.2.1.trans k.keep, by show (0 : Int) ≤ 0; decide, by show (0 : Int) < 4294967296; decide⟩)
    unfold endD
    refine ite_ind (fun h0 => ?_) (fun h0 => ?_)
    · obtain ⟨a, b, c⟩ := k.ok.spent h0
      exact ⟨a, (hp.2.1.trans k.keep).trans b, by show (0 : Int) ≤ 0; decide, by show (0 : Int) < 4294967296; decide⟩
    · obtain ⟨a, b, e1, e2, e3⟩ := k.ok.spend (by omega)
      refine ite_ind (fun h3 => ⟨a.less (by omega), (hp.2.1.trans k.keep).trans b, ?_⟩) (fun h3 => ?_)
      · show 0 ≤ toldD _ _ ∧ toldD _ _ < 4294967296
        unfold toldD
        split
        · omega
        · exact k.words _
      · have hfu := (hp.2.1.trans k.keep).fuel
        have r := body_keep P n fn (wayD q.2.1 (blOf C fn at_)) at_ q.2.1 (spendD q.2.2) hfn (way_is P hfn hat h3 _) k.words (by rw [k.len, hpl.2]; exact hl) (a.less (by omega)) (by rw [e2]; exact (k.flags hq).1) (by rw [e3]; exact (k.flags hq).2) (by rw [e1]; omega)
        exact ⟨r.ok, ((hp.2.1.trans k.keep).trans b).trans r.keep, r.told⟩
theorem call_keeps (P : PgOk C.p) (n : Nat) : CallKeep C (callD C (bodyD C n)) n := call_keep P (fun fn l d h1 h2 h3 h4 h5 h6 h7 => body_keep P n fn 0 (-1) l d h1 (P.fn fn h1).nb h2 h3 h4 h5 h6 h7)
end
end Go.Proofs.Ytiehlkhpblldaaa
namespace Go.Proofs.Ytiehlkhpblldaaa
open Go.RowKit Go.Maps
section
variable {C : Cst} {W0 W W' : World} {r : Nat} {d d' : Ds} {v v' : Dv}
/-- A call's arguments in memory. -/
def ArgM (W0 W : World) (av : Value) (args : List Int) : Prop := ∃ B, W0.heap.size ≤ B ∧ W.ownsRow B 79 1 av args.length (flat ucel args)
/-- The document's call does what it tells, if less than n of fuel is left. -/
def CallOk (C : Cst) (W0 : World) (r : Nat) (call : Nat → List Int → Ds → Int × Ds) (n : Nat) : Prop :=
  ∀ (fn : Nat) (args : List Int) (d : Ds) (v : Dv) (W : World) (av : Value), fn < C.p.funcs.length → (args.length : Int) = (fnOf C fn).params → WordsOk args → DOk C 1 d → d.fuel.toNat < n → d.trap = 0 → d.over = false → DocM C W0 r W d v → ArgM W0 W av args →
    Calls Try.prog 19 #[.pointer (some ⟨r, 0, none⟩), .int .i64 fn, av] W fun e w' => e = .returned (.int .u32 (call fn args d).1) ∧ (∃ v', DocM C W0 r w' (call fn args d).2 v') ∧ Kept (TurnC W0 W r) W w'
theorem no_turn {W0 w : World} {r b : Nat} {cs : Array Value} {fr : Nat × Nat} (h : w.heap[b]? = some (.cells cs 51 fr)) (hn : ¬ b = r) : ¬ TurnC W0 w r b := fun e => by
  rcases e with e | ⟨_, c2, f2, e⟩
  · exact hn e
  · rw [h] at e
    injection e with e
    injection e with _ e
    exact absurd e (by decide)
def argL (l : List Int) (xs : List Int) (k : Nat) : List Int := (xs.take k).map (fun a => l.getD a.toNat 0)
theorem argL_succ (l xs : List Int) {k : Nat} (h : k < xs.length) : argL l xs (k + 1) = argL l xs k ++ [l.getD (xs[k]).toNat 0] := by
  unfold argL
  rw [take_snoc _ _ h, List.map_append]
  rfl
theorem argL_len (l xs : List Int) {k : Nat} (h : k ≤ xs.length) : (argL l xs k).length = k := by simp [argL]; omega
theorem argL_all (l xs : List Int) : argL l xs xs.length = xs.map (fun a => l.getD a.toNat 0) := by simp [argL]
/-- The midst of the loop over a call's arguments. -/
structure CaM (C : Cst) (W0 W : World) (r rb : Nat) (d : Ds) (v : Dv) (l xs : List Int) (k : Nat) (lv : Value) (w : World) : Prop where
  mid : MidD C W0 W r rb d v l w
  row : w.ownsRow (W.heap.size + 1) 79 1 lv k (flat ucel (argL l xs k))
  kept : Kept (fun q => W.heap.size + 1 ≤ q) W w
theorem MidD.grown {rb : Nat} {l : List Int} {w w' : World} {B n : Nat} {vv : Value} {xs : List Value} (h : MidD C W0 W r rb d v l w) (ho : w.ownsRow B 79 1 vv n xs) (hB : W.heap.size + 1 ≤ B) (hW : W0.heap.size ≤ W.heap.size) (hg : w.grownBy w' vv.ownBlock) (hrb : rb < W.heap.size) : MidD C W0 W r rb d v l w' ∧ Kept (fun q => W.heap.size + 1 ≤ q) w w' := by
  have K7 : Kept (fun q => W.heap.size + 1 ≤ q) w w' := Kept.of_grown hg (fun q e => by
    rcases ho.2 with ⟨e1, _⟩ | ⟨g, cap, cur, e1, hgB, _⟩
    · rw [e1] at e; cases e
    · rw [e1] at e; injection e with e; subst e; exact Nat.le_trans hB hgB)
  exact ⟨⟨h.doc.grown ho (by omega) hg, h.reg.kept K7 (by omega), h.kept.ahead K7 (fun i hi e => by omega)⟩, K7⟩
end
end Go.Proofs.Ytiehlkhpblldaaa
