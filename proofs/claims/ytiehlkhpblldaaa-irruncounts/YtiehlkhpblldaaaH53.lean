/- Both machines, side by side: calls begin and end. -/
import Derived.Test.YtiehlkhpblldaaaH44
import Derived.Test.YtiehlkhpblldaaaH49
set_option linter.unusedVariables false
set_option linter.unusedSimpArgs false
set_option maxRecDepth 20000
set_option maxHeartbeats 8000000
namespace Go.Proofs.Ytiehlkhpblldaaa
open Go.RowKit Go.Maps
section
variable {C : Cst} {B : Bs} {s s' : St} {c c' : Cl} {l : List Int} {d d' : Ds}
theorem sets_regs : ∀ (q : List (Nat × Int)) {s : St} {l : List Int}, RelT C B s c l d → (∀ y ∈ q, y.1 < l.length ∧ 0 ≤ y.2 ∧ y.2 < 4294967296) → (setsF c s (regsOf s c.fn) q).2 = regsOf (setsF c s (regsOf s c.fn) q).1 c.fn
  | [], s, l, h, _ => rfl
  | y :: q, s, l, h, hq => by
    obtain ⟨h1, h2⟩ := h.set (hq y (by simp)).1 (hq y (by simp)).2
    have := sets_regs q h1 (fun z hz => by rw [List.length_set]; exact hq z (by simp [hz]))
    rw [h2] at this
    exact this
theorem cur_bankS (s : St) (fn n fn' i : Nat) : cur (bankS s fn n) fn' i = cur s fn' i := by
  unfold bankS
  split
  · rename_i h
    unfold cur regsOf
    dsimp only
    by_cases e : fn = fn'
    · subst e
      by_cases hl : fn < s.banks.length
      · have e1 : (s.banks.set fn (some (List.replicate n ⟨0, 0⟩))).getD fn none = some (List.replicate n ⟨0, 0⟩) := by simp [List.getD, hl]
        rw [e1, h]
        simp only [Option.getD_some, Option.getD_none, List.getD]
        rw [List.getElem?_replicate]
        split <;> rfl
      · rw [List.set_eq_of_length_le (by omega)]
    · have e1 : (s.banks.set fn (some (List.replicate n ⟨0, 0⟩))).getD fn' none = s.banks.getD fn' none := by
        simp only [List.getD]
        rw [List.getElem?_set_ne e]
      rw [e1]
  · rfl
theorem args_setsL (xs : List Int) {G : Nat} (h : xs.length ≤ G) : setsL (List.replicate G 0) (argsP xs) = regD xs G := by
  have key : ∀ k, k ≤ xs.length → setsL (List.replicate G 0) ((argsP xs).take k) = regK xs G k := by
    intro k
    induction k with
    | zero => intro _; rw [regK_zero]; rfl
    | succ k ih =>
      intro hk
      have hl : k < (argsP xs).length := by simp [argsP]; omega
      have hp : (argsP xs)[k] = (k, xs[k]) := by simp [argsP, List.getD, show k < xs.length by omega]
      rw [setsL_step _ _ hl hp, ih (by omega), regK_succ xs (by omega) h]
  have := key xs.length (Nat.le_refl _)
  rw [List.take_of_length_le (by simp [argsP]), regK_all] at this
  exact this
/-- What stands ahead of a call that begins now. -/
def baseOf (s : St) : Bs := ⟨s.hidden, cur s, s.begun, s.calls⟩
theorem RelT.begun (P : PgOk C.p) (hm : RelM s d) (hC : Core C s) (hall : ∀ c ∈ s.calls, AtOk C c ∧ 0 < c.nx) (hk : DmOk d) {fn : Nat} (hf : fn < C.p.funcs.length) (hp : pushOk s (fnOf C fn).slots = true) {xs : List Int} (hx : xs.length ≤ (fnOf C fn).regs.toNat) (hw : WordsOk xs) :
    ∃ S, RelT C (baseOf s) S (newC (bankS (pushG s (fnOf C fn).slots.toNat) fn (fnOf C fn).regs.toNat) fn) (regD xs (fnOf C fn).regs.toNat) (begD d (fnOf C fn).slots.toNat) ∧
      setsF (newC (bankS (pushG s (fnOf C fn).slots.toNat) fn (fnOf C fn).regs.toNat) fn) (begS s fn (fnOf C fn).slots.toNat (fnOf C fn).regs.toNat) (bankL (pushG s (fnOf C fn).slots.toNat) fn (fnOf C fn).regs.toNat) (argsP xs) = (S, regsOf S fn) := by
  have hF := P.fn fn hf
  have eF : C.p.funcs.getD fn fn0 = fnOf C fn := rfl
  rw [eF] at hF
  obtain ⟨k1, k2, k3⟩ := hC.beg_ P hf hp hall
  obtain ⟨b1, b2, b3, b4, b5, b6, b7, b8⟩ := begS_keeps s fn (fnOf C fn).slots.toNat (fnOf C fn).regs.toNat
  obtain ⟨g1, g2, g3, g4, g5⟩ := pushG_same s (fnOf C fn).slots.toNat
  obtain ⟨⟨r1, r2, r3, r4, r5, r6, r7⟩, q2, q3, q4, q5⟩ := bankS_rest (pushG s (fnOf C fn).slots.toNat) fn (fnOf C fn).regs.toNat
  have hsl := hF.sl
  have hrg := hF.rg
  have hpa := hF.pa
  unfold pushOk at hp
  simp only [decide_eq_true_eq] at hp
  have hlow := hm.mem.low
  have hcur : ∀ fn' i, cur (begS s fn (fnOf C fn).slots.toNat (fnOf C fn).regs.toNat) fn' i = cur s fn' i := fun fn' i => by
    have e1 : cur (begS s fn (fnOf C fn).slots.toNat (fnOf C fn).regs.toNat) fn' i = cur (bankS (pushG s (fnOf C fn).slots.toNat) fn (fnOf C fn).regs.toNat) fn' i := rfl
    rw [e1, cur_bankS]
    unfold cur regsOf
    rw [g1]
  have hpush := push_eq hm.mem hC.mem hk (n := (fnOf C fn).slots.toNat) (by omega) (by omega)
  have hcalls : (begS s fn (fnOf C fn).slots.toNat (fnOf C fn).regs.toNat).calls = s.calls ++ [newC (bankS (pushG s (fnOf C fn).slots.toNat) fn (fnOf C fn).regs.toNat) fn] := by
    show (bankS (pushG s (fnOf C fn).slots.toNat) fn (fnOf C fn).regs.toNat).calls ++ _ = _
    rw [r7, g3]
  have hct : (begS s fn (fnOf C fn).slots.toNat (fnOf C fn).regs.toNat).code = s.code ∧ (begS s fn (fnOf C fn).slots.toNat (fnOf C fn).regs.toNat).trap = s.trap := by
    unfold begS bankS pushG reachF
    dsimp only
    split <;> split <;> exact ⟨rfl, rfl⟩
  have hnc : (newC (bankS (pushG s (fnOf C fn).slots.toNat) fn (fnOf C fn).regs.toNat) fn).no = s.begun + 1 := by
    show (bankS (pushG s (fnOf C fn).slots.toNat) fn (fnOf C fn).regs.toNat).begun + 1 = _
    rw [r5, g4]
  have h0 : RelT C (baseOf s) (begS s fn (fnOf C fn).slots.toNat (fnOf C fn).regs.toNat) (newC (bankS (pushG s (fnOf C fn).slots.toNat) fn (fnOf C fn).regs.toNat) fn) (List.replicate (fnOf C fn).regs.toNat 0) (begD d (fnOf C fn).slots.toNat) := by
    refine ⟨⟨by rw [b2]; exact hm.fuel, by rw [b1]; exact hm.out, by rw [b6]; exact hm.used, by rw [b3]; exact hm.times, ?_, ⟨?_, ?_, ?_⟩, by rw [hct.1]; exact hm.code, by rw [hct.2]; exact hm.trap, by rw [b4]; exact hm.kind, ⟨fun fn' i => ?_, fun x hx => ?_⟩⟩, k1, hcalls, ?_, ?_, ⟨[], by rw [b7]; simp [baseOf], fun fn' i => by rw [hcur]; rfl, fun fn' i hno => ?_⟩, fun i hi => ?_, by rw [List.length_replicate]; show _ = (fnOf C fn).regs; omega, ?_⟩
    · rw [b8]
      have := hm.calls
      show ((s.calls.length + 1 : Nat) : Int) = d.calls + 1
      omega
    · show (bankS (pushG s (fnOf C fn).slots.toNat) fn (fnOf C fn).regs.toNat).low = _
      rw [q3]
      exact hpush.low
    · show (bankS (pushG s (fnOf C fn).slots.toNat) fn (fnOf C fn).regs.toNat).gl = _
      rw [q5]
      exact hpush.gl
    · show ∀ a : Int, _ → _ → (bankS (pushG s (fnOf C fn).slots.toNat) fn (fnOf C fn).regs.toNat).sk.getD (a - (8388608 - ((bankS (pushG s (fnOf C fn).slots.toNat) fn (fnOf C fn).regs.toNat).sk.length : Int))).toNat 0 = _
      rw [q4]
      exact hpush.sk
    · rw [hcur, b5]
      have := hm.own.c fn' i
      omega
    · rw [b7] at hx
      rw [b5]
      have := hm.own.h x hx
      omega
    · show (bankS (pushG s (fnOf C fn).slots.toNat) fn (fnOf C fn).regs.toNat).hidden.length = s.hidden.length
      rw [q2, g2]
    · rw [hnc, b5]
      exact ⟨by show s.begun < s.begun + 1; omega, Int.le_refl _⟩
    · rw [hcur] at hno
      have := hm.own.c fn' i
      have hno : s.begun < (cur s fn' i).o := hno
      omega
    · rw [hnc]
      have e : getR (regsOf (begS s fn (fnOf C fn).slots.toNat (fnOf C fn).regs.toNat) fn) i (s.begun + 1) = 0 := by
        rw [getR_cur, hcur, if_neg]
        have := hm.own.c fn i
        omega
      refine e.trans ?_
      have : (List.replicate (fnOf C fn).regs.toNat (0 : Int)).getD i 0 = 0 := by
        simp only [List.getD]
        rw [List.getElem?_replicate]
        split <;> rfl
      exact this.symm
    · show (bankS (pushG s (fnOf C fn).slots.toNat) fn (fnOf C fn).regs.toNat).low % 4294967296 = (d.low - ((fnOf C fn).slots.toNat : Int)) % 4294967296
      rw [q3, g5, hlow]
  have hregs : bankL (pushG s (fnOf C fn).slots.toNat) fn (fnOf C fn).regs.toNat = regsOf (begS s fn (fnOf C fn).slots.toNat (fnOf C fn).regs.toNat) fn := (regs_bank k3).symm
  have hq : ∀ y ∈ argsP xs, y.1 < (List.replicate (fnOf C fn).regs.toNat (0 : Int)).length ∧ 0 ≤ y.2 ∧ y.2 < 4294967296 := fun y hy => by
    obtain ⟨i, hi, rfl⟩ := List.mem_map.1 hy
    have hi' := List.mem_range.1 hi
    exact ⟨by rw [List.length_replicate]; show i < _; omega, hw i⟩
  have h1 := h0.sets (argsP xs) hq
  have h2 := sets_regs (argsP xs) h0 hq
  rw [args_setsL xs hx] at h1
  rw [hregs]
  refine ⟨_, h1, ?_⟩
  exact Prod.ext rfl h2
theorem undo1_ct (s : St) : (undo1 s).code = s.code ∧ (undo1 s).trap = s.trap := by
  unfold undo1
  split <;> exact ⟨rfl, rfl⟩
theorem undoN_ct (s : St) : ∀ n, (undoN n s).code = s.code ∧ (undoN n s).trap = s.trap
  | 0 => ⟨rfl, rfl⟩
  | n + 1 => by
    have h := undoN_ct s n
    have k := undo1_ct (undoN n s)
    exact ⟨k.1.trans h.1, k.2.trans h.2⟩
/-- A call ends: what stood ahead of it is as it was. -/
theorem left_all (P : PgOk C.p) {s0 : St} {c0 : Cl} {l0 : List Int} {d0 : Ds} {N : Int} (h : RelT C (baseOf s) s0 c0 l0 d0) (hN : (fnOf C c0.fn).slots = N) : RelM (leftS s0 c0 N) (endC d0 N) ∧ Core C (leftS s0 c0 N) ∧ (leftS s0 c0 N).calls = s.calls ∧ (leftS s0 c0 N).hidden = s.hidden ∧ (∀ fn i, cur (leftS s0 c0 N) fn i = cur s fn i) ∧ s.begun ≤ (leftS s0 c0 N).begun := by
  subst hN
  obtain ⟨a1, a2⟩ := h.core.left_ P h.top
  obtain ⟨k1, k2, k3, k4, k5, k6, k7, k8, k9, k10, _⟩ := leftS_keeps s0 c0 (fnOf C c0.fn).slots
  obtain ⟨e1, e2⟩ := left_cur (slots := (fnOf C c0.fn).slots) h.inv h.core.hid h.hd
  have hm := h.m
  have hcalls : (leftS s0 c0 (fnOf C c0.fn).slots).calls = s.calls := by
    rw [a2, h.last]
    simp [baseOf]
  have hct : (leftS s0 c0 (fnOf C c0.fn).slots).code = s0.code ∧ (leftS s0 c0 (fnOf C c0.fn).slots).trap = s0.trap := undoN_ct s0 _
  have hbg : s.begun ≤ s0.begun := by
    have := h.no
    have h1 : (baseOf s).no = s.begun := rfl
    omega
  obtain ⟨hs, i1, i2, i3⟩ := h.inv.und
  have hle : ∀ fn i, (cur s fn i).o ≤ s0.begun := fun fn i => by
    have hu : und hs fn i (cur s0 fn i) = cur s fn i := i2 fn i
    rw [← hu]
    unfold und first
    cases hf : hs.find? (fun e => decide (e.fn = fn ∧ e.ix = i)) with
    | none => exact hm.own.c fn i
    | some e =>
      have := List.mem_of_find?_eq_some hf
      exact hm.own.h e (by rw [i1]; simp [this])
  refine ⟨⟨by rw [k2]; exact hm.fuel, by rw [k1]; exact hm.out, by rw [k6]; exact hm.used, by rw [k3]; exact hm.times, ?_, ⟨by rw [k8, hm.mem.low]; rfl, by rw [k10]; exact hm.mem.gl, fun a h1 h2 => ?_⟩, by rw [hct.1]; exact hm.code, by rw [hct.2]; exact hm.trap, by rw [k4]; exact hm.kind, ⟨fun fn i => ?_, fun x hx => ?_⟩⟩, a1, hcalls, e1, e2, by rw [k5]; exact hbg⟩
  · rw [hcalls]
    have := hm.calls
    rw [h.last] at this
    have hl : (baseOf s).calls = s.calls := rfl
    rw [hl, List.length_append, List.length_singleton] at this
    show (s.calls.length : Int) = d0.calls - 1
    omega
  · rw [k9]
    have h1 : d0.low + (fnOf C c0.fn).slots ≤ a := h1
    have hs0 := (P.fn c0.fn h.fn).sl
    have eF : C.p.funcs.getD c0.fn fn0 = fnOf C c0.fn := rfl
    rw [eF] at hs0
    exact hm.mem.sk a (by omega) h2
  · rw [e2, k5]
    exact hle fn i
  · rw [e1] at hx
    rw [k5]
    exact hm.own.h x (by rw [i1]; exact List.mem_append_left _ hx)
end
end Go.Proofs.Ytiehlkhpblldaaa
namespace Go.Proofs.Ytiehlkhpblldaaa
open Go.RowKit Go.Maps
/-- Runs with less than n of fuel go alike. -/
def SimN (C : Cst) (n : Nat) : Prop := ∀ (m : Nat) (B : Bs) (s : St) (c : Cl) (l : List Int) (d : Ds), RelT C B s c l d → Good C s → DOk C 0 d → WordsOk l → d.trap = 0 → d.over = false → d.fuel.toNat < n → d.fuel.toNat < m + 1 → Out C B s c (blkD C (callD C (bodyD C m)) (bodyD C m c.fn) c.fn c.bk (blOf C c.fn c.bk) ((blOf C c.fn c.bk).code.drop c.nx) l d)
section
variable {C : Cst} {B : Bs} {s s' S : St} {c c' : Cl} {l : List Int} {d d' : Ds}
theorem blk_skip {call : Nat → List Int → Ds → Int × Ds} {body : Nat → Int → List Int → Ds → Int × Ds} {fn at_ : Nat} {b : Bl} {l : List Int} {d : Ds} : ∀ cs : List In, blkD C call body fn at_ b cs l d = blkD C call body fn at_ b (cs.drop (phN cs)) l d
  | [] => rfl
  | x :: cs => by
    by_cases h : x.op = 12
    · rw [blk_phi h, blk_skip cs, show phN (x :: cs) = phN cs + 1 by rw [phN, if_pos h]]
      rfl
    · rw [show phN (x :: cs) = 0 by rw [phN, if_neg h]]
      rfl
theorem sim_arr (P : PgOk C.p) {n : Nat} (IH : SimN C n) (h : RelT C B s c l d) {bk : Nat} {f : Int} (hS : S = (arrF s c (regsOf s c.fn) (blOf C c.fn bk).code bk f).1) (hk : Kpt C S) (hD : DOk C 0 d) (hw : WordsOk l) (ht : d.trap = 0) (ho : d.over = false) {m : Nat} (hf : d.fuel.toNat < n) (hm : d.fuel.toNat < m) (hbk : bk < (fnOf C c.fn).blocks.length) : Out C B S c (bodyD C m c.fn bk f l d) := by
  obtain ⟨m, rfl⟩ : ∃ m', m = m' + 1 := ⟨m - 1, by omega⟩
  have hp := hD.phis (phN (blOf C c.fn bk).code)
  obtain ⟨ha, hb⟩ := h.arr P hw hbk f
  unfold bodyD
  cases hok : phisOk d (phN (blOf C c.fn bk).code) with
  | true =>
    rw [if_pos rfl, blk_skip]
    have R := ha hok
    rw [← hS] at R
    have hfu := hp.2.1.fuel
    have := IH m B S _ _ _ R (hk.2 R.m.kind) hp.1 (phisL_ok hw d f _).1 (by rw [(hp.2.2.1 hok).1]; exact ht) (by rw [(hp.2.2.1 hok).2]; exact ho) (by omega) (by omega)
    exact this.runs 0 rfl
  | false =>
    rw [if_neg (by decide)]
    obtain ⟨b1, b2, b3⟩ := hb hok
    rw [← hS] at b1 b2 b3
    have e : (phisD d (phN (blOf C c.fn bk).code)).out = d.out ∧ (phisD d (phN (blOf C c.fn bk).code)).used = d.used ∧ (phisD d (phN (blOf C c.fn bk).code)).count = d.count := by
      unfold phisD
      split <;> exact ⟨rfl, rfl, rfl⟩
    exact ⟨0, .inl ⟨hp.2.2.2 hok, b1, b2, ⟨b3.out.trans e.1.symm, b3.used.trans e.2.1.symm, b3.times.trans e.2.2.symm, b3.code⟩⟩⟩
/-- A call is entered on both sides. -/
theorem sim_enter (P : PgOk C.p) {n : Nat} (IH : SimN C n) (hm : RelM s d) (hC : Core C s) (hall : ∀ c ∈ s.calls, AtOk C c ∧ 0 < c.nx) {fn : Nat} (hfn : fn < C.p.funcs.length) {xs : List Int} (hxs : (xs.length : Int) = (fnOf C fn).params) (hw : WordsOk xs) (hD : DOk C 1 d) (ht : d.trap = 0) (ho : d.over = false) {m : Nat} (hf : d.fuel.toNat < n) (hfm : d.fuel.toNat < m) (hk : Kpt C (entF C s fn (fnOf C fn) xs)) :
    ((C.deep ≤ d.calls ∨ d.low - (fnOf C fn).slots < 8126464) ∧ entF C s fn (fnOf C fn) xs = trapF s 3) ∨
    (¬ (C.deep ≤ d.calls ∨ d.low - (fnOf C fn).slots < 8126464) ∧ ∃ nc : Cl, nc.fn = fn ∧ Out C (baseOf s) (entF C s fn (fnOf C fn) xs) nc (bodyD C m fn 0 (-1) (regD xs (fnOf C fn).regs.toNat) (begD d (fnOf C fn).slots.toNat))) := by
  have hF := P.fn fn hfn
  have eF : C.p.funcs.getD fn fn0 = fnOf C fn := rfl
  rw [eF] at hF
  have hpa := hF.pa
  have hrg := hF.rg
  have hsl := hF.sl
  have hcl := hm.calls
  have hlow := hm.mem.low
  by_cases hno : C.deep ≤ d.calls ∨ d.low - (fnOf C fn).slots < 8126464
  · refine .inl ⟨hno, ?_⟩
    unfold entF entOk pushOk
    rw [if_neg]
    simp only [Bool.and_eq_true, decide_eq_true_eq]
    omega
  · refine .inr ⟨hno, ?_⟩
    have hp : pushOk s (fnOf C fn).slots = true := by unfold pushOk; simp only [decide_eq_true_eq]; omega
    obtain ⟨S0, hR, hS⟩ := RelT.begun P hm hC hall hD.mem hfn hp (xs := xs) (by omega) hw
    have hsn : ((fnOf C fn).slots.toNat : Int) = (fnOf C fn).slots := by omega
    refine ⟨newC (bankS (pushG s (fnOf C fn).slots.toNat) fn (fnOf C fn).regs.toNat) fn, rfl, ?_⟩
    have e : entF C s fn (fnOf C fn) xs = (arrF S0 (newC (bankS (pushG s (fnOf C fn).slots.toNat) fn (fnOf C fn).regs.toNat) fn) (regsOf S0 fn) (blOf C fn 0).code 0 (-1)).1 := by
      unfold entF
      rw [if_pos (by unfold entOk; rw [hp]; simp only [Bool.and_true, decide_eq_true_eq]; omega)]
      dsimp only
      rw [hS]
      rfl
    rw [e] at hk ⊢
    exact sim_arr P IH hR rfl hk (hD.beg (by rw [hsn]; omega)) (regD_ok hw (by omega)).1 ht ho hf hfm hF.nb
/-- The caller goes on. -/
theorem RelT.back (P : PgOk C.p) (h : RelT C B s c l d) {s0 : St} {c0 : Cl} {l0 : List Int} {d0 : Ds} {fn : Nat} (h0 : RelT C (baseOf s) s0 c0 l0 d0) (hf0 : c0.fn = fn) (hk : KeepD (begD d (fnOf C fn).slots.toNat) d0) : RelT C B (leftS s0 c0 (fnOf C c0.fn).slots) c l (endC d0 (fnOf C fn).slots) := by
  subst hf0
  have hs0 := (P.fn c0.fn h0.fn).sl
  have eF : C.p.funcs.getD c0.fn fn0 = fnOf C c0.fn := rfl
  rw [eF] at hs0
  obtain ⟨a1, a2, a3, a4, a5, a6⟩ := left_all P h0 rfl
  obtain ⟨hs, i1, i2, i3⟩ := h.inv.und
  have hlow : d0.low = d.low - ((fnOf C c0.fn).slots.toNat : Int) := hk.low
  refine ⟨a1, a2, by rw [a3]; exact h.last, h.hd, ⟨h.no.1, Int.le_trans h.no.2 a6⟩, ⟨hs, by rw [a4]; exact i1, fun fn i => by rw [a5]; exact i2 fn i, fun fn i hn => by rw [a5] at hn; exact i3 fn i hn⟩, fun i hi => ?_, h.len, ?_⟩
  · rw [getR_cur, a5, ← getR_cur]
    exact h.view i hi
  · rw [h.sl]
    show d.low % 4294967296 = (d0.low + (fnOf C c0.fn).slots) % 4294967296
    rw [hlow]
    congr 1
    omega
theorem view_arg {regs : Int} {sh : Sh} {i : In} (h : RelT C B s c l d) (hf : FitR regs sh i) (hl : (l.length : Int) = regs) {k : Nat} (hk : k < i.args.length) : getR (regsOf s c.fn) (arg i k) c.no = l.getD (arg i k) 0 ∧ arg i k < l.length := by
  have h2 := hf.arg hk
  have hlt : arg i k < l.length := by unfold arg; omega
  exact ⟨h.view _ hlt, hlt⟩
/-- Memory turned on both sides. -/
theorem RelT.stored (h : RelT C B s c l d) (hC : Core C s') (e : (s'.banks, s'.hidden, s'.begun, s'.code, s'.trap, s'.kind, s'.calls, s'.fuel, s'.out, s'.used, s'.times) = (s.banks, s.hidden, s.begun, s.code, s.trap, s.kind, s.calls, s.fuel, s.out, s.used, s.times)) (e2 : (d'.low, d'.calls, d'.fuel, d'.out, d'.used, d'.count) = (d.low, d.calls, d.fuel, d.out, d.used, d.count)) (hM : MemR s' d') : RelT C B s' c l d' := by
  simp only [Prod.mk.injEq] at e e2
  obtain ⟨a1, a2, a3, a4, a5, a6, a7, a8, a9, a10, a11⟩ := e
  obtain ⟨b1, b2, b3, b4, b5, b6⟩ := e2
  have hr : regsOf s' c.fn = regsOf s c.fn := by unfold regsOf; rw [a1]
  have hcur : ∀ fn i, cur s' fn i = cur s fn i := fun fn i => by unfold cur regsOf; rw [a1]
  have hm := h.m
  exact ⟨⟨by rw [a8, b3]; exact hm.fuel, by rw [a9, b4]; exact hm.out, by rw [a10, b5]; exact hm.used, by rw [a11, b6]; exact hm.times, by rw [a7, b2]; exact hm.calls, hM, by rw [a4]; exact hm.code, by rw [a5]; exact hm.trap, by rw [a6]; exact hm.kind, ⟨fun fn i => by rw [hcur, a3]; exact hm.own.c fn i, fun x hx => by rw [a3]; rw [a2] at hx; exact hm.own.h x hx⟩⟩, hC, by rw [a7]; exact h.last, h.hd, by rw [a3]; exact h.no, h.inv.same (by rw [a1, a2]), by rw [hr]; exact h.view, h.len, by rw [b1]; exact h.sl⟩
theorem sim (P : PgOk C.p) : ∀ n, SimN C n
  | 0 => fun m B s c l d _ _ _ _ _ _ h => by omega
  | n + 1 => by
    intro m B s c l d hR hG hD hw ht ho hf hfm
    have IH := sim P n
    have hkpt := step_kpt hG P
    have hk0 := hR.m.kind
    obtain ⟨c1, hc1, hat⟩ := hG.top
    rw [hR.top] at hc1
    injection hc1 with hc1
    subst hc1
    have hstep : stepF C s = if s.fuel < 1 then { s with kind := 3 } else if c.nx = (blOf C c.fn c.bk).code.length then finF C { s with fuel := s.fuel - 1 } c (regsOf s c.fn) (blOf C c.fn c.bk) else doF C (topS { s with fuel := s.fuel - 1 } (nextC c)) (nextC c) (regsOf s c.fn) ((blOf C c.fn c.bk).code.getD c.nx in0) := by
      unfold stepF
      rw [hR.top]
    have hfu := hR.m.fuel
    have hop12 : ∀ (h : c.nx < (blOf C c.fn c.bk).code.length), ((blOf C c.fn c.bk).code[c.nx]).op ≠ 12 := fun h => by
      have := (cod_fit _ _ (code_ok P hR.fn hat.bk) c.nx h).2 (.inr hat.lo)
      rwa [show (blOf C c.fn c.bk).code.getD c.nx in0 = (blOf C c.fn c.bk).code[c.nx] by simp [List.getD, h]] at this
    by_cases h0 : d.fuel ≤ 0
    · have e : blkD C (callD C (bodyD C m)) (bodyD C m c.fn) c.fn c.bk (blOf C c.fn c.bk) ((blOf C c.fn c.bk).code.drop c.nx) l d = (0, spendD d) := by
        by_cases hnx : c.nx < (blOf C c.fn c.bk).code.length
        · rw [List.drop_eq_getElem_cons hnx]
          exact blk_spent (hop12 hnx) h0
        · rw [List.drop_eq_nil_of_le (by omega), blk_nil]
          unfold endD
          rw [if_pos h0]
      rw [e]
      have hs : spendD d = { d with over := true } := by unfold spendD; rw [if_pos h0]
      rw [if_pos (by omega)] at hstep
      refine ⟨1, .inl ⟨(hD.spent h0).2.2, ?_⟩⟩
      rw [step1 hk0, hstep, hs]
      exact ⟨rfl, hR.m.trap, ⟨hR.m.out, hR.m.used, hR.m.times, hR.m.code⟩⟩
    · obtain ⟨s1, s2, s3, s4, s5⟩ := hD.spend (show 0 < d.fuel by omega)
      have hs : spendD d = { d with fuel := d.fuel - 1 } := by unfold spendD; rw [if_neg h0]
      have hR1 : RelT C B { s with fuel := s.fuel - 1 } c l (spendD d) := by
        rw [hs]
        exact hR.same rfl rfl (by show s.fuel - 1 = d.fuel - 1; rw [hfu]) hR.m.out hR.m.used hR.m.times
      have htr : (spendD d).trap = 0 := by rw [s4]; exact ht
      have hov : (spendD d).over = false := by rw [s5]; exact ho
      have hfn1 : (spendD d).fuel.toNat < n := by rw [s3]; omega
      have hfm1 : (spendD d).fuel.toNat < m := by rw [s3]; omega
      rw [if_neg (by omega)] at hstep
      by_cases hnx : c.nx = (blOf C c.fn c.bk).code.length
      · rw [if_pos hnx] at hstep
        rw [List.drop_eq_nil_of_le (by omega), blk_nil]
        unfold endD
        rw [if_neg h0]
        have hends := end_has P hR.fn hat.bk
        unfold finF at hstep
        by_cases h3 : (blOf C c.fn c.bk).en = 3
        · rw [if_pos h3] at hstep ⊢
          have harg : -1 ≤ (blOf C c.fn c.bk).arg ∧ (blOf C c.fn c.bk).arg < (fnOf C c.fn).regs := by
            rcases hends with ⟨e, _⟩ | ⟨e, _⟩ | ⟨_, e⟩
            · omega
            · omega
            · exact e
          have htold : toldR (regsOf s c.fn) (blOf C c.fn c.bk).arg c.no = toldD l (blOf C c.fn c.bk).arg := by
            unfold toldR toldD
            by_cases e : (blOf C c.fn c.bk).arg = -1
            · rw [if_pos e, if_pos (by omega)]
            · rw [if_neg e, if_neg (by omega)]
              have := hR.len
              exact hR.view _ (by omega)
          refine ⟨1, .inr (.inr ⟨hov, htr, _, c, l, ?_, hR1, rfl⟩)⟩
          rw [step1 hk0, hstep, htold]
        · rw [if_neg h3] at hstep ⊢
          have hway : wayF (regsOf s c.fn) c (blOf C c.fn c.bk) = wayD l (blOf C c.fn c.bk) := by
            unfold wayF wayD
            rcases hends with ⟨e, _⟩ | ⟨e, _, e2, e3⟩ | ⟨e, _⟩
            · rw [if_pos e, if_neg (by omega)]
            · rw [if_neg (show ¬ (blOf C c.fn c.bk).en = 1 by omega)]
              have := hR.len
              rw [hR.view _ (show (blOf C c.fn c.bk).arg.toNat < l.length by omega)]
              by_cases z : l.getD (blOf C c.fn c.bk).arg.toNat 0 = 0
              · rw [if_pos z, if_pos ⟨e, z⟩]
              · rw [if_neg z, if_neg (fun q => z q.2)]
            · exact absurd e h3
          rw [hway] at hstep
          have := sim_arr P IH hR1 (S := stepF C s) (f := c.bk) hstep hkpt (s1.less (by omega)) hw htr hov hfn1 hfm1 (way_is P hR.fn hat.bk h3 l)
          exact Out.runs 1 (by rw [step1 hk0]; exact this) rfl
      · rw [if_neg hnx] at hstep
        have hlt : c.nx < (blOf C c.fn c.bk).code.length := by have := hat.hi; omega
        have hR2 : RelT C B (topS { s with fuel := s.fuel - 1 } (nextC c)) (nextC c) l (spendD d) := hR1.move rfl
        have hfit := fit_all P hR.fn hat.bk hlt
        have hgd : (blOf C c.fn c.bk).code.getD c.nx in0 = (blOf C c.fn c.bk).code[c.nx] := by simp [List.getD, hlt]
        have h12 := hop12 hlt
        rw [List.drop_eq_getElem_cons hlt]
        rw [← hgd] at h12 ⊢
        have hins := ins_keep P (call_keeps P m) hfit (fn := c.fn) hw s1 hfm1 htr hov
        have hdoq : (blOf C (nextC c).fn (nextC c).bk).code.getD ((nextC c).nx - 1) in0 = (blOf C c.fn c.bk).code.getD c.nx in0 := rfl
        generalize hI : (blOf C c.fn c.bk).code.getD c.nx in0 = i at *
        have hyes : ∀ (j : Nat) (S' : St), S' = runN C j (stepF C s) → (iDo C (callD C (bodyD C m)) c.fn i l (spendD d)).1 = true → RelT C B S' (nextC c) (iDo C (callD C (bodyD C m)) c.fn i l (spendD d)).2.1 (iDo C (callD C (bodyD C m)) c.fn i l (spendD d)).2.2 → Out C B s c (blkD C (callD C (bodyD C m)) (bodyD C m c.fn) c.fn c.bk (blOf C c.fn c.bk) (i :: (blOf C c.fn c.bk).code.drop (c.nx + 1)) l d) := fun j S' hS' hq hR' => by
          rw [blk_go h12 h0 hq]
          have hkS : Kpt C S' := by rw [hS']; exact runN_kpt P j _ hkpt
          have hle := hins.keep.fuel
          have := IH m B S' (nextC c) _ _ hR' (hkS.2 hR'.m.kind) hins.ok hins.words (hins.flags hq).1 (hins.flags hq).2 (by omega) (by omega)
          rw [hS'] at this
          refine Out.runs (1 + j) (c' := nextC c) ?_ rfl
          rw [runN_add, step1 hk0]
          exact this
        have hno : ∀ (j : Nat) (S' : St), S' = runN C j (stepF C s) → (iDo C (callD C (bodyD C m)) c.fn i l (spendD d)).1 = false → ((iDo C (callD C (bodyD C m)) c.fn i l (spendD d)).2.2.over = true ∧ S'.kind = 3 ∧ S'.trap = 0 ∧ Outs S' (iDo C (callD C (bodyD C m)) c.fn i l (spendD d)).2.2 ∨ (iDo C (callD C (bodyD C m)) c.fn i l (spendD d)).2.2.over = false ∧ (iDo C (callD C (bodyD C m)) c.fn i l (spendD d)).2.2.trap ≠ 0 ∧ S'.kind = 2 ∧ S'.trap = (iDo C (callD C (bodyD C m)) c.fn i l (spendD d)).2.2.trap ∧ Outs S' (iDo C (callD C (bodyD C m)) c.fn i l (spendD d)).2.2) → Out C B s c (blkD C (callD C (bodyD C m)) (bodyD C m c.fn) c.fn c.bk (blOf C c.fn c.bk) (i :: (blOf C c.fn c.bk).code.drop (c.nx + 1)) l d) := fun j S' hS' hq h => by
          rw [blk_fail h12 h0 hq]
          refine ⟨1 + j, ?_⟩
          rw [runN_add, step1 hk0, ← hS']
          rcases h with h | h
          · exact .inl h
          · exact .inr (.inl h)
        have hm2 := hR2.m
        have hlen := hR.len
        have hreg2 : regsOf (topS { s with fuel := s.fuel - 1 } (nextC c)) (nextC c).fn = regsOf s c.fn := rfl
        by_cases h1 : i.op = 1
        · have hf := hfit
          unfold FitB shF at hf
          rw [h1] at hf
          have hf : FitR (fnOf C c.fn).regs ⟨2, 0, -2147483648, 2147483647, false, false, []⟩ i := hf
          have hn := hf.n
          dsimp only at hn
          have e2 : stepF C s = setS (topS { s with fuel := s.fuel - 1 } (nextC c)) (nextC c) (regsOf s c.fn) i.dst.toNat (i.imm % 4294967296) := by rw [hstep]; unfold doF; rw [if_pos h1]
          have hd := hf.dst2 rfl
          have e : iDo C (callD C (bodyD C m)) c.fn i l (spendD d) = (true, l.set i.dst.toNat (i.imm % 4294967296), spendD d) := by unfold iDo; rw [if_pos h1]
          rw [e] at hyes
          refine hyes 0 _ rfl rfl ?_
          show RelT C B (stepF C s) _ _ _
          rw [e2]
          exact (hR2.set (by omega) (by omega)).1
        by_cases h2 : i.op = 2
        · have hf := hfit
          unfold FitB shF at hf
          rw [h2] at hf
          have hf : FitR (fnOf C c.fn).regs ⟨2, 1, 0, 0, false, false, []⟩ i := hf
          have hn := hf.n
          dsimp only at hn
          have e2 : stepF C s = setS (topS { s with fuel := s.fuel - 1 } (nextC c)) (nextC c) (regsOf s c.fn) i.dst.toNat (getR (regsOf s c.fn) (arg i 0) (nextC c).no) := by rw [hstep]; unfold doF; rw [if_neg h1, if_pos h2]
          have hd := hf.dst2 rfl
          obtain ⟨v0, _⟩ := view_arg hR hf hlen (k := 0) (by omega)
          have v0 : getR (regsOf s c.fn) (arg i 0) (nextC c).no = l.getD (arg i 0) 0 := v0
          rw [v0] at e2
          have e : iDo C (callD C (bodyD C m)) c.fn i l (spendD d) = (true, l.set i.dst.toNat (l.getD (arg i 0) 0), spendD d) := by unfold iDo; rw [if_neg h1, if_pos h2]
          rw [e] at hyes
          refine hyes 0 _ rfl rfl ?_
          show RelT C B (stepF C s) _ _ _
          rw [e2]
          exact (hR2.set (by omega) (hw _)).1
        by_cases h3 : i.op = 3
        · have hf := hfit
          unfold FitB shF at hf
          rw [h3] at hf
          have hf : FitR (fnOf C c.fn).regs ⟨2, 2, 0, 0, true, false, []⟩ i := hf
          have hn := hf.n
          dsimp only at hn
          have e2 : stepF C s = reckF C (topS { s with fuel := s.fuel - 1 } (nextC c)) (nextC c) (regsOf s c.fn) i := by rw [hstep]; unfold doF; rw [if_neg h1, if_neg h2, if_pos h3]
          have hd := hf.dst2 rfl
          obtain ⟨v0, _⟩ := view_arg hR hf hlen (k := 0) (by omega)
          obtain ⟨v1, _⟩ := view_arg hR hf hlen (k := 1) (by omega)
          have v0 : getR (regsOf s c.fn) (arg i 0) (nextC c).no = l.getD (arg i 0) 0 := v0
          have v1 : getR (regsOf s c.fn) (arg i 1) (nextC c).no = l.getD (arg i 1) 0 := v1
          unfold reckF at e2
          rw [v0, v1] at e2
          have hx := hw (arg i 0)
          have hy := hw (arg i 1)
          have hcf : souF C (nextC c) i = couF C c.fn i := rfl
          have hR3 : RelT C B (timF C (topS { s with fuel := s.fuel - 1 } (nextC c)) (nextC c) i) (nextC c) l (couB (couF C c.fn i) (spendD d)) := by
            unfold timF couB
            rw [hcf]
            cases couF C c.fn i
            · exact hR2
            · exact hR2.same rfl rfl hm2.fuel hm2.out hm2.used (by show _ + 1 = _ + 1; rw [hm2.times])
          have hreg3 : regsOf (timF C (topS { s with fuel := s.fuel - 1 } (nextC c)) (nextC c) i) (nextC c).fn = regsOf s c.fn := by
            unfold timF
            split <;> rfl
          by_cases hT : aluT i.alu (l.getD (arg i 1) 0) = 0
          · have e : iDo C (callD C (bodyD C m)) c.fn i l (spendD d) = (true, l.set i.dst.toNat (aluV i.alu (l.getD (arg i 0) 0) (l.getD (arg i 1) 0)), couB (couF C c.fn i) (spendD d)) := by unfold iDo; rw [if_neg h1, if_neg h2, if_pos h3, if_pos hT]
            rw [e] at hyes
            refine hyes 0 _ rfl rfl ?_
            show RelT C B (stepF C s) _ _ _
            rw [e2, if_pos hT]
            have := (hR3.set (show i.dst.toNat < l.length by omega) (aluV_bound i.alu _ _ hx.1 hx.2 hy.1 hy.2)).1
            rw [hreg3] at this
            exact this
          · have e : iDo C (callD C (bodyD C m)) c.fn i l (spendD d) = (false, l, { couB (couF C c.fn i) (spendD d) with trap := aluT i.alu (l.getD (arg i 1) 0) }) := by unfold iDo; rw [if_neg h1, if_neg h2, if_pos h3, if_neg hT]
            rw [e] at hno
            rw [if_neg hT] at e2
            have ho3 : (couB (couF C c.fn i) (spendD d)).over = false := by
              have := (s1.cou (couF C c.fn i)).2.2.2
              rw [this]
              exact hov
            refine hno 0 (stepF C s) rfl rfl (.inr ⟨ho3, hT, ?_, ?_, ?_⟩)
            · rw [e2]; rfl
            · rw [e2]; rfl
            · rw [e2]; exact ⟨hR3.m.out, hR3.m.used, hR3.m.times, hR3.m.code⟩
        by_cases h4 : i.op = 4
        · have hf := hfit
          unfold FitB shF at hf
          rw [h4] at hf
          have hf : FitR (fnOf C c.fn).regs ⟨2, 0, 0, C.p.global, false, false, []⟩ i := hf
          have hn := hf.n
          dsimp only at hn
          have e2 : stepF C s = setS (topS { s with fuel := s.fuel - 1 } (nextC c)) (nextC c) (regsOf s c.fn) i.dst.toNat ((16777216 + i.imm % 4294967296) % 4294967296) := by rw [hstep]; unfold doF; rw [if_neg h1, if_neg h2, if_neg h3, if_pos h4]
          have hd := hf.dst2 rfl
          have e : iDo C (callD C (bodyD C m)) c.fn i l (spendD d) = (true, l.set i.dst.toNat ((16777216 + i.imm % 4294967296) % 4294967296), spendD d) := by unfold iDo; rw [if_neg h1, if_neg h2, if_neg h3, if_pos h4]
          rw [e] at hyes
          refine hyes 0 _ rfl rfl ?_
          show RelT C B (stepF C s) _ _ _
          rw [e2]
          exact (hR2.set (by omega) (by omega)).1
        by_cases h5 : i.op = 5
        · have hf := hfit
          unfold FitB shF at hf
          rw [h5] at hf
          have hf : FitR (fnOf C c.fn).regs ⟨2, 0, 0, (fnOf C c.fn).slots, false, false, []⟩ i := hf
          have hn := hf.n
          dsimp only at hn
          have e2 : stepF C s = setS (topS { s with fuel := s.fuel - 1 } (nextC c)) (nextC c) (regsOf s c.fn) i.dst.toNat (((nextC c).sl + i.imm % 4294967296) % 4294967296) := by rw [hstep]; unfold doF; rw [if_neg h1, if_neg h2, if_neg h3, if_neg h4, if_pos h5]
          have hd := hf.dst2 rfl
          rw [show (nextC c).sl = (spendD d).low % 4294967296 from hR2.sl] at e2
          have e : iDo C (callD C (bodyD C m)) c.fn i l (spendD d) = (true, l.set i.dst.toNat (((spendD d).low % 4294967296 + i.imm % 4294967296) % 4294967296), spendD d) := by unfold iDo; rw [if_neg h1, if_neg h2, if_neg h3, if_neg h4, if_pos h5]
          rw [e] at hyes
          refine hyes 0 _ rfl rfl ?_
          show RelT C B (stepF C s) _ _ _
          rw [e2]
          exact (hR2.set (by omega) (by omega)).1
        by_cases h6 : i.op = 6
        · have hf := hfit
          unfold FitB shF at hf
          rw [h6] at hf
          have hf : FitR (fnOf C c.fn).regs ⟨2, 1, -2147483648, 2147483647, false, true, []⟩ i := hf
          have hn := hf.n
          dsimp only at hn
          have e2 : stepF C s = accF (topS { s with fuel := s.fuel - 1 } (nextC c)) (nextC c) (regsOf s c.fn) i := by rw [hstep]; unfold doF; rw [if_neg h1, if_neg h2, if_neg h3, if_neg h4, if_neg h5, if_pos h6]
          have hd := hf.dst2 rfl
          obtain ⟨v0, _⟩ := view_arg hR hf hlen (k := 0) (by omega)
          have hwd := hf.wide
          unfold wideF at hwd
          simp only [if_true, decide_eq_true_eq] at hwd
          have hwn : i.wide = (i.wide.toNat : Int) := by omega
          have hadr : adrF (regsOf s c.fn) (nextC c).no i = (l.getD (arg i 0) 0 + i.imm) % 4294967296 := by
            unfold adrF
            rw [show getR (regsOf s c.fn) (arg i 0) (nextC c).no = l.getD (arg i 0) 0 from v0]
            omega
          unfold accF at e2
          rw [hadr] at e2
          rcases load_eq hm2.mem hR2.core.mem s1.mem (A := (l.getD (arg i 0) 0 + i.imm) % 4294967296) (by omega) (n := i.wide.toNat) (by omega) with ⟨q1, q2⟩ | ⟨st, o, q1, q2⟩
          · rw [← hwn] at q1
            rw [q1] at e2
            have e : iDo C (callD C (bodyD C m)) c.fn i l (spendD d) = (false, l, { spendD d with trap := 5 }) := by unfold iDo; rw [if_neg h1, if_neg h2, if_neg h3, if_neg h4, if_neg h5, if_pos h6, q2]
            rw [e] at hno
            refine hno 0 (stepF C s) rfl rfl (.inr ⟨hov, by show (5 : Int) ≠ 0; decide, ?_, ?_, ?_⟩)
            · rw [e2]; rfl
            · rw [e2]; rfl
            · rw [e2]; exact ⟨hm2.out, hm2.used, hm2.times, hm2.code⟩
          · rw [← hwn] at q1
            rw [q1] at e2
            dsimp only at e2
            rw [if_pos h6] at e2
            have e : iDo C (callD C (bodyD C m)) c.fn i l (spendD d) = (true, l.set i.dst.toNat (wordK (partL (if st then (topS { s with fuel := s.fuel - 1 } (nextC c)).sk else (topS { s with fuel := s.fuel - 1 } (nextC c)).gl) o i.wide.toNat) i.wide.toNat), spendD d) := by unfold iDo; rw [if_neg h1, if_neg h2, if_neg h3, if_neg h4, if_neg h5, if_pos h6, q2]
            rw [e] at hyes
            refine hyes 0 _ rfl rfl ?_
            show RelT C B (stepF C s) _ _ _
            rw [e2]
            exact (hR2.set (by omega) (wordK_bound _ _)).1
        by_cases h7 : i.op = 7
        · have hf := hfit
          unfold FitB shF at hf
          rw [h7] at hf
          have hf : FitR (fnOf C c.fn).regs ⟨1, 2, -2147483648, 2147483647, false, true, []⟩ i := hf
          have hn := hf.n
          dsimp only at hn
          have e2 : stepF C s = accF (topS { s with fuel := s.fuel - 1 } (nextC c)) (nextC c) (regsOf s c.fn) i := by rw [hstep]; unfold doF; rw [if_neg h1, if_neg h2, if_neg h3, if_neg h4, if_neg h5, if_neg h6, if_pos h7]
          obtain ⟨v0, _⟩ := view_arg hR hf hlen (k := 0) (by omega)
          have hwd := hf.wide
          unfold wideF at hwd
          simp only [if_true, decide_eq_true_eq] at hwd
          have hwn : i.wide = (i.wide.toNat : Int) := by omega
          have hadr : adrF (regsOf s c.fn) (nextC c).no i = (l.getD (arg i 0) 0 + i.imm) % 4294967296 := by
            unfold adrF
            rw [show getR (regsOf s c.fn) (arg i 0) (nextC c).no = l.getD (arg i 0) 0 from v0]
            omega
          obtain ⟨v1, _⟩ := view_arg hR hf hlen (k := 1) (by omega)
          have v1 : getR (regsOf s c.fn) (arg i 1) (nextC c).no = l.getD (arg i 1) 0 := v1
          unfold accF at e2
          rw [hadr, v1] at e2
          rcases store_eq hm2.mem hR2.core.mem s1.mem (A := (l.getD (arg i 0) 0 + i.imm) % 4294967296) (by omega) (n := i.wide.toNat) (by omega) (l.getD (arg i 1) 0) with ⟨q1, q2⟩ | ⟨st, o, q1, q2, q3⟩
          · rw [← hwn] at q1
            rw [q1] at e2
            have e : iDo C (callD C (bodyD C m)) c.fn i l (spendD d) = (false, l, { spendD d with trap := 5 }) := by unfold iDo; rw [if_neg h1, if_neg h2, if_neg h3, if_neg h4, if_neg h5, if_neg h6, if_pos h7, if_neg (by rw [q2]; decide)]
            rw [e] at hno
            refine hno 0 (stepF C s) rfl rfl (.inr ⟨hov, by show (5 : Int) ≠ 0; decide, ?_, ?_, ?_⟩)
            · rw [e2]; rfl
            · rw [e2]; rfl
            · rw [e2]; exact ⟨hm2.out, hm2.used, hm2.times, hm2.code⟩
          · rw [← hwn] at q1
            rw [q1] at e2
            dsimp only at e2
            rw [if_neg h6] at e2
            have e : iDo C (callD C (bodyD C m)) c.fn i l (spendD d) = (true, l, storeN (spendD d) ((l.getD (arg i 0) 0 + i.imm) % 4294967296) (l.getD (arg i 1) 0) i.wide.toNat) := by unfold iDo; rw [if_neg h1, if_neg h2, if_neg h3, if_neg h4, if_neg h5, if_neg h6, if_pos h7, if_pos q2]
            rw [e] at hyes
            refine hyes 0 _ rfl rfl ?_
            show RelT C B (stepF C s) _ _ _
            have hss := store_same (spendD d) ((l.getD (arg i 0) 0 + i.imm) % 4294967296) (l.getD (arg i 1) 0) i.wide.toNat
            have hsr := storeN_rest (spendD d) ((l.getD (arg i 0) 0 + i.imm) % 4294967296) (l.getD (arg i 1) 0) i.wide.toNat
            simp only [Prod.mk.injEq] at hsr
            obtain ⟨r1, r2, r3, r4, r5, r6, r7⟩ := hsr
            rw [← e2] at q3
            have hk9 : (stepF C s).kind = 0 := by rw [e2]; cases st <;> exact hm2.kind
            refine hR2.stored (hkpt.2 hk9).core ?_ ?_ q3
            · rw [e2]; cases st <;> rfl
            · rw [hss.l, r5, r1, r3, r4, r2]
        by_cases h8 : i.op = 8
        · have hf := hfit
          unfold FitB shF at hf
          rw [h8] at hf
          have hf : FitR (fnOf C c.fn).regs ⟨1, 1, 1, 2, false, false, []⟩ i := hf
          have hn := hf.n
          dsimp only at hn
          have e2 : stepF C s = chkF2 (topS { s with fuel := s.fuel - 1 } (nextC c)) (regsOf s c.fn) (nextC c).no (arg i 0) i.imm := by rw [hstep]; unfold doF; rw [if_neg h1, if_neg h2, if_neg h3, if_neg h4, if_neg h5, if_neg h6, if_neg h7, if_pos h8]
          obtain ⟨v0, _⟩ := view_arg hR hf hlen (k := 0) (by omega)
          have v0 : getR (regsOf s c.fn) (arg i 0) (nextC c).no = l.getD (arg i 0) 0 := v0
          have him := hf.imm
          dsimp only at him
          unfold chkF2 at e2
          rw [v0] at e2
          by_cases hz : l.getD (arg i 0) 0 = 0
          · rw [if_pos hz] at e2
            have e : iDo C (callD C (bodyD C m)) c.fn i l (spendD d) = (false, l, { spendD d with trap := i.imm }) := by unfold iDo; rw [if_neg h1, if_neg h2, if_neg h3, if_neg h4, if_neg h5, if_neg h6, if_neg h7, if_pos h8, if_pos hz]
            rw [e] at hno
            refine hno 0 (stepF C s) rfl rfl (.inr ⟨hov, by show i.imm ≠ 0; omega, ?_, ?_, ?_⟩)
            · rw [e2]; rfl
            · rw [e2]; rfl
            · rw [e2]; exact ⟨hm2.out, hm2.used, hm2.times, hm2.code⟩
          · rw [if_neg hz] at e2
            have e : iDo C (callD C (bodyD C m)) c.fn i l (spendD d) = (true, l, spendD d) := by unfold iDo; rw [if_neg h1, if_neg h2, if_neg h3, if_neg h4, if_neg h5, if_neg h6, if_neg h7, if_pos h8, if_neg hz]
            rw [e] at hyes
            refine hyes 0 _ rfl rfl ?_
            show RelT C B (stepF C s) _ _ _
            rw [e2]
            exact hR2
        by_cases h9 : i.op = 9
        · obtain ⟨f1, f2, f3, f4⟩ := call_fit P h9 hfit
          have hxs : argsOf (regsOf s c.fn) (nextC c).no i = (i.args.map (fun a => l.getD a.toNat 0)) := by
            unfold argsOf
            refine List.map_congr_left (fun a ha => ?_)
            have := hfit.a a ha
            exact hR.view _ (by omega)
          have e2 : stepF C s = entF C (topS { s with fuel := s.fuel - 1 } (nextC c)) i.imm.toNat (fnOf C i.imm.toNat) (i.args.map (fun a => l.getD a.toNat 0)) := by rw [hstep]; unfold doF; rw [if_neg h1, if_neg h2, if_neg h3, if_neg h4, if_neg h5, if_neg h6, if_neg h7, if_neg h8, if_pos h9, hxs]
          have hall : ∀ c' ∈ (topS { s with fuel := s.fuel - 1 } (nextC c)).calls, AtOk C c' ∧ 0 < c'.nx := fun c' hc' => by
            rw [hR2.last] at hc'
            rcases List.mem_append.1 hc' with hc' | hc'
            · refine hG.core.pos c' ?_
              rw [hR.last]
              simpa using hc'
            · simp only [List.mem_singleton] at hc'
              subst hc'
              exact ⟨⟨hat.bk, Nat.le_succ_of_le hat.lo, by show c.nx + 1 ≤ _; exact hlt⟩, Nat.succ_pos _⟩
          have e : iDo C (callD C (bodyD C m)) c.fn i l (spendD d) = if (callD C (bodyD C m) i.imm.toNat (i.args.map (fun a => l.getD a.toNat 0)) (spendD d)).2.over = true ∨ (callD C (bodyD C m) i.imm.toNat (i.args.map (fun a => l.getD a.toNat 0)) (spendD d)).2.trap ≠ 0 then (false, l, (callD C (bodyD C m) i.imm.toNat (i.args.map (fun a => l.getD a.toNat 0)) (spendD d)).2) else (true, if i.dst = -1 then l else l.set i.dst.toNat (callD C (bodyD C m) i.imm.toNat (i.args.map (fun a => l.getD a.toNat 0)) (spendD d)).1, (callD C (bodyD C m) i.imm.toNat (i.args.map (fun a => l.getD a.toNat 0)) (spendD d)).2) := by unfold iDo; rw [if_neg h1, if_neg h2, if_neg h3, if_neg h4, if_neg h5, if_neg h6, if_neg h7, if_neg h8, if_pos h9]
          rw [e2] at hkpt
          rcases sim_enter P IH hm2 hR2.core hall f1 (by rw [List.length_map]; exact f2) (words_map hw i.args) s1 htr hov hfn1 hfm1 hkpt with ⟨g1, g2⟩ | ⟨g1, nc, g2, k, g3⟩
          · have ec : (callD C (bodyD C m) i.imm.toNat (i.args.map (fun a => l.getD a.toNat 0)) (spendD d)) = (0, { spendD d with trap := 3 }) := by unfold callD; rw [if_pos g1]
            rw [ec, if_pos (.inr (by show (3 : Int) ≠ 0; decide))] at e
            rw [e] at hno
            refine hno 0 (stepF C s) rfl rfl (.inr ⟨hov, by show (3 : Int) ≠ 0; decide, ?_, ?_, ?_⟩)
            · rw [e2, g2]; rfl
            · rw [e2, g2]; rfl
            · rw [e2, g2]; exact ⟨hm2.out, hm2.used, hm2.times, hm2.code⟩
          · have ec : (callD C (bodyD C m) i.imm.toNat (i.args.map (fun a => l.getD a.toNat 0)) (spendD d)) = ((bodyD C m i.imm.toNat 0 (-1) (regD (i.args.map (fun a => l.getD a.toNat 0)) (fnOf C i.imm.toNat).regs.toNat) (begD (spendD d) (fnOf C i.imm.toNat).slots.toNat)).1, endC (bodyD C m i.imm.toNat 0 (-1) (regD (i.args.map (fun a => l.getD a.toNat 0)) (fnOf C i.imm.toNat).regs.toNat) (begD (spendD d) (fnOf C i.imm.toNat).slots.toNat)).2 (fnOf C i.imm.toNat).slots) := by unfold callD; rw [if_neg g1]
            have hsl := (P.fn i.imm.toNat f1).sl
            have hrg := (P.fn i.imm.toNat f1).rg
            have hpa := (P.fn i.imm.toNat f1).pa
            have eF : C.p.funcs.getD i.imm.toNat fn0 = fnOf C i.imm.toNat := rfl
            rw [eF] at hsl hrg hpa
            have hxl : (i.args.map (fun a => l.getD a.toNat 0)).length ≤ (fnOf C i.imm.toNat).regs.toNat := by rw [List.length_map]; omega
            have hlo : 8126464 ≤ (spendD d).low - (((fnOf C i.imm.toNat).slots.toNat : Nat) : Int) := by omega
            have hbk := body_keep P m i.imm.toNat 0 (-1) (regD (i.args.map (fun a => l.getD a.toNat 0)) (fnOf C i.imm.toNat).regs.toNat) (begD (spendD d) (fnOf C i.imm.toNat).slots.toNat) f1 (P.fn i.imm.toNat f1).nb (regD_ok (words_map hw i.args) hxl).1 (by rw [(regD_ok (words_map hw i.args) hxl).2]; omega) (s1.beg hlo) htr hov hfm1
            rw [← e2] at g3
            rw [ec] at e
            generalize (bodyD C m i.imm.toNat 0 (-1) (regD (i.args.map (fun a => l.getD a.toNat 0)) (fnOf C i.imm.toNat).regs.toNat) (begD (spendD d) (fnOf C i.imm.toNat).slots.toNat)) = q at *
            rcases g3 with ⟨o1, o2, o3, o4⟩ | ⟨o1, o2, o3, o4, o5⟩ | ⟨o1, o2, s0, c0, l0, o3, o4, o5⟩
            · rw [if_pos (.inl o1)] at e
              rw [e] at hno
              exact hno k _ rfl rfl (.inl ⟨o1, o2, o3, ⟨o4.out, o4.used, o4.times, o4.code⟩⟩)
            · rw [if_pos (.inr o2)] at e
              rw [e] at hno
              exact hno k _ rfl rfl (.inr ⟨o1, o2, o3, o4, ⟨o5.out, o5.used, o5.times, o5.code⟩⟩)
            · have hne : ¬ ((endC q.2 (fnOf C i.imm.toNat).slots).over = true ∨ (endC q.2 (fnOf C i.imm.toNat).slots).trap ≠ 0) := fun z => z.elim (fun z => by have z : q.2.over = true := z; rw [o1] at z; cases z) (fun z => z o2)
              rw [if_neg hne] at e
              rw [e] at hyes
              have hB := RelT.back P hR2 o4 (o5.trans g2) hbk.keep
              have hlv : levF C s0 c0 q.1 = backF (leftS s0 c0 (fnOf C c0.fn).slots) (nextC c) (regsOf (leftS s0 c0 (fnOf C c0.fn).slots) (nextC c).fn) i q.1 := by
                unfold levF
                dsimp only
                rw [hB.top]
                dsimp only
                rw [hdoq]
              refine hyes k _ rfl rfl ?_
              rw [o3, hlv]
              unfold backF
              by_cases hd : i.dst = -1
              · rw [if_pos hd, if_pos hd]
                exact hB
              · rw [if_neg hd, if_neg hd]
                exact (hB.set (by omega) hbk.told).1
        by_cases h10 : i.op = 10
        · have hf := hfit
          unfold FitB shF at hf
          rw [h10] at hf
          have hf : FitR (fnOf C c.fn).regs ⟨2, 0, 0, 0, false, false, []⟩ i := hf
          have hn := hf.n
          dsimp only at hn
          have e2 : stepF C s = setS (nextF C (topS { s with fuel := s.fuel - 1 } (nextC c))) (nextC c) (regsOf s c.fn) i.dst.toNat (nextV C (topS { s with fuel := s.fuel - 1 } (nextC c))) := by rw [hstep]; unfold doF; rw [if_neg h1, if_neg h2, if_neg h3, if_neg h4, if_neg h5, if_neg h6, if_neg h7, if_neg h8, if_neg h9, if_pos h10]
          have hd := hf.dst2 rfl
          have hu := hm2.used
          unfold nextF nextV at e2
          by_cases hlt2 : (spendD d).used < C.input.size
          · have hlt3 : (topS { s with fuel := s.fuel - 1 } (nextC c)).used < C.input.size := by rw [hu]; exact hlt2
            rw [if_pos hlt3, dif_pos hlt3] at e2
            have e : iDo C (callD C (bodyD C m)) c.fn i l (spendD d) = (true, l.set i.dst.toNat ((C.input[(spendD d).used]'hlt2).toNat : Int), { spendD d with used := (spendD d).used + 1 }) := by unfold iDo; rw [if_neg h1, if_neg h2, if_neg h3, if_neg h4, if_neg h5, if_neg h6, if_neg h7, if_neg h8, if_neg h9, if_pos h10, dif_pos hlt2]
            rw [e] at hyes
            refine hyes 0 _ rfl rfl ?_
            show RelT C B (stepF C s) _ _ _
            rw [e2]
            have hR3 : RelT C B { (topS { s with fuel := s.fuel - 1 } (nextC c)) with used := (topS { s with fuel := s.fuel - 1 } (nextC c)).used + 1 } (nextC c) l { spendD d with used := (spendD d).used + 1 } := hR2.same rfl rfl hm2.fuel hm2.out (by show _ + 1 = _ + 1; rw [hu]) hm2.times
            have hb := (C.input[(spendD d).used]'hlt2).toNat_lt
            have hv : ((C.input[(topS { s with fuel := s.fuel - 1 } (nextC c)).used]'hlt3).toNat : Int) = ((C.input[(spendD d).used]'hlt2).toNat : Int) := by
              congr 3
            rw [hv]
            exact (hR3.set (by omega) (by omega)).1
          · have hlt3 : ¬ (topS { s with fuel := s.fuel - 1 } (nextC c)).used < C.input.size := by rw [hu]; exact hlt2
            rw [if_neg hlt3, dif_neg hlt3] at e2
            have e : iDo C (callD C (bodyD C m)) c.fn i l (spendD d) = (true, l.set i.dst.toNat 4294967295, spendD d) := by unfold iDo; rw [if_neg h1, if_neg h2, if_neg h3, if_neg h4, if_neg h5, if_neg h6, if_neg h7, if_neg h8, if_neg h9, if_pos h10, dif_neg hlt2]
            rw [e] at hyes
            refine hyes 0 _ rfl rfl ?_
            show RelT C B (stepF C s) _ _ _
            rw [e2]
            exact (hR2.set (by omega) (by omega)).1
        by_cases h11 : i.op = 11
        · have hf := hfit
          unfold FitB shF at hf
          rw [h11] at hf
          have hf : FitR (fnOf C c.fn).regs ⟨1, 1, 0, 0, false, false, []⟩ i := hf
          have hn := hf.n
          dsimp only at hn
          have e2 : stepF C s = { (topS { s with fuel := s.fuel - 1 } (nextC c)) with out := (topS { s with fuel := s.fuel - 1 } (nextC c)).out ++ [getR (regsOf s c.fn) (arg i 0) (nextC c).no % 256] } := by rw [hstep]; unfold doF; rw [if_neg h1, if_neg h2, if_neg h3, if_neg h4, if_neg h5, if_neg h6, if_neg h7, if_neg h8, if_neg h9, if_neg h10, if_pos h11]
          obtain ⟨v0, _⟩ := view_arg hR hf hlen (k := 0) (by omega)
          have v0 : getR (regsOf s c.fn) (arg i 0) (nextC c).no = l.getD (arg i 0) 0 := v0
          rw [v0] at e2
          have e : iDo C (callD C (bodyD C m)) c.fn i l (spendD d) = (true, l, { spendD d with out := (spendD d).out ++ [l.getD (arg i 0) 0 % 256] }) := by unfold iDo; rw [if_neg h1, if_neg h2, if_neg h3, if_neg h4, if_neg h5, if_neg h6, if_neg h7, if_neg h8, if_neg h9, if_neg h10, if_pos h11]
          rw [e] at hyes
          refine hyes 0 _ rfl rfl ?_
          show RelT C B (stepF C s) _ _ _
          rw [e2]
          exact hR2.same rfl rfl hm2.fuel (by show _ ++ _ = _ ++ _; rw [hm2.out]) hm2.used hm2.times
        exfalso
        have hf := hfit
        unfold FitB shF at hf
        rw [if_neg h1, if_neg h2, if_neg h3, if_neg h4, if_neg h5, if_neg h6, if_neg h7, if_neg h8, if_neg h9, if_neg h10, if_neg h11, if_neg h12] at hf
        exact absurd rfl hf.has
end
end Go.Proofs.Ytiehlkhpblldaaa
