/- A step of the program's machine is the plain machine's. -/
import Derived.Test.YtiehlkhpblldaaaPlM
import Derived.Test.YtiehlkhpblldaaaRr
import Derived.Test.YtiehlkhpblldaaaRl2
import Derived.Test.YtiehlkhpblldaaaRu
import Derived.Test.YtiehlkhpblldaaaRx
import Derived.Test.YtiehlkhpblldaaaRvM
namespace Go.Proofs.Ytiehlkhpblldaaa
open Go.RowKit Go.Maps
set_option linter.unusedVariables false
set_option linter.unusedSimpArgs false
section
variable {C : Cst} {W0 W W' : World} {r : Nat} {s s' : St} {x : Vs} {t : Tp} {c : Cl} {l : List Rg}
/-- What a part of a step leaves in memory. -/
def Mem (C : Cst) (W0 : World) (r : Nat) (S : St) (e : Ending) (w' : World) : Prop := ∃ x' t', RunM C W0 r w' S x' t' ∧ (S.kind = 0 → ∃ c' l', Top C S x' t' c' l')
theorem fn_is {n : Nat} (h : n < C.p.funcs.length) : C.p.funcs[n] = fnOf C n := by unfold fnOf; simp [List.getD, h]
theorem bl_is {n k : Nat} (h : n < C.p.funcs.length) (hk : k < (C.p.funcs[n]).blocks.length) : (C.p.funcs[n]).blocks[k] = blOf C n k := by
  unfold blOf fnOf
  simp [List.getD, h, hk]
theorem room24 {a b : Nat} (ha : a ≤ 700000) (hb : b ≤ 65536) : (a + b + 1) * 24 ≤ 140737488355328 := by omega
theorem Num.hid {j d : Nat} (h : Num C j d s) : s.hidden.length ≤ 700000 := by have := h.nh; omega
theorem Num.fuel {j d : Nat} (h : Num C j d s) : s.fuel ≤ 9223372036854775807 := by have := h.nc; omega
theorem arrive_ (h : RunM C W0 r W s x t) (T : Top C s x t c l) (P : PgOk C.p) (hC : Core C s) {j d : Nat} (N : Num C j d s) {bk : Nat} (hb : bk < (fnOf C c.fn).blocks.length) (f : Int) :
    Calls Try.prog 27 #[.pointer (some ⟨r, 0, none⟩), .int .i64 bk, .int .i64 f] W fun e w' => e = .returned (.tuple #[]) ∧ ∃ x', RunM C W0 r w' (arrF s c l (blOf C c.fn bk).code bk f).1 x' t ∧ Top C (arrF s c l (blOf C c.fn bk).code bk f).1 x' t (arrS s c bk (blOf C c.fn bk).code) (arrF s c l (blOf C c.fn bk).code bk f).2 := by
  have hf := T.fn
  have hb' : bk < (C.p.funcs[c.fn]'T.fn).blocks.length := by rw [fn_is hf]; exact hb
  have eb := bl_is hf hb'
  have hr := hC.bk _ _ T.bank
  have h27 := arrive27 (bk := bk) (from_ := f) h T hb'
  rw [eb] at h27
  have hlen := code_len P hf hb
  have hph := phN_le (blOf C c.fn bk).code
  refine h27 (fun i hi hp => ?_) (fun hp => (phi_ok P hf hb hr.1 hp).2) N.fuel hr.2 (room24 N.hid (by omega)) (by have := N.nc; omega)
  have := (phi_ok P hf hb hr.1 hp).1
  have e : (blOf C c.fn bk).code.getD i in0 = (blOf C c.fn bk).code[i] := by simp [List.getD, hi]
  rw [e] at this
  exact this
/-- A call that begins. -/
theorem ent_mid (hC : Core C s) (hN : Num C 12 1 s) (P : PgOk C.p) {fn : Nat} (hf : fn < C.p.funcs.length) (hall : ∀ c ∈ s.calls, AtOk C c ∧ 0 < c.nx) {args : List Int} (hn : (args.length : Int) = (fnOf C fn).params) (ha : ∀ a ∈ args, 0 ≤ a ∧ a < 4294967296) (hok : entOk C s (fnOf C fn).slots = true) :
    Core C (setsF (newC (bankS (pushG s (fnOf C fn).slots.toNat) fn (fnOf C fn).regs.toNat) fn) (begS s fn (fnOf C fn).slots.toNat (fnOf C fn).regs.toNat) (bankL (pushG s (fnOf C fn).slots.toNat) fn (fnOf C fn).regs.toNat) (argsP args)).1 ∧ Num C 0 0 (setsF (newC (bankS (pushG s (fnOf C fn).slots.toNat) fn (fnOf C fn).regs.toNat) fn) (begS s fn (fnOf C fn).slots.toNat (fnOf C fn).regs.toNat) (bankL (pushG s (fnOf C fn).slots.toNat) fn (fnOf C fn).regs.toNat) (argsP args)).1 ∧ args.length ≤ (bankL (pushG s (fnOf C fn).slots.toNat) fn (fnOf C fn).regs.toNat).length ∧ args.length ≤ 12 := by
  have hF := P.fn fn hf
  have eF : C.p.funcs.getD fn fn0 = fnOf C fn := rfl
  rw [eF] at hF
  unfold entOk at hok
  simp only [Bool.and_eq_true, decide_eq_true_eq] at hok
  obtain ⟨c1, c2, c3⟩ := hC.beg_ P hf hok.2 hall
  have n1 := Num.beg_ (d := 0) hN fn (fnOf C fn).slots.toNat (fnOf C fn).regs.toNat
  generalize hb : begS s fn (fnOf C fn).slots.toNat (fnOf C fn).regs.toNat = B at *
  generalize hnc : newC (bankS (pushG s (fnOf C fn).slots.toNat) fn (fnOf C fn).regs.toNat) fn = q at *
  have hq : q.fn = fn := by rw [← hnc]; rfl
  generalize bankL (pushG s (fnOf C fn).slots.toNat) fn (fnOf C fn).regs.toNat = m at *
  have hm := c1.bk _ _ c3
  have hpl : (argsP args).length = args.length := by simp [argsP]
  have hpa := hF.pa
  have hrg := hF.rg
  obtain ⟨d1, d2⟩ := Core.sets_ (c := q) (argsP args) c1 (by rw [hq]; exact c3) (args_ok (by omega) ha)
  have hr := setsF_rest q (argsP args) B m
  have hl := setsF_len q (argsP args) B m
  exact ⟨d1, Num.of (k := 12) n1 hr (by have := hl.2.1; omega), by omega, by omega⟩
theorem enter_ (h : RunM C W0 r W s x t) (hC : Core C s) (hN : Num C 12 1 s) (P : PgOk C.p) {fn : Nat} (hf : fn < C.p.funcs.length) (hall : ∀ c ∈ s.calls, AtOk C c ∧ 0 < c.nx) {args : List Int} (hn : (args.length : Int) = (fnOf C fn).params) (ha : ∀ a ∈ args, 0 ≤ a ∧ a < 4294967296) {av : Value} (hav : ArgsV C av args) :
    Calls Try.prog 17 #[.pointer (some ⟨r, 0, none⟩), .int .i64 fn, av] W fun e w' => e = .returned (.tuple #[]) ∧ Mem C W0 r (entF C s fn (fnOf C fn) args) e w' := by
  have hF := P.fn fn hf
  have eF : C.p.funcs.getD fn fn0 = fnOf C fn := rfl
  rw [eF] at hF
  have e := fn_is hf
  have hcl : s.calls.length ≤ 40000 := by have := hN.nc; omega
  cases hok : entOk C s (fnOf C fn).slots with
  | false =>
    have h17 := enter17_no (av := av) h hf (by omega) (by rw [e]; exact hF.sl) hC.mem (by rw [e]; exact hok)
    refine h17.mono ?_
    rintro e1 w1 ⟨rfl, x', hR⟩
    refine ⟨rfl, x', t, ?_, ?_⟩
    · unfold entF
      rw [hok]
      exact hR
    · unfold entF
      rw [hok]
      intro h0
      cases h0
  | true =>
    obtain ⟨m1, m2, m3, m4⟩ := ent_mid hC hN P hf hall hn ha hok
    have hpa := hF.pa
    have hrg := hF.rg
    refine enter17_yes (R := Mem C W0 r (entF C s fn (fnOf C fn) args)) h hf (by omega) (by rw [e]; exact hF.sl) (by rw [e]; omega) hC.mem (by rw [e]; exact hok) hC.hid hC.bl (by have := hN.nb; omega) (by have := hN.hid; omega) hav m4 (by rw [e]; exact m3) ?_
    rw [e]
    intro w x' t' hR hT
    unfold entF
    rw [hok, if_pos rfl]
    dsimp only
    have eb : (fnOf C fn).blocks.getD 0 ⟨undef, [], 0, 0, undef, []⟩ = blOf C fn 0 := rfl
    rw [eb]
    have := arrive_ hR hT P m1 m2 (bk := 0) (show 0 < (fnOf C fn).blocks.length from hF.nb) (-1)
    refine this.mono ?_
    rintro e1 w1 ⟨rfl, x2, hR2, hT2⟩
    exact ⟨rfl, x2, t', hR2, fun _ => ⟨_, _, hT2⟩⟩
/-- A call's end. -/
theorem leave_ (h : RunM C W0 r W s x t) (T : Top C s x t c l) (hC : Core C s) (hN : Num C 1 0 s) (P : PgOk C.p) {told : Int} (ht : 0 ≤ told ∧ told < 4294967296) :
    Calls Try.prog 47 #[.pointer (some ⟨r, 0, none⟩), .int .u32 told] W fun e w' => e = .returned (.tuple #[]) ∧ Mem C W0 r (levF C s c told) e w' := by
  have hm : c ∈ s.calls := List.mem_of_getLast? T.last
  have hf := T.fn
  have hF := P.fn c.fn hf
  have eF : C.p.funcs.getD c.fn fn0 = fnOf C c.fn := rfl
  rw [eF] at hF
  have e := fn_is hf
  obtain ⟨k1, k2⟩ := hC.left_ P T.last
  have hcl : s.calls.length ≤ 40000 := by have := hN.nc; omega
  have hlen : (leftS s c (fnOf C c.fn).slots).calls.length = s.calls.length - 1 := by rw [k2]; simp
  have hlow := hC.mem.l1
  have h47 := fun c' l' i => leave47 (c' := c') (l' := l') (i := i) (told := told) h T hC.hid (hC.cs c hm).2.2 (by have := hN.hid; omega) (by omega) (by omega) (by rw [e]; exact hF.sl) ht
  rw [e] at h47
  unfold levF
  dsimp only
  generalize leftS s c (fnOf C c.fn).slots = q at *
  cases hg : q.calls.getLast? with
  | none =>
    dsimp only
    have hq0 : q.calls.length = 0 := by
      have := List.getLast?_eq_none_iff.1 hg
      rw [this]; rfl
    have hs1 : s.calls.length = 1 := by
      obtain ⟨m, em, _⟩ := last_split T.last
      have : s.calls.length = m.length + 1 := by rw [em]; simp
      omega
    refine (h47 c l in0 (fun h1 => by omega)).mono ?_
    rintro e1 w1 ⟨rfl, hR⟩
    rcases hR with ⟨_, x', hR⟩ | ⟨h1, _⟩
    · exact ⟨rfl, x', t, hR, fun h0 => by cases h0⟩
    · omega
  | some c' =>
    dsimp only
    have hm' : c' ∈ q.calls := List.mem_of_getLast? hg
    have hpos : 0 < q.calls.length := List.length_pos_of_mem hm'
    obtain ⟨hf', ⟨m, hb'⟩, _⟩ := k1.cs c' hm'
    have hm2 := hm'
    rw [k2] at hm2
    obtain ⟨hat, hnx⟩ := hC.pos c' hm2
    have er : regsOf q c'.fn = m := by unfold regsOf; simp [List.getD, hb']
    have hr := k1.bk _ _ hb'
    have hk : c'.nx - 1 < (blOf C c'.fn c'.bk).code.length := by have := hat.hi; omega
    have hfit := fit_at P hf' hat.bk hk
    rw [er]
    have hbk' : c'.bk < (C.p.funcs[c'.fn]'hf').blocks.length := by rw [fn_is hf']; exact hat.bk
    have hB : Back C s q c' m ((blOf C c'.fn c'.bk).code.getD (c'.nx - 1) in0) := by
      refine ⟨hg, hf', hb', hbk', hnx, ?_, ?_⟩
      · rw [bl_is hf' hbk', List.getElem?_eq_getElem hk]
        simp [List.getD, hk]
      · by_cases e1 : ((blOf C c'.fn c'.bk).code.getD (c'.nx - 1) in0).dst = -1
        · exact .inl e1
        · have := hfit.yes e1
          right
          omega
    refine (h47 c' m _ (fun _ => hB)).mono ?_
    rintro e1 w1 ⟨rfl, hR⟩
    rcases hR with ⟨h1, _⟩ | ⟨_, x', t', hR, hT⟩
    · omega
    · exact ⟨rfl, x', t', hR, fun _ => ⟨_, _, hT⟩⟩
/-- A block's end. -/
theorem finish_ {b o : Nat} (h : RunM C W0 r W s x t) (T : Top C s x t c l) (hC : Core C s) (hN : Num C 1 0 s) (P : PgOk C.p) (ha : AtOk C c) (hY : BlAt W0 b o (blOf C c.fn c.bk)) :
    Calls Try.prog 29 #[.pointer (some ⟨r, 0, none⟩), .pointer (some ⟨b, o, none⟩)] W fun e w' => e = .returned (.tuple #[]) ∧ Mem C W0 r (finF C s c l (blOf C c.fn c.bk)) e w' := by
  have hf := T.fn
  have hr := hC.bk _ _ T.bank
  unfold finF
  by_cases he : (blOf C c.fn c.bk).en = 3
  · rw [if_pos he]
    have hm : blOf C c.fn c.bk ∈ (fnOf C c.fn).blocks := by
      have e : blOf C c.fn c.bk = (fnOf C c.fn).blocks[c.bk]'ha.bk := by unfold blOf; simp [List.getD, ha.bk]
      rw [e]
      exact List.getElem_mem ha.bk
    have hend := (P.fn c.fn hf).en _ hm
    have eF : C.p.funcs.getD c.fn fn0 = fnOf C c.fn := rfl
    rw [eF] at hend
    unfold endF at hend
    rw [if_neg (by omega), if_neg (by omega), if_pos he] at hend
    simp only [Bool.and_eq_true, decide_eq_true_eq, winF] at hend
    exact finish29_return (R := Mem C W0 r _) h T hY he (by omega) (fun w hR => leave_ hR T hC hN P (toldR_ok hr.2 _ _))
  · rw [if_neg he]
    obtain ⟨w1, w2, w3, w4, w5⟩ := way_ok P hf ha.bk he c l
    have h27 : ∀ w, RunM C W0 r w s x t → Calls Try.prog 27 #[.pointer (some ⟨r, 0, none⟩), .int .i64 (wayF l c (blOf C c.fn c.bk)), .int .i64 c.bk] w fun e w' => e = .returned (.tuple #[]) ∧ Mem C W0 r (arrF s c l (blOf C c.fn (wayF l c (blOf C c.fn c.bk))).code (wayF l c (blOf C c.fn c.bk)) c.bk).1 e w' := fun w hR => by
      refine (arrive_ hR T P hC hN w2 c.bk).mono ?_
      rintro e1 w1 ⟨rfl, x2, hR2, hT2⟩
      exact ⟨rfl, x2, t, hR2, fun _ => ⟨_, _, hT2⟩⟩
    have hto : ∀ k, k < (blOf C c.fn c.bk).to.length → wayF l c (blOf C c.fn c.bk) = ((blOf C c.fn c.bk).to.getD k 0).toNat → (blOf C c.fn c.bk).to[k]? = some ((wayF l c (blOf C c.fn c.bk) : Nat) : Int) := fun k hk ew => by
      have h0 := w5 k hk
      rw [ew, Int.toNat_of_nonneg h0, List.getElem?_eq_getElem hk]
      simp [List.getD, hk]
    rcases w1 with h1 | h2
    · exact finish29_jump (R := Mem C W0 r _) h T hY h1 (w3 h1) (hto 0 (by have := w3 h1; omega) (by unfold wayF; rw [if_pos h1])) h27
    · obtain ⟨x1, x2, x3⟩ := w4 h2
      have h1 : ¬ (blOf C c.fn c.bk).en = 1 := by omega
      refine finish29_branch (R := Mem C W0 r _) h T hY h2 x1 (a := (blOf C c.fn c.bk).arg.toNat) (by omega) (by omega) (hto _ (by rw [x1]; split <;> omega) (by unfold wayF; rw [if_neg h1])) h27
theorem InAt.args1 {b o : Nat} {i : In} (hlen : i.args.length = 1) {R : Int} (ha : ∀ a ∈ i.args, 0 ≤ a ∧ a < R) : i.args[0]? = some ((arg i 0 : Nat) : Int) ∧ ((arg i 0 : Nat) : Int) < R := by
  have h0 : 0 < i.args.length := by omega
  have e : i.args.getD 0 0 = i.args[0] := by simp [List.getD, h0]
  have := ha _ (List.getElem_mem h0)
  unfold arg
  rw [List.getElem?_eq_getElem h0, e, Int.toNat_of_nonneg this.1]
  exact ⟨rfl, this.2⟩
/-- An instruction. -/
theorem do_ {b o : Nat} {i : In} (h : RunM C W0 r W s x t) (T : Top C s x t c l) (M : Mid C s c l i) (P : PgOk C.p) (hroom : C.room = none) (hz : C.input.size ≤ big2) (hI : InAt W0 b o i) :
    Calls Try.prog 30 #[.pointer (some ⟨r, 0, none⟩), .pointer (some ⟨b, o, none⟩)] W fun e w' => e = .returned (.tuple #[]) ∧ Mem C W0 r (doF C s c l i) e w' := by
  have hr := M.regs
  have hN := M.num
  have hh : (s.hidden.length + 1) * 24 ≤ 140737488355328 := by have := hN.hid; omega
  have hfit := M.fit
  have set_ : ∀ v : Int, (Calls Try.prog 30 #[.pointer (some ⟨r, 0, none⟩), .pointer (some ⟨b, o, none⟩)] W fun e w' => e = .returned (.tuple #[]) ∧ ∃ x', RunM C W0 r w' (setS s c l i.dst.toNat v) x' t ∧ Top C (setS s c l i.dst.toNat v) x' t c (l.set i.dst.toNat ⟨v, c.no⟩)) → Calls Try.prog 30 #[.pointer (some ⟨r, 0, none⟩), .pointer (some ⟨b, o, none⟩)] W fun e w' => e = .returned (.tuple #[]) ∧ Mem C W0 r (setS s c l i.dst.toNat v) e w' := fun v hv => by
    refine hv.mono ?_
    rintro e1 w1 ⟨rfl, x', hR, hT⟩
    exact ⟨rfl, x', t, hR, fun _ => ⟨_, _, hT⟩⟩
  unfold doF
  by_cases h1 : i.op = 1
  · rw [if_pos h1]
    have hd := hfit.dst2 (by unfold shF; rw [h1]; rfl)
    exact set_ _ (do30_const h T hI h1 (d := i.dst.toNat) (by omega) (by omega) hh)
  rw [if_neg h1]
  by_cases h2 : i.op = 2
  · rw [if_pos h2]
    unfold shF at hfit
    rw [h2] at hfit
    have hd := hfit.dst2 rfl
    have hlen : i.args.length = 1 := by have q : (i.args.length : Int) = 1 := hfit.n; omega
    obtain ⟨a1, a2⟩ := InAt.args1 (b := b) (o := o) hlen hfit.a
    exact set_ _ (do30_copy h T hI h2 (d := i.dst.toNat) (by omega) (by omega) hlen a1 (by omega) hh)
  rw [if_neg h2]
  by_cases h3 : i.op = 3
  · rw [if_pos h3]
    unfold shF at hfit
    rw [h3] at hfit
    have hd := hfit.dst2 rfl
    have hlen : i.args.length = 2 := by have q : (i.args.length : Int) = 2 := hfit.n; omega
    have a0 := hfit.arg (k := 0) (by omega)
    have a1 := hfit.arg (k := 1) (by omega)
    have ht := hN.nt
    refine do30_alu (R := Mem C W0 r _) h hI h3 ?_
    refine (reckon49 h T hI ⟨hlen, by omega, by omega⟩ (by omega) hr.2 (by omega) hh).mono ?_
    rintro e1 w1 ⟨rfl, x', l', hR, hT⟩
    exact ⟨rfl, x', t, hR, fun _ => ⟨_, _, hT⟩⟩
  rw [if_neg h3]
  by_cases h4 : i.op = 4
  · rw [if_pos h4]
    have hd := hfit.dst2 (by unfold shF; rw [h4]; rfl)
    exact set_ _ (do30_global h T hI h4 (d := i.dst.toNat) (by omega) (by omega) hh)
  rw [if_neg h4]
  by_cases h5 : i.op = 5
  · rw [if_pos h5]
    have hd := hfit.dst2 (by unfold shF; rw [h5]; rfl)
    exact set_ _ (do30_slot h T hI h5 (d := i.dst.toNat) (by omega) (by omega) hh)
  rw [if_neg h5]
  by_cases h6 : i.op = 6
  · rw [if_pos h6]
    unfold shF at hfit
    rw [h6] at hfit
    have hd := hfit.dst2 rfl
    have hlen : i.args.length = 1 := by have q : (i.args.length : Int) = 1 := hfit.n; omega
    have a0 := hfit.arg (k := 0) (by omega)
    have hw : i.wide = 1 ∨ i.wide = 4 := by
      have := hfit.wide
      unfold wideF at this
      simpa using this
    refine do30_load (R := Mem C W0 r _) h hI h6 ?_
    refine (access50 h T hI ⟨hw, by omega, by omega, fun _ => by omega, fun e => absurd h6 e⟩ M.core.mem hr.2 hh).mono ?_
    rintro e1 w1 ⟨rfl, x', l', hR, hT⟩
    exact ⟨rfl, x', t, hR, fun _ => ⟨_, _, hT⟩⟩
  rw [if_neg h6]
  by_cases h7 : i.op = 7
  · rw [if_pos h7]
    unfold shF at hfit
    rw [h7] at hfit
    have hlen : i.args.length = 2 := by have q : (i.args.length : Int) = 2 := hfit.n; omega
    have a0 := hfit.arg (k := 0) (by omega)
    have a1 := hfit.arg (k := 1) (by omega)
    have hw : i.wide = 1 ∨ i.wide = 4 := by
      have := hfit.wide
      unfold wideF at this
      simpa using this
    refine do30_store (R := Mem C W0 r _) h hI h7 ?_
    refine (access50 h T hI ⟨hw, by omega, by omega, fun e => absurd e h6, fun _ => by omega⟩ M.core.mem hr.2 hh).mono ?_
    rintro e1 w1 ⟨rfl, x', l', hR, hT⟩
    exact ⟨rfl, x', t, hR, fun _ => ⟨_, _, hT⟩⟩
  rw [if_neg h7]
  by_cases h8 : i.op = 8
  · rw [if_pos h8]
    unfold shF at hfit
    rw [h8] at hfit
    have hlen : i.args.length = 1 := by have q : (i.args.length : Int) = 1 := hfit.n; omega
    obtain ⟨a1, a2⟩ := InAt.args1 (b := b) (o := o) hlen hfit.a
    refine (do30_check h T hI h8 hlen a1 (by omega)).mono ?_
    rintro e1 w1 ⟨rfl, hR, hT⟩
    exact ⟨rfl, x, t, hR, fun _ => ⟨_, _, hT⟩⟩
  rw [if_neg h8]
  by_cases h9 : i.op = 9
  · rw [if_pos h9]
    have hf : FitR (fnOf C c.fn).regs (shC C.p i.imm) i := by
      unfold shF at hfit
      rw [h9] at hfit
      exact hfit
    by_cases hw : winF i.imm 0 ((C.p.funcs.length : Nat) - 1) = true
    · unfold shC at hf
      rw [if_pos hw] at hf
      unfold winF at hw
      simp only [decide_eq_true_eq] at hw
      have hlt : i.imm.toNat < C.p.funcs.length := by omega
      have hn := hf.n
      dsimp only at hn
      rw [List.getElem?_eq_getElem hlt] at hn
      have e : fnOf C i.imm.toNat = C.p.funcs[i.imm.toNat] := (fn_is hlt).symm
      have hn2 : (i.args.length : Int) = (fnOf C i.imm.toNat).params := by rw [e]; simpa using hn
      have hpa := (P.fn _ hlt).pa
      have eF : C.p.funcs.getD i.imm.toNat fn0 = fnOf C i.imm.toNat := rfl
      rw [eF] at hpa
      have hall : ∀ y ∈ s.calls, AtOk C y ∧ 0 < y.nx := by
        obtain ⟨m, em, ed⟩ := last_split M.last
        intro y hy
        rw [em] at hy
        rcases List.mem_append.1 hy with hy | hy
        · exact M.core.pos y (by rw [ed]; exact hy)
        · simp only [List.mem_singleton] at hy
          subst hy
          exact ⟨M.at_, M.nx⟩
      refine do30_call (R := Mem C W0 r _) h hI h9 ?_
      refine call51 (R := Mem C W0 r _) h T hI (n := i.imm.toNat) (by omega) (by omega) (fun k hk => by have := hf.a _ (List.getElem_mem hk); omega) ?_
      intro w g cs hR hcs
      have hC' : Core { C with room := some (g, cs) } s := ⟨M.core.bl, M.core.bk, M.core.hid, M.core.was, M.core.cs, fun y hy => ⟨⟨(M.core.pos y hy).1.bk, (M.core.pos y hy).1.lo, (M.core.pos y hy).1.hi⟩, (M.core.pos y hy).2⟩, M.core.hd, M.core.mem, M.core.low⟩
      have hN' : Num { C with room := some (g, cs) } 12 1 s := ⟨by have := hN.nh; omega, hN.nc, hN.nb, hN.nt, hN.no, hN.ob, hN.us⟩
      refine (enter_ (C := { C with room := some (g, cs) }) hR hC' hN' P hlt (fun y hy => ⟨⟨(hall y hy).1.bk, (hall y hy).1.lo, (hall y hy).1.hi⟩, (hall y hy).2⟩) (args := argsOf l c.no i) (show (((argsOf l c.no i).length : Nat) : Int) = (fnOf C i.imm.toNat).params by rw [← hn2]; simp [argsOf]) (fun a ha => by
        obtain ⟨b, _, rfl⟩ := List.mem_map.1 ha
        exact getR_ok hr.2 _ _) ⟨some ⟨g, 0, none⟩, 12, by simp [argsOf], fun _ => ⟨g, cs, rfl, rfl, fun j hj => by
          have hj' : j < i.args.length := by simpa [argsOf] using hj
          rw [hcs j hj']
          simp [argsOf]⟩⟩).mono ?_
      rintro e1 w1 ⟨rfl, x', t', hR, hT⟩
      refine ⟨rfl, x', t', hR.noRoom hroom, fun h0 => ?_⟩
      obtain ⟨c', l', hT⟩ := hT h0
      exact ⟨c', l', hT.noRoom⟩
    · unfold shC at hf
      rw [if_neg hw] at hf
      exact absurd rfl hf.has
  rw [if_neg h9]
  by_cases h10 : i.op = 10
  · rw [if_pos h10]
    have hd := hfit.dst2 (by unfold shF; rw [h10]; rfl)
    refine (do30_getw h T hI h10 (d := i.dst.toNat) (by omega) (by omega) hN.us hz hh).mono ?_
    rintro e1 w1 ⟨rfl, x', hR, hT⟩
    exact ⟨rfl, x', t, hR, fun _ => ⟨_, _, hT⟩⟩
  rw [if_neg h10]
  by_cases h11 : i.op = 11
  · rw [if_pos h11]
    unfold shF at hfit
    rw [h11] at hfit
    have hlen : i.args.length = 1 := by have q : (i.args.length : Int) = 1 := hfit.n; omega
    obtain ⟨a1, a2⟩ := InAt.args1 (b := b) (o := o) hlen hfit.a
    refine (do30_put h T hI h11 hlen a1 (by omega) (by have := hN.no; omega)).mono ?_
    rintro e1 w1 ⟨rfl, x', hR, hT⟩
    exact ⟨rfl, x', t, hR, fun _ => ⟨_, _, hT⟩⟩
  rw [if_neg h11]
  exfalso
  have := hfit.has
  unfold shF at this
  rw [if_neg h1, if_neg h2, if_neg h3, if_neg h4, if_neg h5, if_neg h6, if_neg h7, if_neg h8, if_neg h9, if_neg h10, if_neg h11, if_neg M.n12] at this
  exact this rfl
/-- A step. -/
theorem step_ (h : RunM C W0 r W s x t) (T : Top C s x t c l) (G : Good C s) (P : PgOk C.p) (hroom : C.room = none) (hz : C.input.size ≤ big2) :
    Calls Try.prog 18 #[.pointer (some ⟨r, 0, none⟩)] W fun e w' => e = .returned (.tuple #[]) ∧ Mem C W0 r (stepF C s) e w' := by
  obtain ⟨c', hl, ha⟩ := G.top
  have hl2 := T.last
  rw [hl] at hl2
  injection hl2 with hl2
  subst hl2
  have hf := T.fn
  have er : regsOf s c'.fn = l := by unfold regsOf; simp [List.getD, T.bank]
  have hb' : c'.bk < (C.p.funcs[c'.fn]'T.fn).blocks.length := by rw [fn_is hf]; exact ha.bk
  have eb := bl_is hf hb'
  unfold stepF
  by_cases hfu : s.fuel < 1
  · rw [if_pos hfu]
    refine (step18_fuel h hfu).mono ?_
    rintro e1 w1 ⟨rfl, hR⟩
    exact ⟨rfl, x, t, hR, fun h0 => by cases h0⟩
  · rw [if_neg hfu, hl]
    dsimp only
    rw [er]
    by_cases hn : c'.nx = (blOf C c'.fn c'.bk).code.length
    · rw [if_pos hn]
      refine step18_end (R := Mem C W0 r _) h T (by omega) G.num.fuel hb' (by rw [eb]; exact hn) ?_
      rw [eb]
      intro w b o hR hB
      exact finish_ (s := { s with fuel := s.fuel - 1 }) hR (T.same rfl rfl) (G.core.congr rfl) ((G.num.spent (by omega)).less (by omega) (by omega)) P ha hB
    · rw [if_neg hn]
      have hlt : c'.nx < (blOf C c'.fn c'.bk).code.length := by have := ha.hi; omega
      refine step18_do (R := Mem C W0 r _) (i := (blOf C c'.fn c'.bk).code.getD c'.nx in0) h T (by omega) G.num.fuel hb' (by rw [eb, List.getElem?_eq_getElem hlt]; simp [List.getD, hlt]) ?_
      intro w b o hR hT hI
      exact do_ hR hT (G.mid P (by omega) hl ha T.bank hn) P hroom hz hI
end
end Go.Proofs.Ytiehlkhpblldaaa
