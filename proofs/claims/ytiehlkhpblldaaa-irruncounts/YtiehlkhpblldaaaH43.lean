/- The document's do, whatever the instruction. -/
import Derived.Test.YtiehlkhpblldaaaH25
import Derived.Test.YtiehlkhpblldaaaH35
import Derived.Test.YtiehlkhpblldaaaH36
import Derived.Test.YtiehlkhpblldaaaH37
import Derived.Test.YtiehlkhpblldaaaH38
import Derived.Test.YtiehlkhpblldaaaH39
import Derived.Test.YtiehlkhpblldaaaH40
import Derived.Test.YtiehlkhpblldaaaH41
import Derived.Test.YtiehlkhpblldaaaH42
set_option linter.unusedVariables false
set_option linter.unusedSimpArgs false
set_option maxRecDepth 20000
set_option maxHeartbeats 8000000
namespace Go.Proofs.Ytiehlkhpblldaaa
open Go.RowKit Go.Maps
section
variable {C : Cst} {W0 W W' : World} {r : Nat} {d d' : Ds} {v v' : Dv}
theorem fit_arg {regs : Int} {sh : Sh} {i : In} {l : List Int} (hf : FitR regs sh i) (hl : (l.length : Int) = regs) {k : Nat} (hk : k < i.args.length) : i.args[k]? = some ((arg i k : Nat) : Int) ∧ arg i k < l.length := by
  have h := hf.arg hk
  have e : i.args.getD k 0 = i.args[k] := by simp [List.getD, hk]
  rw [e] at h
  unfold arg
  rw [e]
  refine ⟨?_, by omega⟩
  rw [List.getElem?_eq_getElem hk]
  congr 1
  omega
/-- What the instruction at hand does. -/
abbrev DoesD (C : Cst) (W0 W : World) (r rb : Nat) (i : In) (l : List Int) (fn : Int) (q : Bool × List Int × Ds) : Prop :=
  Calls Try.prog 55 #[.pointer (some ⟨r, 0, none⟩), .int .i64 fn, i.val, .slice (some ⟨rb, 0, none⟩) l.length l.length] W (DoneD C W0 W r rb q.2.2 q.2.1 q.1)
theorem do55_all (P : PgOk C.p) {call : Nat → List Int → Ds → Int × Ds} {n : Nat} (hC : CallOk C W0 r call n) {slots regs : Int} {preds : List Int} {i : In} (hF : FitR regs (shF C.p slots preds i.op i.imm) i) (hI : In.ok W0 i) {rb : Nat} {l : List Int} (h : DocM C W0 r W d v) (hR : RegM W0 W rb l) (hlen : (l.length : Int) = regs) (hl : WordsOk l) (hD : DOk C 1 d) (hf : d.fuel.toNat < n) (ht : d.trap = 0) (ho : d.over = false) (h12 : i.op ≠ 12) (hin : C.input.size ≤ 281474976710656) (fn : Nat) :
    DoesD C W0 W r rb i l fn (iDo C call fn i l d) := by
  have hcn := hD.cn
  have hol := hD.ol
  by_cases h1 : i.op = 1
  · have hs := hF
    unfold shF at hs
    rw [h1] at hs
    have hs : FitR regs ⟨2, 0, -2147483648, 2147483647, false, false, []⟩ i := hs
    have hd := hs.dst2 rfl
    have hn := hs.n
    have e : iDo C call fn i l d = (true, l.set i.dst.toNat (i.imm % 4294967296), d) := by unfold iDo; rw [if_pos h1]
    rw [e]
    exact do55_const h hR hI h1 (by dsimp only at hn; omega) (by omega) (by omega) ht ho
  by_cases h2 : i.op = 2
  · have hs := hF
    unfold shF at hs
    rw [h2] at hs
    have hs : FitR regs ⟨2, 1, 0, 0, false, false, []⟩ i := hs
    have hd := hs.dst2 rfl
    have hn := hs.n
    dsimp only at hn
    obtain ⟨a0, a1⟩ := fit_arg hs hlen (k := 0) (by omega)
    have e : iDo C call fn i l d = (true, l.set i.dst.toNat (l.getD (arg i 0) 0), d) := by unfold iDo; rw [if_neg h1, if_pos h2]
    rw [e]
    exact do55_copy h hR hI h2 (by omega) (by omega) (by omega) ht ho a0 a1
  by_cases h3 : i.op = 3
  · have hs := hF
    unfold shF at hs
    rw [h3] at hs
    have hs : FitR regs ⟨2, 2, 0, 0, true, false, []⟩ i := hs
    have hd := hs.dst2 rfl
    have hn := hs.n
    dsimp only at hn
    obtain ⟨a0, a1⟩ := fit_arg hs hlen (k := 0) (by omega)
    obtain ⟨b0, b1⟩ := fit_arg hs hlen (k := 1) (by omega)
    by_cases hT : aluT i.alu (l.getD (arg i 1) 0) = 0
    · have e : iDo C call fn i l d = (true, l.set i.dst.toNat (aluV i.alu (l.getD (arg i 0) 0) (l.getD (arg i 1) 0)), couB (couF C fn i) d) := by unfold iDo; rw [if_neg h1, if_neg h2, if_pos h3, if_pos hT]
      rw [e]
      exact do55_alu h hR hI h3 (by omega) (by omega) (by omega) ht ho hl a0 a1 b0 b1 (by omega) hT
    · have e : iDo C call fn i l d = (false, l, { couB (couF C fn i) d with trap := aluT i.alu (l.getD (arg i 1) 0) }) := by unfold iDo; rw [if_neg h1, if_neg h2, if_pos h3, if_neg hT]
      rw [e]
      have hT1 : aluT i.alu (l.getD (arg i 1) 0) = 1 := by
        have ha := hs.alu
        have ha : aluB i.alu = true := ha
        unfold aluB at ha
        simp only [Bool.and_eq_true, decide_eq_true_eq] at ha
        unfold aluT at hT ⊢
        by_cases g : 4 ≤ i.alu ∧ i.alu ≤ 7
        · rw [if_pos g] at hT ⊢
          by_cases g2 : l.getD (arg i 1) 0 = 0
          · rw [if_pos g2]
          · rw [if_neg g2] at hT
            exact absurd rfl hT
        · rw [if_neg g, if_pos ha] at hT
          exact absurd rfl hT
      exact do55_alutrap h hR hI h3 (by omega) (show i.dst = ((i.dst.toNat : Nat) : Int) by omega) (by omega) ht ho hl a0 a1 b0 b1 (by omega) hT1
  by_cases h4 : i.op = 4
  · have hs := hF
    unfold shF at hs
    rw [h4] at hs
    have hs : FitR regs ⟨2, 0, 0, C.p.global, false, false, []⟩ i := hs
    have hd := hs.dst2 rfl
    have hn := hs.n
    have e : iDo C call fn i l d = (true, l.set i.dst.toNat ((16777216 + i.imm % 4294967296) % 4294967296), d) := by unfold iDo; rw [if_neg h1, if_neg h2, if_neg h3, if_pos h4]
    rw [e]
    exact do55_global h hR hI h4 (by dsimp only at hn; omega) (by omega) (by omega) ht ho
  by_cases h5 : i.op = 5
  · have hs := hF
    unfold shF at hs
    rw [h5] at hs
    have hs : FitR regs ⟨2, 0, 0, slots, false, false, []⟩ i := hs
    have hd := hs.dst2 rfl
    have hn := hs.n
    have e : iDo C call fn i l d = (true, l.set i.dst.toNat ((d.low % 4294967296 + i.imm % 4294967296) % 4294967296), d) := by unfold iDo; rw [if_neg h1, if_neg h2, if_neg h3, if_neg h4, if_pos h5]
    rw [e]
    exact do55_slot h hR hI h5 (by dsimp only at hn; omega) (by omega) (by omega) ht ho
  by_cases h6 : i.op = 6
  · have hs := hF
    unfold shF at hs
    rw [h6] at hs
    have hs : FitR regs ⟨2, 1, -2147483648, 2147483647, false, true, []⟩ i := hs
    have hd := hs.dst2 rfl
    have hn := hs.n
    dsimp only at hn
    have hw := hs.wide
    unfold wideF at hw
    simp only [if_true, decide_eq_true_eq] at hw
    obtain ⟨a0, a1⟩ := fit_arg hs hlen (k := 0) (by omega)
    cases hL : loadN d ((l.getD (arg i 0) 0 + i.imm) % 4294967296) i.wide.toNat 0 with
    | some z =>
      have e : iDo C call fn i l d = (true, l.set i.dst.toNat z, d) := by unfold iDo; rw [if_neg h1, if_neg h2, if_neg h3, if_neg h4, if_neg h5, if_pos h6, hL]
      rw [e]
      exact do55_load h hR hI h6 (by omega) (by omega) (by omega) ht ho hl a0 a1 (show i.wide = ((i.wide.toNat : Nat) : Int) by omega) (by omega) hD.mem hD.byt hL
    | none =>
      have e : iDo C call fn i l d = (false, l, { d with trap := 5 }) := by unfold iDo; rw [if_neg h1, if_neg h2, if_neg h3, if_neg h4, if_neg h5, if_pos h6, hL]
      rw [e]
      exact do55_noload h hR hI h6 (by omega) (show i.dst = ((i.dst.toNat : Nat) : Int) by omega) (by omega) ht ho hl a0 a1 (show i.wide = ((i.wide.toNat : Nat) : Int) by omega) (by omega) hD.mem hD.byt hL
  by_cases h7 : i.op = 7
  · have hs := hF
    unfold shF at hs
    rw [h7] at hs
    have hs : FitR regs ⟨1, 2, -2147483648, 2147483647, false, true, []⟩ i := hs
    have hd : i.dst = -1 := Classical.byContradiction fun e => (hs.yes e).1 rfl
    have hn := hs.n
    dsimp only at hn
    have hw := hs.wide
    unfold wideF at hw
    simp only [if_true, decide_eq_true_eq] at hw
    obtain ⟨a0, a1⟩ := fit_arg hs hlen (k := 0) (by omega)
    obtain ⟨b0, b1⟩ := fit_arg hs hlen (k := 1) (by omega)
    cases hL : stOkD d ((l.getD (arg i 0) 0 + i.imm) % 4294967296) i.wide.toNat with
    | true =>
      have e : iDo C call fn i l d = (true, l, storeN d ((l.getD (arg i 0) 0 + i.imm) % 4294967296) (l.getD (arg i 1) 0) i.wide.toNat) := by unfold iDo; rw [if_neg h1, if_neg h2, if_neg h3, if_neg h4, if_neg h5, if_neg h6, if_pos h7, if_pos hL]
      rw [e]
      exact do55_store h hR hI h7 (by omega) hd ht ho hl a0 a1 b0 b1 (show i.wide = ((i.wide.toNat : Nat) : Int) by omega) (by omega) hD.mem hL
    | false =>
      have e : iDo C call fn i l d = (false, l, { d with trap := 5 }) := by unfold iDo; rw [if_neg h1, if_neg h2, if_neg h3, if_neg h4, if_neg h5, if_neg h6, if_pos h7, if_neg (by rw [hL]; decide)]
      rw [e]
      exact do55_nostore h hR hI h7 (by omega) hd ht ho hl a0 a1 b0 b1 (show i.wide = ((i.wide.toNat : Nat) : Int) by omega) (by omega) hD.mem hL
  by_cases h8 : i.op = 8
  · have hs := hF
    unfold shF at hs
    rw [h8] at hs
    have hs : FitR regs ⟨1, 1, 1, 2, false, false, []⟩ i := hs
    have hd : i.dst = -1 := Classical.byContradiction fun e => (hs.yes e).1 rfl
    have hn := hs.n
    dsimp only at hn
    have him := hs.imm
    dsimp only at him
    obtain ⟨a0, a1⟩ := fit_arg hs hlen (k := 0) (by omega)
    by_cases hz : l.getD (arg i 0) 0 = 0
    · have e : iDo C call fn i l d = (false, l, { d with trap := i.imm }) := by unfold iDo; rw [if_neg h1, if_neg h2, if_neg h3, if_neg h4, if_neg h5, if_neg h6, if_neg h7, if_pos h8, if_pos hz]
      rw [e]
      exact do55_check_no h hR hI h8 (by omega) hd ht ho a0 a1 hz (by omega)
    · have e : iDo C call fn i l d = (true, l, d) := by unfold iDo; rw [if_neg h1, if_neg h2, if_neg h3, if_neg h4, if_neg h5, if_neg h6, if_neg h7, if_pos h8, if_neg hz]
      rw [e]
      exact do55_check_yes h hR hI h8 (by omega) hd ht ho a0 a1 hz
  by_cases h9 : i.op = 9
  · obtain ⟨f1, f2, f3, f4⟩ := call_fit P h9 hF
    have hfn := (P.fn _ f1).pa
    have hfn : 0 ≤ (fnOf C i.imm.toNat).params ∧ (fnOf C i.imm.toNat).params ≤ 12 := hfn
    have hA : ∀ k (hk : k < i.args.length), ∃ q : Nat, i.args[k] = (q : Int) ∧ q < l.length := fun k hk => by
      obtain ⟨a0, a1⟩ := fit_arg hF hlen hk
      rw [List.getElem?_eq_getElem hk] at a0
      injection a0 with a0
      exact ⟨_, a0, a1⟩
    have him : i.imm = ((i.imm.toNat : Nat) : Int) := by omega
    have e0 : iDo C call fn i l d = if (call i.imm.toNat (i.args.map (fun a => l.getD a.toNat 0)) d).2.over = true ∨ (call i.imm.toNat (i.args.map (fun a => l.getD a.toNat 0)) d).2.trap ≠ 0 then (false, l, (call i.imm.toNat (i.args.map (fun a => l.getD a.toNat 0)) d).2)
        else (true, if i.dst = -1 then l else l.set i.dst.toNat (call i.imm.toNat (i.args.map (fun a => l.getD a.toNat 0)) d).1, (call i.imm.toNat (i.args.map (fun a => l.getD a.toNat 0)) d).2) := by unfold iDo; rw [if_neg h1, if_neg h2, if_neg h3, if_neg h4, if_neg h5, if_neg h6, if_neg h7, if_neg h8, if_pos h9]
    rw [e0]
    clear e0
    by_cases hv : (call i.imm.toNat (i.args.map (fun a => l.getD a.toNat 0)) d).2.over = true
    · rw [if_pos (.inl hv)]
      by_cases n0 : i.args.length = 0
      · exact do55_call_zv hC h hR hI h9 him f1 f2 (by omega) hA hl hD hf ht ho n0 hv
      by_cases n1 : i.args.length = 1
      · exact do55_call_ov hC h hR hI h9 him f1 f2 (by omega) hA hl hD hf ht ho rfl n1 hv
      · exact do55_call_mv hC h hR hI h9 him f1 f2 (by omega) hA hl hD hf ht ho rfl (by omega) hv
    · have hv' : (call i.imm.toNat (i.args.map (fun a => l.getD a.toNat 0)) d).2.over = false := by
        cases ho2 : (call i.imm.toNat (i.args.map (fun a => l.getD a.toNat 0)) d).2.over with
        | true => exact absurd ho2 hv
        | false => rfl
      by_cases ht2 : (call i.imm.toNat (i.args.map (fun a => l.getD a.toNat 0)) d).2.trap = 0
      · rw [if_neg (fun e => e.elim hv (fun e => e ht2))]
        by_cases hd : i.dst = -1
        · rw [if_pos hd]
          by_cases n0 : i.args.length = 0
          · exact do55_call_zkn hC h hR hI h9 him f1 f2 (by omega) hA hl hD hf ht ho n0 hd hv' ht2
          by_cases n1 : i.args.length = 1
          · exact do55_call_okn hC h hR hI h9 him f1 f2 (by omega) hA hl hD hf ht ho rfl n1 hd hv' ht2
          · exact do55_call_mkn hC h hR hI h9 him f1 f2 (by omega) hA hl hD hf ht ho rfl (by omega) hd hv' ht2
        · rw [if_neg hd]
          have hd2 : i.dst = ((i.dst.toNat : Nat) : Int) := by omega
          by_cases n0 : i.args.length = 0
          · exact do55_call_zka hC h hR hI h9 him f1 f2 (by omega) hA hl hD hf ht ho n0 hd2 (by omega) hv' ht2
          by_cases n1 : i.args.length = 1
          · exact do55_call_oka hC h hR hI h9 him f1 f2 (by omega) hA hl hD hf ht ho rfl n1 hd2 (by omega) hv' ht2
          · exact do55_call_mka hC h hR hI h9 him f1 f2 (by omega) hA hl hD hf ht ho rfl (by omega) hd2 (by omega) hv' ht2
      · rw [if_pos (.inr ht2)]
        by_cases n0 : i.args.length = 0
        · exact do55_call_zt hC h hR hI h9 him f1 f2 (by omega) hA hl hD hf ht ho n0 hv' ht2
        by_cases n1 : i.args.length = 1
        · exact do55_call_ot hC h hR hI h9 him f1 f2 (by omega) hA hl hD hf ht ho rfl n1 hv' ht2
        · exact do55_call_mt hC h hR hI h9 him f1 f2 (by omega) hA hl hD hf ht ho rfl (by omega) hv' ht2
  by_cases h10 : i.op = 10
  · have hs := hF
    unfold shF at hs
    rw [h10] at hs
    have hs : FitR regs ⟨2, 0, 0, 0, false, false, []⟩ i := hs
    have hd := hs.dst2 rfl
    have hn := hs.n
    dsimp only at hn
    by_cases hu : d.used < C.input.size
    · have e : iDo C call fn i l d = (true, l.set i.dst.toNat ((C.input[d.used]'hu).toNat : Int), { d with used := d.used + 1 }) := by unfold iDo; rw [if_neg h1, if_neg h2, if_neg h3, if_neg h4, if_neg h5, if_neg h6, if_neg h7, if_neg h8, if_neg h9, if_pos h10, dif_pos hu]
      rw [e]
      exact do55_get_yes h hR hI h10 (by omega) (by omega) (by omega) ht ho hu hin
    · have e : iDo C call fn i l d = (true, l.set i.dst.toNat 4294967295, d) := by unfold iDo; rw [if_neg h1, if_neg h2, if_neg h3, if_neg h4, if_neg h5, if_neg h6, if_neg h7, if_neg h8, if_neg h9, if_pos h10, dif_neg hu]
      rw [e]
      exact do55_get_no h hR hI h10 (by omega) (by omega) (by omega) ht ho (by omega)
  by_cases h11 : i.op = 11
  · have hs := hF
    unfold shF at hs
    rw [h11] at hs
    have hs : FitR regs ⟨1, 1, 0, 0, false, false, []⟩ i := hs
    have hd : i.dst = -1 := Classical.byContradiction fun e => (hs.yes e).1 rfl
    have hn := hs.n
    dsimp only at hn
    obtain ⟨a0, a1⟩ := fit_arg hs hlen (k := 0) (by omega)
    have e : iDo C call fn i l d = (true, l, { d with out := d.out ++ [l.getD (arg i 0) 0 % 256] }) := by unfold iDo; rw [if_neg h1, if_neg h2, if_neg h3, if_neg h4, if_neg h5, if_neg h6, if_neg h7, if_neg h8, if_neg h9, if_neg h10, if_pos h11]
    rw [e]
    exact do55_put h hR hI h11 (by omega) hd ht ho hl a0 a1 (by omega)
  · have hs := hF
    unfold shF at hs
    rw [if_neg h1, if_neg h2, if_neg h3, if_neg h4, if_neg h5, if_neg h6, if_neg h7, if_neg h8, if_neg h9, if_neg h10, if_neg h11, if_neg h12] at hs
    exact absurd rfl hs.has
end
end Go.Proofs.Ytiehlkhpblldaaa
namespace Go.Proofs.Ytiehlkhpblldaaa
open Go.RowKit Go.Maps
section
variable {C : Cst} {W0 W W' : World} {r : Nat} {d d' : Ds} {v v' : Dv}
section
variable {rb : Nat} {l l' : List Int} {w w' : World}
theorem MidD.did (h : MidD C W0 W r rb d v l w) {ok : Bool} {e : Ending} (hd : DoneD C W0 w r rb d' l' ok e w') : ∃ v2, MidD C W0 W r rb d' v2 l' w' := by
  obtain ⟨_, ⟨v2, hD⟩, hR, hK⟩ := hd
  refine ⟨v2, hD, hR, h.kept.ahead hK (fun q hq e => ?_)⟩
  rcases e with e | e | ⟨e0, cs, fr, e⟩
  · exact .inl e
  · exact .inr (.inl e)
  · exact turn5 h.kept hq e0 e
theorem MidD.two2 (h : MidD C W0 W r rb d v l w) (hD : DocM C W0 r w' d' v) (hR : RegM W0 w' rb l') (hK : Kept (fun q => q = r ∨ q = rb) w w') : MidD C W0 W r rb d' v l' w' :=
  ⟨hD, hR, h.kept.ahead hK (fun q _ e => e.elim .inl (fun e => .inr (.inl e)))⟩
theorem MidD.spent (h : MidD C W0 W r rb d v l w) (hD : DocM C W0 r w' d' v) (hK : Kept (fun q => q = r) w w') : MidD C W0 W r rb d' v l w' :=
  ⟨hD, h.reg.kept hK h.ne.1, h.kept.ahead hK (fun q _ e => .inl e)⟩
theorem no_turnD {b : Nat} {cs : Array Value} {T : TypeId} {fr : Nat × Nat} (h : w.heap[b]? = some (.cells cs T fr)) (hT : T ≠ 5) (h1 : b ≠ r) (h2 : b ≠ rb) : ¬ TurnD W0 w r rb b := fun e => by
  rcases e with e | e | ⟨_, c2, f2, e⟩
  · exact h1 e
  · exact h2 e
  · rw [h] at e
    injection e with e
    injection e with _ e
    exact hT e
end
/-- The fuel that is left, read off memory. -/
def fuelOf (r : Nat) (w : World) : Nat := match w.cell? ⟨r, 5, none⟩ with
  | some (.int _ z) => z.toNat
  | _ => 0
theorem fuelOf_is {w : World} (h : DocM C W0 r w d v) : fuelOf r w = d.fuel.toNat := by
  unfold fuelOf
  rw [show w.cell? ⟨r, 5, none⟩ = some (.int .i64 d.fuel) from h.cell 5]
/-- The document's body does what it tells. -/
def BodyOk (C : Cst) (W0 : World) (r n : Nat) : Prop :=
  ∀ (fn : Nat) (d : Ds) (v : Dv) (W : World) (rb : Nat) (l : List Int), fn < C.p.funcs.length → (l.length : Int) = (fnOf C fn).regs → WordsOk l → DOk C 0 d → d.fuel.toNat < n → d.trap = 0 → d.over = false → DocM C W0 r W d v → RegM W0 W rb l →
    Calls Try.prog 31 #[.pointer (some ⟨r, 0, none⟩), .int .i64 fn, (fnOf C fn).val, .slice (some ⟨rb, 0, none⟩) l.length l.length] W fun e w' => e = .returned (.int .u32 (bodyD C n fn 0 (-1) l d).1) ∧ (∃ v', DocM C W0 r w' (bodyD C n fn 0 (-1) l d).2 v') ∧ Kept (TurnD W0 W r rb) W w'
/-- The midst of a body. -/
structure BoM (C : Cst) (W0 W : World) (r rb fn n : Nat) (R : Int × Ds) (L m at_ : Nat) (f : Int) (l : List Int) (d : Ds) (v : Dv) (w : World) : Prop where
  bk : at_ < (fnOf C fn).blocks.length
  mn : m ≤ n
  fu : d.fuel.toNat < m
  res : bodyD C m fn at_ f l d = R
  ok : DOk C 0 d
  ht : d.trap = 0
  ho : d.over = false
  wl : WordsOk l
  ll : l.length = L
  mid : MidD C W0 W r rb d v l w
  box : w.heap[W.heap.size]? = some (.cells (Fn.cells (fnOf C fn)).toArray 49 (0, 0))
/-- The midst of a block. -/
structure BlM (C : Cst) (W0 W : World) (r rb fn m at_ bx : Nat) (B : Bl) (F0 : Int) (R : Int × Ds) (L k : Nat) (l : List Int) (d : Ds) (v : Dv) (w : World) : Prop where
  hk : k ≤ B.code.length
  fu : d.fuel.toNat < m + 1
  le : d.fuel ≤ F0
  res : blkD C (callD C (bodyD C m)) (bodyD C m fn) fn at_ B (B.code.drop k) l d = R
  ok : DOk C 0 d
  ht : d.trap = 0
  ho : d.over = false
  wl : WordsOk l
  ll : l.length = L
  mid : MidD C W0 W r rb d v l w
  box : w.heap[W.heap.size]? = some (.cells (Fn.cells (fnOf C fn)).toArray 49 (0, 0))
  bbx : w.heap[bx]? = some (.cells (Bl.cells B).toArray 54 (0, 0))
/-- A function's blocks in memory. -/
theorem blocks_at (h : Pg.ok W0 C.p) {fn : Nat} (hf : fn < C.p.funcs.length) (hb : 0 < (fnOf C fn).blocks.length) : ∃ bb bo cap, (fnOf C fn).bv = .slice (some ⟨bb, bo, none⟩) (fnOf C fn).blocks.length cap ∧ (fnOf C fn).blocks.length ≤ cap ∧ ∀ k, k < (fnOf C fn).blocks.length → BlAt W0 bb (bo + k * 4) (blOf C fn k) := by
  have hfn := h.fns _ (List.getElem_mem hf)
  have e : fnOf C fn = C.p.funcs[fn] := by unfold fnOf; simp [List.getD, hf]
  rw [← e] at hfn
  obtain ⟨ao, cap, ev, hx⟩ := hfn.b.form bl4
  obtain ⟨b, o, rfl, h1, h2, h3⟩ := hx 0 hb
  refine ⟨b, o, cap, ev, h2, fun k hk => ?_⟩
  obtain ⟨b', o', e2, g1, _, g3⟩ := hx k hk
  injection e2 with e2
  injection e2 with a1 a2
  subst a1 a2
  have eb : blOf C fn k = (fnOf C fn).blocks[k] := by unfold blOf; simp [List.getD, hk]
  rw [eb]
  exact ⟨g1, g3, hfn.bls _ (List.getElem_mem hk)⟩
theorem blk_phi {call : Nat → List Int → Ds → Int × Ds} {body : Nat → Int → List Int → Ds → Int × Ds} {fn at_ : Nat} {b : Bl} {i : In} {t : List In} {l : List Int} {d : Ds} (h : i.op = 12) : blkD C call body fn at_ b (i :: t) l d = blkD C call body fn at_ b t l d := by
  unfold blkD
  rw [show codD C call fn (i :: t) l d = codD C call fn t l d by rw [codD, if_pos h]]
theorem blk_spent {call : Nat → List Int → Ds → Int × Ds} {body : Nat → Int → List Int → Ds → Int × Ds} {fn at_ : Nat} {b : Bl} {i : In} {t : List In} {l : List Int} {d : Ds} (h : i.op ≠ 12) (h0 : d.fuel ≤ 0) : blkD C call body fn at_ b (i :: t) l d = (0, spendD d) := by
  unfold blkD
  rw [show codD C call fn (i :: t) l d = (false, l, spendD d) by rw [codD, if_neg h, if_pos h0]]
  rfl
theorem blk_fail {call : Nat → List Int → Ds → Int × Ds} {body : Nat → Int → List Int → Ds → Int × Ds} {fn at_ : Nat} {b : Bl} {i : In} {t : List In} {l : List Int} {d : Ds} (h : i.op ≠ 12) (h0 : ¬ d.fuel ≤ 0) (hq : (iDo C call fn i l (spendD d)).1 = false) : blkD C call body fn at_ b (i :: t) l d = (0, (iDo C call fn i l (spendD d)).2.2) := by
  unfold blkD
  rw [show codD C call fn (i :: t) l d = (false, (iDo C call fn i l (spendD d)).2.1, (iDo C call fn i l (spendD d)).2.2) by rw [codD, if_neg h, if_neg h0, hq]; rfl]
  rfl
theorem blk_go {call : Nat → List Int → Ds → Int × Ds} {body : Nat → Int → List Int → Ds → Int × Ds} {fn at_ : Nat} {b : Bl} {i : In} {t : List In} {l : List Int} {d : Ds} (h : i.op ≠ 12) (h0 : ¬ d.fuel ≤ 0) (hq : (iDo C call fn i l (spendD d)).1 = true) : blkD C call body fn at_ b (i :: t) l d = blkD C call body fn at_ b t (iDo C call fn i l (spendD d)).2.1 (iDo C call fn i l (spendD d)).2.2 := by
  unfold blkD
  rw [show codD C call fn (i :: t) l d = codD C call fn t (iDo C call fn i l (spendD d)).2.1 (iDo C call fn i l (spendD d)).2.2 by rw [codD, if_neg h, if_neg h0, if_pos hq]]
theorem blk_nil {call : Nat → List Int → Ds → Int × Ds} {body : Nat → Int → List Int → Ds → Int × Ds} {fn at_ : Nat} {b : Bl} {l : List Int} {d : Ds} : blkD C call body fn at_ b [] l d = endD body b at_ l d := rfl
/-- What a block's end has. -/
theorem end_has (P : PgOk C.p) {fn bk : Nat} (hf : fn < C.p.funcs.length) (hb : bk < (fnOf C fn).blocks.length) :
    ((blOf C fn bk).en = 1 ∧ (blOf C fn bk).to.length = 1) ∨ ((blOf C fn bk).en = 2 ∧ (blOf C fn bk).to.length = 2 ∧ 0 ≤ (blOf C fn bk).arg ∧ (blOf C fn bk).arg < (fnOf C fn).regs) ∨ ((blOf C fn bk).en = 3 ∧ -1 ≤ (blOf C fn bk).arg ∧ (blOf C fn bk).arg < (fnOf C fn).regs) := by
  have hm : blOf C fn bk ∈ (fnOf C fn).blocks := by
    have e : blOf C fn bk = (fnOf C fn).blocks[bk] := by unfold blOf; simp [List.getD, hb]
    rw [e]
    exact List.getElem_mem hb
  have h := (P.fn fn hf).en _ hm
  have eF : C.p.funcs.getD fn fn0 = fnOf C fn := rfl
  rw [eF] at h
  generalize blOf C fn bk = b at *
  unfold endF at h
  by_cases h1 : b.en = 1
  · rw [if_pos h1] at h
    simp only [Bool.and_eq_true, decide_eq_true_eq] at h
    exact .inl ⟨h1, h.1.2⟩
  · rw [if_neg h1] at h
    by_cases h2 : b.en = 2
    · rw [if_pos h2] at h
      simp only [Bool.and_eq_true, decide_eq_true_eq, winF] at h
      exact .inr (.inl ⟨h2, h.1.2, h.1.1.1, by omega⟩)
    · rw [if_neg h2] at h
      by_cases h3 : b.en = 3
      · rw [if_pos h3] at h
        simp only [Bool.and_eq_true, decide_eq_true_eq, winF] at h
        exact .inr (.inr ⟨h3, h.1.1, by omega⟩)
      · rw [if_neg h3] at h
        cases h
end
end Go.Proofs.Ytiehlkhpblldaaa
namespace Go.Proofs.Ytiehlkhpblldaaa
open Go.RowKit Go.Maps
section
variable {C : Cst} {W0 W W' : World} {r : Nat} {d d' : Ds} {v v' : Dv}
set_option maxHeartbeats 40000000 in
theorem body31 (P : PgOk C.p) (hin : C.input.size ≤ 281474976710656) {n : Nat} (hIH : ∀ k, k < n → CallOk C W0 r (callD C (bodyD C k)) k) : BodyOk C W0 r n := by
  intro fn d v W rb l hfn hlen hl hD hf ht ho h hR
  have hFn := P.fn fn hfn
  have eF : C.p.funcs.getD fn fn0 = fnOf C fn := rfl
  rw [eF] at hFn
  obtain ⟨bb, bo, bcap, ebv, hbcap, hblk⟩ := blocks_at h.pg hfn hFn.nb
  generalize hR' : bodyD C n fn 0 (-1) l d = R
  have hev : (fnOf C fn).val = .agg #[.string (fnOf C fn).nm, .int .i64 (fnOf C fn).params, .int .i64 (fnOf C fn).regs, .int .i64 (fnOf C fn).slots, .slice (some ⟨bb, bo, none⟩) (fnOf C fn).blocks.length bcap] := by unfold Fn.val; rw [ebv]
  have hec : (.cells (Fn.cells (fnOf C fn)).toArray 49 : Obj) = .cells #[.string (fnOf C fn).nm, .int .i64 (fnOf C fn).params, .int .i64 (fnOf C fn).regs, .int .i64 (fnOf C fn).slots, .slice (some ⟨bb, bo, none⟩) (fnOf C fn).blocks.length bcap] 49 := by unfold Fn.cells; rw [ebv]
  have H0 : Hid (BoM C W0 W r rb fn n R l.length n 0 (-1) l d v (W.alloc (.cells #[.string (fnOf C fn).nm, .int .i64 (fnOf C fn).params, .int .i64 (fnOf C fn).regs, .int .i64 (fnOf C fn).slots, .slice (some ⟨bb, bo, none⟩) (fnOf C fn).blocks.length bcap] 49))) := by
    rw [← hec]
    exact ⟨hFn.nb, Nat.le_refl _, hf, hR', hD, ht, ho, hl, rfl, (MidD.start h hR).on (below1 _ _), heap_alloc_new _ _⟩
  have HBLK := hid' hblk
  have HEBV := hid' ebv
  have HLEN := hid' hlen
  have HFN := hid' hfn
  have HP := hid' P
  have HIH := hid' hIH
  have hrW : r < W.heap.size := h.lt
  have hbW : rb < W.heap.size := (Array.getElem?_eq_some_iff.1 hR.rc).1
  have HEXT : Hid (∀ k, k < (fnOf C fn).blocks.length → _) := fun k hk => (⟨fun j hj => fit_all P hfn hk hj, phi_fit P hfn hk, fun he => ⟨fun l => way_is P hfn hk he l, (way_ok P hfn hk he ⟨0, 0, 0, 0, 0, 0⟩ []).2.2.2.2⟩, end_has P hfn hk, code_len P hfn hk, (hblk k hk).2.2, fun w hw => bl_cells ((hblk k hk).2.1 w hw)⟩ : (∀ j, j < (blOf C fn k).code.length → FitB C fn k ((blOf C fn k).code.getD j in0)) ∧ (∀ {l : List Int}, (l.length : Int) = (fnOf C fn).regs → ∀ j (hj : j < (blOf C fn k).code.length), j < phN (blOf C fn k).code → PhiD l.length (blOf C fn k).code[j]) ∧ ((blOf C fn k).en ≠ 3 → (∀ l, wayD l (blOf C fn k) < (fnOf C fn).blocks.length) ∧ ∀ j, j < (blOf C fn k).to.length → 0 ≤ (blOf C fn k).to.getD j 0) ∧ (((blOf C fn k).en = 1 ∧ (blOf C fn k).to.length = 1) ∨ ((blOf C fn k).en = 2 ∧ (blOf C fn k).to.length = 2 ∧ 0 ≤ (blOf C fn k).arg ∧ (blOf C fn k).arg < (fnOf C fn).regs) ∨ ((blOf C fn k).en = 3 ∧ -1 ≤ (blOf C fn k).arg ∧ (blOf C fn k).arg < (fnOf C fn).regs)) ∧ (blOf C fn k).code.length ≤ 65536 ∧ Bl.ok W0 (blOf C fn k) ∧ ∀ w, Below W0.heap.size W0 w → _)
  have hR2 := hR
  rw [hev]
  have hLreg : (l.length : Int) = (fnOf C fn).regs := hlen
  generalize hLL : l.length = L at *
  clear hec hblk ebv hlen hfn P hIH eF hFn hR' hD hf ht ho hl h hR hev hR2 hLL
  go_enter Try.func31, Try.ntmps31
  go_wp2
  generalize (W.alloc (.cells #[.string (fnOf C fn).nm, .int .i64 (fnOf C fn).params, .int .i64 (fnOf C fn).regs, .int .i64 (fnOf C fn).slots, .slice (some ⟨bb, bo, none⟩) (fnOf C fn).blocks.length bcap] 49)) = w0 at *
  go_loopw [9, 10] (fun a f wr => ∃ (m at_ : Nat) (f' : Int) (l' : List Int) (d' : Ds) (v' : Dv), a = .int .i64 at_ ∧ f = .int .i64 f' ∧ BoM C W0 W r rb fn n R L m at_ f' l' d' v' wr) (fun _ _ w => fuelOf r w)
  case atStart => exact ⟨n, 0, -1, l, d, v, rfl, rfl, H0.out⟩
  case round =>
    obtain ⟨m, at_, f', l', d', v', rfl, rfl, hM⟩ := hrel
    obtain ⟨m, rfl⟩ : ∃ m', m = m' + 1 := ⟨m - 1, by have := hM.fu; omega⟩
    have HM := hid' hM
    have hat := hM.bk
    have y4 : wr.cell? ⟨W.heap.size, 4, none⟩ = some (.slice (some ⟨bb, bo, none⟩) (fnOf C fn).blocks.length bcap) := by rw [cell_of_row wr _ 4 _ 49 (0, 0) hM.box, ← HEBV.out]; rfl
    obtain ⟨hfit, hphi, hway, hends, hcl, hbok, hbl⟩ := HEXT.out at_ hat
    obtain ⟨z0, z1, z2, z3⟩ := hbl wr hM.mid.doc.below
    have hres := hM.res
    unfold bodyD at hres
    have hB := (HBLK.out at_ hat).1
    have hll := hM.ll
    have hfm := hM.mn
    have hmid0 := hM.mid
    have hfu0 := hM.fu
    have hok0 := hM.ok
    have hwl := hM.wl
    have htO := (⟨hM.ht, hM.ho⟩ : d'.trap = 0 ∧ d'.over = false)
    have hbox0 := hM.box
    clear hM
    have HC19 := hid' (HIH.out m (by omega))
    have HBA := hid' (HBLK.out at_ hat)
    generalize hBe : blOf C fn at_ = B at *
    obtain ⟨co, ccap, ec⟩ := hbok.c.len
    obtain ⟨to, tcap, et⟩ := hbok.t.len
    rw [ec] at z0
    rw [et] at z3
    have hbv : B.val = .agg #[.slice co B.code.length ccap, .int .i64 B.en, .int .i64 B.arg, .slice to B.to.length tcap] := by unfold Bl.val; rw [ec, et]
    have hbce : (.cells (Bl.cells B).toArray 54 : Obj) = .cells #[.slice co B.code.length ccap, .int .i64 B.en, .int .i64 B.arg, .slice to B.to.length tcap] 54 := by unfold Bl.cells; rw [ec, et]
    have hsz : W.heap.size < wr.heap.size := (Array.getElem?_eq_some_iff.1 hbox0).1
    have hsB := hmid0.doc.below.size
    have h53 := phis53 (l := l') (f := f') (hmid0.on (below1 wr (.cells (Bl.cells B).toArray 54))).doc (hmid0.on (below1 wr (.cells (Bl.cells B).toArray 54))).reg hmid0.ne.1 hbok hwl (hphi (by rw [hll]; exact hLreg)) (by have := hok0.fu; exact this) (Nat.le_trans (phN_le _) hcl)
    rw [hbv] at h53
    have HW1 : Hid (MidD C W0 W r rb d' v' l' (wr.alloc (.cells (Bl.cells B).toArray 54)) ∧ (wr.alloc (.cells (Bl.cells B).toArray 54)).heap[W.heap.size]? = some (.cells (Fn.cells (fnOf C fn)).toArray 49 (0, 0)) ∧ (wr.alloc (.cells (Bl.cells B).toArray 54)).heap[wr.heap.size]? = some (.cells (Bl.cells B).toArray 54 (0, 0))) := ⟨hmid0.on (below1 _ _), by rw [Below.heap_alloc _ _ _ hsz]; exact hbox0, heap_alloc_new _ _⟩
    rw [hbce] at h53 HW1
    have hati : (at_ : Int) < (fnOf C fn).blocks.length := by omega
    have hatc : (at_ : Int) < bcap := by omega
    have hrw : ¬ r = wr.heap.size := by omega
    have HBC2 := hid' hbce
    have HFIT := hid' hfit
    have HWAY := hid' hway
    have HENDS := hid' hends
    have HBOK := hid' hbok
    have HRES := hid' hres
    have HEC := hid' ec
    have HET := hid' et
    have HOK := hid' hok0
    have HWL := hid' hwl
    have HTO := hid' htO
    have hFO : fuelOf r wr = d'.fuel.toNat := fuelOf_is hmid0.doc
    have HFO := hid' hFO
    have HLL : Hid (l'.length = L) := hll
    have HPL := hid' (phisL_ok hwl d' f' B.code)
    have HPD := hid' (hok0.phis (phN B.code))
    rw [hll] at h53
    clear hfit hphi hway hends hbok hbl hres hbv hbce hok0 hwl htO hmid0 hbox0 ec et hFO hll HM HEXT
    cases hok : phisOk d' (phN B.code) with
    | false =>
      rw [hok] at h53
      have hR1 : R = (0, phisD d' (phN B.code)) := by rw [← HRES.out, hok]; rfl
      clear HRES
      subst hR1
      go_wp2_with (go_at_call 53; refine h53.mono ?_; rintro e1 w5 ⟨rfl, hD5, hR5, hK5⟩; have HM5 := hid' (HW1.out.1.two2 hD5 hR5 hK5); clear hD5 hR5 hK5)
      go_ret
      exact ⟨rfl, ⟨_, HM5.out.doc⟩, HM5.out.kept⟩
    | true =>
      rw [hok] at h53
      have hR1 : blkD C (callD C (bodyD C m)) (bodyD C m fn) fn at_ B B.code (phisL d' l' f' B.code) (phisD d' (phN B.code)) = R := by rw [← HRES.out, hok, if_pos rfl]
      have HI0 : Hid (∀ w5, DocM C W0 r w5 (phisD d' (phN B.code)) v' → RegM W0 w5 rb (phisL d' l' f' B.code) → Kept (fun q => q = r ∨ q = rb) (wr.alloc (.cells #[.slice co B.code.length ccap, .int .i64 B.en, .int .i64 B.arg, .slice to B.to.length tcap] 54)) w5 → BlM C W0 W r rb fn m at_ wr.heap.size B d'.fuel R L 0 (phisL d' l' f' B.code) (phisD d' (phN B.code)) v' w5) := fun w5 hD5 hR5 hK5 => by
        have hf := HPD.out.2.2.1 hok
        refine ⟨Nat.zero_le _, by have := HPD.out.2.1.fuel; omega, HPD.out.2.1.fuel, hR1, HPD.out.1, by rw [hf.1]; exact HTO.out.1, by rw [hf.2]; exact HTO.out.2, HPL.out.1, by rw [HPL.out.2]; exact HLL.out, HW1.out.1.two2 hD5 hR5 hK5, ?_, ?_⟩
        · rw [hK5.block _ (by simp; omega) (by omega)]
          exact HW1.out.2.1
        · rw [hK5.block _ (by simp) (by omega)]
          rw [HBC2.out]
          exact HW1.out.2.2
      clear HRES hR1
      go_wp2_with (go_at_call 53; refine h53.mono ?_; rintro e1 w5 ⟨rfl, hD5, hR5, hK5⟩; have HM5 := hid' (HI0.out w5 hD5 hR5 hK5); clear hD5 hR5 hK5)
      have hbx0 : r < wr.heap.size := by omega
      have hbx1 : rb < wr.heap.size := by omega
      have hm1 : m + 1 ≤ n := hfm
      have hd0 : (0 : Int) ≤ d'.fuel ∨ d'.fuel ≤ 0 := by omega
      have HM0 := HM5
      clear h53 HI0 HPL HPD HW1 hrw hsB hsz y4 z0 z1 z2 z3 hB HBLK H0
      generalize wr.heap.size = bx at *
      generalize phisL d' l' f' B.code = lA at *
      generalize phisD d' (phN B.code) = dA at *
      clear HM5
      go_loopw [12] (fun i wq => ∃ (k : Nat) (l2 : List Int) (d2 : Ds) (v2 : Dv), i = .int .i64 k ∧ BlM C W0 W r rb fn m at_ bx B d'.fuel R L k l2 d2 v2 wq) (fun i _ => B.code.length - (intOf i).toNat)
      case atStart => exact ⟨0, lA, dA, v', rfl, HM0.out⟩
      case round =>
        obtain ⟨k, l2, d2, v2, rfl, hI⟩ := hrel
        have HI := hid' hI
        have q0 : wr.cell? ⟨bx, 0, none⟩ = some (.slice co B.code.length ccap) := by rw [cell_of_row wr bx 0 _ 54 (0, 0) hI.bbx, ← HEC.out]; rfl
        have h54 := spend54 hI.mid.doc (by have := hI.ok.fu; omega)
        clear hI HM0
        by_cases hlt : k < B.code.length
        · obtain ⟨ib, io, icap, ecv, hicap, hinat⟩ := src_code HBOK.out hlt
          rw [HEC.out] at ecv
          injection ecv with e1 e2 e3
          clear e2
          subst e1 e3
          have hin1 := hinat k hlt
          have HIN := hid' hin1
          have y0 := (in_cells (hin1.2.1 wr HI.out.mid.doc.below)).1
          have hbw : bx < wr.heap.size := (Array.getElem?_eq_some_iff.1 HI.out.bbx).1
          have hWw : W.heap.size < wr.heap.size := (Array.getElem?_eq_some_iff.1 HI.out.box).1
          have hki : (k : Int) < B.code.length := by omega
          have hkc : (k : Int) < ccap := by omega
          have hdrop : B.code.drop k = B.code[k] :: B.code.drop (k + 1) := List.drop_eq_getElem_cons hlt
          have hres2 := HI.out.res
          rw [hdrop] at hres2
          have hfb := HFIT.out k hlt
          have hgd : B.code.getD k in0 = B.code[k] := by simp [List.getD, hlt]
          rw [hgd] at hfb
          clear hinat hin1 hdrop hgd
          generalize B.code[k] = I at *
          by_cases h12 : I.op = 12
          · rw [blk_phi h12] at hres2
            rw [h12] at y0
            have HN : Hid (BlM C W0 W r rb fn m at_ bx B d'.fuel R L (k + 1) l2 d2 v2 wr) := { HI.out with hk := by omega, res := hres2 }
            clear h54 hres2 h12
            go_wp2
            refine ⟨⟨k + 1, l2, d2, v2, by go_num, HN.out⟩, ?_⟩
            simp [intOf]
            omega
          · have hop' : (I.op == 12) = false := by simp [h12]
            by_cases h0 : d2.fuel ≤ 0
            · rw [blk_spent h12 h0] at hres2
              rw [decide_eq_false (by omega)] at h54
              subst hres2
              clear h12
              go_wp2_with (go_at_call 54; refine h54.mono ?_; rintro e1 w6 ⟨rfl, hD6, hK6⟩; have HM6 := hid' (HI.out.mid.spent hD6 hK6); clear hD6 hK6)
              go_ret
              exact ⟨rfl, ⟨_, HM6.out.doc⟩, HM6.out.kept⟩
            · rw [decide_eq_true (by omega)] at h54
              obtain ⟨s1, s2, s3, s4, s5⟩ := HI.out.ok.spend (show 0 < d2.fuel by omega)
              have htr : (spendD d2).trap = 0 := by rw [s4]; exact HI.out.ht
              have hov : (spendD d2).over = false := by rw [s5]; exact HI.out.ho
              have hfl : (spendD d2).fuel.toNat < m := by rw [s3]; have := HI.out.fu; omega
              have hins := ins_keep HP.out (call_keeps HP.out m) hfb (fn := fn) HI.out.wl s1 hfl htr hov
              have H55 : Hid (∀ w6, MidD C W0 W r rb (spendD d2) v2 l2 w6 → _) := fun w6 hM6 => do55_all HP.out HC19.out hfb HIN.out.2.2 hM6.doc hM6.reg (by rw [HI.out.ll]; exact hLreg) HI.out.wl s1 hfl htr hov h12 hin fn
              have HY : Hid (∀ w6, MidD C W0 W r rb (spendD d2) v2 l2 w6 → _) := fun w6 hM6 => in_cells (HIN.out.2.1 w6 hM6.doc.below)
              obtain ⟨ao, acap, ea⟩ := HIN.out.2.2.a.len
              obtain ⟨po, pcap, ep⟩ := HIN.out.2.2.p.len
              have HEA := hid' ea
              have HEP := hid' ep
              have HEV : Hid (I.val = .agg #[.int .i64 I.op, .int .i64 I.dst, .slice ao I.args.length acap, .int .i32 I.imm, .int .i64 I.alu, .int .i64 I.wide, .slice po I.pred.length pcap]) := by unfold Hid In.val; rw [ea, ep]
              have HINS := hid' hins
              have hL2 := HI.out.ll
              clear hins ea ep
              cases hq : (iDo C (callD C (bodyD C m)) fn I l2 (spendD d2)).1 with
              | false =>
                rw [blk_fail h12 h0 hq] at hres2
                clear h12
                generalize iDo C (callD C (bodyD C m)) fn I l2 (spendD d2) = Q at *
                go_wp2_with (first
                  | (go_at_call 54; refine h54.mono ?_; rintro e1 w6 ⟨rfl, hD6, hK6⟩; have HM6 := hid' (HI.out.mid.spent hD6 hK6); obtain ⟨y60, y61, y62, y63, y64, y65, y66⟩ := HY.out w6 HM6.out; rw [HEA.out] at y62; rw [HEP.out] at y66; have qx : w6.cell? ⟨bx, 0, none⟩ = some (.slice (some ⟨ib, io, none⟩) B.code.length ccap) := (hK6.cell hbw (by omega)).trans q0; have h55 := H55.out w6 HM6.out; unfold DoesD at h55; rw [HEV.out, hL2] at h55; have HX6 := hid' (⟨by rw [hK6.block _ (by omega) (by omega)]; exact HI.out.box, by rw [hK6.block _ hbw (by omega)]; exact HI.out.bbx⟩ : w6.heap[W.heap.size]? = some (.cells (Fn.cells (fnOf C fn)).toArray 49 (0, 0)) ∧ w6.heap[bx]? = some (.cells (Bl.cells B).toArray 54 (0, 0))); clear hD6)
                  | (go_at_call 55; refine h55.mono ?_; rintro e1 w7 hq7; obtain ⟨v7, hM7⟩ := HM6.out.did hq7; obtain ⟨rfl, _, _, hK7⟩ := hq7; rw [hq]; have HM7 := hid' hM7; clear hM7))
                go_ret
                subst hres2
                exact ⟨rfl, ⟨_, HM7.out.doc⟩, HM7.out.kept⟩
              | true =>
                rw [blk_go h12 h0 hq] at hres2
                clear h12
                generalize iDo C (callD C (bodyD C m)) fn I l2 (spendD d2) = Q at *
                go_wp2_with (first
                  | (go_at_call 54; refine h54.mono ?_; rintro e1 w6 ⟨rfl, hD6, hK6⟩; have HM6 := hid' (HI.out.mid.spent hD6 hK6); obtain ⟨y60, y61, y62, y63, y64, y65, y66⟩ := HY.out w6 HM6.out; rw [HEA.out] at y62; rw [HEP.out] at y66; have qx : w6.cell? ⟨bx, 0, none⟩ = some (.slice (some ⟨ib, io, none⟩) B.code.length ccap) := (hK6.cell hbw (by omega)).trans q0; have h55 := H55.out w6 HM6.out; unfold DoesD at h55; rw [HEV.out, hL2] at h55; have HX6 := hid' (⟨by rw [hK6.block _ (by omega) (by omega)]; exact HI.out.box, by rw [hK6.block _ hbw (by omega)]; exact HI.out.bbx⟩ : w6.heap[W.heap.size]? = some (.cells (Fn.cells (fnOf C fn)).toArray 49 (0, 0)) ∧ w6.heap[bx]? = some (.cells (Bl.cells B).toArray 54 (0, 0))); clear hD6)
                  | (go_at_call 55; refine h55.mono ?_; rintro e1 w7 hq7; obtain ⟨v7, hM7⟩ := HM6.out.did hq7; obtain ⟨rfl, _, _, hK7⟩ := hq7; rw [hq]; have HM7 := hid' hM7; have HX7 := hid' (⟨by rw [hK7.block _ (Array.getElem?_eq_some_iff.1 HX6.out.1).1 (no_turnD HX6.out.1 (by decide) (by omega) (by omega))]; exact HX6.out.1, by rw [hK7.block _ (Array.getElem?_eq_some_iff.1 HX6.out.2).1 (no_turnD HX6.out.2 (by decide) (by omega) (by omega))]; exact HX6.out.2⟩ : w7.heap[W.heap.size]? = some (.cells (Fn.cells (fnOf C fn)).toArray 49 (0, 0)) ∧ w7.heap[bx]? = some (.cells (Bl.cells B).toArray 54 (0, 0))); clear hM7))
                have hk2 := HINS.out.keep.fuel
                have hsf : (spendD d2).fuel ≤ d2.fuel := s2.fuel
                refine ⟨⟨k + 1, Q.2.1, Q.2.2, v7, by go_num, by omega, by have := HI.out.fu; omega, by have := HI.out.le; omega, hres2, HINS.out.ok, (HINS.out.flags hq).1, (HINS.out.flags hq).2, HINS.out.words, by rw [HINS.out.len]; exact hL2, HM7.out, HX7.out.1, HX7.out.2⟩, ?_⟩
                simp [intOf]
                omega
        · have e : k = B.code.length := by have := HI.out.hk; omega
          have hres2 := HI.out.res
          rw [e, List.drop_length, blk_nil] at hres2
          subst e
          unfold endD at hres2
          have hbw : bx < wr.heap.size := (Array.getElem?_eq_some_iff.1 HI.out.bbx).1
          have hWw : W.heap.size < wr.heap.size := (Array.getElem?_eq_some_iff.1 HI.out.box).1
          have q1 : wr.cell? ⟨bx, 1, none⟩ = some (.int .i64 B.en) := by rw [cell_of_row wr bx 1 _ 54 (0, 0) HI.out.bbx]; rfl
          have q2 : wr.cell? ⟨bx, 2, none⟩ = some (.int .i64 B.arg) := by rw [cell_of_row wr bx 2 _ 54 (0, 0) HI.out.bbx]; rfl
          have q3 : wr.cell? ⟨bx, 3, none⟩ = some (.slice to B.to.length tcap) := by rw [cell_of_row wr bx 3 _ 54 (0, 0) HI.out.bbx, ← HET.out]; rfl
          by_cases h0 : d2.fuel ≤ 0
          · rw [if_pos h0] at hres2
            rw [decide_eq_false (by omega)] at h54
            subst hres2
            go_wp2_with (go_at_call 54; refine h54.mono ?_; rintro e1 w6 ⟨rfl, hD6, hK6⟩; have HM6 := hid' (HI.out.mid.spent hD6 hK6); clear hD6 hK6)
            go_ret
            exact ⟨rfl, ⟨_, HM6.out.doc⟩, HM6.out.kept⟩
          · rw [if_neg h0] at hres2
            rw [decide_eq_true (by omega)] at h54
            obtain ⟨s1, s2, s3, s4, s5⟩ := HI.out.ok.spend (show 0 < d2.fuel by omega)
            have hL2 := HI.out.ll
            rcases HENDS.out with ⟨he, hto⟩ | ⟨he, hto, ha0, ha1⟩ | ⟨he, ha0, ha1⟩
            · have hne3 : B.en ≠ 3 := by omega
              rw [if_neg hne3] at hres2
              rw [he] at q1
              have hto0 : 0 < B.to.length := by omega
              have hif : (if B.en = 2 ∧ l2.getD B.arg.toNat 0 = 0 then 1 else 0) = 0 := if_neg (by omega)
              obtain ⟨tb, to2, tcap2, etv, htb, htc, hcell⟩ := to_at HBA.out hto0
              rw [HET.out] at etv
              injection etv with e1 e2 e3
              clear e2
              subst e1 e3
              have hT0 := (HWAY.out hne3).2 0 hto0
              have hTd : B.to.getD 0 0 = B.to[0] := by simp [List.getD, hto0]
              obtain ⟨T, hT⟩ : ∃ T : Nat, B.to[0] = T := ⟨B.to[0].toNat, by omega⟩
              have hWT : wayD l2 B = T := by unfold wayD; rw [hif, hTd, hT]; rfl
              have hTl := (HWAY.out hne3).1 l2
              rw [hWT] at hTl hres2
              have hcell := hcell
              have hixc : ((0 : Nat) : Int) < tcap := by omega
              have hixc2 : (0 : Int) < tcap := by omega
              have hixl : (0 : Int) < B.to.length := by omega
              clear hTd
              go_wp2_with (first
                                | (go_at_call 54; refine h54.mono ?_; rintro e1 w6 ⟨rfl, hD6, hK6⟩; have HM6 := hid' (HI.out.mid.spent hD6 hK6); have u1 := (hK6.cell (o := 1) hbw (by omega)).trans q1; have u2 := (hK6.cell (o := 2) hbw (by omega)).trans q2; have u3 := (hK6.cell (o := 3) hbw (by omega)).trans q3; have x0 := hcell w6 HM6.out.doc.below 0 hto0; rw [hT, Nat.add_zero] at x0; have HX6 := hid' (by rw [hK6.block _ hWw (by omega)]; exact HI.out.box : w6.heap[W.heap.size]? = some (.cells (Fn.cells (fnOf C fn)).toArray 49 (0, 0))); clear hD6 hK6))
              have hfu6 := fuelOf_is HM6.out.doc
              refine ⟨⟨m, T, at_, l2, spendD d2, v2, rfl, rfl, hTl, by omega, by rw [s3]; have := HI.out.fu; omega, hres2, s1.less (by omega), by rw [s4]; exact HI.out.ht, by rw [s5]; exact HI.out.ho, HI.out.wl, hL2, HM6.out, HX6.out⟩, ?_⟩
              have hle := HI.out.le
              have hfo := HFO.out
              rw [hfu6, s3]
              omega
            · have hne3 : B.en ≠ 3 := by omega
              rw [if_neg hne3] at hres2
              rw [he] at q1
              obtain ⟨a, ha⟩ : ∃ a : Nat, B.arg = a := ⟨B.arg.toNat, by omega⟩
              rw [ha] at q2
              have hal : a < l2.length := by omega
              have hai : (a : Int) < L := by omega
              by_cases hz : l2.getD a 0 = 0
              · have hto0 : 1 < B.to.length := by omega
                have hif : (if B.en = 2 ∧ l2.getD B.arg.toNat 0 = 0 then 1 else 0) = 1 := if_pos ⟨he, by rw [ha, Int.toNat_natCast]; exact hz⟩
                obtain ⟨tb, to2, tcap2, etv, htb, htc, hcell⟩ := to_at HBA.out hto0
                rw [HET.out] at etv
                injection etv with e1 e2 e3
                clear e2
                subst e1 e3
                have hT0 := (HWAY.out hne3).2 1 hto0
                have hTd : B.to.getD 1 0 = B.to[1] := by simp [List.getD, hto0]
                obtain ⟨T, hT⟩ : ∃ T : Nat, B.to[1] = T := ⟨B.to[1].toNat, by omega⟩
                have hWT : wayD l2 B = T := by unfold wayD; rw [hif, hTd, hT]; rfl
                have hTl := (HWAY.out hne3).1 l2
                rw [hWT] at hTl hres2
                have hcell := hcell
                have hixc : ((1 : Nat) : Int) < tcap := by omega
                have hixc2 : (1 : Int) < tcap := by omega
                have hixl : (1 : Int) < B.to.length := by omega
                clear hTd
                go_wp2_with (first
                                  | (go_at_call 54; refine h54.mono ?_; rintro e1 w6 ⟨rfl, hD6, hK6⟩; have HM6 := hid' (HI.out.mid.spent hD6 hK6); have u1 := (hK6.cell (o := 1) hbw (by omega)).trans q1; have u2 := (hK6.cell (o := 2) hbw (by omega)).trans q2; have u3 := (hK6.cell (o := 3) hbw (by omega)).trans q3; have x0 := hcell w6 HM6.out.doc.below 1 hto0; rw [hT] at x0; obtain ⟨u4, _⟩ := HM6.out.reg.cell hal; rw [hz] at u4; have HX6 := hid' (by rw [hK6.block _ hWw (by omega)]; exact HI.out.box : w6.heap[W.heap.size]? = some (.cells (Fn.cells (fnOf C fn)).toArray 49 (0, 0))); clear hD6 hK6))
                have hfu6 := fuelOf_is HM6.out.doc
                refine ⟨⟨m, T, at_, l2, spendD d2, v2, rfl, rfl, hTl, by omega, by rw [s3]; have := HI.out.fu; omega, hres2, s1.less (by omega), by rw [s4]; exact HI.out.ht, by rw [s5]; exact HI.out.ho, HI.out.wl, hL2, HM6.out, HX6.out⟩, ?_⟩
                have hle := HI.out.le
                have hfo := HFO.out
                rw [hfu6, s3]
                omega
              · have hto0 : 0 < B.to.length := by omega
                have hif : (if B.en = 2 ∧ l2.getD B.arg.toNat 0 = 0 then 1 else 0) = 0 := if_neg (fun q => hz (by rw [ha, Int.toNat_natCast] at q; exact q.2))
                obtain ⟨zv, hzv⟩ : ∃ zv, zv = l2.getD a 0 := ⟨_, rfl⟩
                have hz' : (zv == 0) = false := by rw [beq_eq_false_iff_ne, hzv]; exact hz
                have HZV := hid' hzv
                clear hzv hz
                obtain ⟨tb, to2, tcap2, etv, htb, htc, hcell⟩ := to_at HBA.out hto0
                rw [HET.out] at etv
                injection etv with e1 e2 e3
                clear e2
                subst e1 e3
                have hT0 := (HWAY.out hne3).2 0 hto0
                have hTd : B.to.getD 0 0 = B.to[0] := by simp [List.getD, hto0]
                obtain ⟨T, hT⟩ : ∃ T : Nat, B.to[0] = T := ⟨B.to[0].toNat, by omega⟩
                have hWT : wayD l2 B = T := by unfold wayD; rw [hif, hTd, hT]; rfl
                have hTl := (HWAY.out hne3).1 l2
                rw [hWT] at hTl hres2
                have hcell := hcell
                have hixc : ((0 : Nat) : Int) < tcap := by omega
                have hixc2 : (0 : Int) < tcap := by omega
                have hixl : (0 : Int) < B.to.length := by omega
                clear hTd
                go_wp2_with (first
                                  | (go_at_call 54; refine h54.mono ?_; rintro e1 w6 ⟨rfl, hD6, hK6⟩; have HM6 := hid' (HI.out.mid.spent hD6 hK6); have u1 := (hK6.cell (o := 1) hbw (by omega)).trans q1; have u2 := (hK6.cell (o := 2) hbw (by omega)).trans q2; have u3 := (hK6.cell (o := 3) hbw (by omega)).trans q3; have x0 := hcell w6 HM6.out.doc.below 0 hto0; rw [hT, Nat.add_zero] at x0; obtain ⟨u4, _⟩ := HM6.out.reg.cell hal; rw [← HZV.out] at u4; have HX6 := hid' (by rw [hK6.block _ hWw (by omega)]; exact HI.out.box : w6.heap[W.heap.size]? = some (.cells (Fn.cells (fnOf C fn)).toArray 49 (0, 0))); clear hD6 hK6))
                have hfu6 := fuelOf_is HM6.out.doc
                refine ⟨⟨m, T, at_, l2, spendD d2, v2, rfl, rfl, hTl, by omega, by rw [s3]; have := HI.out.fu; omega, hres2, s1.less (by omega), by rw [s4]; exact HI.out.ht, by rw [s5]; exact HI.out.ho, HI.out.wl, hL2, HM6.out, HX6.out⟩, ?_⟩
                have hle := HI.out.le
                have hfo := HFO.out
                rw [hfu6, s3]
                omega
            · rw [if_pos he] at hres2
              rw [he] at q1
              unfold toldD at hres2
              by_cases hneg : B.arg < 0
              · rw [if_pos hneg] at hres2
                subst hres2
                go_wp2_with (go_at_call 54; refine h54.mono ?_; rintro e1 w6 ⟨rfl, hD6, hK6⟩; have HM6 := hid' (HI.out.mid.spent hD6 hK6); have u1 := (hK6.cell (o := 1) hbw (by omega)).trans q1; have u2 := (hK6.cell (o := 2) hbw (by omega)).trans q2; clear hD6 hK6)
                go_ret
                exact ⟨rfl, ⟨_, HM6.out.doc⟩, HM6.out.kept⟩
              · rw [if_neg hneg] at hres2
                obtain ⟨a, ha⟩ : ∃ a : Nat, B.arg = a := ⟨B.arg.toNat, by omega⟩
                rw [ha, Int.toNat_natCast] at hres2
                rw [ha] at q2
                have hal : a < l2.length := by omega
                have hai : (a : Int) < L := by omega
                have hneg' : ¬ (a : Int) < 0 := by omega
                obtain ⟨rc, _⟩ := HI.out.mid.reg.cell hal
                subst hres2
                clear hneg
                go_wp2_with (go_at_call 54; refine h54.mono ?_; rintro e1 w6 ⟨rfl, hD6, hK6⟩; have HM6 := hid' (HI.out.mid.spent hD6 hK6); have u1 := (hK6.cell (o := 1) hbw (by omega)).trans q1; have u2 := (hK6.cell (o := 2) hbw (by omega)).trans q2; obtain ⟨u4, _⟩ := HM6.out.reg.cell hal; clear hD6 hK6)
                go_ret
                exact ⟨rfl, ⟨_, HM6.out.doc⟩, HM6.out.kept⟩
end
end Go.Proofs.Ytiehlkhpblldaaa
