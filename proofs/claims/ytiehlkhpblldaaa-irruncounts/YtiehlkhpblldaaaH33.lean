/- enter: a call begins, where there is room. -/
import Derived.Test.YtiehlkhpblldaaaH00
import Derived.Test.YtiehlkhpblldaaaH23
set_option linter.unusedVariables false
set_option linter.unusedSimpArgs false
set_option maxRecDepth 20000
set_option maxHeartbeats 8000000
namespace Go.Proofs.Ytiehlkhpblldaaa
open Go.RowKit Go.Maps
section
variable {C : Cst} {W0 W W' : World} {r : Nat} {s s' : St} {x : Vs} {t : Tp}
theorem loop3_facts {wr : World} {x2 : Vs} {S5 : St} {PP : List (Nat × Int)} {c2 : Cl} {l : List Rg} {k N d : Nat} {v : Int} (HR2 : RunM C W0 r wr (setsF c2 S5 l (PP.take k)).1 x2 t) (HT2 : Top C (setsF c2 S5 l (PP.take k)).1 x2 t c2 (setsF c2 S5 l (PP.take k)).2)
    (hk : k < N) (hPl : k < PP.length) (hp : PP[k] = (d, v)) (hd : d < l.length) (hh : (S5.hidden.length + N + 1) * 24 ≤ 140737488355328) :
    Calls Try.prog 26 #[.pointer (some ⟨r, 0, none⟩), .int .i64 d, .int .u32 v] wr fun e w' => e = .returned (.tuple #[]) ∧ ∃ x', RunM C W0 r w' (setsF c2 S5 l (PP.take (k + 1))).1 x' t ∧ Top C (setsF c2 S5 l (PP.take (k + 1))).1 x' t c2 (setsF c2 S5 l (PP.take (k + 1))).2 := by
  have hSL := setsF_len c2 (PP.take k) S5 l
  have hSH := sets_hid c2 S5 l PP k
  have hST := sets_step c2 S5 l PP hPl hp
  generalize setsF c2 S5 l (PP.take (k + 1)) = SS1 at *
  generalize setsF c2 S5 l (PP.take k) = SS at *
  subst hST
  obtain ⟨S, m⟩ := SS
  dsimp only at *
  have hb : (S.hidden.length + 1) * 24 ≤ 140737488355328 := hid_room hSH hk hh
  have hdm : d < m.length := by rw [hSL.1]; exact hd
  exact (set26 HR2 HT2 hdm v hb).mono (fun e w' h => h)
/-- The arguments, as enter is handed them. -/
def ArgsV (C : Cst) (av : Value) (args : List Int) : Prop := ∃ ao cap, av = .slice ao args.length cap ∧ (0 < args.length → ∃ g cs, ao = some ⟨g, 0, none⟩ ∧ C.room = some (g, cs) ∧ ∀ j (h : j < args.length), cs[j]? = some (.int .u32 args[j]))
theorem args_cell (h : RunM C W0 r W s x t) {g : Nat} {cs : Array Value} (hr : C.room = some (g, cs)) (j : Nat) : W.cell? ⟨g, j, none⟩ = cs[j]? := by
  rw [cell_of_row W g j _ 134 (0, 0) (h.rows.rm g cs hr)]
set_option maxHeartbeats 20000000 in
theorem enter17_yes {fn : Nat} {av : Value} {args : List Int} {R : Ending → World → Prop} (h : RunM C W0 r W s x t) (hf : fn < C.p.funcs.length) (hcl : s.calls.length ≤ 1099511627776) (hsl : 0 ≤ C.p.funcs[fn].slots ∧ C.p.funcs[fn].slots ≤ 65536) (hrg : 0 ≤ C.p.funcs[fn].regs ∧ C.p.funcs[fn].regs ≤ 65536) (hM : MemOk s) (hok : entOk C s C.p.funcs[fn].slots = true) (hH : HidOk s) (hbl : s.banks.length = C.p.funcs.length) (hbg : 0 ≤ s.begun ∧ s.begun < 4611686018427387904) (hhl : s.hidden.length ≤ 549755813888) (hav : ArgsV C av args) (han : args.length ≤ 12) (hal : args.length ≤ (bankL (pushG s C.p.funcs[fn].slots.toNat) fn C.p.funcs[fn].regs.toNat).length)
    (h27 : ∀ w x' t', RunM C W0 r w (setsF (newC (bankS (pushG s C.p.funcs[fn].slots.toNat) fn C.p.funcs[fn].regs.toNat) fn) (begS s fn C.p.funcs[fn].slots.toNat C.p.funcs[fn].regs.toNat) (bankL (pushG s C.p.funcs[fn].slots.toNat) fn C.p.funcs[fn].regs.toNat) (argsP args)).1 x' t' → Top C (setsF (newC (bankS (pushG s C.p.funcs[fn].slots.toNat) fn C.p.funcs[fn].regs.toNat) fn) (begS s fn C.p.funcs[fn].slots.toNat C.p.funcs[fn].regs.toNat) (bankL (pushG s C.p.funcs[fn].slots.toNat) fn C.p.funcs[fn].regs.toNat) (argsP args)).1 x' t' (newC (bankS (pushG s C.p.funcs[fn].slots.toNat) fn C.p.funcs[fn].regs.toNat) fn) (setsF (newC (bankS (pushG s C.p.funcs[fn].slots.toNat) fn C.p.funcs[fn].regs.toNat) fn) (begS s fn C.p.funcs[fn].slots.toNat C.p.funcs[fn].regs.toNat) (bankL (pushG s C.p.funcs[fn].slots.toNat) fn C.p.funcs[fn].regs.toNat) (argsP args)).2 →
      Calls Try.prog 27 #[.pointer (some ⟨r, 0, none⟩), .int .i64 0, .int .i64 (-1)] w fun e w' => e = .returned (.tuple #[]) ∧ R e w') :
    Calls Try.prog 17 #[.pointer (some ⟨r, 0, none⟩), .int .i64 fn, av] W fun e w' => e = .returned (.tuple #[]) ∧ R e w' := by
  have H := hid' h
  obtain ⟨fb, fo, fcap, ef, hF⟩ := enterFacts h hf
  obtain ⟨co, ccap, ecv, hcc⟩ := own_len h.rows.cs
  obtain ⟨sl, hsl2⟩ : ∃ sl : Nat, C.p.funcs[fn].slots = sl := ⟨C.p.funcs[fn].slots.toNat, by omega⟩
  obtain ⟨rg, hrg2⟩ : ∃ rg : Nat, C.p.funcs[fn].regs = rg := ⟨C.p.funcs[fn].regs.toNat, by omega⟩
  rw [hsl2] at hok hsl h27 hal
  rw [hrg2] at hrg h27 hal
  simp only [Int.toNat_natCast] at h27 hal
  have hfi : (fn : Int) < C.p.funcs.length := by omega
  have c0 := (hF ⟨W, Below.refl _ _⟩).1
  dsimp only at c0
  have d3 : ∀ q : After W, q.1.cell? ⟨fb, fo + fn * 5 + 3, none⟩ = some (.int .i64 sl) := fun q => by rw [← hsl2]; exact (hF q).2.2.1
  have d18 := fun q => (hF q).2.2.2.1
  have d9 : ∀ q : After W, q.1.cell? ⟨r, 9, none⟩ = some (.slice co s.calls.length ccap) := fun q => by rw [← ecv]; exact (hF q).2.2.2.2
  have hne := after_some W
  unfold entOk at hok
  simp only [Bool.and_eq_true, decide_eq_true_eq] at hok
  obtain ⟨hdp, hpo⟩ := hok
  have hpf : pushF s sl = pushG s sl := by unfold pushF; rw [hpo]; rfl
  have hPS := pushG_same s sl
  have H23 : Hid (∀ w6, Below W.heap.size W w6 → _) := fun w6 hb6 => push23 (H.out.on hb6) (n := sl) (by omega) hM.l1 hM.l2 hM.l3
  rw [hpo, hpf] at H23
  have HR2 : Hid (∀ w2 : World, Below W0.heap.size W0 w2 → w2.cell? ⟨fb, fo + fn * 5 + 2, none⟩ = some (.int .i64 rg)) := fun w2 hw => by
    obtain ⟨fb', fo', fcap', ef', _, _, hx⟩ := funcs_form H.out.rows.pg hf
    rw [ef] at ef'
    injection ef' with ef' _ _
    injection ef' with ef'
    injection ef' with a1 a2
    subst a1 a2
    rw [← hrg2]
    exact (fn_cells (hx w2 hw fn hf)).2.2.1
  have g' : ¬ (s.calls.length : Int) ≥ C.deep := by omega
  have HS2 : Hid (HidOk (pushG s sl)) := by
    unfold Hid HidOk
    rw [hPS.1, hPS.2.1]
    exact hH
  have hbl2 : (pushG s sl).banks.length = C.p.funcs.length := by rw [hPS.1]; exact hbl
  have hbe : begS s fn sl rg = { bankS (pushG s sl) fn rg with begun := (bankS (pushG s sl) fn rg).begun + 1, calls := (bankS (pushG s sl) fn rg).calls ++ [newC (bankS (pushG s sl) fn rg) fn] } := rfl
  rw [hbe] at h27
  have HPS := hid' hPS
  have hS2b : (pushG s sl).begun = s.begun := hPS.2.2.2.1
  have hS2h : (pushG s sl).hidden.length = s.hidden.length := congrArg List.length hPS.2.1
  have hS2c : (pushG s sl).calls.length = s.calls.length := congrArg List.length hPS.2.2.1
  have hS2l : (pushG s sl).low = s.low - sl := hPS.2.2.2.2
  have H27 := hid' h27
  have HAV := hid' hav
  clear hF ef ecv h hsl2 hrg2 hpf hdp hbe h27 hav hPS
  generalize pushG s sl = S2 at *
  obtain ⟨mb, hmb⟩ : ∃ mb, C.p.funcs.length = mb + 1 := ⟨C.p.funcs.length - 1, by omega⟩
  have hfm : fn < mb + 1 := by omega
  have hfb : fn < S2.banks.length := by omega
  have HBN := hid' (show S2.banks.length = mb + 1 by omega)
  have HFL := hid' hf
  clear hmb hbl hbl2
  go_enter Try.func17, Try.ntmps17
  go_wp2
  refine region_after 18 mixed (by kernel_rfl) ?_
  simp only [List.take_succ_cons, List.take_zero, List.drop_succ_cons, List.drop_zero]
  repeat (first | go_big_quiet_step (fail) | quiet_step (fail))
  refine wpQuiet_nil ?_
  intro w6 hb6
  have h23 := H23.out w6 hb6
  clear d3 d18 d9 H23 c0
  cases hbk : S2.banks[fn]'hfb with
  | none =>
    have q1 := fun W => Go.Lib.run_eql_slice_nil (P := Try.prog) W 69 109 none 0 0 0 0 Try.underlying69
    simp only [Option.isNone_none] at q1
    have HBK : Hid (S2.banks[fn]? = some none) := by unfold Hid; rw [List.getElem?_eq_getElem hfb, hbk]
    have hfmi : (fn : Int) < (mb : Int) + 1 := by omega
    have hfm2 : fn ≤ mb := by omega
    go_wp2_with (go_at_call 23; refine h23.mono ?_; rintro e6 w8 ⟨rfl, x6, hR6, hx6⟩; have hbs := hR6.rows.bs; rw [HBN.out] at hbs; obtain ⟨bb, bcap, ebv, hbc⟩ := own_form2 hbs; have c4 : w8.cell? ⟨r, 4, none⟩ = some (.slice (some ⟨bb, 0, none⟩) (mb + 1) bcap) := (by rw [← ebv]; exact hR6.cell 4); have cb : w8.cell? ⟨bb, fn, none⟩ = some (.slice none 0 0) := (by rw [ebv] at hbs; rw [World.ownsRow.cellAt hbs _ (by omega), List.getElem?_mapIdx, HBK.out]; rfl))
    have HR6 := hid' hR6
    have HEB := hid' ebv
    have e4 : ∀ q : After w8, q.1.cell? ⟨r, 4, none⟩ = some (.slice (some ⟨bb, 0, none⟩) (mb + 1) bcap) := fun q => keep_cell c4 q.2
    have er : ∀ q : After w8, q.1.cell? ⟨fb, fo + fn * 5 + 2, none⟩ = some (.int .i64 rg) := fun q => HR2.out q.1 (below_on HR6.out.rows.below q.2 HR6.out.rows.below.size)
    have hne8 := after_some w8
    obtain ⟨w10, hmk, hb10, hR10, hR11⟩ := HR6.out.drew.newB HBK.out (n := rg) (by omega) (fun e he => by obtain ⟨l, hl, _⟩ := HS2.out e he; exact ⟨l, hl⟩) HBN.out HEB.out
    have hmk' := hmk
    clear hR6 hbs c4 ebv
    have hb8 : Below w8.heap.size w8 w8.drew := drew1 w8
    refine region_mix (fun q => match q with
      | 0 => w8.drew
      | _ => w10) 9 1 mixed (by kernel_rfl) rfl (fun q => by
        cases q with
        | zero => exact hb8
        | succ q => exact hb8.trans hb10) ?_
    simp only [List.take_succ_cons, List.take_zero, List.drop_succ_cons, List.drop_zero]
    repeat (
      refine wpFree_step (fun K hK => ?_)
      go_simp
      first
        | (refine hK _ ?_; clear hK K)
        | (apply Exists.intro
           refine ⟨fun _ => ?_, hK _ ?_⟩
           (with_reducible rfl)
           clear hK K))
    refine wpFree_nil ?_
    refine headX_one (fun q => match q with
      | 0 => w8.drew
      | _ => w10) (p0 := .slice (some ⟨w8.heap.size, 0, none⟩) rg rg) rfl (by omega) (by kernel_rfl) ?_ ?_
    · exact ⟨by simp [go_sem], by simp [go_sem]; rw [hmk']; rfl⟩
    refine ⟨by kernel_rfl, ?_⟩
    have hrow := hR10.rows.bs
    rw [HBN.out, HEB.out] at hrow
    have m0 : w10.cell? ⟨bb, fn, none⟩ = some (.slice none 0 0) := by rw [World.ownsRow.cellAt hrow _ (by omega), List.getElem?_mapIdx, HBK.out]; rfl
    have mf := World.ownsRow.frozenAt hrow fn
    have HR11 := hid' hR11
    have c10 : (w10.setCell ⟨bb, fn, none⟩ (.slice (some ⟨w8.heap.size, 0, none⟩) rg rg)).cell? ⟨r, 10, none⟩ = some (.int .i64 S2.begun) := hR11.cell 10
    have f10 := hR11.fro
    have f10b := hR10.fro
    have hbw : IntKind.i64.wrap (S2.begun + 1) = S2.begun + 1 := by rw [hS2b]; simp [IntKind.wrap, IntKind.bits, IntKind.signed]; omega
    have hrgi : (0 : Int) ≤ rg := by omega
    clear e4 er hrow hR10 hR11 q1 cb
    clear hS2b
    go_wp2

    -- the call is laid on the calls
    have HB3 : Hid (bankS S2 fn rg = { S2 with banks := S2.banks.set fn (some (List.replicate rg ⟨0, 0⟩)) }) := by unfold Hid bankS; rw [if_pos (by simp [List.getD, HBK.out])]
    have HL3 : Hid (bankL S2 fn rg = (List.replicate rg ⟨0, 0⟩)) := by unfold Hid bankL; simp [List.getD, HBK.out]
    rw [HB3.out, HL3.out] at H27
    rw [HL3.out] at hal
    have H11 : Hid (RunM C W0 r ((w10.setCell ⟨bb, fn, none⟩ (.slice (some ⟨w8.heap.size, 0, none⟩) rg rg)).setCell ⟨r, 10, none⟩ (.int .i64 (S2.begun + 1))) { { S2 with banks := S2.banks.set fn (some (List.replicate rg ⟨0, 0⟩)) } with begun := S2.begun + 1 } { x6 with bb := fun i => if i = fn then w8.heap.size else x6.bb i } t) := HR11.out.put 10 _ rfl rfl
    generalize ((w10.setCell ⟨bb, fn, none⟩ (.slice (some ⟨w8.heap.size, 0, none⟩) rg rg)).setCell ⟨r, 10, none⟩ (.int .i64 (S2.begun + 1))) = W11 at *
    obtain ⟨ho, hcap, ehv, hhc⟩ := own_len H11.out.rows.hs
    dsimp only at ehv
    have EHV := hid' ehv
    obtain ⟨b2, cap2, w12, hr6, hrc, hR12⟩ := RunM.pushCA (Wa := W11.drew.alloc (.cells (Cl.cells (newC S2 fn)).toArray 86)) (g := W11.heap.size) (H11.out.drew.on (below1 _ _)) (newC S2 fn) (by
      show (S2.calls.length + 1) * 48 ≤ _
      rw [hS2c]
      exact Nat.le_trans (Nat.mul_le_mul_right 48 (Nat.succ_le_succ hcl)) (by decide)) (heap_alloc_new W11.drew _)
    have d9 : w12.cell? ⟨r, 9, none⟩ = some x6.cv := by rw [cell_of_row w12 r 9 _ 72 (0, 0) hrc]; rfl
    have df : w12.frozen? ⟨r, 9, none⟩ = false := frozen_of_row w12 r 9 _ 72 hrc
    have HR12 := hid' hR12
    unfold newC Cl.cells at hr6
    dsimp only at hr6
    have HRC := hid' hrc
    clear hR12 hrc ehv
    have hz0 : ((0 : Nat) : Int) = 0 := rfl
    rw [hz0] at hr6
    obtain ⟨ao, acap, eav, harg⟩ := HAV.out
    subst eav
    have HARG := hid' harg
    obtain ⟨S5, hS5⟩ : ∃ S5 : St, S5 = { { S2 with banks := S2.banks.set fn (some (List.replicate rg ⟨0, 0⟩)) } with begun := { S2 with banks := S2.banks.set fn (some (List.replicate rg ⟨0, 0⟩)) }.begun + 1, calls := { S2 with banks := S2.banks.set fn (some (List.replicate rg ⟨0, 0⟩)) }.calls ++ [newC S2 fn] } := ⟨_, rfl⟩
    obtain ⟨E5, hE5⟩ : ∃ E5 : Cl, E5 = newC S2 fn := ⟨_, rfl⟩
    have H27' : Hid (∀ w x' t', RunM C W0 r w (setsF E5 S5 (List.replicate rg ⟨0, 0⟩) (argsP args)).1 x' t' → Top C (setsF E5 S5 (List.replicate rg ⟨0, 0⟩) (argsP args)).1 x' t' E5 (setsF E5 S5 (List.replicate rg ⟨0, 0⟩) (argsP args)).2 → Calls Try.prog 27 #[.pointer (some ⟨r, 0, none⟩), .int .i64 0, .int .i64 (-1)] w fun e w' => e = .returned (.tuple #[]) ∧ R e w') := by
      subst hS5 hE5
      exact H27.out
    have HR5 : Hid (RunM C W0 r (w12.setCell ⟨r, 9, none⟩ (.slice (some ⟨b2, 0, none⟩) (S2.calls.length + 1) cap2)) S5 { { x6 with bb := fun i => if i = fn then w8.heap.size else x6.bb i } with cv := .slice (some ⟨b2, 0, none⟩) (S2.calls.length + 1) cap2 } t) := by
      subst hS5
      exact HR12.out
    have hlast : S5.calls.getLast? = some E5 := by subst hS5 hE5; simp
    have hfnE : E5.fn = fn := by subst hE5; rfl
    have hb5 : S5.banks[E5.fn]? = some (some (List.replicate rg ⟨0, 0⟩)) := by rw [hfnE]; subst hS5; dsimp only; rw [List.getElem?_set_self hfb]
    have hc5 : S5.calls.length ≤ 140737488355328 := by
      subst hS5
      show (S2.calls ++ [newC S2 fn]).length ≤ _
      rw [List.length_append, hS2c, List.length_singleton]; omega
    have hh5 : (S5.hidden.length + 12 + 1) * 24 ≤ 140737488355328 := by
      subst hS5
      show (S2.hidden.length + 12 + 1) * 24 ≤ _
      rw [hS2h]
      exact Nat.le_trans (Nat.mul_le_mul_right 24 (Nat.add_le_add_right (Nat.add_le_add_right hhl 12) 1)) (by decide)
    have HH5 := hid' hh5
    have h25 := resume25 HR5.out hlast (by rw [hfnE]; exact HFL.out) hb5 hc5
    have hlen1 : 0 ≤ (args.length : Int) := by omega
    clear H27 HR12 hS5 hE5 hlast hfnE hb5 hc5 hh5 HR5 HAV harg HB3 HL3 hS2h hS2c hS2l
    clear hhl hcl hbg hsl hrg hM hH hlen1 hrgi hbw hpo hx6
    have HAL := hid' hal
    have HAN := hid' han
    clear hal han
    have hrow11 : ∀ q : { w : World // w.heap[r]? = some (.cells (rcells C { { S2 with banks := S2.banks.set fn (some (List.replicate rg ⟨0, 0⟩)) } with begun := S2.begun + 1 } { x6 with bb := fun i => if i = fn then w8.heap.size else x6.bb i } t) 72 (0, 0)) }, ∀ k, q.1.cell? ⟨r, k, none⟩ = (rcells C { { S2 with banks := S2.banks.set fn (some (List.replicate rg ⟨0, 0⟩)) } with begun := S2.begun + 1 } { x6 with bb := fun i => if i = fn then w8.heap.size else x6.bb i } t)[k]? := fun q k => cell_of_row q.1 r k _ 72 (0, 0) q.2
    have c5 : ∀ q : { w : World // w.heap[r]? = some (.cells (rcells C { { S2 with banks := S2.banks.set fn (some (List.replicate rg ⟨0, 0⟩)) } with begun := S2.begun + 1 } { x6 with bb := fun i => if i = fn then w8.heap.size else x6.bb i } t) 72 (0, 0)) }, q.1.cell? ⟨r, 5, none⟩ = some (.slice ho S2.hidden.length hcap) := fun q => by rw [hrow11, ← EHV.out]; rfl
    have c8 : ∀ q : { w : World // w.heap[r]? = some (.cells (rcells C { { S2 with banks := S2.banks.set fn (some (List.replicate rg ⟨0, 0⟩)) } with begun := S2.begun + 1 } { x6 with bb := fun i => if i = fn then w8.heap.size else x6.bb i } t) 72 (0, 0)) }, q.1.cell? ⟨r, 8, none⟩ = some (.int .i64 S2.low) := fun q => by rw [hrow11]; rfl
    have c9 : ∀ q : { w : World // w.heap[r]? = some (.cells (rcells C { { S2 with banks := S2.banks.set fn (some (List.replicate rg ⟨0, 0⟩)) } with begun := S2.begun + 1 } { x6 with bb := fun i => if i = fn then w8.heap.size else x6.bb i } t) 72 (0, 0)) }, q.1.cell? ⟨r, 9, none⟩ = some x6.cv := fun q => by rw [hrow11]; rfl
    have c10 : ∀ q : { w : World // w.heap[r]? = some (.cells (rcells C { { S2 with banks := S2.banks.set fn (some (List.replicate rg ⟨0, 0⟩)) } with begun := S2.begun + 1 } { x6 with bb := fun i => if i = fn then w8.heap.size else x6.bb i } t) 72 (0, 0)) }, q.1.cell? ⟨r, 10, none⟩ = some (.int .i64 (S2.begun + 1)) := fun q => by rw [hrow11]; rfl
    have hne11 : Nonempty { w : World // w.heap[r]? = some (.cells (rcells C { { S2 with banks := S2.banks.set fn (some (List.replicate rg ⟨0, 0⟩)) } with begun := S2.begun + 1 } { x6 with bb := fun i => if i = fn then w8.heap.size else x6.bb i } t) 72 (0, 0)) } := ⟨⟨W11, H11.out.rc⟩⟩
    clear hrow11
    have hwl : IntKind.u32.wrap S2.low = S2.low % 4294967296 := by simp [IntKind.wrap, IntKind.bits, IntKind.signed]
    have hVD : ∀ q : Nat, (fun w : World => w.heap[r]? = some (.cells (rcells C { { S2 with banks := S2.banks.set fn (some (List.replicate rg ⟨0, 0⟩)) } with begun := S2.begun + 1 } { x6 with bb := fun i => if i = fn then w8.heap.size else x6.bb i } t) 72 (0, 0))) ((fun q => match q with
      | 0 => W11.drew
      | 1 => W11.drew.alloc (.cells #[.int .i64 (S2.begun + 1), .int .i64 fn, .int .u32 (S2.low % 4294967296), .int .i64 S2.hidden.length, .int .i64 0, .int .i64 0] 86)
      | _ => w12) q) := fun q => by
        match q with
        | 0 => exact H11.out.drew.rc
        | 1 => exact (H11.out.drew.on (below1 _ _)).rc
        | q + 2 => exact HRC.out
    refine region_mixD (fun q => match q with
      | 0 => W11.drew
      | 1 => W11.drew.alloc (.cells #[.int .i64 (S2.begun + 1), .int .i64 fn, .int .u32 (S2.low % 4294967296), .int .i64 S2.hidden.length, .int .i64 0, .int .i64 0] 86)
      | _ => w12) (fun w : World => w.heap[r]? = some (.cells (rcells C { { S2 with banks := S2.banks.set fn (some (List.replicate rg ⟨0, 0⟩)) } with begun := S2.begun + 1 } { x6 with bb := fun i => if i = fn then w8.heap.size else x6.bb i } t) 72 (0, 0))) 22 2 mixed (by kernel_rfl) rfl hVD ?_
    clear hVD
    simp only [List.take_succ_cons, List.take_zero, List.drop_succ_cons, List.drop_zero]
    repeat (
      refine wpFreeD_step (fun K hK => ?_)
      go_simp
      first
        | (refine hK _ ?_; clear hK K)
        | (apply Exists.intro
           refine ⟨fun _ => ?_, hK _ ?_⟩
           (with_reducible rfl)
           clear hK K))
    refine wpFreeD_nil ?_
    refine headX_row2 (fun q => match q with
      | 0 => W11.drew
      | 1 => W11.drew.alloc (.cells #[.int .i64 (S2.begun + 1), .int .i64 fn, .int .u32 (S2.low % 4294967296), .int .i64 S2.hidden.length, .int .i64 0, .int .i64 0] 86)
      | _ => w12) (p0 := .slice (some ⟨W11.heap.size, 0, none⟩) 1 1) (p1 := .slice (some ⟨b2, 0, none⟩) (S2.calls.length + 1) cap2) rfl rfl (by omega) (by kernel_rfl) (by kernel_rfl) ?_ ?_ ?_
    · exact ⟨by simp [go_sem], by simp [go_sem, hwl]⟩
    · exact ⟨by simp [go_sem], run_append_op _ _ _ _ _ _ _ _ (by simp [go_sem]) hr6⟩
    refine ⟨by kernel_rfl, ?_⟩
    all_goals
      clear hr6 c5 c8 c9 c10
      go_wp2_with (go_at_call 25; refine h25.mono ?_; rintro e7 w14 ⟨rfl, t9, hR14, hT14⟩)
      have HPL : Hid (∀ k (h : k < args.length), ∃ h2 : k < (argsP args).length, (argsP args)[k] = (k, args[k])) := fun k h => ⟨by simp [argsP]; exact h, by simp [argsP, h]⟩
      have HPN : Hid ((argsP args).length = args.length) := by unfold Hid; simp [argsP]
      generalize argsP args = PP at *
      have HRS := hid' hR14
      have HTS := hid' hT14
      clear hR14 hT14 h25
      go_loopw [95] (fun i wr' => ∃ (k : Nat) (x2 : Vs), k ≤ args.length ∧ i = .int .i64 k ∧ RunM C W0 r wr' (setsF E5 S5 (List.replicate rg ⟨0, 0⟩) (PP.take k)).1 x2 t9 ∧ Top C (setsF E5 S5 (List.replicate rg ⟨0, 0⟩) (PP.take k)).1 x2 t9 E5 (setsF E5 S5 (List.replicate rg ⟨0, 0⟩) (PP.take k)).2) (fun i _ => args.length - (intOf i).toNat)
      case atStart => exact ⟨0, _, Nat.zero_le _, rfl, HRS.out, HTS.out⟩
      case round =>
        obtain ⟨k, x2, hkN, rfl, hR2, hT2⟩ := hrel
        by_cases hk3 : k < args.length
        · obtain ⟨h2, hp⟩ := HPL.out k hk3
          obtain ⟨g, cs, rfl, hroom, hcs⟩ := HARG.out (by omega)
          have a1 : wr.cell? ⟨g, k, none⟩ = some (.int .u32 args[k]) := by rw [args_cell hR2 hroom k]; exact hcs k hk3
          have h26 := loop3_facts hR2 hT2 (N := 12) (by have := HAN.out; omega) h2 hp (by have := HAL.out; omega) HH5.out
          have hki : (k : Int) < args.length := by omega
          have hk12 : (k : Int) < 12 := by have := HAN.out; omega
          clear hR2 hT2 hcs hroom hp h2
          generalize args[k] = ak at *
          go_wp2_with (go_at_call 26; refine h26.mono ?_; rintro e13 w15 ⟨rfl, x13, hR13, hT13⟩)
          refine ⟨⟨k + 1, x13, by omega, by go_num, hR13, hT13⟩, ?_⟩
          simp [intOf]; omega
        · have e : k = args.length := by omega
          subst e
          have HF : Hid (PP.take args.length = PP) := List.take_of_length_le (by rw [HPN.out]; exact Nat.le_refl _)
          rw [HF.out] at hR2 hT2
          have hfin := H27'.out wr x2 t9 hR2 hT2
          clear hR2 hT2
          go_wp2_with (go_at_call 27; refine hfin.mono ?_; rintro e16 w16 ⟨rfl, hRR⟩)
          go_end0
          exact ⟨rfl, hRR⟩
  | some lb =>
    have HBK : Hid (S2.banks[fn]? = some (some lb)) := by unfold Hid; rw [List.getElem?_eq_getElem hfb, hbk]
    have hfmi : (fn : Int) < (mb : Int) + 1 := by omega
    have hfm2 : fn ≤ mb := by omega
    clear hbk
    have hbw : IntKind.i64.wrap (S2.begun + 1) = S2.begun + 1 := by rw [hS2b]; simp [IntKind.wrap, IntKind.bits, IntKind.signed]; omega
    have hrgi : (0 : Int) ≤ rg := by omega
    clear hS2b
    go_wp2_with (go_at_call 23; refine h23.mono ?_; rintro e6 w8 ⟨rfl, x6, hR6, hx6⟩; have hbs := hR6.rows.bs; rw [HBN.out] at hbs; obtain ⟨bb, bcap, ebv, hbc⟩ := own_form2 hbs; have c4 : w8.cell? ⟨r, 4, none⟩ = some (.slice (some ⟨bb, 0, none⟩) (mb + 1) bcap) := (by rw [← ebv]; exact hR6.cell 4); have cb : w8.cell? ⟨bb, fn, none⟩ = some (.slice (some ⟨x6.bb fn, 0, none⟩) lb.length lb.length) := (by rw [ebv] at hbs; rw [World.ownsRow.cellAt hbs _ (by omega), List.getElem?_mapIdx, HBK.out]; rfl); generalize x6.bb fn = bf at cb; generalize lb.length = ll at cb; have q1 := Go.Lib.run_eql_slice_nil (P := Try.prog) w8 69 109 (some ⟨bf, 0, none⟩) ll ll 0 0 Try.underlying69; simp only [Option.isNone_some] at q1; have HR11 := hid' hR6; have c10 : w8.cell? ⟨r, 10, none⟩ = some (.int .i64 S2.begun) := HR11.out.cell 10; have f10 := HR11.out.fro; clear hR6 hbs ebv)
    clear c10 f10 c4 cb q1
    -- the call is laid on the calls
    have HB3 : Hid (bankS S2 fn rg = S2) := by unfold Hid bankS; rw [if_neg (by simp [List.getD, HBK.out])]
    have HL3 : Hid (bankL S2 fn rg = lb) := by unfold Hid bankL; simp [List.getD, HBK.out]
    rw [HB3.out, HL3.out] at H27
    rw [HL3.out] at hal
    have H11 : Hid (RunM C W0 r (w8.setCell ⟨r, 10, none⟩ (.int .i64 (S2.begun + 1))) { S2 with begun := S2.begun + 1 } x6 t) := HR11.out.put 10 _ rfl rfl
    generalize (w8.setCell ⟨r, 10, none⟩ (.int .i64 (S2.begun + 1))) = W11 at *
    obtain ⟨ho, hcap, ehv, hhc⟩ := own_len H11.out.rows.hs
    dsimp only at ehv
    have EHV := hid' ehv
    obtain ⟨b2, cap2, w12, hr6, hrc, hR12⟩ := RunM.pushCA (Wa := W11.drew.alloc (.cells (Cl.cells (newC S2 fn)).toArray 86)) (g := W11.heap.size) (H11.out.drew.on (below1 _ _)) (newC S2 fn) (by
      show (S2.calls.length + 1) * 48 ≤ _
      rw [hS2c]
      exact Nat.le_trans (Nat.mul_le_mul_right 48 (Nat.succ_le_succ hcl)) (by decide)) (heap_alloc_new W11.drew _)
    have d9 : w12.cell? ⟨r, 9, none⟩ = some x6.cv := by rw [cell_of_row w12 r 9 _ 72 (0, 0) hrc]; rfl
    have df : w12.frozen? ⟨r, 9, none⟩ = false := frozen_of_row w12 r 9 _ 72 hrc
    have HR12 := hid' hR12
    unfold newC Cl.cells at hr6
    dsimp only at hr6
    have HRC := hid' hrc
    clear hR12 hrc ehv
    have hz0 : ((0 : Nat) : Int) = 0 := rfl
    rw [hz0] at hr6
    obtain ⟨ao, acap, eav, harg⟩ := HAV.out
    subst eav
    have HARG := hid' harg
    obtain ⟨S5, hS5⟩ : ∃ S5 : St, S5 = { S2 with begun := S2.begun + 1, calls := S2.calls ++ [newC S2 fn] } := ⟨_, rfl⟩
    obtain ⟨E5, hE5⟩ : ∃ E5 : Cl, E5 = newC S2 fn := ⟨_, rfl⟩
    have H27' : Hid (∀ w x' t', RunM C W0 r w (setsF E5 S5 lb (argsP args)).1 x' t' → Top C (setsF E5 S5 lb (argsP args)).1 x' t' E5 (setsF E5 S5 lb (argsP args)).2 → Calls Try.prog 27 #[.pointer (some ⟨r, 0, none⟩), .int .i64 0, .int .i64 (-1)] w fun e w' => e = .returned (.tuple #[]) ∧ R e w') := by
      subst hS5 hE5
      exact H27.out
    have HR5 : Hid (RunM C W0 r (w12.setCell ⟨r, 9, none⟩ (.slice (some ⟨b2, 0, none⟩) (S2.calls.length + 1) cap2)) S5 { x6 with cv := .slice (some ⟨b2, 0, none⟩) (S2.calls.length + 1) cap2 } t) := by
      subst hS5
      exact HR12.out
    have hlast : S5.calls.getLast? = some E5 := by subst hS5 hE5; simp
    have hfnE : E5.fn = fn := by subst hE5; rfl
    have hb5 : S5.banks[E5.fn]? = some (some lb) := by rw [hfnE]; subst hS5; exact HBK.out
    have hc5 : S5.calls.length ≤ 140737488355328 := by
      subst hS5
      show (S2.calls ++ [newC S2 fn]).length ≤ _
      rw [List.length_append, hS2c, List.length_singleton]; omega
    have hh5 : (S5.hidden.length + 12 + 1) * 24 ≤ 140737488355328 := by
      subst hS5
      show (S2.hidden.length + 12 + 1) * 24 ≤ _
      rw [hS2h]
      exact Nat.le_trans (Nat.mul_le_mul_right 24 (Nat.add_le_add_right (Nat.add_le_add_right hhl 12) 1)) (by decide)
    have HH5 := hid' hh5
    have h25 := resume25 HR5.out hlast (by rw [hfnE]; exact HFL.out) hb5 hc5
    have hlen1 : 0 ≤ (args.length : Int) := by omega
    clear H27 HR12 hS5 hE5 hlast hfnE hb5 hc5 hh5 HR5 HAV harg HB3 HL3 hS2h hS2c hS2l
    clear hhl hcl hbg hsl hrg hM hH hlen1 hrgi hbw hpo hx6
    have HAL := hid' hal
    have HAN := hid' han
    clear hal han
    have hrow11 : ∀ q : { w : World // w.heap[r]? = some (.cells (rcells C { S2 with begun := S2.begun + 1 } x6 t) 72 (0, 0)) }, ∀ k, q.1.cell? ⟨r, k, none⟩ = (rcells C { S2 with begun := S2.begun + 1 } x6 t)[k]? := fun q k => cell_of_row q.1 r k _ 72 (0, 0) q.2
    have c5 : ∀ q : { w : World // w.heap[r]? = some (.cells (rcells C { S2 with begun := S2.begun + 1 } x6 t) 72 (0, 0)) }, q.1.cell? ⟨r, 5, none⟩ = some (.slice ho S2.hidden.length hcap) := fun q => by rw [hrow11, ← EHV.out]; rfl
    have c8 : ∀ q : { w : World // w.heap[r]? = some (.cells (rcells C { S2 with begun := S2.begun + 1 } x6 t) 72 (0, 0)) }, q.1.cell? ⟨r, 8, none⟩ = some (.int .i64 S2.low) := fun q => by rw [hrow11]; rfl
    have c9 : ∀ q : { w : World // w.heap[r]? = some (.cells (rcells C { S2 with begun := S2.begun + 1 } x6 t) 72 (0, 0)) }, q.1.cell? ⟨r, 9, none⟩ = some x6.cv := fun q => by rw [hrow11]; rfl
    have c10 : ∀ q : { w : World // w.heap[r]? = some (.cells (rcells C { S2 with begun := S2.begun + 1 } x6 t) 72 (0, 0)) }, q.1.cell? ⟨r, 10, none⟩ = some (.int .i64 (S2.begun + 1)) := fun q => by rw [hrow11]; rfl
    have hne11 : Nonempty { w : World // w.heap[r]? = some (.cells (rcells C { S2 with begun := S2.begun + 1 } x6 t) 72 (0, 0)) } := ⟨⟨W11, H11.out.rc⟩⟩
    clear hrow11
    have hwl : IntKind.u32.wrap S2.low = S2.low % 4294967296 := by simp [IntKind.wrap, IntKind.bits, IntKind.signed]
    have hVD : ∀ q : Nat, (fun w : World => w.heap[r]? = some (.cells (rcells C { S2 with begun := S2.begun + 1 } x6 t) 72 (0, 0))) ((fun q => match q with
      | 0 => W11.drew
      | 1 => W11.drew.alloc (.cells #[.int .i64 (S2.begun + 1), .int .i64 fn, .int .u32 (S2.low % 4294967296), .int .i64 S2.hidden.length, .int .i64 0, .int .i64 0] 86)
      | _ => w12) q) := fun q => by
        match q with
        | 0 => exact H11.out.drew.rc
        | 1 => exact (H11.out.drew.on (below1 _ _)).rc
        | q + 2 => exact HRC.out
    refine region_mixD (fun q => match q with
      | 0 => W11.drew
      | 1 => W11.drew.alloc (.cells #[.int .i64 (S2.begun + 1), .int .i64 fn, .int .u32 (S2.low % 4294967296), .int .i64 S2.hidden.length, .int .i64 0, .int .i64 0] 86)
      | _ => w12) (fun w : World => w.heap[r]? = some (.cells (rcells C { S2 with begun := S2.begun + 1 } x6 t) 72 (0, 0))) 22 2 mixed (by kernel_rfl) rfl hVD ?_
    clear hVD
    simp only [List.take_succ_cons, List.take_zero, List.drop_succ_cons, List.drop_zero]
    repeat (
      refine wpFreeD_step (fun K hK => ?_)
      go_simp
      first
        | (refine hK _ ?_; clear hK K)
        | (apply Exists.intro
           refine ⟨fun _ => ?_, hK _ ?_⟩
           (with_reducible rfl)
           clear hK K))
    refine wpFreeD_nil ?_
    refine headX_row2 (fun q => match q with
      | 0 => W11.drew
      | 1 => W11.drew.alloc (.cells #[.int .i64 (S2.begun + 1), .int .i64 fn, .int .u32 (S2.low % 4294967296), .int .i64 S2.hidden.length, .int .i64 0, .int .i64 0] 86)
      | _ => w12) (p0 := .slice (some ⟨W11.heap.size, 0, none⟩) 1 1) (p1 := .slice (some ⟨b2, 0, none⟩) (S2.calls.length + 1) cap2) rfl rfl (by omega) (by kernel_rfl) (by kernel_rfl) ?_ ?_ ?_
    · exact ⟨by simp [go_sem], by simp [go_sem, hwl]⟩
    · exact ⟨by simp [go_sem], run_append_op _ _ _ _ _ _ _ _ (by simp [go_sem]) hr6⟩
    refine ⟨by kernel_rfl, ?_⟩
    all_goals
      clear hr6 c5 c8 c9 c10
      go_wp2_with (go_at_call 25; refine h25.mono ?_; rintro e7 w14 ⟨rfl, t9, hR14, hT14⟩)
      have HPL : Hid (∀ k (h : k < args.length), ∃ h2 : k < (argsP args).length, (argsP args)[k] = (k, args[k])) := fun k h => ⟨by simp [argsP]; exact h, by simp [argsP, h]⟩
      have HPN : Hid ((argsP args).length = args.length) := by unfold Hid; simp [argsP]
      generalize argsP args = PP at *
      have HRS := hid' hR14
      have HTS := hid' hT14
      clear hR14 hT14 h25
      go_loopw [95] (fun i wr' => ∃ (k : Nat) (x2 : Vs), k ≤ args.length ∧ i = .int .i64 k ∧ RunM C W0 r wr' (setsF E5 S5 lb (PP.take k)).1 x2 t9 ∧ Top C (setsF E5 S5 lb (PP.take k)).1 x2 t9 E5 (setsF E5 S5 lb (PP.take k)).2) (fun i _ => args.length - (intOf i).toNat)
      case atStart => exact ⟨0, _, Nat.zero_le _, rfl, HRS.out, HTS.out⟩
      case round =>
        obtain ⟨k, x2, hkN, rfl, hR2, hT2⟩ := hrel
        by_cases hk3 : k < args.length
        · obtain ⟨h2, hp⟩ := HPL.out k hk3
          obtain ⟨g, cs, rfl, hroom, hcs⟩ := HARG.out (by omega)
          have a1 : wr.cell? ⟨g, k, none⟩ = some (.int .u32 args[k]) := by rw [args_cell hR2 hroom k]; exact hcs k hk3
          have h26 := loop3_facts hR2 hT2 (N := 12) (by have := HAN.out; omega) h2 hp (by have := HAL.out; omega) HH5.out
          have hki : (k : Int) < args.length := by omega
          have hk12 : (k : Int) < 12 := by have := HAN.out; omega
          clear hR2 hT2 hcs hroom hp h2
          generalize args[k] = ak at *
          go_wp2_with (go_at_call 26; refine h26.mono ?_; rintro e13 w15 ⟨rfl, x13, hR13, hT13⟩)
          refine ⟨⟨k + 1, x13, by omega, by go_num, hR13, hT13⟩, ?_⟩
          simp [intOf]; omega
        · have e : k = args.length := by omega
          subst e
          have HF : Hid (PP.take args.length = PP) := List.take_of_length_le (by rw [HPN.out]; exact Nat.le_refl _)
          rw [HF.out] at hR2 hT2
          have hfin := H27'.out wr x2 t9 hR2 hT2
          clear hR2 hT2
          go_wp2_with (go_at_call 27; refine hfin.mono ?_; rintro e16 w16 ⟨rfl, hRR⟩)
          go_end0
          exact ⟨rfl, hRR⟩
end
end Go.Proofs.Ytiehlkhpblldaaa
