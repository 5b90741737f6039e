/- The document's Instr, whole; what it asks is what the program asks. -/
import Derived.Test.YthnbnilammjceaaIn1
import Derived.Test.YthnbnilammjceaaIn2
import Derived.Test.YthnbnilammjceaaIn3
import Derived.Test.YthnbnilammjceaaIn4
import Derived.Test.YthnbnilammjceaaFit
namespace Go.Proofs.Ythnbnilammjceaa
open Go.RowKit Go.Maps
set_option linter.unusedVariables false
set_option linter.unusedSimpArgs false

def lenD (a : Int) (n : Nat) : Bool := decide (a < 0) || decide ((n : Int) = a)
def dstD (f : Fn) (d dst : Int) : Bool := if d = -1 then decide (dst = -1) else if d = 1 then regB f dst else decide (dst = -1) || regB f dst
def docI (p : Pg) (f : Fn) (x : In) : Bool :=
  (shpD x.op).2.2 && (lenD (shpD x.op).1 x.args.length && (dstD f (shpD x.op).2.1 x.dst && resD p f x (decide (x.op = 3)) (decide (x.op = 6 ∨ x.op = 7)) (decide (x.op = 12))))
def docD (p : Pg) (f : Fn) (preds : List Int) (x : In) : Bool := docI p f x && (!decide (x.op = 12) || (eqL x.pred preds && decide (x.args.length = x.pred.length)))

theorem dst1 (f : Fn) (dst : Int) : dstF f.regs dst 1 = decide (dst = -1) := by
  unfold dstF
  by_cases h : dst = -1
  · rw [if_pos h]; simp [h]
  · rw [if_neg h]; simp [h]
theorem dst2 (f : Fn) (dst : Int) : dstF f.regs dst 2 = regB f dst := by
  unfold dstF
  by_cases h : dst = -1
  · rw [if_pos h]; subst h; simp [regB]
  · rw [if_neg h, win_reg]; simp
theorem dst3 (f : Fn) (dst : Int) : dstF f.regs dst 3 = (decide (dst = -1) || regB f dst) := by
  unfold dstF
  by_cases h : dst = -1
  · rw [if_pos h]; simp [h]
  · rw [if_neg h, win_reg]; simp [h]
theorem eq_nil (l : List Int) : eqL l [] = decide (l.length = 0) := by
  unfold eqL
  cases l <;> simp
theorem win_all {imm : Int} (h : -2147483648 ≤ imm ∧ imm ≤ 2147483647) : winF imm (-2147483648) 2147483647 = true := decide_eq_true h
theorem win_zero (imm : Int) : winF imm 0 0 = decide (imm = 0) := by
  unfold winF
  by_cases h : imm = 0
  · subst h; rfl
  · rw [decide_eq_false h, decide_eq_false (by omega)]
theorem bl7 (L R A I U V Q Z : Bool) : (true && (R && (L && (A && (I && (U && (V && Q))))))) = ((true && (L && (R && (A && (U && (V && ((false || Q) && I))))))) && (!false || Z)) := by
  cases L <;> cases R <;> cases A <;> cases I <;> cases U <;> cases V <;> cases Q <;> cases Z <;> rfl
theorem bl9 (L R A U V Q Z M : Bool) : (true && (R && (L && (A && (true && (U && (V && Q))))))) = ((true && ((true || M) && (R && (A && (U && (V && ((false || Q) && (true && L)))))))) && (!false || Z)) := by
  cases L <;> cases R <;> cases A <;> cases U <;> cases V <;> cases Q <;> cases Z <;> cases M <;> rfl
theorem bl9n (R A U V Q Z M X Y : Bool) : (false && X) = ((true && ((true || M) && (R && (A && (U && (V && ((false || Q) && (false && Y)))))))) && (!false || Z)) := by
  cases R <;> cases A <;> cases U <;> cases V <;> cases Q <;> cases Z <;> cases M <;> cases X <;> cases Y <;> rfl
theorem bl12 (R A I U V E L M Q : Bool) : (true && (R && (L && (A && (I && (U && (V && E))))))) = ((true && ((true || M) && (R && (A && (U && (V && ((true || Q) && I))))))) && (!true || (E && L))) := by
  cases R <;> cases A <;> cases I <;> cases U <;> cases V <;> cases E <;> cases L <;> cases M <;> cases Q <;> rfl
theorem lenD_nn {a : Int} (h : 0 ≤ a) (n : Nat) : lenD a n = decide ((n : Int) = a) := by
  unfold lenD
  rw [decide_eq_false (by omega : ¬ a < 0)]
  rfl
theorem fit_is (p : Pg) (f : Fn) (preds : List Int) (x : In) (hi : -2147483648 ≤ x.imm ∧ x.imm ≤ 2147483647) : fitF p f.regs f.slots preds x = docD p f preds x := by
  obtain ⟨op, dst, av, args, imm, alu, wide, xv, pred⟩ := x
  unfold fitF fitS docD docI resD
  dsimp only at *
  by_cases h : op = 1 ∨ op = 2 ∨ op = 3 ∨ op = 4 ∨ op = 5 ∨ op = 6 ∨ op = 7 ∨ op = 8 ∨ op = 9 ∨ op = 10 ∨ op = 11 ∨ op = 12
  · rcases h with rfl | rfl | rfl | rfl | rfl | rfl | rfl | rfl | rfl | rfl | rfl | rfl
    · have e1 : shF p f.slots preds 1 imm = ⟨2, 0, -2147483648, 2147483647, false, false, []⟩ := rfl
      have e2 : shpD 1 = (0, 1, true) := rfl
      rw [e1, e2]
      dsimp only
      rw [dst2, eq_nil, win_all hi, lenD_nn (by omega)]
      exact bl7 _ _ _ _ _ _ _ _
    · have e1 : shF p f.slots preds 2 imm = ⟨2, 1, 0, 0, false, false, []⟩ := rfl
      have e2 : shpD 2 = (1, 1, true) := rfl
      rw [e1, e2]
      dsimp only
      rw [dst2, eq_nil, win_zero, lenD_nn (by omega)]
      exact bl7 _ _ _ _ _ _ _ _
    · have e1 : shF p f.slots preds 3 imm = ⟨2, 2, 0, 0, true, false, []⟩ := rfl
      have e2 : shpD 3 = (2, 1, true) := rfl
      rw [e1, e2]
      dsimp only
      rw [dst2, eq_nil, win_zero, lenD_nn (by omega)]
      exact bl7 _ _ _ _ _ _ _ _
    · have e1 : shF p f.slots preds 4 imm = ⟨2, 0, 0, p.global, false, false, []⟩ := rfl
      have e2 : shpD 4 = (0, 1, true) := rfl
      rw [e1, e2]
      dsimp only
      rw [dst2, eq_nil, lenD_nn (by omega)]
      exact bl7 _ _ _ _ _ _ _ _
    · have e1 : shF p f.slots preds 5 imm = ⟨2, 0, 0, f.slots, false, false, []⟩ := rfl
      have e2 : shpD 5 = (0, 1, true) := rfl
      rw [e1, e2]
      dsimp only
      rw [dst2, eq_nil, lenD_nn (by omega)]
      exact bl7 _ _ _ _ _ _ _ _
    · have e1 : shF p f.slots preds 6 imm = ⟨2, 1, -2147483648, 2147483647, false, true, []⟩ := rfl
      have e2 : shpD 6 = (1, 1, true) := rfl
      rw [e1, e2]
      dsimp only
      rw [dst2, eq_nil, win_all hi, lenD_nn (by omega)]
      exact bl7 _ _ _ _ _ _ _ _
    · have e1 : shF p f.slots preds 7 imm = ⟨1, 2, -2147483648, 2147483647, false, true, []⟩ := rfl
      have e2 : shpD 7 = (2, -1, true) := rfl
      rw [e1, e2]
      dsimp only
      rw [dst1, eq_nil, win_all hi, lenD_nn (by omega)]
      exact bl7 _ _ _ _ _ _ _ _
    · have e1 : shF p f.slots preds 8 imm = ⟨1, 1, 1, 2, false, false, []⟩ := rfl
      have e2 : shpD 8 = (1, -1, true) := rfl
      rw [e1, e2]
      dsimp only
      rw [dst1, eq_nil, lenD_nn (by omega)]
      exact bl7 _ _ _ _ _ _ _ _
    · have e1 : shF p f.slots preds 9 imm = shC p imm := rfl
      have e2 : shpD 9 = (-1, 0, true) := rfl
      have e3 : immD p f.slots ⟨9, dst, av, args, imm, alu, wide, xv, pred⟩ = (winF imm 0 ((p.funcs.length : Nat) - 1) && decide ((args.length : Int) = (p.funcs[imm.toNat]?.map Fn.params).getD 0)) := rfl
      rw [e1, e2, e3]
      unfold shC
      dsimp only
      cases hw : winF imm 0 ((p.funcs.length : Nat) - 1)
      · rw [if_neg (by decide)]
        exact bl9n _ _ _ _ _ _ _ _ _
      · rw [if_pos rfl]
        dsimp only
        rw [dst3, eq_nil, hw]
        exact bl9 _ _ _ _ _ _ _ _
    · have e1 : shF p f.slots preds 10 imm = ⟨2, 0, 0, 0, false, false, []⟩ := rfl
      have e2 : shpD 10 = (0, 1, true) := rfl
      rw [e1, e2]
      dsimp only
      rw [dst2, eq_nil, win_zero, lenD_nn (by omega)]
      exact bl7 _ _ _ _ _ _ _ _
    · have e1 : shF p f.slots preds 11 imm = ⟨1, 1, 0, 0, false, false, []⟩ := rfl
      have e2 : shpD 11 = (1, -1, true) := rfl
      rw [e1, e2]
      dsimp only
      rw [dst1, eq_nil, win_zero, lenD_nn (by omega)]
      exact bl7 _ _ _ _ _ _ _ _
    · have e1 : shF p f.slots preds 12 imm = ⟨2, (preds.length : Nat), 0, 0, false, false, preds⟩ := rfl
      have e2 : shpD 12 = (-1, 1, true) := rfl
      rw [e1, e2]
      dsimp only
      rw [dst2, win_zero]
      by_cases he : pred = preds
      · subst he
        have hd : decide ((args.length : Int) = (pred.length : Nat)) = decide (args.length = pred.length) := by
          by_cases h9 : args.length = pred.length
          · rw [decide_eq_true h9, decide_eq_true (by omega)]
          · rw [decide_eq_false h9, decide_eq_false (by omega)]
        rw [hd]
        exact bl12 _ _ _ _ _ _ _ _ _
      · have hE : eqL pred preds = false := decide_eq_false he
        rw [hE]
        simp
  · have e1 : shF p f.slots preds op imm = ⟨0, 0, 0, 0, false, false, []⟩ := by
      unfold shF
      rw [if_neg (by omega), if_neg (by omega), if_neg (by omega), if_neg (by omega), if_neg (by omega), if_neg (by omega), if_neg (by omega), if_neg (by omega), if_neg (by omega), if_neg (by omega), if_neg (by omega), if_neg (by omega)]
    have e2 : shpD op = (0, 0, false) := by
      unfold shpD
      rw [if_neg (by omega), if_neg (by omega), if_neg (by omega), if_neg (by omega), if_neg (by omega), if_neg (by omega), if_neg (by omega), if_neg (by omega)]
    rw [e1, e2]
    rfl

theorem instr30 {w : World} {p : Pg} {f : Fn} {x : In} (hp : Pg.ok w p) (hf : Src Bl.cells w f.bv f.blocks) (hx : In.ok w x) :
    Calls Try.prog 30 #[p.val, f.val, x.val] w fun e w' => e = .returned (.bool (docI p f x)) ∧ Below w.heap.size w w' := by
  have h49 := fun W => shape49 x.op W
  have no : ∀ (h : (shpD x.op).2.2 = false ∨ ((shpD x.op).2.2 = true ∧ 0 ≤ (shpD x.op).1 ∧ ¬ (x.args.length : Int) = (shpD x.op).1) ∨ ((shpD x.op).2.2 = true ∧ ¬ (0 ≤ (shpD x.op).1 ∧ ¬ (x.args.length : Int) = (shpD x.op).1) ∧ (((shpD x.op).2.1 = -1 ∧ ¬ x.dst = -1) ∨ ((shpD x.op).2.1 = 1 ∧ regB f x.dst = false) ∨ ((shpD x.op).2.1 = 0 ∧ ¬ x.dst = -1 ∧ regB f x.dst = false)))), docI p f x = false → Calls Try.prog 30 #[p.val, f.val, x.val] w fun e w' => e = .returned (.bool (docI p f x)) ∧ Below w.heap.size w w' := fun h e => by
    rw [e]
    exact insN hp hf hx h49 h
  cases hok : (shpD x.op).2.2
  · exact no (.inl hok) (by unfold docI; rw [hok]; rfl)
  by_cases hlen : 0 ≤ (shpD x.op).1 ∧ ¬ (x.args.length : Int) = (shpD x.op).1
  · refine no (.inr (.inl ⟨hok, hlen.1, hlen.2⟩)) ?_
    unfold docI
    rw [lenD_nn hlen.1, decide_eq_false hlen.2]
    simp
  have hL : lenD (shpD x.op).1 x.args.length = true := by
    unfold lenD
    by_cases h0 : 0 ≤ (shpD x.op).1
    · rw [decide_eq_true (Classical.byContradiction fun h => hlen ⟨h0, h⟩), Bool.or_true]
    · rw [decide_eq_true (by omega), Bool.true_or]
  have hI : docI p f x = (dstD f (shpD x.op).2.1 x.dst && resD p f x (decide (x.op = 3)) (decide (x.op = 6 ∨ x.op = 7)) (decide (x.op = 12))) := by
    unfold docI
    rw [hok, hL, Bool.true_and, Bool.true_and]
  have hdst : ((shpD x.op).2.1 = -1 ∧ ¬ x.dst = -1) ∨ ((shpD x.op).2.1 = 1 ∧ regB f x.dst = false) ∨ ((shpD x.op).2.1 = 0 ∧ ¬ x.dst = -1 ∧ regB f x.dst = false) → Calls Try.prog 30 #[p.val, f.val, x.val] w fun e w' => e = .returned (.bool (docI p f x)) ∧ Below w.heap.size w w' := fun h => by
    refine no (.inr (.inr ⟨hok, hlen, h⟩)) ?_
    rw [hI]
    unfold dstD
    rcases h with ⟨e, hd⟩ | ⟨e, hd⟩ | ⟨e, hd, hr⟩
    · rw [if_pos e, decide_eq_false hd]; rfl
    · rw [if_neg (by omega), if_pos e, hd]; rfl
    · rw [if_neg (by omega), if_neg (by omega), decide_eq_false hd, hr]; rfl
  rw [hI] at hdst ⊢
  clear no
  obtain ⟨nm, ps, rs, sl, bv, bl⟩ := f
  obtain ⟨op, dst, av, args, imm, alu, wide, xv, pred⟩ := x
  dsimp only at *
  have hop : op = 1 ∨ op = 2 ∨ op = 3 ∨ op = 4 ∨ op = 5 ∨ op = 6 ∨ op = 7 ∨ op = 8 ∨ op = 9 ∨ op = 10 ∨ op = 11 ∨ op = 12 := by
    refine Classical.byContradiction fun h => ?_
    have e2 : shpD op = (0, 0, false) := by
      unfold shpD
      rw [if_neg (by omega), if_neg (by omega), if_neg (by omega), if_neg (by omega), if_neg (by omega), if_neg (by omega), if_neg (by omega), if_neg (by omega)]
    rw [e2] at hok
    cases hok
  have hn : 0 ≤ (shpD op).1 → (shpD op).1 = (args.length : Nat) := fun h0 => (Classical.byContradiction fun h => hlen ⟨h0, fun e => h e.symm⟩)
  clear hL hI hok hlen
  by_cases hA : op = 7 ∨ op = 8 ∨ op = 11
  · by_cases hd : dst = -1
    · subst hd
      rcases hA with rfl | rfl | rfl
      · rw [hn (by decide)] at h49
        exact insA (op := 0) (dst := 0) hp hf hx h49
      · rw [hn (by decide)] at h49
        exact insB (dst := 0) hp hf hx (by decide) (by decide) (by decide) (by decide) h49
      · rw [hn (by decide)] at h49
        exact insB (dst := 0) hp hf hx (by decide) (by decide) (by decide) (by decide) h49
    · exact hdst (.inl ⟨by rcases hA with rfl | rfl | rfl <;> rfl, hd⟩)
  by_cases h9 : op = 9
  · subst h9
    by_cases hd : dst = -1
    · subst hd
      exact insG (op := 0) (dst := 0) hp hf hx h49
    · cases hr : regB ⟨nm, ps, rs, sl, bv, bl⟩ dst
      · exact hdst (.inr (.inr ⟨rfl, hd, hr⟩))
      · have e : dstD ⟨nm, ps, rs, sl, bv, bl⟩ (shpD 9).2.1 dst = true := by
          have : (shpD 9).2.1 = 0 := rfl
          unfold dstD
          rw [this, if_neg (by decide), if_neg (by decide), hr, Bool.or_true]
        rw [e, Bool.true_and]
        exact insH (op := 0) hp hf hx hd hr h49
  · cases hr : regB ⟨nm, ps, rs, sl, bv, bl⟩ dst
    · refine hdst (.inr (.inl ⟨?_, hr⟩))
      have : op = 1 ∨ op = 2 ∨ op = 3 ∨ op = 4 ∨ op = 5 ∨ op = 6 ∨ op = 10 ∨ op = 12 := by omega
      rcases this with rfl | rfl | rfl | rfl | rfl | rfl | rfl | rfl <;> rfl
    · have e : dstD ⟨nm, ps, rs, sl, bv, bl⟩ (shpD op).2.1 dst = true := by
        have h1 : (shpD op).2.1 = 1 := by
          have : op = 1 ∨ op = 2 ∨ op = 3 ∨ op = 4 ∨ op = 5 ∨ op = 6 ∨ op = 10 ∨ op = 12 := by omega
          rcases this with rfl | rfl | rfl | rfl | rfl | rfl | rfl | rfl <;> rfl
        unfold dstD
        rw [h1, if_neg (by decide), if_pos rfl, hr]
      rw [e, Bool.true_and]
      clear hdst e
      have : op = 1 ∨ op = 2 ∨ op = 3 ∨ op = 4 ∨ op = 5 ∨ op = 6 ∨ op = 10 ∨ op = 12 := by omega
      clear hA h9 hop
      rcases this with rfl | rfl | rfl | rfl | rfl | rfl | rfl | rfl
      · rw [hn (by decide)] at h49
        exact insF hp hf hx (by decide) (by decide) (by decide) (by decide) hr h49
      · rw [hn (by decide)] at h49
        exact insF hp hf hx (by decide) (by decide) (by decide) (by decide) hr h49
      · rw [hn (by decide)] at h49
        exact insC (op := 0) hp hf hx hr h49
      · rw [hn (by decide)] at h49
        exact insF hp hf hx (by decide) (by decide) (by decide) (by decide) hr h49
      · rw [hn (by decide)] at h49
        exact insF hp hf hx (by decide) (by decide) (by decide) (by decide) hr h49
      · rw [hn (by decide)] at h49
        exact Go.Proofs.Ythnbnilammjceaa.insD (op := 0) hp hf hx hr h49
      · rw [hn (by decide)] at h49
        exact insF hp hf hx (by decide) (by decide) (by decide) (by decide) hr h49
      · exact insE (op := 0) hp hf hx hr h49
end Go.Proofs.Ythnbnilammjceaa
