/- The walk in memory. -/
import Derived.Test.YtgkaeoieclegjaaFl
import Derived.Test.YtgkaeoieclegjaaRp
namespace Go.Proofs.Ytgkaeoieclegjaa
open Go.RowKit Go.Maps
set_option linter.unusedVariables false
set_option linter.unusedSimpArgs false
structure Kv where
  gp : Nat
  gf : Nat
  gt : Nat
  cv : Value
  lv : Value
def Kv.cell (v : Kv) (n : Nat) : Nat → Value
  | 0 => v.cv
  | 1 => v.lv
  | 2 => .slice (some ⟨v.gp, 0, none⟩) n n
  | _ => .slice (some ⟨v.gf, 0, none⟩) n n
/-- The walk's struct is block r; nothing of it lies below B. -/
structure KM (B : Nat) (W : World) (r : Nat) (v : Kv) (n : Nat) (plc frm tri : Nat → Int) (came left : List Int) : Prop where
  box : W.rowIs r 47 4 (v.cell n)
  rp : RowI W v.gp n plc
  rf : RowI W v.gf n frm
  rt : RowI W v.gt n tri
  oc : Own 3 1 icell W B v.cv came
  ol : Own 3 1 icell W B v.lv left
  lo : B ≤ r ∧ B ≤ v.gp ∧ B ≤ v.gf ∧ B ≤ v.gt
  ne : r ≠ v.gp ∧ r ≠ v.gf ∧ r ≠ v.gt ∧ v.gp ≠ v.gf ∧ v.gp ≠ v.gt ∧ v.gf ≠ v.gt
  cn : ∀ h, v.cv.ownBlock = some h → h ≠ r ∧ h ≠ v.gp ∧ h ≠ v.gf ∧ h ≠ v.gt ∧ v.lv.ownBlock ≠ some h
  ln : ∀ h, v.lv.ownBlock = some h → h ≠ r ∧ h ≠ v.gp ∧ h ≠ v.gf ∧ h ≠ v.gt
variable {B r n : Nat} {W : World} {v : Kv} {plc frm tri : Nat → Int} {came left : List Int}
theorem KM.c0 (h : KM B W r v n plc frm tri came left) : W.cell? ⟨r, 0, none⟩ = some v.cv := World.rowIs.cell h.box (i := 0) (by omega)
theorem KM.c1 (h : KM B W r v n plc frm tri came left) : W.cell? ⟨r, 1, none⟩ = some v.lv := World.rowIs.cell h.box (i := 1) (by omega)
theorem KM.c2 (h : KM B W r v n plc frm tri came left) : W.cell? ⟨r, 2, none⟩ = some (.slice (some ⟨v.gp, 0, none⟩) n n) := World.rowIs.cell h.box (i := 2) (by omega)
theorem KM.c3 (h : KM B W r v n plc frm tri came left) : W.cell? ⟨r, 3, none⟩ = some (.slice (some ⟨v.gf, 0, none⟩) n n) := World.rowIs.cell h.box (i := 3) (by omega)
theorem KM.fro (h : KM B W r v n plc frm tri came left) (k : Nat) : W.frozen? ⟨r, k, none⟩ = false := World.rowIs.frozen h.box k
theorem KM.big (h : KM B W r v n plc frm tri came left) : B ≤ W.heap.size := by
  have := h.lo.1
  have := h.box.lt
  omega
theorem KM.drewN (h : KM B W r v n plc frm tri came left) (k : Nat) : KM B (W.drewN k) r v n plc frm tri came left := ⟨h.box, h.rp, h.rf, h.rt, h.oc, h.ol, h.lo, h.ne, h.cn, h.ln⟩
theorem KM.set_below (h : KM B W r v n plc frm tri came left) {b i : Nat} {x : Value} (hb : B ≤ b) : Below B W (W.setCell ⟨b, i, none⟩ x) :=
  ((Kept.rfl (fun k => k = b) W).set (.inl (Eq.refl _)) _).below h.big (fun k e => by omega)
theorem KM.put_plc (h : KM B W r v n plc frm tri came left) (i : Nat) (x : Int) : KM B (W.setCell ⟨v.gp, i, none⟩ (.int .i64 x)) r v n (Dfs.upd plc i x) frm tri came left ∧ Below B W (W.setCell ⟨v.gp, i, none⟩ (.int .i64 x)) := by
  have K : Kept (fun k => k = v.gp) W (W.setCell ⟨v.gp, i, none⟩ (.int .i64 x)) := (Kept.rfl (fun k => k = v.gp) W).set (.inl (Eq.refl _)) _
  exact ⟨⟨World.rowIs.setOther h.box h.ne.1 _, h.rp.set i x, h.rf.other (Ne.symm h.ne.2.2.2.1), h.rt.other (Ne.symm h.ne.2.2.2.2.1), K.owns h.oc (fun b hb e => (h.cn b hb).2.1 e), K.owns h.ol (fun b hb e => (h.ln b hb).2.1 e), h.lo, h.ne, h.cn, h.ln⟩, h.set_below h.lo.2.1⟩
theorem KM.put_frm (h : KM B W r v n plc frm tri came left) (i : Nat) (x : Int) : KM B (W.setCell ⟨v.gf, i, none⟩ (.int .i64 x)) r v n plc (Dfs.upd frm i x) tri came left ∧ Below B W (W.setCell ⟨v.gf, i, none⟩ (.int .i64 x)) := by
  have K : Kept (fun k => k = v.gf) W (W.setCell ⟨v.gf, i, none⟩ (.int .i64 x)) := (Kept.rfl (fun k => k = v.gf) W).set (.inl (Eq.refl _)) _
  exact ⟨⟨World.rowIs.setOther h.box h.ne.2.1 _, h.rp.other h.ne.2.2.2.1, h.rf.set i x, h.rt.other (Ne.symm h.ne.2.2.2.2.2), K.owns h.oc (fun b hb e => (h.cn b hb).2.2.1 e), K.owns h.ol (fun b hb e => (h.ln b hb).2.2.1 e), h.lo, h.ne, h.cn, h.ln⟩, h.set_below h.lo.2.2.1⟩
theorem KM.put_tri (h : KM B W r v n plc frm tri came left) (i : Nat) (x : Int) : KM B (W.setCell ⟨v.gt, i, none⟩ (.int .i64 x)) r v n plc frm (Dfs.upd tri i x) came left ∧ Below B W (W.setCell ⟨v.gt, i, none⟩ (.int .i64 x)) := by
  have K : Kept (fun k => k = v.gt) W (W.setCell ⟨v.gt, i, none⟩ (.int .i64 x)) := (Kept.rfl (fun k => k = v.gt) W).set (.inl (Eq.refl _)) _
  exact ⟨⟨World.rowIs.setOther h.box h.ne.2.2.1 _, h.rp.other h.ne.2.2.2.2.1, h.rf.other h.ne.2.2.2.2.2, h.rt.set i x, K.owns h.oc (fun b hb e => (h.cn b hb).2.2.2.1 e), K.owns h.ol (fun b hb e => (h.ln b hb).2.2.2 e), h.lo, h.ne, h.cn, h.ln⟩, h.set_below h.lo.2.2.2⟩
theorem KM.app_came {W2 : World} {v' : Value} {t : Int} {o : Obj} (h : KM B W r v n plc frm tri came left) (hown : Own 3 1 icell W2 B v' (came ++ [t])) (hg : (W.alloc o).grownBy W2 v.cv.ownBlock)
    (hloc : v'.ownBlock = v.cv.ownBlock ∨ v'.ownBlock = some (W.alloc o).heap.size) : KM B (W2.setCell ⟨r, 0, none⟩ v') r { v with cv := v' } n plc frm tri (came ++ [t]) left ∧ Below B W (W2.setCell ⟨r, 0, none⟩ v') := by
  have K1 : Kept (fun b => v.cv.ownBlock = some b) W W2 := ((Kept.rfl (fun b => v.cv.ownBlock = some b) W).alloc o).ahead (Kept.of_grown (S := fun b => v.cv.ownBlock = some b) hg (fun k e => e)) (fun i _ e => e)
  have KB : Kept (fun k => k = r) W2 (W2.setCell ⟨r, 0, none⟩ v') := (Kept.rfl (fun k => k = r) W2).set (.inl (Eq.refl _)) _
  have hl := h.lo.1
  have q0 := h.box.lt
  have q1 := h.rp.lt
  have q2 := h.rf.lt
  have q3 := h.rt.lt
  have hnb : ∀ b, v'.ownBlock = some b → v.cv.ownBlock = some b ∨ W.heap.size < b := fun b hb => by
    rcases hloc with e | e
    · exact .inl (e ▸ hb)
    · rw [e] at hb
      injection hb with hb
      right
      simp at hb
      omega
  have hn : ∀ b, v'.ownBlock = some b → b ≠ r ∧ b ≠ v.gp ∧ b ≠ v.gf ∧ b ≠ v.gt ∧ v.lv.ownBlock ≠ some b := fun b hb => by
    rcases hnb b hb with e | e
    · exact ⟨(h.cn b e).1, (h.cn b e).2.1, (h.cn b e).2.2.1, (h.cn b e).2.2.2.1, fun hb => (h.cn b e).2.2.2.2 hb⟩
    · refine ⟨by omega, by omega, by omega, by omega, fun e2 => ?_⟩
      have := (World.ownsRow.lt h.ol b e2).2
      omega
  have b2 : W2.rowIs r 47 4 (v.cell n) := World.rowIs.of_block h.box (K1.block _ q0 (fun e => (h.cn r e).1 rfl))
  refine ⟨⟨(World.rowIs.set b2 0 v').congr (fun i hi => ?_), (h.rp.kept K1 (fun e => (h.cn _ e).2.1 rfl)).kept KB (Ne.symm h.ne.1), (h.rf.kept K1 (fun e => (h.cn _ e).2.2.1 rfl)).kept KB (Ne.symm h.ne.2.1), (h.rt.kept K1 (fun e => (h.cn _ e).2.2.2.1 rfl)).kept KB (Ne.symm h.ne.2.2.1), KB.owns hown (fun b hb e => (hn b hb).1 e), KB.owns (K1.owns h.ol (fun b hb e => (h.cn b e).2.2.2.2 hb)) (fun b hb e => (h.ln b hb).1 e), h.lo, h.ne, hn, h.ln⟩, ?_⟩
  · match i, hi with
    | 0, _ => rfl
    | 1, _ => rfl
    | 2, _ => rfl
    | 3, _ => rfl
  · have K2 : Kept (fun b => B ≤ b) W W2 := K1.mono (fun k hk e => (World.ownsRow.lt h.oc k e).1)
    exact (K2.set (.inl hl) _).below h.big (fun k e => e)
theorem KM.app_left {W2 : World} {v' : Value} {t : Int} {o : Obj} (h : KM B W r v n plc frm tri came left) (hown : Own 3 1 icell W2 B v' (left ++ [t])) (hg : (W.alloc o).grownBy W2 v.lv.ownBlock)
    (hloc : v'.ownBlock = v.lv.ownBlock ∨ v'.ownBlock = some (W.alloc o).heap.size) : KM B (W2.setCell ⟨r, 1, none⟩ v') r { v with lv := v' } n plc frm tri came (left ++ [t]) ∧ Below B W (W2.setCell ⟨r, 1, none⟩ v') := by
  have K1 : Kept (fun b => v.lv.ownBlock = some b) W W2 := ((Kept.rfl (fun b => v.lv.ownBlock = some b) W).alloc o).ahead (Kept.of_grown (S := fun b => v.lv.ownBlock = some b) hg (fun k e => e)) (fun i _ e => e)
  have KB : Kept (fun k => k = r) W2 (W2.setCell ⟨r, 1, none⟩ v') := (Kept.rfl (fun k => k = r) W2).set (.inl (Eq.refl _)) _
  have hl := h.lo.1
  have q0 := h.box.lt
  have q1 := h.rp.lt
  have q2 := h.rf.lt
  have q3 := h.rt.lt
  have hnb : ∀ b, v'.ownBlock = some b → v.lv.ownBlock = some b ∨ W.heap.size < b := fun b hb => by
    rcases hloc with e | e
    · exact .inl (e ▸ hb)
    · rw [e] at hb
      injection hb with hb
      right
      simp at hb
      omega
  have hn : ∀ b, v'.ownBlock = some b → b ≠ r ∧ b ≠ v.gp ∧ b ≠ v.gf ∧ b ≠ v.gt ∧ v.cv.ownBlock ≠ some b := fun b hb => by
    rcases hnb b hb with e | e
    · exact ⟨(h.ln b e).1, (h.ln b e).2.1, (h.ln b e).2.2.1, (h.ln b e).2.2.2, fun hb => (h.cn b hb).2.2.2.2 e⟩
    · refine ⟨by omega, by omega, by omega, by omega, fun e2 => ?_⟩
      have := (World.ownsRow.lt h.oc b e2).2
      omega
  have b2 : W2.rowIs r 47 4 (v.cell n) := World.rowIs.of_block h.box (K1.block _ q0 (fun e => (h.ln r e).1 rfl))
  refine ⟨⟨(World.rowIs.set b2 1 v').congr (fun i hi => ?_), (h.rp.kept K1 (fun e => (h.ln _ e).2.1 rfl)).kept KB (Ne.symm h.ne.1), (h.rf.kept K1 (fun e => (h.ln _ e).2.2.1 rfl)).kept KB (Ne.symm h.ne.2.1), (h.rt.kept K1 (fun e => (h.ln _ e).2.2.2 rfl)).kept KB (Ne.symm h.ne.2.2.1), KB.owns (K1.owns h.oc (fun b hb e => (h.cn b hb).2.2.2.2 e)) (fun b hb e => (h.cn b hb).1 e), KB.owns hown (fun b hb e => (hn b hb).1 e), h.lo, h.ne, fun b hb => ⟨(h.cn b hb).1, (h.cn b hb).2.1, (h.cn b hb).2.2.1, (h.cn b hb).2.2.2.1, fun e => (hn b e).2.2.2.2 hb⟩, fun b hb => ⟨(hn b hb).1, (hn b hb).2.1, (hn b hb).2.2.1, (hn b hb).2.2.2.1⟩⟩, ?_⟩
  · match i, hi with
    | 0, _ => rfl
    | 1, _ => rfl
    | 2, _ => rfl
    | 3, _ => rfl
  · have K2 : Kept (fun b => B ≤ b) W W2 := K1.mono (fun k hk e => (World.ownsRow.lt h.ol k e).1)
    exact (K2.set (.inl hl) _).below h.big (fun k e => e)
end Go.Proofs.Ytgkaeoieclegjaa
