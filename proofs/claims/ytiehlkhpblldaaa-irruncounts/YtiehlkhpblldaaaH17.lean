/- The document's run: is it the reckoning that is counted. -/
import Derived.Test.YtiehlkhpblldaaaH08
import Derived.Test.YtiehlkhpblldaaaH09
import Derived.Test.YtiehlkhpblldaaaH16
set_option linter.unusedVariables false
set_option linter.unusedSimpArgs false
set_option maxRecDepth 20000
set_option maxHeartbeats 8000000
namespace Go.Proofs.Ytiehlkhpblldaaa
open Go.RowKit Go.Maps
section
variable {C : Cst} {W0 W W' : World} {r : Nat} {d d' : Ds} {v v' : Dv}
def couF (C : Cst) (fn : Int) (i : In) : Bool := decide (fn = C.sf) && (decide (i.alu = C.sa) && eqL i.args C.sl)
theorem counted73 (h : DocM C W0 r W d v) {fn : Int} {i : In} (hI : In.ok W0 i) :
    Calls Try.prog 73 #[.pointer (some ⟨r, 0, none⟩), .int .i64 fn, i.val] W fun e w' => e = .returned (.bool (couF C fn i)) ∧ Below W.heap.size W w' := by
  have hbb : Below W0.heap.size W0 (W.alloc (.cells (In.cells i).toArray 51)) := h.below.alloc h.below.size _
  obtain ⟨so, scap, es⟩ := h.sv.len
  obtain ⟨ao, acap, ea⟩ := hI.a.len
  obtain ⟨po, pcap, ep⟩ := hI.p.len
  have hD := h.on (below1 W (.cells (In.cells i).toArray 51))
  have hbx := heap_alloc_new W (.cells (In.cells i).toArray 51)
  have HW : Hid (W.alloc (.cells (In.cells i).toArray 51) = W.alloc (.cells (In.cells i).toArray 51)) := rfl
  have HB1 := hid' (below1 W (.cells (In.cells i).toArray 51))
  obtain ⟨w1, hw1⟩ : ∃ w1, w1 = W.alloc (.cells (In.cells i).toArray 51) := ⟨_, rfl⟩
  rw [← hw1] at hD hbx hbb HB1
  have c17 : ∀ t : After w1, t.1.cell? ⟨r, 17, none⟩ = some (.int .i64 C.sf) := fun q => keep_cell (hD.cell 17) q.2
  have c15 : ∀ t : After w1, t.1.cell? ⟨r, 15, none⟩ = some (.int .i64 C.sa) := fun q => keep_cell (hD.cell 15) q.2
  have c16 : ∀ t : After w1, t.1.cell? ⟨r, 16, none⟩ = some (.slice so C.sl.length scap) := fun q => keep_cell (by rw [← es]; exact hD.cell 16) q.2
  have hbc : ∀ k, w1.cell? ⟨W.heap.size, k, none⟩ = (In.cells i)[k]? := fun k => by rw [cell_of_row _ _ _ _ 51 (0, 0) hbx, List.getElem?_toArray]
  have i4 : ∀ t : After w1, t.1.cell? ⟨W.heap.size, 4, none⟩ = some (.int .i64 i.alu) := fun q => keep_cell (hbc 4) q.2
  have i2 : ∀ t : After w1, t.1.cell? ⟨W.heap.size, 2, none⟩ = some (.slice ao i.args.length acap) := fun q => keep_cell (by rw [← ea]; exact hbc 2) q.2
  have K34 : ∀ t : After w1, _ := fun q => Calls.after q (sameInts18 (w := q.1) ((hI.a.below (Nat.le_refl _) (below_on hbb q.2 hbb.size))) (h.sv.below (Nat.le_refl _) (below_on hbb q.2 hbb.size)) hI.al h.svl)
  rw [ea, es] at K34
  have hne := after_some w1
  have hcells : (.cells (In.cells i).toArray 51 : Obj) = .cells #[.int .i64 i.op, .int .i64 i.dst, .slice ao i.args.length acap, .int .i32 i.imm, .int .i64 i.alu, .int .i64 i.wide, .slice po i.pred.length pcap] 51 := by unfold In.cells; rw [ea, ep]
  rw [hcells] at hw1
  have hv : i.val = .agg #[.int .i64 i.op, .int .i64 i.dst, .slice ao i.args.length acap, .int .i32 i.imm, .int .i64 i.alu, .int .i64 i.wide, .slice po i.pred.length pcap] := by unfold In.val; rw [ea, ep]
  rw [hv]
  unfold couF
  generalize eqL i.args C.sl = q at *
  have HW1 := hid' hw1
  clear h hI hD hbx hbc ea es ep hbb hcells hv HW hw1
  by_cases g1 : fn = C.sf
  · rw [decide_eq_true g1, Bool.true_and]
    rw [← g1] at c17
    clear g1
    by_cases g2 : i.alu = C.sa
    · rw [decide_eq_true g2, Bool.true_and]
      rw [← g2] at c15
      clear g2
      go_enter Try.func73, Try.ntmps73
      go_wp2
      rw [← HW1.out]
      refine region_after 24 mixed (by kernel_rfl) ?_
      simp only [List.take_succ_cons, List.take_zero, List.drop_succ_cons, List.drop_zero]
      repeat (first | go_big_quiet_step (with_reducible exact K34 _) | quiet_step (with_reducible exact K34 _))
      refine wpQuiet_nil ?_
      intro w6 hb6
      cases q
      all_goals
        go_wp2
        go_ret
        exact ⟨rfl, below_up HB1.out hb6⟩
    · rw [decide_eq_false g2, Bool.false_and]
      have g2' : (i.alu == C.sa) = false := by simp [g2]
      go_enter Try.func73, Try.ntmps73
      go_wp2
      rw [← HW1.out]
      refine region_after 24 mixed (by kernel_rfl) ?_
      simp only [List.take_succ_cons, List.take_zero, List.drop_succ_cons, List.drop_zero]
      repeat (first | go_big_quiet_step (with_reducible exact K34 _) | quiet_step (with_reducible exact K34 _))
      refine wpQuiet_nil ?_
      intro w6 hb6
      go_wp2
      go_ret
      exact ⟨rfl, below_up HB1.out hb6⟩
  · rw [decide_eq_false g1, Bool.false_and]
    have g1' : (fn == C.sf) = false := by simp [g1]
    go_enter Try.func73, Try.ntmps73
    go_wp2
    rw [← HW1.out]
    refine region_after 24 mixed (by kernel_rfl) ?_
    simp only [List.take_succ_cons, List.take_zero, List.drop_succ_cons, List.drop_zero]
    repeat (first | go_big_quiet_step (with_reducible exact K34 _) | quiet_step (with_reducible exact K34 _))
    refine wpQuiet_nil ?_
    intro w6 hb6
    go_wp2
    go_ret
    exact ⟨rfl, below_up HB1.out hb6⟩
end
end Go.Proofs.Ytiehlkhpblldaaa
namespace Go.Proofs.Ytiehlkhpblldaaa
open Go.RowKit Go.Maps

/-- What an OpPhi tells. -/
def phiK (l : List Int) (f : Int) (i : In) (n : Nat) : Int := (List.range n).foldl (fun v k => if i.pred.getD k 0 = f then l.getD (i.args.getD k 0).toNat 0 else v) 0
def phiV (l : List Int) (f : Int) (i : In) : Int := phiK l f i i.pred.length
theorem phiK_succ (l : List Int) (f : Int) (i : In) (n : Nat) : phiK l f i (n + 1) = if i.pred.getD n 0 = f then l.getD (i.args.getD n 0).toNat 0 else phiK l f i n := by
  unfold phiK
  rw [List.range_succ, List.foldl_append]
  rfl
structure PhiD (n : Nat) (i : In) : Prop where
  d : 0 ≤ i.dst ∧ i.dst < n
  l : i.args.length = i.pred.length
  a : ∀ k, k < i.args.length → 0 ≤ i.args.getD k 0 ∧ i.args.getD k 0 < n
def setsL (l : List Int) (q : List (Nat × Int)) : List Int := q.foldl (fun l y => l.set y.1 y.2) l
def phisOk (d : Ds) (N : Nat) : Bool := decide (N = 0 ∨ (N : Int) ≤ d.fuel)
def phisD (d : Ds) (N : Nat) : Ds := if phisOk d N then { d with fuel := d.fuel - N } else { d with fuel := min d.fuel 0, over := true }
def phiP (l : List Int) (f : Int) (code : List In) : List (Nat × Int) := (List.range (phN code)).map (fun i => ((code.getD i in0).dst.toNat, phiV l f (code.getD i in0)))
def phisL (d : Ds) (l : List Int) (f : Int) (code : List In) : List Int := if phisOk d (phN code) then setsL l (phiP l f code) else l
def valsK (l : List Int) (f : Int) (code : List In) (k : Nat) : List Int := (List.range k).map (fun i => phiV l f (code.getD i in0))
theorem valsK_succ (l : List Int) (f : Int) (code : List In) (k : Nat) : valsK l f code (k + 1) = valsK l f code k ++ [phiV l f (code.getD k in0)] := by
  unfold valsK
  rw [List.range_succ, List.map_append]
  rfl
theorem valsK_len (l : List Int) (f : Int) (code : List In) (k : Nat) : (valsK l f code k).length = k := by simp [valsK]
section
variable {C : Cst} {W0 W W' : World} {r : Nat} {d d' : Ds} {v v' : Dv}
/-- Registers hold words. -/
def WordsOk (l : List Int) : Prop := ∀ k, 0 ≤ l.getD k 0 ∧ l.getD k 0 < 4294967296
theorem RegM.cell {b : Nat} {l : List Int} (h : RegM W0 W b l) {k : Nat} (hk : k < l.length) : W.cell? ⟨b, k, none⟩ = some (.int .u32 (l.getD k 0)) ∧ W.frozen? ⟨b, k, none⟩ = false := by
  refine ⟨?_, frozen_of_row W _ _ _ 79 h.rc⟩
  rw [cell_of_row W _ _ _ 79 (0, 0) h.rc, List.getElem?_toArray]
  have := flat_get uc1 l k 0 hk (by decide)
  simp only [Nat.mul_one, Nat.add_zero] at this
  rw [this]
  simp [ucel, List.getD, hk]
theorem RegM.kept {b : Nat} {l : List Int} {S : Nat → Prop} (h : RegM W0 W b l) (K : Kept S W W') (hn : ¬ S b) : RegM W0 W' b l := ⟨h.hb, by rw [K.block b (Array.getElem?_eq_some_iff.1 h.rc).1 hn]; exact h.rc⟩
/-- The inner loop's memory: a block's instructions, seen through its box. -/
theorem box_code {w : World} {bx : Nat} {b : Bl} (hbx : w.heap[bx]? = some (.cells (Bl.cells b).toArray 54 (0, 0))) (hb : Below W0.heap.size W0 w) (ho : Bl.ok W0 b) : w.cell? ⟨bx, 0, none⟩ = some b.cv ∧ ∀ k (hk : k < b.code.length), ∃ ib io cap, b.cv = .slice (some ⟨ib, io, none⟩) b.code.length cap ∧ b.code.length ≤ cap ∧ InAt W0 ib (io + k * 7) b.code[k] := by
  refine ⟨by rw [cell_of_row w bx 0 _ 54 (0, 0) hbx]; rfl, fun k hk => ?_⟩
  obtain ⟨ib, io, cap, e, hc, hin⟩ := src_code ho hk
  exact ⟨ib, io, cap, e, hc, hin k hk⟩
end
end Go.Proofs.Ytiehlkhpblldaaa
