/- The document's run: is it the reckoning that is counted. -/
import Derived.Test.YtiehlkhpblldaaaG13
import Derived.Test.YtiehlkhpblldaaaG17
import Derived.Test.YtiehlkhpblldaaaG31
import Derived.Test.YtiehlkhpblldaaaG32
set_option linter.unusedVariables false
set_option linter.unusedSimpArgs false
set_option maxRecDepth 20000
set_option maxHeartbeats 8000000
namespace Go.Proofs.Ytiehlkhpblldaaa
open Go.RowKit Go.Maps
section
variable {C : Cst} {W0 W W' : World} {r : Nat} {d d' : Ds} {v v' : Dv}
def couF (C : Cst) (fn : Int) (i : In) : Bool := decide (fn = C.sf) && (decide (i.alu = C.sa) && eqL i.args C.sl)
theorem counted73 (h : DocM C W0 r W d v) {fn : Int} {i : In} (hI : In.ok W0 i) :
    Calls Try.prog 73 #[.pointer (some ⟨r, 0, none⟩), .int .i64 fn, i.val] W fun e w' => e = .returned (.bool (couF C fn i)) ∧ Below W.heap.size W w' := by
  have hbb : Below W0.heap.size W0 (W.alloc (.cells (In.cells i).toArray 51)) := h.below.alloc h.below.size _
  obtain ⟨so, scap, es⟩ := h.sv.len
  obtain ⟨ao, acap, ea⟩ := hI.a.len
  obtain ⟨po, pcap, ep⟩ := hI.p.len
  have hD := h.on (below1 W (.cells (In.cells i).toArray 51))
  have hbx := heap_alloc_new W (.cells (In.cells i).toArray 51)
  have HW : Hid (W.alloc (.cells (In.cells i).toArray 51) = W.alloc (.cells (In.cells i).toArray 51)) := rfl
  have HB1 := hid' (below1 W (.cells (In.cells i).toArray 51))
  obtain ⟨w1, hw1⟩ : ∃ w1, w1 = W.alloc (.cells (In.cells i).toArray 51) := ⟨_, rfl⟩
  rw [← hw1] at hD hbx hbb HB1
  have c17 : ∀ t : After w1, t.1.cell? ⟨r, 17, none⟩ = some (.int .i64 C.sf) := fun q => keep_cell (hD.cell 17) q.2
  have c15 : ∀ t : After w1, t.1.cell? ⟨r, 15, none⟩ = some (.int .i64 C.sa) := fun q => keep_cell (hD.cell 15) q.2
  have c16 : ∀ t : After w1, t.1.cell? ⟨r, 16, none⟩ = some (.slice so C.sl.length scap) := fun q => keep_cell (by rw [← es]; exact hD.cell 16) q.2
  have hbc : ∀ k, w1.cell? ⟨W.heap.size, k, none⟩ = (In.cells i)[k]? := fun k => by rw [cell_of_row _ _ _ _ 51 (0, 0) hbx, List.getElem?_toArray]
  have i4 : ∀ t : After w1, t.1.cell? ⟨W.heap.size, 4, none⟩ = some (.int .i64 i.alu) := fun q => keep_cell (hbc 4) q.2
  have i2 : ∀ t : After w1, t.1.cell? ⟨W.heap.size, 2, none⟩ = some (.slice ao i.args.length acap) := fun q => keep_cell (by rw [← ea]; exact hbc 2) q.2
  have K34 : ∀ t : After w1, _ := fun q => Calls.after q (sameInts18 (w := q.1) ((hI.a.below (Nat.le_refl _) (below_on hbb q.2 hbb.size))) (h.sv.below (Nat.le_refl _) (below_on hbb q.2 hbb.size)) hI.al h.svl)
  rw [ea, es] at K34
  have hne := after_some w1
  have hcells : (.cells (In.cells i).toArray 51 : Obj) = .cells #[.int .i64 i.op, .int .i64 i.dst, .slice ao i.args.length acap, .int .i32 i.imm, .int .i64 i.alu, .int .i64 i.wide, .slice po i.pred.length pcap] 51 := by unfold In.cells; rw [ea, ep]
  rw [hcells] at hw1
  have hv : i.val = .agg #[.int .i64 i.op, .int .i64 i.dst, .slice ao i.args.length acap, .int .i32 i.imm, .int .i64 i.alu, .int .i64 i.wide, .slice po i.pred.length pcap] := by unfold In.val; rw [ea, ep]
  rw [hv]
  unfold couF
  generalize eqL i.args C.sl = q at *
  have HW1 := hid' hw1
  clear h hI hD hbx hbc ea es ep hbb hcells hv HW hw1
  by_cases g1 : fn = C.sf
  · rw [decide_eq_true g1, Bool.true_and]
    rw [← g1] at c17
    clear g1
    by_cases g2 : i.alu = C.sa
    · rw [decide_eq_true g2, Bool.true_and]
      rw [← g2] at c15
      clear g2
      go_enter Try.func73, Try.ntmps73
      go_wp2
      rw [← HW1.out]
      refine region_after 24 mixed (by kernel_rfl) ?_
      simp only [List.take_succ_cons, List.take_zero, List.drop_succ_cons, List.drop_zero]
      repeat (first | go_big_quiet_step (with_reducible exact K34 _) | quiet_step (with_reducible exact K34 _))
      refine wpQuiet_nil ?_
      intro w6 hb6
      cases q
      all_goals
        go_wp2
        go_ret
        exact ⟨rfl, below_up HB1.out hb6⟩
    · rw [decide_eq_false g2, Bool.false_and]
      have g2' : (i.alu == C.sa) = false := by simp [g2]
      go_enter Try.func73, Try.ntmps73
      go_wp2
      rw [← HW1.out]
      refine region_after 24 mixed (by kernel_rfl) ?_
      simp only [List.take_succ_cons, List.take_zero, List.drop_succ_cons, List.drop_zero]
      repeat (first | go_big_quiet_step (with_reducible exact K34 _) | quiet_step (with_reducible exact K34 _))
      refine wpQuiet_nil ?_
      intro w6 hb6
      go_wp2
      go_ret
      exact ⟨rfl, below_up HB1.out hb6⟩
  · rw [decide_eq_false g1, Bool.false_and]
    have g1' : (fn == C.sf) = false := by simp [g1]
    go_enter Try.func73, Try.ntmps73
    go_wp2
    rw [← HW1.out]
    refine region_after 24 mixed (by kernel_rfl) ?_
    simp only [List.take_succ_cons, List.take_zero, List.drop_succ_cons, List.drop_zero]
    repeat (first | go_big_quiet_step (with_reducible exact K34 _) | quiet_step (with_reducible exact K34 _))
    refine wpQuiet_nil ?_
    intro w6 hb6
    go_wp2
    go_ret
    exact ⟨rfl, below_up HB1.out hb6⟩
end
end Go.Proofs.Ytiehlkhpblldaaa
namespace Go.Proofs.Ytiehlkhpblldaaa
/-- One more is counted. -/
def couB (cf : Bool) (d : Ds) : Ds := if cf then { d with count := d.count + 1 } else d
end Go.Proofs.Ytiehlkhpblldaaa
namespace Go.Proofs.Ytiehlkhpblldaaa
open Go.RowKit Go.Maps

/-- What an OpPhi tells. -/
def phiK (l : List Int) (f : Int) (i : In) (n : Nat) : Int := (List.range n).foldl (fun v k => if i.pred.getD k 0 = f then l.getD (i.args.getD k 0).toNat 0 else v) 0
def phiV (l : List Int) (f : Int) (i : In) : Int := phiK l f i i.pred.length
theorem phiK_succ (l : List Int) (f : Int) (i : In) (n : Nat) : phiK l f i (n + 1) = if i.pred.getD n 0 = f then l.getD (i.args.getD n 0).toNat 0 else phiK l f i n := by
  unfold phiK
  rw [List.range_succ, List.foldl_append]
  rfl
structure PhiD (n : Nat) (i : In) : Prop where
  d : 0 ≤ i.dst ∧ i.dst < n
  l : i.args.length = i.pred.length
  a : ∀ k, k < i.args.length → 0 ≤ i.args.getD k 0 ∧ i.args.getD k 0 < n
def setsL (l : List Int) (q : List (Nat × Int)) : List Int := q.foldl (fun l y => l.set y.1 y.2) l
def phisOk (d : Ds) (N : Nat) : Bool := decide (N = 0 ∨ (N : Int) ≤ d.fuel)
def phisD (d : Ds) (N : Nat) : Ds := if phisOk d N then { d with fuel := d.fuel - N } else { d with fuel := min d.fuel 0, over := true }
def phiP (l : List Int) (f : Int) (code : List In) : List (Nat × Int) := (List.range (phN code)).map (fun i => ((code.getD i in0).dst.toNat, phiV l f (code.getD i in0)))
def phisL (d : Ds) (l : List Int) (f : Int) (code : List In) : List Int := if phisOk d (phN code) then setsL l (phiP l f code) else l
def valsK (l : List Int) (f : Int) (code : List In) (k : Nat) : List Int := (List.range k).map (fun i => phiV l f (code.getD i in0))
theorem valsK_succ (l : List Int) (f : Int) (code : List In) (k : Nat) : valsK l f code (k + 1) = valsK l f code k ++ [phiV l f (code.getD k in0)] := by
  unfold valsK
  rw [List.range_succ, List.map_append]
  rfl
theorem valsK_len (l : List Int) (f : Int) (code : List In) (k : Nat) : (valsK l f code k).length = k := by simp [valsK]
section
variable {C : Cst} {W0 W W' : World} {r : Nat} {d d' : Ds} {v v' : Dv}
/-- Registers hold words. -/
def WordsOk (l : List Int) : Prop := ∀ k, 0 ≤ l.getD k 0 ∧ l.getD k 0 < 4294967296
theorem RegM.cell {b : Nat} {l : List Int} (h : RegM W0 W b l) {k : Nat} (hk : k < l.length) : W.cell? ⟨b, k, none⟩ = some (.int .u32 (l.getD k 0)) ∧ W.frozen? ⟨b, k, none⟩ = false := by
  refine ⟨?_, frozen_of_row W _ _ _ 79 h.rc⟩
  rw [cell_of_row W _ _ _ 79 (0, 0) h.rc, List.getElem?_toArray]
  have := flat_get uc1 l k 0 hk (by decide)
  simp only [Nat.mul_one, Nat.add_zero] at this
  rw [this]
  simp [ucel, List.getD, hk]
theorem RegM.kept {b : Nat} {l : List Int} {S : Nat → Prop} (h : RegM W0 W b l) (K : Kept S W W') (hn : ¬ S b) : RegM W0 W' b l := ⟨h.hb, by rw [K.block b (Array.getElem?_eq_some_iff.1 h.rc).1 hn]; exact h.rc⟩
/-- The inner loop's memory: a block's instructions, seen through its box. -/
theorem box_code {w : World} {bx : Nat} {b : Bl} (hbx : w.heap[bx]? = some (.cells (Bl.cells b).toArray 54 (0, 0))) (hb : Below W0.heap.size W0 w) (ho : Bl.ok W0 b) : w.cell? ⟨bx, 0, none⟩ = some b.cv ∧ ∀ k (hk : k < b.code.length), ∃ ib io cap, b.cv = .slice (some ⟨ib, io, none⟩) b.code.length cap ∧ b.code.length ≤ cap ∧ InAt W0 ib (io + k * 7) b.code[k] := by
  refine ⟨by rw [cell_of_row w bx 0 _ 54 (0, 0) hbx]; rfl, fun k hk => ?_⟩
  obtain ⟨ib, io, cap, e, hc, hin⟩ := src_code ho hk
  exact ⟨ib, io, cap, e, hc, hin k hk⟩
end
end Go.Proofs.Ytiehlkhpblldaaa
namespace Go.Proofs.Ytiehlkhpblldaaa
open Go.RowKit Go.Maps

/-- An instruction of the document. -/
def iDo (C : Cst) (call : Nat → List Int → Ds → Int × Ds) (fn : Nat) (i : In) (l : List Int) (d : Ds) : Bool × List Int × Ds :=
  if i.op = 1 then (true, l.set i.dst.toNat (i.imm % 4294967296), d)
  else if i.op = 2 then (true, l.set i.dst.toNat (l.getD (arg i 0) 0), d)
  else if i.op = 3 then
    if aluT i.alu (l.getD (arg i 1) 0) = 0 then (true, l.set i.dst.toNat (aluV i.alu (l.getD (arg i 0) 0) (l.getD (arg i 1) 0)), couB (couF C fn i) d)
    else (false, l, { couB (couF C fn i) d with trap := aluT i.alu (l.getD (arg i 1) 0) })
  else if i.op = 4 then (true, l.set i.dst.toNat ((16777216 + i.imm % 4294967296) % 4294967296), d)
  else if i.op = 5 then (true, l.set i.dst.toNat ((d.low % 4294967296 + i.imm % 4294967296) % 4294967296), d)
  else if i.op = 6 then
    match loadN d ((l.getD (arg i 0) 0 + i.imm) % 4294967296) i.wide.toNat 0 with
    | some z => (true, l.set i.dst.toNat z, d)
    | none => (false, l, { d with trap := 5 })
  else if i.op = 7 then
    if stOkD d ((l.getD (arg i 0) 0 + i.imm) % 4294967296) i.wide.toNat then (true, l, storeN d ((l.getD (arg i 0) 0 + i.imm) % 4294967296) (l.getD (arg i 1) 0) i.wide.toNat)
    else (false, l, { d with trap := 5 })
  else if i.op = 8 then
    if l.getD (arg i 0) 0 = 0 then (false, l, { d with trap := i.imm }) else (true, l, d)
  else if i.op = 9 then
    if (call i.imm.toNat (i.args.map (fun a => l.getD a.toNat 0)) d).2.over = true ∨ (call i.imm.toNat (i.args.map (fun a => l.getD a.toNat 0)) d).2.trap ≠ 0 then (false, l, (call i.imm.toNat (i.args.map (fun a => l.getD a.toNat 0)) d).2)
    else (true, if i.dst = -1 then l else l.set i.dst.toNat (call i.imm.toNat (i.args.map (fun a => l.getD a.toNat 0)) d).1, (call i.imm.toNat (i.args.map (fun a => l.getD a.toNat 0)) d).2)
  else if i.op = 10 then
    if h : d.used < C.input.size then (true, l.set i.dst.toNat ((C.input[d.used]'h).toNat : Int), { d with used := d.used + 1 })
    else (true, l.set i.dst.toNat 4294967295, d)
  else if i.op = 11 then (true, l, { d with out := d.out ++ [l.getD (arg i 0) 0 % 256] })
  else (true, l, d)
/-- A block's code. -/
def codD (C : Cst) (call : Nat → List Int → Ds → Int × Ds) (fn : Nat) : List In → List Int → Ds → Bool × List Int × Ds
  | [], l, d => (true, l, d)
  | i :: t, l, d =>
    if i.op = 12 then codD C call fn t l d
    else if d.fuel ≤ 0 then (false, l, spendD d)
    else if (iDo C call fn i l (spendD d)).1 then codD C call fn t (iDo C call fn i l (spendD d)).2.1 (iDo C call fn i l (spendD d)).2.2
    else (false, (iDo C call fn i l (spendD d)).2.1, (iDo C call fn i l (spendD d)).2.2)
def wayD (l : List Int) (b : Bl) : Nat := (b.to.getD (if b.en = 2 ∧ l.getD b.arg.toNat 0 = 0 then 1 else 0) 0).toNat
def toldD (l : List Int) (a : Int) : Int := if a < 0 then 0 else l.getD a.toNat 0
/-- A block's end. -/
def endD (body : Nat → Int → List Int → Ds → Int × Ds) (b : Bl) (at_ : Nat) (l : List Int) (d : Ds) : Int × Ds :=
  if d.fuel ≤ 0 then (0, spendD d)
  else if b.en = 3 then (toldD l b.arg, spendD d)
  else body (wayD l b) at_ l (spendD d)
/-- A block behind its OpPhis. -/
def blkD (C : Cst) (call : Nat → List Int → Ds → Int × Ds) (body : Nat → Int → List Int → Ds → Int × Ds) (fn at_ : Nat) (b : Bl) (cs : List In) (l : List Int) (d : Ds) : Int × Ds :=
  if (codD C call fn cs l d).1 then endD body b at_ (codD C call fn cs l d).2.1 (codD C call fn cs l d).2.2
  else (0, (codD C call fn cs l d).2.2)
/-- A call begins. -/
def begD (d : Ds) (n : Nat) : Ds := { d with calls := d.calls + 1, low := d.low - n, sk := putL d.sk (d.low - n - 8126464).toNat (List.replicate n 0) }
def endC (d : Ds) (n : Int) : Ds := { d with low := d.low + n, calls := d.calls - 1 }
def regD (args : List Int) (n : Nat) : List Int := args ++ List.replicate (n - args.length) 0
def callD (C : Cst) (body : Nat → Nat → Int → List Int → Ds → Int × Ds) (fn : Nat) (args : List Int) (d : Ds) : Int × Ds :=
  if C.deep ≤ d.calls ∨ d.low - (fnOf C fn).slots < 8126464 then (0, { d with trap := 3 })
  else ((body fn 0 (-1) (regD args (fnOf C fn).regs.toNat) (begD d (fnOf C fn).slots.toNat)).1, endC (body fn 0 (-1) (regD args (fnOf C fn).regs.toNat) (begD d (fnOf C fn).slots.toNat)).2 (fnOf C fn).slots)
/-- A function's blocks. -/
def bodyD (C : Cst) : Nat → Nat → Nat → Int → List Int → Ds → Int × Ds
  | 0, _, _, _, _, d => (0, d)
  | n + 1, fn, at_, from_, l, d =>
    if phisOk d (phN (blOf C fn at_).code) then
      blkD C (callD C (bodyD C n)) (bodyD C n fn) fn at_ (blOf C fn at_) (blOf C fn at_).code (phisL d l from_ (blOf C fn at_).code) (phisD d (phN (blOf C fn at_).code))
    else (0, phisD d (phN (blOf C fn at_).code))

/-- What holds of the document's run. -/
structure DOk (C : Cst) (j : Nat) (d : Ds) : Prop where
  mem : DmOk d
  byt : DbOk d
  fu : d.fuel ≤ 32768
  cn : 0 ≤ d.count ∧ d.count + d.fuel.toNat + j ≤ 40000
  ol : d.out.length + d.fuel.toNat + j ≤ 40000
  us : d.used ≤ C.input.size
  ca : 0 ≤ d.calls ∧ d.calls + d.fuel.toNat + j ≤ 40000
  ob : BytesOk d.out
structure KeepD (d d' : Ds) : Prop where
  low : d'.low = d.low
  calls : d'.calls = d.calls
  fuel : d'.fuel ≤ d.fuel
theorem KeepD.rfl_ (d : Ds) : KeepD d d := ⟨rfl, rfl, Int.le_refl _⟩
theorem KeepD.trans {a b c : Ds} (h : KeepD a b) (k : KeepD b c) : KeepD a c := ⟨k.low.trans h.low, k.calls.trans h.calls, Int.le_trans k.fuel h.fuel⟩
section
variable {C : Cst} {d d' : Ds} {l : List Int}
theorem DOk.less {j k : Nat} (h : DOk C j d) (hk : k ≤ j) : DOk C k d := ⟨h.mem, h.byt, h.fu, by have := h.cn; omega, by have := h.ol; omega, h.us, by have := h.ca; omega, h.ob⟩
theorem DmOk.of (h : DmOk d) (e : (d'.gl, d'.sk, d'.low) = (d.gl, d.sk, d.low)) : DmOk d' := by
  simp only [Prod.mk.injEq] at e
  obtain ⟨e1, e2, e3⟩ := e
  exact ⟨by rw [e1]; exact h.g, by rw [e2]; exact h.k, by rw [e3]; exact h.l⟩
theorem DbOk.of (h : DbOk d) (e : (d'.gl, d'.sk) = (d.gl, d.sk)) : DbOk d' := by
  simp only [Prod.mk.injEq] at e
  obtain ⟨e1, e2⟩ := e
  exact ⟨by rw [e1]; exact h.g, by rw [e2]; exact h.k⟩
/-- Only numbers that nothing is asked of turn. -/
theorem DOk.same {j : Nat} (h : DOk C j d) (e : (d'.gl, d'.sk, d'.low, d'.fuel, d'.count, d'.out, d'.used, d'.calls) = (d.gl, d.sk, d.low, d.fuel, d.count, d.out, d.used, d.calls)) : DOk C j d' := by
  simp only [Prod.mk.injEq] at e
  obtain ⟨e1, e2, e3, e4, e5, e6, e7, e8⟩ := e
  exact ⟨h.mem.of (by rw [e1, e2, e3]), h.byt.of (by rw [e1, e2]), by rw [e4]; exact h.fu, by rw [e4, e5]; exact h.cn, by rw [e4, e6]; exact h.ol, by rw [e7]; exact h.us, by rw [e4, e8]; exact h.ca, by rw [e6]; exact h.ob⟩
theorem DOk.spend {j : Nat} (h : DOk C j d) (hf : 0 < d.fuel) : DOk C (j + 1) (spendD d) ∧ KeepD d (spendD d) ∧ (spendD d).fuel = d.fuel - 1 ∧ (spendD d).trap = d.trap ∧ (spendD d).over = d.over := by
  unfold spendD
  rw [if_neg (by omega)]
  refine ⟨⟨h.mem.of rfl, h.byt.of rfl, by have := h.fu; dsimp only; omega, by have := h.cn; dsimp only; omega, by have := h.ol; dsimp only; omega, h.us, by have := h.ca; dsimp only; omega, h.ob⟩, ⟨rfl, rfl, by dsimp only; omega⟩, rfl, rfl, rfl⟩
theorem DOk.spent {j : Nat} (h : DOk C j d) (hf : d.fuel ≤ 0) : DOk C j (spendD d) ∧ KeepD d (spendD d) ∧ (spendD d).over = true := by
  unfold spendD
  rw [if_pos hf]
  exact ⟨h.same rfl, ⟨rfl, rfl, Int.le_refl _⟩, rfl⟩
theorem WordsOk.set (h : WordsOk l) (a : Nat) {z : Int} (hz : 0 ≤ z ∧ z < 4294967296) : WordsOk (l.set a z) := by
  intro k
  by_cases e : k = a
  · subst e
    by_cases hk : k < l.length
    · simp [List.getD, hk]; exact hz
    · simp [List.getD, hk]
  · have := h k
    simpa [List.getD, List.getElem?_set_ne (Ne.symm e)] using this
theorem WordsOk.app (h : WordsOk l) (n : Nat) : WordsOk (l ++ List.replicate n 0) := by
  intro k
  by_cases hk : k < l.length
  · have := h k
    simpa [List.getD, List.getElem?_append_left hk] using this
  · have : (l ++ List.replicate n (0 : Int)).getD k 0 = 0 := by
      simp only [List.getD]
      rw [List.getElem?_append_right (by omega), List.getElem?_replicate]
      split <;> rfl
    rw [this]
    omega
theorem DOk.cou {j : Nat} (h : DOk C (j + 1) d) (cf : Bool) : DOk C j (couB cf d) ∧ KeepD d (couB cf d) ∧ (couB cf d).trap = d.trap ∧ (couB cf d).over = d.over := by
  unfold couB
  cases cf
  · exact ⟨h.less (by omega), .rfl_ _, rfl, rfl⟩
  · exact ⟨⟨h.mem.of rfl, h.byt.of rfl, h.fu, by have := h.cn; simp; omega, by have := h.ol; simp; omega, h.us, by have := h.ca; simp; omega, h.ob⟩, ⟨rfl, rfl, Int.le_refl _⟩, rfl, rfl⟩
theorem loadN_ok (hB : DbOk d) (a : Int) : ∀ (n : Nat) (w : Int), 0 ≤ w ∧ w < 4294967296 → ∀ z, loadN d a n w = some z → 0 ≤ z ∧ z < 4294967296
  | 0, w, hw, z, h => by
    unfold loadN at h
    injection h with h
    subst h
    exact hw
  | n + 1, w, hw, z, h => by
    unfold loadN at h
    split at h
    · cases h
    · exact loadN_ok hB a n _ (by omega) z h
theorem getD_set (l : List Int) (k : Nat) (b : Int) (o : Nat) : (l.set k b).getD o 0 = if k = o ∧ k < l.length then b else l.getD o 0 := by
  simp only [List.getD]
  rw [List.getElem?_set]
  by_cases e : k = o
  · subst e
    by_cases hk : k < l.length
    · simp [hk]
    · simp [hk]
  · simp [e]
theorem set_ok {l : List Int} {b : Int} (h : ∀ o, 0 ≤ l.getD o 0 ∧ l.getD o 0 < 256) (hb : 0 ≤ b ∧ b < 256) (k o : Nat) : 0 ≤ (l.set k b).getD o 0 ∧ (l.set k b).getD o 0 < 256 := by
  rw [getD_set]
  split
  · exact hb
  · exact h o
theorem putB_ok (hB : DbOk d) (a b : Int) (hb : 0 ≤ b ∧ b < 256) : DbOk (putB d a b) := by
  unfold putB
  split
  · exact hB
  · exact ⟨hB.g, fun o => set_ok hB.k hb _ o⟩
  · exact ⟨fun o => set_ok hB.g hb _ o, hB.k⟩
theorem storeN_ok (hB : DbOk d) (a w : Int) : ∀ n, DbOk (storeN d a w n)
  | 0 => hB
  | n + 1 => putB_ok (storeN_ok hB a w n) _ _ (by omega)
theorem putB_rest (d : Ds) (a b : Int) : ((putB d a b).fuel, (putB d a b).count, (putB d a b).out, (putB d a b).used, (putB d a b).calls, (putB d a b).trap, (putB d a b).over) = (d.fuel, d.count, d.out, d.used, d.calls, d.trap, d.over) := by
  unfold putB
  split <;> rfl
theorem storeN_rest (d : Ds) (a w : Int) : ∀ n, ((storeN d a w n).fuel, (storeN d a w n).count, (storeN d a w n).out, (storeN d a w n).used, (storeN d a w n).calls, (storeN d a w n).trap, (storeN d a w n).over) = (d.fuel, d.count, d.out, d.used, d.calls, d.trap, d.over)
  | 0 => rfl
  | n + 1 => (putB_rest _ _ _).trans (storeN_rest d a w n)
theorem DOk.stored {j : Nat} (h : DOk C j d) (a w : Int) (n : Nat) : DOk C j (storeN d a w n) ∧ KeepD d (storeN d a w n) ∧ (storeN d a w n).trap = d.trap ∧ (storeN d a w n).over = d.over := by
  have hs := store_same d a w n
  have hr := storeN_rest d a w n
  simp only [Prod.mk.injEq] at hr
  obtain ⟨e1, e2, e3, e4, e5, e6, e7⟩ := hr
  exact ⟨⟨hs.ok h.mem, storeN_ok h.byt a w n, by rw [e1]; exact h.fu, by rw [e1, e2]; exact h.cn, by rw [e1, e3]; exact h.ol, by rw [e4]; exact h.us, by rw [e1, e5]; exact h.ca, by rw [e3]; exact h.ob⟩, ⟨hs.l, e5, by rw [e1]; exact Int.le_refl _⟩, e6, e7⟩
/-- What a call keeps, if less than n of fuel is left. -/
def CallKeep (C : Cst) (call : Nat → List Int → Ds → Int × Ds) (n : Nat) : Prop :=
  ∀ fn args d, fn < C.p.funcs.length → (args.length : Int) = (fnOf C fn).params → WordsOk args → DOk C 1 d → d.fuel.toNat < n → d.trap = 0 → d.over = false → DOk C 0 (call fn args d).2 ∧ KeepD d (call fn args d).2 ∧ 0 ≤ (call fn args d).1 ∧ (call fn args d).1 < 4294967296
theorem words_map (hl : WordsOk l) (xs : List Int) : WordsOk (xs.map (fun a => l.getD a.toNat 0)) := by
  intro k
  by_cases hk : k < xs.length
  · have : (xs.map (fun a => l.getD a.toNat 0)).getD k 0 = l.getD (xs[k]).toNat 0 := by simp [List.getD, hk]
    rw [this]
    exact hl _
  · have : (xs.map (fun a => l.getD a.toNat 0)).getD k 0 = 0 := by simp [List.getD, hk]
    rw [this]
    omega
/-- A call of a program that may be. -/
theorem call_fit {slots regs : Int} {preds : List Int} {i : In} (P : PgOk C.p) (hop : i.op = 9) (hF : FitR regs (shF C.p slots preds i.op i.imm) i) : i.imm.toNat < C.p.funcs.length ∧ (i.args.length : Int) = (fnOf C i.imm.toNat).params ∧ 0 ≤ i.imm ∧ (i.dst = -1 ∨ 0 ≤ i.dst ∧ i.dst < regs) := by
  have hf := hF
  unfold shF at hf
  rw [hop] at hf
  have hf : FitR regs (shC C.p i.imm) i := hf
  by_cases hw : winF i.imm 0 ((C.p.funcs.length : Nat) - 1) = true
  · unfold shC at hf
    rw [if_pos hw] at hf
    unfold winF at hw
    simp only [decide_eq_true_eq] at hw
    have hlt : i.imm.toNat < C.p.funcs.length := by omega
    have hn := hf.n
    dsimp only at hn
    rw [List.getElem?_eq_getElem hlt] at hn
    have e : fnOf C i.imm.toNat = C.p.funcs[i.imm.toNat] := by unfold fnOf; simp [List.getD, hlt]
    refine ⟨hlt, by rw [e]; simpa using hn, hw.1, ?_⟩
    by_cases e1 : i.dst = -1
    · exact .inl e1
    · exact .inr (hf.yes e1).2
  · unfold shC at hf
    rw [if_neg hw] at hf
    exact absurd rfl hf.has
theorem ite_ind {α : Type} {P : α → Prop} {c : Prop} [Decidable c] {a b : α} (h : c → P a) (k : ¬ c → P b) : P (if c then a else b) := by
  by_cases e : c
  · rw [if_pos e]; exact h e
  · rw [if_neg e]; exact k e
/-- What an instruction keeps. -/
structure InsK (C : Cst) (l : List Int) (d : Ds) (q : Bool × List Int × Ds) : Prop where
  ok : DOk C 0 q.2.2
  keep : KeepD d q.2.2
  words : WordsOk q.2.1
  len : q.2.1.length = l.length
  flags : q.1 = true → q.2.2.trap = 0 ∧ q.2.2.over = false
theorem ins_keep {call : Nat → List Int → Ds → Int × Ds} {n : Nat} (P : PgOk C.p) (hC : CallKeep C call n) {slots regs : Int} {preds : List Int} {i : In} (hF : FitR regs (shF C.p slots preds i.op i.imm) i) {fn : Nat} (hl : WordsOk l) (hD : DOk C 1 d) (hf : d.fuel.toNat < n) (ht : d.trap = 0) (ho : d.over = false) :
    InsK C l d (iDo C call fn i l d) := by
  have hx := hl (arg i 0)
  have hy := hl (arg i 1)
  have set_ : ∀ z : Int, 0 ≤ z ∧ z < 4294967296 → InsK C l d (true, l.set i.dst.toNat z, d) := fun z hz => ⟨hD.less (by omega), .rfl_ _, hl.set _ hz, by simp, fun _ => ⟨ht, ho⟩⟩
  have trap_ : ∀ k : Int, InsK C l d (false, l, { d with trap := k }) := fun k => ⟨(hD.less (by omega)).same rfl, ⟨rfl, rfl, Int.le_refl _⟩, hl, rfl, fun e => by cases e⟩
  have stay_ : InsK C l d (true, l, d) := ⟨hD.less (by omega), .rfl_ _, hl, rfl, fun _ => ⟨ht, ho⟩⟩
  unfold iDo
  refine ite_ind (fun _ => set_ _ (by omega)) (fun _ => ?_)
  refine ite_ind (fun _ => set_ _ hx) (fun _ => ?_)
  refine ite_ind (fun _ => ?_) (fun _ => ?_)
  · obtain ⟨k1, k2, k3, k4⟩ := hD.cou (couF C fn i)
    refine ite_ind (fun _ => ?_) (fun _ => ?_)
    · exact ⟨k1, k2, hl.set _ (aluV_bound _ _ _ hx.1 hx.2 hy.1 hy.2), by simp, fun _ => ⟨by rw [k3]; exact ht, by rw [k4]; exact ho⟩⟩
    · exact ⟨k1.same rfl, ⟨k2.low, k2.calls, k2.fuel⟩, hl, rfl, fun e => by cases e⟩
  refine ite_ind (fun _ => set_ _ (by omega)) (fun _ => ?_)
  refine ite_ind (fun _ => set_ _ (by omega)) (fun _ => ?_)
  refine ite_ind (fun _ => ?_) (fun _ => ?_)
  · cases h : loadN d ((l.getD (arg i 0) 0 + i.imm) % 4294967296) i.wide.toNat 0 with
    | some z => exact set_ _ (loadN_ok hD.byt _ _ _ (by omega) z h)
    | none => exact trap_ 5
  refine ite_ind (fun _ => ?_) (fun _ => ?_)
  · refine ite_ind (fun _ => ?_) (fun _ => trap_ 5)
    obtain ⟨k1, k2, k3, k4⟩ := (hD.less (Nat.zero_le 1)).stored ((l.getD (arg i 0) 0 + i.imm) % 4294967296) (l.getD (arg i 1) 0) i.wide.toNat
    exact ⟨k1, k2, hl, rfl, fun _ => ⟨by rw [k3]; exact ht, by rw [k4]; exact ho⟩⟩
  refine ite_ind (fun _ => ite_ind (fun _ => trap_ _) (fun _ => stay_)) (fun _ => ?_)
  refine ite_ind (fun hop => ?_) (fun _ => ?_)
  · obtain ⟨f1, f2, _, _⟩ := call_fit P hop hF
    obtain ⟨q1, q2, q3⟩ := hC i.imm.toNat (i.args.map (fun a => l.getD a.toNat 0)) d f1 (by rw [List.length_map]; exact f2) (words_map hl _) hD hf ht ho
    generalize call i.imm.toNat (i.args.map (fun a => l.getD a.toNat 0)) d = q at *
    refine ite_ind (fun _ => ⟨q1, q2, hl, rfl, fun e => by cases e⟩) (fun hno => ⟨q1, q2, ?_, ?_, fun _ => ⟨?_, ?_⟩⟩)
    · exact ite_ind (P := fun m => WordsOk m) (fun _ => hl) (fun _ => hl.set _ q3)
    · exact ite_ind (P := fun m : List Int => m.length = l.length) (fun _ => rfl) (fun _ => by simp)
    · exact Classical.byContradiction fun e => hno (.inr e)
    · cases ho2 : q.2.over with
      | true => exact absurd (.inl ho2) hno
      | false => rfl
  refine ite_ind (fun _ => ?_) (fun _ => ?_)
  · split
    · rename_i hu
      refine ⟨?_, ⟨rfl, rfl, Int.le_refl _⟩, hl.set _ ?_, by simp, fun _ => ⟨ht, ho⟩⟩
      · exact ⟨hD.mem.of rfl, hD.byt.of rfl, hD.fu, by have := hD.cn; dsimp only; omega, by have := hD.ol; dsimp only; omega, by dsimp only; omega, by have := hD.ca; dsimp only; omega, hD.ob⟩
      · have := (C.input[d.used]'hu).toNat_lt
        omega
    · exact set_ _ (by omega)
  refine ite_ind (fun _ => ?_) (fun _ => stay_)
  refine ⟨⟨hD.mem.of rfl, hD.byt.of rfl, hD.fu, by have := hD.cn; dsimp only; omega, by have := hD.ol; simp; omega, hD.us, by have := hD.ca; dsimp only; omega, ?_⟩, ⟨rfl, rfl, Int.le_refl _⟩, hl, rfl, fun _ => ⟨ht, ho⟩⟩
  exact bytes_app hD.ob (fun k hk => by
    have : k = 0 := by simp at hk; omega
    subst this
    simp
    omega)
end
end Go.Proofs.Ytiehlkhpblldaaa
namespace Go.Proofs.Ytiehlkhpblldaaa
open Go.RowKit Go.Maps
section
variable {C : Cst} {d d' : Ds} {l : List Int}
def predOf (C : Cst) (fn bk : Nat) : List Int := (predsF (fnOf C fn).blocks).getD bk []
/-- An instruction fits in its block. -/
def FitB (C : Cst) (fn bk : Nat) (i : In) : Prop := FitR (fnOf C fn).regs (shF C.p (fnOf C fn).slots (predOf C fn bk) i.op i.imm) i
theorem fit_all (P : PgOk C.p) {fn bk : Nat} (hf : fn < C.p.funcs.length) (hb : bk < (fnOf C fn).blocks.length) {k : Nat} (hk : k < (blOf C fn bk).code.length) : FitB C fn bk ((blOf C fn bk).code.getD k in0) := fit_is (cod_fit _ _ (code_ok P hf hb) k hk).1
theorem fit_mem (P : PgOk C.p) {fn bk : Nat} (hf : fn < C.p.funcs.length) (hb : bk < (fnOf C fn).blocks.length) {i : In} (hi : i ∈ (blOf C fn bk).code) : FitB C fn bk i := by
  obtain ⟨k, hk, e⟩ := List.getElem_of_mem hi
  have := fit_all P hf hb hk
  rwa [show (blOf C fn bk).code.getD k in0 = i by simp [List.getD, hk, e]] at this
theorem phi_fit (P : PgOk C.p) {fn bk : Nat} (hf : fn < C.p.funcs.length) (hb : bk < (fnOf C fn).blocks.length) {l : List Int} (hl : (l.length : Int) = (fnOf C fn).regs) : ∀ k (hk : k < (blOf C fn bk).code.length), k < phN (blOf C fn bk).code → PhiD l.length (blOf C fn bk).code[k] := fun k hk hp => by
  have h := fit_all P hf hb hk
  have e : (blOf C fn bk).code.getD k in0 = (blOf C fn bk).code[k] := by simp [List.getD, hk]
  rw [e] at h
  have hop := phN_yes _ k hk hp
  unfold FitB shF at h
  rw [hop] at h
  have h : FitR (fnOf C fn).regs ⟨2, ((predOf C fn bk).length : Nat), 0, 0, false, false, predOf C fn bk⟩ (blOf C fn bk).code[k] := h
  have hd := h.dst2 rfl
  have hn := h.n
  dsimp only at hn
  refine ⟨by omega, ?_, fun k hk => ?_⟩
  · rw [h.pred]; dsimp only; omega
  · have := h.arg hk; omega
theorem DOk.phis (h : DOk C 0 d) (N : Nat) : DOk C 0 (phisD d N) ∧ KeepD d (phisD d N) ∧ (phisOk d N = true → (phisD d N).trap = d.trap ∧ (phisD d N).over = d.over) ∧ (phisOk d N = false → (phisD d N).over = true) := by
  unfold phisD
  cases e : phisOk d N with
  | true =>
    rw [if_pos rfl]
    have hN : N = 0 ∨ (N : Int) ≤ d.fuel := by unfold phisOk at e; simpa using e
    exact ⟨⟨h.mem.of rfl, h.byt.of rfl, by have := h.fu; dsimp only; omega, by have := h.cn; dsimp only; omega, by have := h.ol; dsimp only; omega, h.us, by have := h.ca; dsimp only; omega, h.ob⟩, ⟨rfl, rfl, by dsimp only; omega⟩, fun _ => ⟨rfl, rfl⟩, fun e => by cases e⟩
  | false =>
    rw [if_neg (by decide)]
    exact ⟨⟨h.mem.of rfl, h.byt.of rfl, by have := h.fu; dsimp only; omega, by have := h.cn; dsimp only; omega, by have := h.ol; dsimp only; omega, h.us, by have := h.ca; dsimp only; omega, h.ob⟩, ⟨rfl, rfl, by dsimp only; omega⟩, (fun e => by cases e), fun _ => rfl⟩
theorem phiK_ok (hl : WordsOk l) (f : Int) (i : In) : ∀ n, 0 ≤ phiK l f i n ∧ phiK l f i n < 4294967296
  | 0 => ⟨by simp [phiK], by simp [phiK]⟩
  | n + 1 => by
    rw [phiK_succ]
    split
    · exact hl _
    · exact phiK_ok hl f i n
theorem setsL_words : ∀ (q : List (Nat × Int)) {l : List Int}, WordsOk l → (∀ y ∈ q, 0 ≤ y.2 ∧ y.2 < 4294967296) → WordsOk (setsL l q)
  | [], l, h, _ => h
  | y :: q, l, h, hq => by
    have := setsL_words q (h.set y.1 (hq y (by simp))) (fun z hz => hq z (by simp [hz]))
    simpa [setsL] using this
theorem setsL_len2 : ∀ (q : List (Nat × Int)) (l : List Int), (setsL l q).length = l.length
  | [], l => rfl
  | y :: q, l => by
    have := setsL_len2 q (l.set y.1 y.2)
    unfold setsL at *
    rw [List.foldl_cons, this, List.length_set]
theorem phisL_ok (hl : WordsOk l) (d : Ds) (f : Int) (code : List In) : WordsOk (phisL d l f code) ∧ (phisL d l f code).length = l.length := by
  unfold phisL
  split
  · refine ⟨setsL_words _ hl (fun y hy => ?_), setsL_len2 _ _⟩
    obtain ⟨k, _, rfl⟩ := List.mem_map.1 hy
    exact phiK_ok hl f _ _
  · exact ⟨hl, rfl⟩
theorem cod_keep {call : Nat → List Int → Ds → Int × Ds} {n : Nat} (P : PgOk C.p) (hC : CallKeep C call n) {fn bk : Nat} : ∀ (cs : List In) {l : List Int} {d : Ds}, (∀ i ∈ cs, FitB C fn bk i) → WordsOk l → DOk C 0 d → d.fuel.toNat < n + 1 → d.trap = 0 → d.over = false → InsK C l d (codD C call fn cs l d)
  | [], l, d, _, hl, hD, _, ht, ho => ⟨hD, .rfl_ _, hl, rfl, fun _ => ⟨ht, ho⟩⟩
  | i :: t, l, d, hF, hl, hD, hf, ht, ho => by
    unfold codD
    refine ite_ind (fun _ => cod_keep P hC t (fun j hj => hF j (by simp [hj])) hl hD hf ht ho) (fun h12 => ?_)
    refine ite_ind (fun h0 => ?_) (fun h0 => ?_)
    · obtain ⟨a, b, c⟩ := hD.spent h0
      exact ⟨a, b, hl, rfl, fun e => by cases e⟩
    · obtain ⟨a, b, e1, e2, e3⟩ := hD.spend (by omega)
      have k := ins_keep P hC (hF i (by simp)) (fn := fn) hl a (by rw [e1]; omega) (by rw [e2]; exact ht) (by rw [e3]; exact ho)
      refine ite_ind (fun hq => ?_) (fun _ => ⟨k.ok, b.trans k.keep, k.words, k.len, fun e => by cases e⟩)
      have hfu := (b.trans k.keep).fuel
      have r := cod_keep P hC t (fun j hj => hF j (by simp [hj])) k.words k.ok (by omega) (k.flags hq).1 (k.flags hq).2
      exact ⟨r.ok, (b.trans k.keep).trans r.keep, r.words, r.len.trans k.len, r.flags⟩
/-- What a body keeps. -/
structure BodK (C : Cst) (d : Ds) (q : Int × Ds) : Prop where
  ok : DOk C 0 q.2
  keep : KeepD d q.2
  told : 0 ≤ q.1 ∧ q.1 < 4294967296
theorem way_is (P : PgOk C.p) {fn bk : Nat} (hf : fn < C.p.funcs.length) (hb : bk < (fnOf C fn).blocks.length) (he : (blOf C fn bk).en ≠ 3) (l : List Int) : wayD l (blOf C fn bk) < (fnOf C fn).blocks.length := by
  have hw := way_ok P hf hb he ⟨0, fn, 0, 0, bk, 0⟩ (if l.getD (blOf C fn bk).arg.toNat 0 = 0 then [] else List.replicate ((blOf C fn bk).arg.toNat + 1) ⟨1, 0⟩)
  have e : wayD l (blOf C fn bk) = wayF (if l.getD (blOf C fn bk).arg.toNat 0 = 0 then [] else List.replicate ((blOf C fn bk).arg.toNat + 1) ⟨1, 0⟩) ⟨0, fn, 0, 0, bk, 0⟩ (blOf C fn bk) := by
    unfold wayD wayF
    rcases hw.1 with e1 | e1
    · rw [if_pos e1, if_neg (by omega)]
    · rw [if_neg (show ¬ (blOf C fn bk).en = 1 by omega)]
      by_cases hz : l.getD (blOf C fn bk).arg.toNat 0 = 0
      · rw [if_pos ⟨e1, hz⟩, if_pos hz, if_pos (by simp [getR])]
      · rw [if_neg (fun q => hz q.2), if_neg hz, if_neg (by simp [getR])]
  rw [e]
  exact hw.2.1
theorem DOk.beg {j n : Nat} (h : DOk C (j + 1) d) (hs : 8126464 ≤ d.low - n) : DOk C j (begD d n) := by
  have hm := h.mem
  refine ⟨⟨hm.g, by show (putL _ _ _).length = _; rw [putL_length]; exact hm.k, ?_⟩, ⟨h.byt.g, ?_⟩, h.fu, by have := h.cn; show 0 ≤ d.count ∧ d.count + d.fuel.toNat + j ≤ 40000; omega, by have := h.ol; show d.out.length + d.fuel.toNat + j ≤ 40000; omega, h.us, ?_, h.ob⟩
  · have := hm.l
    show 8126464 ≤ d.low - n ∧ d.low - n ≤ 8388608
    omega
  · have key : ∀ (k : Nat) (q : List Int) (o : Nat), (∀ o, 0 ≤ q.getD o 0 ∧ q.getD o 0 < 256) → ∀ x, 0 ≤ (putL q o (List.replicate k 0)).getD x 0 ∧ (putL q o (List.replicate k 0)).getD x 0 < 256 := by
      intro k
      induction k with
      | zero => intro q o hq x; exact hq x
      | succ k ih => intro q o hq x; exact ih _ _ (set_ok hq (by omega) _) x
    exact key _ _ _ h.byt.k
  · have := h.ca
    show 0 ≤ d.calls + 1 ∧ d.calls + 1 + d.fuel.toNat + j ≤ 40000
    omega
theorem regD_ok {xs : List Int} (h : WordsOk xs) {n : Nat} (hn : xs.length ≤ n) : WordsOk (regD xs n) ∧ (regD xs n).length = n := ⟨h.app _, by simp [regD]; omega⟩
theorem call_keep (P : PgOk C.p) {body : Nat → Nat → Int → List Int → Ds → Int × Ds} {n : Nat} (hB : ∀ fn l d, fn < C.p.funcs.length → WordsOk l → (l.length : Int) = (fnOf C fn).regs → DOk C 0 d → d.trap = 0 → d.over = false → d.fuel.toNat < n → BodK C d (body fn 0 (-1) l d)) : CallKeep C (callD C body) n := by
  intro fn xs d hfn hxs hw hD hf ht ho
  have hF := P.fn fn hfn
  have eF : C.p.funcs.getD fn fn0 = fnOf C fn := rfl
  rw [eF] at hF
  unfold callD
  refine ite_ind (P := fun q : Int × Ds => DOk C 0 q.2 ∧ KeepD d q.2 ∧ 0 ≤ q.1 ∧ q.1 < 4294967296) (fun _ => ⟨(hD.less (by omega)).same rfl, ⟨rfl, rfl, Int.le_refl _⟩, by show (0 : Int) ≤ 0; decide, by show (0 : Int) < 4294967296; decide⟩) (fun hno => ?_)
  have hs := hF.sl
  have hr := hF.rg
  have hpa := hF.pa
  have hsn : ((fnOf C fn).slots.toNat : Int) = (fnOf C fn).slots := by omega
  have hb := hD.beg (n := (fnOf C fn).slots.toNat) (by rw [hsn]; omega)
  obtain ⟨r1, r2⟩ := regD_ok hw (n := (fnOf C fn).regs.toNat) (by omega)
  have k := hB fn _ (begD d (fnOf C fn).slots.toNat) hfn r1 (by rw [r2]; omega) hb ht ho hf
  generalize body fn 0 (-1) (regD xs (fnOf C fn).regs.toNat) (begD d (fnOf C fn).slots.toNat) = q at *
  have hl : q.2.low = d.low - ((fnOf C fn).slots.toNat : Int) := k.keep.low
  have hc : q.2.calls = d.calls + 1 := k.keep.calls
  have hfu : q.2.fuel ≤ d.fuel := k.keep.fuel
  have hdl := hD.mem.l
  have ko := k.ok
  refine ⟨⟨⟨ko.mem.g, ko.mem.k, ?_⟩, ⟨ko.byt.g, ko.byt.k⟩, ko.fu, ko.cn, ko.ol, ko.us, ?_, ko.ob⟩, ⟨?_, ?_, hfu⟩, k.told⟩
  · show 8126464 ≤ q.2.low + (fnOf C fn).slots ∧ q.2.low + (fnOf C fn).slots ≤ 8388608
    omega
  · have := ko.ca
    have := hD.ca
    show 0 ≤ q.2.calls - 1 ∧ q.2.calls - 1 + q.2.fuel.toNat + 0 ≤ 40000
    omega
  · show q.2.low + (fnOf C fn).slots = d.low
    omega
  · show q.2.calls - 1 = d.calls
    omega
theorem body_keep (P : PgOk C.p) : ∀ (n fn at_ : Nat) (f : Int) (l : List Int) (d : Ds), fn < C.p.funcs.length → at_ < (fnOf C fn).blocks.length → WordsOk l → (l.length : Int) = (fnOf C fn).regs → DOk C 0 d → d.trap = 0 → d.over = false → d.fuel.toNat < n → BodK C d (bodyD C n fn at_ f l d)
  | 0, _, _, _, _, _, _, _, _, _, _, _, _, h => by omega
  | n + 1, fn, at_, f, l, d, hfn, hat, hw, hl, hD, ht, ho, hf => by
    have hFn := P.fn fn hfn
    have k := cod_keep P (call_keep P (body := bodyD C n) (n := n) (fun fn l d h1 h2 h3 h4 h5 h6 h7 => body_keep P n fn 0 (-1) l d h1 (P.fn fn h1).nb h2 h3 h4 h5 h6 h7)) (fn := fn) (bk := at_) (blOf C fn at_).code (l := phisL d l f (blOf C fn at_).code) (d := phisD d (phN (blOf C fn at_).code)) (fun i hi => fit_mem P hfn hat hi) (phisL_ok hw _ _ _).1 (hD.phis _).1
    have hp := hD.phis (phN (blOf C fn at_).code)
    have hpl := phisL_ok hw d f (blOf C fn at_).code
    unfold bodyD
    refine ite_ind (fun hok => ?_) (fun hno => ⟨hp.1, hp.2.1, by show (0 : Int) ≤ 0; decide, by show (0 : Int) < 4294967296; decide⟩)
    have k := k (by have := hp.2.1.fuel; omega) (by rw [(hp.2.2.1 hok).1]; exact ht) (by rw [(hp.2.2.1 hok).2]; exact ho)
    unfold blkD
    generalize codD C (callD C (bodyD C n)) fn (blOf C fn at_).code (phisL d l f (blOf C fn at_).code) (phisD d (phN (blOf C fn at_).code)) = q at *
    refine ite_ind (fun hq => ?_) (fun _ => ⟨k.ok, hp.2.1.trans k.keep, by show (0 : Int) ≤ 0; decide, by show (0 : Int) < 4294967296; decide⟩)
    unfold endD
    refine ite_ind (fun h0 => ?_) (fun h0 => ?_)
    · obtain ⟨a, b, c⟩ := k.ok.spent h0
      exact ⟨a, (hp.2.1.trans k.keep).trans b, by show (0 : Int) ≤ 0; decide, by show (0 : Int) < 4294967296; decide⟩
    · obtain ⟨a, b, e1, e2, e3⟩ := k.ok.spend (by omega)
      refine ite_ind (fun h3 => ⟨a.less (by omega), (hp.2.1.trans k.keep).trans b, ?_⟩) (fun h3 => ?_)
      · show 0 ≤ toldD _ _ ∧ toldD _ _ < 4294967296
        unfold toldD
        split
        · omega
        · exact k.words _
      · have hfu := (hp.2.1.trans k.keep).fuel
        have r := body_keep P n fn (wayD q.2.1 (blOf C fn at_)) at_ q.2.1 (spendD q.2.2) hfn (way_is P hfn hat h3 _) k.words (by rw [k.len, hpl.2]; exact hl) (a.less (by omega)) (by rw [e2]; exact (k.flags hq).1) (by rw [e3]; exact (k.flags hq).2) (by rw [e1]; omega)
        exact ⟨r.ok, ((hp.2.1.trans k.keep).trans b).trans r.keep, r.told⟩
theorem call_keeps (P : PgOk C.p) (n : Nat) : CallKeep C (callD C (bodyD C n)) n := call_keep P (fun fn l d h1 h2 h3 h4 h5 h6 h7 => body_keep P n fn 0 (-1) l d h1 (P.fn fn h1).nb h2 h3 h4 h5 h6 h7)
end
end Go.Proofs.Ytiehlkhpblldaaa
