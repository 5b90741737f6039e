/- The document's call. -/
import Derived.Test.YtiehlkhpblldaaaH43
set_option linter.unusedVariables false
set_option linter.unusedSimpArgs false
set_option maxRecDepth 20000
set_option maxHeartbeats 8000000
namespace Go.Proofs.Ytiehlkhpblldaaa
open Go.RowKit Go.Maps
section
variable {C : Cst} {W0 W W' : World} {r : Nat} {d d' : Ds} {v v' : Dv}
theorem turn5C {w : World} (hK : Kept (TurnC W0 W r) W w) {q : Nat} (hq : q < W.heap.size) (h0 : W0.heap.size ≤ q) {cs : Array Value} {fr : Nat × Nat} (h : w.heap[q]? = some (.cells cs 5 fr)) : TurnC W0 W r q :=
  Classical.byContradiction fun e => e (.inr ⟨h0, cs, fr, by rw [← hK.block q hq e]; exact h⟩)
/-- The midst of a call. -/
structure MidC (C : Cst) (W0 W : World) (r : Nat) (d : Ds) (v : Dv) (w : World) : Prop where
  doc : DocM C W0 r w d v
  kept : Kept (TurnC W0 W r) W w
section
variable {w w' : World}
theorem MidC.start (h : DocM C W0 r W d v) : MidC C W0 W r d v W := ⟨h, Kept.rfl _ _⟩
theorem MidC.on (h : MidC C W0 W r d v w) (hb : Below w.heap.size w w') : MidC C W0 W r d v w' := ⟨h.doc.on hb, h.kept.ahead (Kept.of_below (S := fun _ => False) hb) (fun _ _ e => e.elim)⟩
theorem MidC.put (h : MidC C W0 W r d v w) (j : Nat) (u : Value) (hs : (d'.gl, d'.sk, d'.out) = (d.gl, d.sk, d.out)) (e : dcells C d' v = (dcells C d v).setIfInBounds j u) : MidC C W0 W r d' v (w.setCell ⟨r, j, none⟩ u) := ⟨h.doc.put j u hs e, h.kept.ahead (setK _ _ _ _) (fun _ _ e => .inl e)⟩
theorem MidC.zero (h : MidC C W0 W r d v w) {a b : Int} {o : Nat} (hp : placeD d a = some (true, o)) : MidC C W0 W r { d with sk := d.sk.set o b } v (w.setCell ⟨v.kb, o, none⟩ (.int .u8 b)) := by
  have := h.doc.byte (b := b) hp
  rw [if_pos rfl] at this
  have e : putB d a b = { d with sk := d.sk.set o b } := by unfold putB; rw [hp]
  rw [e] at this
  exact ⟨this, h.kept.ahead (setK _ _ _ _) (fun q hq e => by subst e; exact turn5C h.kept hq h.doc.kr h.doc.ks)⟩
theorem MidC.body (h : MidC C W0 W r d v w) {rb : Nat} (hrb : W.heap.size ≤ rb) (hD : DocM C W0 r w' d' v') (hK : Kept (TurnD W0 w r rb) w w') : MidC C W0 W r d' v' w' :=
  ⟨hD, h.kept.ahead hK (fun q hq e => by
    rcases e with e | e | ⟨e0, cs, fr, e⟩
    · exact .inl e
    · omega
    · exact turn5C h.kept hq e0 e)⟩
theorem MidC.regs (h : MidC C W0 W r d v w) {rb : Nat} (hrb : W.heap.size ≤ rb) {cur : Array Value} (hc : w.heap[rb]? = some (.cells cur 79 (0, 0))) (hW : W0.heap.size ≤ W.heap.size) (o : Nat) (u : Value) : MidC C W0 W r d v (w.setCell ⟨rb, o, none⟩ u) :=
  ⟨h.doc.turn hc (by omega) (by decide) (by decide) (setK _ _ _ _), h.kept.ahead (setK _ _ _ _) (fun q hq e => by omega)⟩
end
theorem run_regs (w : World) {n : Nat} (hn : n ≤ 65536) : (Instr.makeSlice 70 (.int .i64 n) (.int .i64 n)).run Try.prog w = .ok (.slice (some ⟨w.heap.size, 0, none⟩) n n) (w.alloc (.cells (Array.replicate n (.int .u32 0)) 79)) := by
  obtain ⟨i0, hi, e0, e1, e2⟩ := info_parts (show (Try.prog.info? 79).map (fun i => (i.zero, i.size, i.bytes)) = some (some (.int .u32 0), 1, 4) by kernel_rfl)
  have hr := run_make (P := Try.prog) w 70 79 i0 (.int .u32 0) Try.underlying70 hi e0 .i64 .i64 (n : Nat) (n : Nat) (by omega) (Int.le_refl _) (by rw [e2]; omega) (by omega)
  rw [hr]
  have e3 : madeCells (Value.int IntKind.u32 0).cells (n * 1) = Array.replicate n (.int .u32 0) := by
    rw [← List.toArray_replicate, ← made1, Array.toArray_toList]
    rfl
  rw [Int.toNat_natCast, e1, e3]
/-- Registers, the first k of their arguments laid. -/
def regK (xs : List Int) (G k : Nat) : List Int := xs.take k ++ List.replicate (G - k) 0
theorem regK_len (xs : List Int) {G k : Nat} (h : k ≤ xs.length) (h2 : xs.length ≤ G) : (regK xs G k).length = G := by simp [regK]; omega
theorem regK_succ (xs : List Int) {G k : Nat} (h : k < xs.length) (h2 : xs.length ≤ G) : (regK xs G k).set k xs[k] = regK xs G (k + 1) := by
  unfold regK
  rw [List.set_append_right _ _ (by simp; omega)]
  have e : k - (xs.take k).length = 0 := by simp; omega
  rw [e]
  obtain ⟨m, hm⟩ : ∃ m, G - k = m + 1 := ⟨G - k - 1, by omega⟩
  rw [hm, List.replicate_succ, List.set_cons_zero, show G - (k + 1) = m by omega, take_snoc _ _ h, List.append_assoc]
  rfl
theorem regK_all (xs : List Int) (G : Nat) : regK xs G xs.length = regD xs G := by simp [regK, regD]
theorem regK_zero (xs : List Int) (G : Nat) : regK xs G 0 = List.replicate G 0 := by simp [regK]
theorem flat_repU (n : Nat) : flat ucel (List.replicate n 0) = List.replicate n (.int .u32 0) := by
  induction n with
  | zero => rfl
  | succ n ih => rw [List.replicate_succ, List.replicate_succ, flat_cons, ih]; rfl
theorem put_snoc : ∀ (k o : Nat) (l : List Int), putL l o (List.replicate (k + 1) 0) = (putL l o (List.replicate k 0)).set (o + k) 0
  | 0, o, l => rfl
  | k + 1, o, l => by
    have := put_snoc k (o + 1) (l.set o 0)
    rw [List.replicate_succ]
    unfold putL
    rw [this, List.replicate_succ (n := k)]
    rw [show o + 1 + k = o + (k + 1) by omega]
/-- What call sees of its function. -/
theorem fn_at (h : DocM C W0 r W d v) {fn : Nat} (hf : fn < C.p.funcs.length) : ∃ fb fo fcap, C.p.fv = .slice (some ⟨fb, fo, none⟩) C.p.funcs.length fcap ∧ C.p.funcs.length ≤ fcap ∧ ∀ w', Below W0.heap.size W0 w' → w'.cell? ⟨fb, fo + fn * 5, none⟩ = some (.string (fnOf C fn).nm) ∧ w'.cell? ⟨fb, fo + fn * 5 + 1, none⟩ = some (.int .i64 (fnOf C fn).params) ∧ w'.cell? ⟨fb, fo + fn * 5 + 2, none⟩ = some (.int .i64 (fnOf C fn).regs) ∧ w'.cell? ⟨fb, fo + fn * 5 + 3, none⟩ = some (.int .i64 (fnOf C fn).slots) ∧ w'.cell? ⟨fb, fo + fn * 5 + 4, none⟩ = some (fnOf C fn).bv := by
  obtain ⟨fb, fo, fcap, ef, hfb, hfc, hx⟩ := funcs_form h.pg hf
  have e : fnOf C fn = C.p.funcs[fn] := by unfold fnOf; simp [List.getD, hf]
  refine ⟨fb, fo, fcap, ef, hfc, fun w' hw => ?_⟩
  rw [e]
  exact fn_cells (hx w' hw fn hf)
set_option maxHeartbeats 40000000 in
theorem call19_no (P : PgOk C.p) {fn : Nat} {xs : List Int} {av : Value} (hfn : fn < C.p.funcs.length) (hD : DOk C 1 d) (h : DocM C W0 r W d v) (ht : d.trap = 0) (hno : C.deep ≤ d.calls ∨ d.low - (fnOf C fn).slots < 8126464) :
    Calls Try.prog 19 #[.pointer (some ⟨r, 0, none⟩), .int .i64 fn, av] W fun e w' => e = .returned (.int .u32 0) ∧ (∃ v', DocM C W0 r w' { d with trap := 3 } v') ∧ Kept (TurnC W0 W r) W w' := by
  have hFn := P.fn fn hfn
  have eF : C.p.funcs.getD fn fn0 = fnOf C fn := rfl
  rw [eF] at hFn
  obtain ⟨fb, fo, fcap, ef, hfc, hx⟩ := fn_at h hfn
  obtain ⟨x0, x1, x2, x3, x4⟩ := hx W h.below
  have c0 : W.cell? ⟨r, 0, none⟩ = some (.slice (some ⟨fb, fo, none⟩) C.p.funcs.length fcap) := by rw [← ef]; exact h.cell 0
  have hfi : (fn : Int) < C.p.funcs.length := by omega
  have hfi2 : (fn : Int) < fcap := by omega
  have hsl := hFn.sl
  have hll := hD.mem.l
  have hw3 : IntKind.i64.wrap (d.low - (fnOf C fn).slots) = d.low - (fnOf C fn).slots := by simp [IntKind.wrap, IntKind.bits, IntKind.signed]; omega
  have HM := hid' ((MidC.start h).on (below1 W (.cells #[.string (fnOf C fn).nm, .int .i64 (fnOf C fn).params, .int .i64 (fnOf C fn).regs, .int .i64 (fnOf C fn).slots, (fnOf C fn).bv] 49)))
  have hbx := heap_alloc_new W (.cells #[.string (fnOf C fn).nm, .int .i64 (fnOf C fn).params, .int .i64 (fnOf C fn).regs, .int .i64 (fnOf C fn).slots, (fnOf C fn).bv] 49)
  obtain ⟨nb, fb2, fc2, ebv⟩ : ∃ ao n cap, (fnOf C fn).bv = .slice ao n cap := by
    obtain ⟨bb, bo, cap, e, _⟩ := blocks_at h.pg hfn hFn.nb
    exact ⟨_, _, _, e⟩
  rw [ebv] at x4 HM hbx
  have HW1 := hid' hbx
  have HX : Hid (∀ q : World, MidC C W0 W r d v q → q.cell? ⟨r, 9 + 3, none⟩ = some (.int .i64 d.calls) ∧ q.cell? ⟨r, 6, none⟩ = some (.int .i64 C.deep) ∧ q.cell? ⟨r, 11, none⟩ = some (.int .i64 d.low) ∧ q.frozen? ⟨r, 13, none⟩ = false ∧ q.cell? ⟨r, 13, none⟩ = some (.int .i64 0)) := fun q hq => ⟨hq.doc.cell 12, hq.doc.cell 6, hq.doc.cell 11, hq.doc.fro 13, by rw [← ht]; exact hq.doc.cell 13⟩
  obtain ⟨k12, k6, k11, kf, k13⟩ := HX.out _ HM.out
  have b3 : (W.alloc (.cells #[.string (fnOf C fn).nm, .int .i64 (fnOf C fn).params, .int .i64 (fnOf C fn).regs, .int .i64 (fnOf C fn).slots, .slice nb fb2 fc2] 49)).cell? ⟨W.heap.size, 3, none⟩ = some (.int .i64 (fnOf C fn).slots) := by rw [cell_of_row _ _ 3 _ 49 (0, 0) hbx]; rfl
  have hrs : ¬ r = W.heap.size := by have := h.lt; omega
  have HEND : Hid (∀ q : World, MidC C W0 W r d v q → (∃ v', DocM C W0 r (q.setCell ⟨r, 13, none⟩ (.int .i64 3)) { d with trap := 3 } v') ∧ Kept (TurnC W0 W r) W (q.setCell ⟨r, 13, none⟩ (.int .i64 3))) := fun q hq => by
    have := hq.put (d' := { d with trap := 3 }) 13 (.int .i64 3) rfl rfl
    exact ⟨⟨v, this.doc⟩, this.kept⟩
  by_cases hd : C.deep ≤ d.calls
  · have hd1 : decide (d.calls ≥ C.deep) = true := decide_eq_true hd
    have hd2 : d.calls ≥ C.deep := hd
    clear h hx hbx ef ebv hD hFn ht hno
    go_enter Try.func19, Try.ntmps19
    go_wp2
    go_quiet (fail)
    go_wp2
    go_ret
    obtain ⟨e1, e2⟩ := HEND.out _ (HM.out.on (drewB _ _))
    exact ⟨rfl, e1, e2⟩
  · have hd1 : decide (d.calls ≥ C.deep) = false := decide_eq_false hd
    have hd2 : ¬ d.calls ≥ C.deep := hd
    have hd3 : d.low - (fnOf C fn).slots < 8126464 := hno.resolve_left hd
    clear h hx hbx ef ebv hD hFn ht hno hd
    go_enter Try.func19, Try.ntmps19
    go_wp2
    go_quiet (fail)
    go_wp2
    go_ret
    obtain ⟨e1, e2⟩ := HEND.out _ (HM.out.on (drewB _ _))
    exact ⟨rfl, e1, e2⟩
end
end Go.Proofs.Ytiehlkhpblldaaa
namespace Go.Proofs.Ytiehlkhpblldaaa
open Go.RowKit Go.Maps
section
variable {C : Cst} {W0 W W' : World} {r : Nat} {d d' : Ds} {v v' : Dv}
/-- The run, the first k bytes of a call's slots emptied. -/
def zerD (d : Ds) (N k : Nat) : Ds := { d with calls := d.calls + 1, low := d.low - N, sk := putL d.sk (d.low - N - 8126464).toNat (List.replicate k 0) }
theorem own_len2 {w : World} {B n : Nat} {vv : Value} {xs : List Value} (h : w.ownsRow B 79 1 vv n xs) : ∃ ao cap, vv = .slice ao n cap ∧ n ≤ cap ∧ (0 < n → ∃ b, ao = some ⟨b, 0, none⟩) := by
  rcases h.2 with ⟨e1, e2⟩ | ⟨g, cap, cur, rfl, _, _, hc, _⟩
  · subst e2
    exact ⟨_, _, e1, Nat.le_refl _, fun h => absurd h (by omega)⟩
  · exact ⟨_, _, rfl, hc, fun _ => ⟨g, rfl⟩⟩
set_option maxHeartbeats 40000000 in
theorem call19_yes (P : PgOk C.p) {n : Nat} (hB : BodyOk C W0 r n) {fn : Nat} {xs : List Int} {av : Value} (hfn : fn < C.p.funcs.length) (hxs : (xs.length : Int) = (fnOf C fn).params) (hw : WordsOk xs) (hD : DOk C 1 d) (hf : d.fuel.toNat < n) (h : DocM C W0 r W d v) (ht : d.trap = 0) (ho : d.over = false) (hav : ArgM W0 W av xs) (hyes : ¬ (C.deep ≤ d.calls ∨ d.low - (fnOf C fn).slots < 8126464)) :
    Calls Try.prog 19 #[.pointer (some ⟨r, 0, none⟩), .int .i64 fn, av] W fun e w' => e = .returned (.int .u32 (bodyD C n fn 0 (-1) (regD xs (fnOf C fn).regs.toNat) (begD d (fnOf C fn).slots.toNat)).1) ∧ (∃ v', DocM C W0 r w' (endC (bodyD C n fn 0 (-1) (regD xs (fnOf C fn).regs.toNat) (begD d (fnOf C fn).slots.toNat)).2 (fnOf C fn).slots) v') ∧ Kept (TurnC W0 W r) W w' := by
  have hFn := P.fn fn hfn
  have eF : C.p.funcs.getD fn fn0 = fnOf C fn := rfl
  rw [eF] at hFn
  obtain ⟨fb, fo, fcap, ef, hfc, hx⟩ := fn_at h hfn
  obtain ⟨x0, x1, x2, x3, x4⟩ := hx W h.below
  have c0 : W.cell? ⟨r, 0, none⟩ = some (.slice (some ⟨fb, fo, none⟩) C.p.funcs.length fcap) := by rw [← ef]; exact h.cell 0
  have hfi : (fn : Int) < C.p.funcs.length := by omega
  have hfi2 : (fn : Int) < fcap := by omega
  have hsl := hFn.sl
  have hrg := hFn.rg
  have hpa := hFn.pa
  have hll := hD.mem.l
  have hca := hD.ca
  have hsk := hD.mem.k
  have hgl := hD.mem.g
  obtain ⟨N, hN⟩ : ∃ N : Nat, (fnOf C fn).slots = N := ⟨(fnOf C fn).slots.toNat, by omega⟩
  obtain ⟨G, hG⟩ : ∃ G : Nat, (fnOf C fn).regs = G := ⟨(fnOf C fn).regs.toNat, by omega⟩
  obtain ⟨bb, bo, bcap, ebv, _, _⟩ := blocks_at h.pg hfn hFn.nb
  have hval : (fnOf C fn).val = .agg #[.string (fnOf C fn).nm, .int .i64 (fnOf C fn).params, .int .i64 G, .int .i64 N, .slice (some ⟨bb, bo, none⟩) (fnOf C fn).blocks.length bcap] := by unfold Fn.val; rw [ebv, hN, hG]
  rw [ebv] at x4
  rw [hG] at x2
  rw [hN] at x3
  have hyes1 : ¬ d.calls ≥ C.deep := fun e => hyes (.inl e)
  have hyes2 : 8126464 ≤ d.low - N := by rw [hN] at hyes; exact Classical.byContradiction fun e => hyes (.inr (by omega))
  have hyes3 : ¬ d.low - (N : Int) < 8126464 := by omega
  have hd1 : decide (d.calls ≥ C.deep) = false := decide_eq_false hyes1
  have hw3 : IntKind.i64.wrap (d.low - (N : Int)) = d.low - N := by simp [IntKind.wrap, IntKind.bits, IntKind.signed]; omega
  have hw4 : IntKind.i64.wrap (d.calls + 1) = d.calls + 1 := by simp [IntKind.wrap, IntKind.bits, IntKind.signed]; omega
  have hrW : r < W.heap.size := h.lt
  have hrs : ¬ r = W.heap.size := by omega
  have hsr : ¬ W.heap.size = r := by omega
  have hW0 : W0.heap.size ≤ W.heap.size := h.below.size
  have HM := hid' ((MidC.start h).on (below1 W (.cells #[.string (fnOf C fn).nm, .int .i64 (fnOf C fn).params, .int .i64 G, .int .i64 N, .slice (some ⟨bb, bo, none⟩) (fnOf C fn).blocks.length bcap] 49)))
  have hbx := heap_alloc_new W (.cells #[.string (fnOf C fn).nm, .int .i64 (fnOf C fn).params, .int .i64 G, .int .i64 N, .slice (some ⟨bb, bo, none⟩) (fnOf C fn).blocks.length bcap] 49)
  have HBX := hid' hbx
  obtain ⟨BA, hBA0, hrowA⟩ := hav
  have hHr := h.rc
  have HAV : Hid (∀ w, Kept (TurnC W0 W r) W w → w.ownsRow BA 79 1 av xs.length (flat ucel xs)) := fun w hK => hK.owns hrowA (fun b hb e => by
    obtain ⟨cu, hcu⟩ := own_block hrowA hb
    rcases e with e | ⟨_, cs, fr, e⟩
    · subst e
      rw [hcu] at hHr
      injection hHr with hHr
      injection hHr with _ h2
      exact absurd h2 (by decide)
    · rw [hcu] at e
      injection e with e
      injection e with _ h2
      exact absurd h2 (by decide))
  have k12 : (W.alloc (.cells #[.string (fnOf C fn).nm, .int .i64 (fnOf C fn).params, .int .i64 G, .int .i64 N, .slice (some ⟨bb, bo, none⟩) (fnOf C fn).blocks.length bcap] 49)).cell? ⟨r, 12, none⟩ = some (.int .i64 d.calls) := HM.out.doc.cell 12
  have k6 : (W.alloc (.cells #[.string (fnOf C fn).nm, .int .i64 (fnOf C fn).params, .int .i64 G, .int .i64 N, .slice (some ⟨bb, bo, none⟩) (fnOf C fn).blocks.length bcap] 49)).cell? ⟨r, 6, none⟩ = some (.int .i64 C.deep) := HM.out.doc.cell 6
  have k11 : (W.alloc (.cells #[.string (fnOf C fn).nm, .int .i64 (fnOf C fn).params, .int .i64 G, .int .i64 N, .slice (some ⟨bb, bo, none⟩) (fnOf C fn).blocks.length bcap] 49)).cell? ⟨r, 11, none⟩ = some (.int .i64 d.low) := HM.out.doc.cell 11
  have kf := HM.out.doc.fro
  have b3 : (W.alloc (.cells #[.string (fnOf C fn).nm, .int .i64 (fnOf C fn).params, .int .i64 G, .int .i64 N, .slice (some ⟨bb, bo, none⟩) (fnOf C fn).blocks.length bcap] 49)).cell? ⟨W.heap.size, 3, none⟩ = some (.int .i64 N) := by rw [cell_of_row _ _ 3 _ 49 (0, 0) hbx]; rfl
  have HD := hid' hD
  have HW := hid' hw
  have hB2 := hid' (hB fn (begD d N))
  have HP := hid' P
  have hxG : xs.length ≤ G := by omega
  have hG6 : G ≤ 65536 := by omega
  have hx12 : xs.length ≤ 12 := by omega
  have HXP := hid' hxs
  have HVAL := hid' hval
  have hregs : (fnOf C fn).regs.toNat = G := by omega
  have hslots : (fnOf C fn).slots.toNat = N := by omega
  rw [hregs, hslots, hN]
  generalize hQ : bodyD C n fn 0 (-1) (regD xs G) (begD d N) = Q
  have HQ := hid' hQ
  have HTO := hid' (⟨ht, ho⟩ : d.trap = 0 ∧ d.over = false)
  have hN6 : N ≤ 65536 := by omega
  have HGR := hid' hG
  have HH := hid' h
  clear hQ h hx ef ebv hD hFn ht ho hyes hB eF P hw hHr hrowA hxs hval hbx hregs hslots hN hG hsl hrg hpa
  go_enter Try.func19, Try.ntmps19
  go_wp2
  go_quiet (fail)
  go_wp2
  have M2 : MidC C W0 W r { d with calls := d.calls + 1 } v (((W.alloc (.cells #[.string (fnOf C fn).nm, .int .i64 (fnOf C fn).params, .int .i64 G, .int .i64 N, .slice (some ⟨bb, bo, none⟩) (fnOf C fn).blocks.length bcap] 49)).drewN nq).setCell ⟨r, 12, none⟩ (.int .i64 (d.calls + 1))) := (HM.out.on (drewB _ nq)).put 12 _ rfl rfl
  have X2 : (((W.alloc (.cells #[.string (fnOf C fn).nm, .int .i64 (fnOf C fn).params, .int .i64 G, .int .i64 N, .slice (some ⟨bb, bo, none⟩) (fnOf C fn).blocks.length bcap] 49)).drewN nq).setCell ⟨r, 12, none⟩ (.int .i64 (d.calls + 1))).heap[W.heap.size]? = some (.cells #[.string (fnOf C fn).nm, .int .i64 (fnOf C fn).params, .int .i64 G, .int .i64 N, .slice (some ⟨bb, bo, none⟩) (fnOf C fn).blocks.length bcap] 49 (0, 0)) := by
    rw [(setK _ r 12 _).block _ (by have := (Array.getElem?_eq_some_iff.1 HBX.out).1; exact this) hsr]
    exact HBX.out
  have HM2 := hid' M2
  have HX2 := hid' X2
  clear M2 X2 HM HBX b3 k12 k6 k11 kf
  generalize ((W.alloc (.cells #[.string (fnOf C fn).nm, .int .i64 (fnOf C fn).params, .int .i64 G, .int .i64 N, .slice (some ⟨bb, bo, none⟩) (fnOf C fn).blocks.length bcap] 49)).drewN nq).setCell ⟨r, 12, none⟩ (.int .i64 (d.calls + 1)) = w2 at *
  have hr2 := HM2.out.doc.lt
  have g11 : ∀ q : After w2, q.1.cell? ⟨r, 11, none⟩ = some (.int .i64 d.low) := fun q => keep_cell (HM2.out.doc.cell 11) q.2
  have gb3 : ∀ q : After w2, q.1.cell? ⟨W.heap.size, 3, none⟩ = some (.int .i64 N) := fun q => keep_cell (by rw [cell_of_row _ _ 3 _ 49 (0, 0) HX2.out]; rfl) q.2
  have gf : ∀ q : After w2, q.1.frozen? ⟨r, 11, none⟩ = false := fun q => (HM2.out.doc.on q.2).fro 11
  have hne := after_some w2
  refine region_after 10 mixed (by kernel_rfl) ?_
  simp only [List.take_succ_cons, List.take_zero, List.drop_succ_cons, List.drop_zero]
  repeat (first | go_big_quiet_step (fail) | quiet_step (fail))
  refine wpQuiet_nil ?_
  intro w6 hb6
  have f6 := gf ⟨w6, hb6⟩
  have c6 := g11 ⟨w6, hb6⟩
  dsimp only at f6 c6
  have M3 : MidC C W0 W r (zerD d N 0) v (w6.setCell ⟨r, 11, none⟩ (.int .i64 (d.low - N))) := (HM2.out.on hb6).put (d' := zerD d N 0) 11 _ rfl rfl
  have X3 : (w6.setCell ⟨r, 11, none⟩ (.int .i64 (d.low - N))).heap[W.heap.size]? = some (.cells #[.string (fnOf C fn).nm, .int .i64 (fnOf C fn).params, .int .i64 G, .int .i64 N, .slice (some ⟨bb, bo, none⟩) (fnOf C fn).blocks.length bcap] 49 (0, 0)) := by
    have hl := (Array.getElem?_eq_some_iff.1 HX2.out).1
    rw [(setK _ r 11 _).block _ (Nat.lt_of_lt_of_le hl hb6.size) hsr, hb6.block _ hl]
    exact HX2.out
  have HM3 := hid' M3
  have HX3 := hid' X3
  clear M3 X3 g11 gb3 gf
  go_wp2
  generalize w6.setCell ⟨r, 11, none⟩ (.int .i64 (d.low - (N : Int))) = w3 at *
  clear HM2 HX2
  go_loopw [8] (fun ii wr => ∃ k : Nat, k ≤ N ∧ ii = .int .i64 k ∧ MidC C W0 W r (zerD d N k) v wr ∧ wr.heap[W.heap.size]? = some (.cells #[.string (fnOf C fn).nm, .int .i64 (fnOf C fn).params, .int .i64 G, .int .i64 N, .slice (some ⟨bb, bo, none⟩) (fnOf C fn).blocks.length bcap] 49 (0, 0))) (fun ii _ => N - (intOf ii).toNat)
  case atStart => exact ⟨0, Nat.zero_le _, rfl, HM3.out, HX3.out⟩
  case round =>
    obtain ⟨k, hk, rfl, hM, hX⟩ := hrel
    have HMk := hid' hM
    have HXk := hid' hX
    have hlx := (Array.getElem?_eq_some_iff.1 hX).1
    have y3 : wr.cell? ⟨W.heap.size, 3, none⟩ = some (.int .i64 N) := by rw [cell_of_row _ _ 3 _ 49 (0, 0) hX]; rfl
    have y2 : wr.cell? ⟨W.heap.size, 2, none⟩ = some (.int .i64 G) := by rw [cell_of_row _ _ 2 _ 49 (0, 0) hX]; rfl
    clear hM hX HM3 HX3
    by_cases hlt : k < N
    · have hki : (k : Int) < N := by omega
      obtain ⟨O, hO⟩ : ∃ O : Nat, d.low - (N : Int) = 8126464 + O := ⟨(d.low - N - 8126464).toNat, by omega⟩
      have hz1 : (zerD d N k).sk.length = 262144 := by show (putL _ _ _).length = _; rw [putL_length]; exact hsk
      have hp : placeD (zerD d N k) (8126464 + (O : Int) + k) = some (true, O + k) := by
        unfold placeD
        have hg1 : (zerD d N k).gl.length = d.gl.length := rfl
        have hl1 : (zerD d N k).low = 8126464 + O := hO
        rw [if_neg (by omega), hl1, if_pos (by omega), show (8126464 + (O : Int) + k - 8126464).toNat = O + k by omega]
      have hzd : ({ zerD d N k with sk := (zerD d N k).sk.set (O + k) 0 } : Ds) = zerD d N (k + 1) := by
        unfold zerD
        rw [put_snoc, show (d.low - (N : Int) - 8126464).toNat = O by omega]
      have HZ : Hid (∀ w6, Below wr.heap.size wr w6 → MidC C W0 W r (zerD d N (k + 1)) v (w6.setCell ⟨v.kb, O + k, none⟩ (.int .u8 0)) ∧ (w6.setCell ⟨v.kb, O + k, none⟩ (.int .u8 0)).heap[W.heap.size]? = some (.cells #[.string (fnOf C fn).nm, .int .i64 (fnOf C fn).params, .int .i64 G, .int .i64 N, .slice (some ⟨bb, bo, none⟩) (fnOf C fn).blocks.length bcap] 49 (0, 0)) ∧ w6.frozen? ⟨v.kb, O + k, none⟩ = false ∧ ∃ z, w6.cell? ⟨v.kb, O + k, none⟩ = some (.int .u8 z)) := fun w6 hb6 => by
        have hm := HMk.out.on hb6
        have hz := hm.zero (b := 0) hp
        rw [hzd] at hz
        have hkb : v.kb < W.heap.size := (Array.getElem?_eq_some_iff.1 HH.out.ks).1
        refine ⟨hz, ?_, frozen_of_row w6 _ _ _ 5 hm.doc.ks, ?_⟩
        · rw [(setK _ v.kb (O + k) _).block _ (Nat.lt_of_lt_of_le hlx hb6.size) (by omega), hb6.block _ hlx]
          exact HXk.out
        · have hlk : O + k < (zerD d N k).sk.length := by omega
          refine ⟨(zerD d N k).sk[O + k], ?_⟩
          rw [cell_of_row w6 _ _ _ 5 (0, 0) hm.doc.ks, List.getElem?_toArray, flat_by]
          simp [hlk]
      have g10 : ∀ q : After wr, q.1.cell? ⟨r, 10, none⟩ = some (.slice (some ⟨v.kb, 0, none⟩) 262144 262144) := fun q => keep_cell (by have := HMk.out.doc.cell 10; rw [this]; show some (Value.slice _ (zerD d N k).sk.length (zerD d N k).sk.length) = _; rw [hz1]) q.2
      have g11 : ∀ q : After wr, q.1.cell? ⟨r, 11, none⟩ = some (.int .i64 (8126464 + (O : Int))) := fun q => keep_cell (by rw [← hO]; exact HMk.out.doc.cell 11) q.2
      have hw5 : IntKind.i64.wrap (8126464 + (O : Int) - 8126464) = O := by simp [IntKind.wrap, IntKind.bits, IntKind.signed]; omega
      have hw6 : IntKind.i64.wrap ((O : Int) + k) = ((O + k : Nat) : Int) := by simp [IntKind.wrap, IntKind.bits, IntKind.signed]; omega
      have hix : ((O + k : Nat) : Int) < 262144 := by omega
      have hne := after_some wr
      have hrlt := HMk.out.doc.lt
      clear hp hzd hz1 y2
      go_wp2
      refine region_after 12 mixed (by kernel_rfl) ?_
      simp only [List.take_succ_cons, List.take_zero, List.drop_succ_cons, List.drop_zero]
      repeat (first | go_big_quiet_step (fail) | quiet_step (fail))
      refine wpQuiet_nil ?_
      intro w6 hb6
      obtain ⟨m6, x6, f6, z6, c6⟩ := HZ.out w6 hb6
      have HM6 := hid' m6
      have HX6 := hid' x6
      clear m6 x6 g10 g11
      go_wp2
      refine ⟨⟨k + 1, by omega, by go_num, HM6.out, HX6.out⟩, ?_⟩
      simp [intOf]
      omega
    · have e : k = N := by omega
      subst e
      have hfin : zerD d k k = begD d k := rfl
      rw [hfin] at HMk
      have hmk : ∀ W : World, _ := fun W => run_regs W hG6
      have HM5 := hid' (HMk.out.on (below1 wr (.cells (Array.replicate G (.int .u32 0)) 79)))
      have HX5 : Hid ((wr.alloc (.cells (Array.replicate G (.int .u32 0)) 79)).heap[W.heap.size]? = some (.cells #[.string (fnOf C fn).nm, .int .i64 (fnOf C fn).params, .int .i64 G, .int .i64 k, .slice (some ⟨bb, bo, none⟩) (fnOf C fn).blocks.length bcap] 49 (0, 0))) := by
        rw [Below.heap_alloc _ _ _ hlx]
        exact HXk.out
      have HR5 : Hid (RegM W0 (wr.alloc (.cells (Array.replicate G (.int .u32 0)) 79)) wr.heap.size (regK xs G 0)) := by
        refine ⟨by omega, ?_⟩
        rw [heap_alloc_new, regK_zero, flat_repU, List.toArray_replicate]
      have hki : ¬ (k : Int) < k := by omega
      have hWle : W.heap.size ≤ wr.heap.size := by omega
      go_wp2
      generalize wr.alloc (.cells (Array.replicate G (.int .u32 0)) 79) = w5 at *
      generalize wr.heap.size = gb at *
      go_loopw [10] (fun ii wq => ∃ j : Nat, j ≤ xs.length ∧ ii = .int .i64 j ∧ MidC C W0 W r (begD d k) v wq ∧ wq.heap[W.heap.size]? = some (.cells #[.string (fnOf C fn).nm, .int .i64 (fnOf C fn).params, .int .i64 G, .int .i64 k, .slice (some ⟨bb, bo, none⟩) (fnOf C fn).blocks.length bcap] 49 (0, 0)) ∧ RegM W0 wq gb (regK xs G j)) (fun ii _ => xs.length - (intOf ii).toNat)
      case atStart => exact ⟨0, Nat.zero_le _, rfl, HM5.out, HX5.out, HR5.out⟩
      case round =>
        obtain ⟨j, hj, rfl, hM, hX, hR⟩ := hrel
        have HMj := hid' hM
        have HXj := hid' hX
        have HRj := hid' hR
        obtain ⟨ao, acap, eav, hacap, hao⟩ := own_len2 (HAV.out wr hM.kept)
        have hlx2 := (Array.getElem?_eq_some_iff.1 hX).1
        clear hM hX hR HM5 HX5 HR5
        subst eav
        by_cases hjl : j < xs.length
        · obtain ⟨ab, rfl⟩ := hao (by omega)
          have xa := World.ownsRow.cellAt (HAV.out wr HMj.out.kept) j (by omega)
          have hfl : (flat ucel xs)[j]? = some (.int .u32 xs[j]) := by
            have := flat_get uc1 xs j 0 hjl (by decide)
            simp only [Nat.mul_one, Nat.add_zero] at this
            rw [this]
            rfl
          rw [hfl] at xa
          have hgl : j < (regK xs G j).length := by rw [regK_len xs hj hxG]; omega
          obtain ⟨rc, rf⟩ := HRj.out.cell hgl
          have hji : (j : Int) < xs.length := by omega
          have hjc : (j : Int) < acap := by omega
          have hjg : (j : Int) < G := by omega
          have HN : Hid (MidC C W0 W r (begD d k) v (wr.setCell ⟨gb, j, none⟩ (.int .u32 xs[j])) ∧ (wr.setCell ⟨gb, j, none⟩ (.int .u32 xs[j])).heap[W.heap.size]? = some (.cells #[.string (fnOf C fn).nm, .int .i64 (fnOf C fn).params, .int .i64 G, .int .i64 k, .slice (some ⟨bb, bo, none⟩) (fnOf C fn).blocks.length bcap] 49 (0, 0)) ∧ RegM W0 (wr.setCell ⟨gb, j, none⟩ (.int .u32 xs[j])) gb (regK xs G (j + 1))) := by
            refine ⟨HMj.out.regs hWle HRj.out.rc hW0 _ _, ?_, by rw [← regK_succ xs hjl hxG]; exact HRj.out.set j _⟩
            rw [(setK _ gb j _).block _ hlx2 (fun e => ?_)]
            · exact HXj.out
            · have h1 := HXj.out
              rw [e, HRj.out.rc] at h1
              injection h1 with h1
              injection h1 with _ h2
              exact absurd h2 (by decide)
          clear hfl hgl
          generalize xs[j] = xj at *
          go_wp2
          refine ⟨⟨j + 1, by omega, by go_num, HN.out⟩, ?_⟩
          simp [intOf]
          omega
        · have e : j = xs.length := by omega
          subst e
          have hRj := HRj.out
          rw [regK_all] at hRj
          have hrlen : (regD xs G).length = G := (regD_ok HW.out hxG).2
          have h31 := hB2.out v wr gb (regD xs G) hfn (by rw [hrlen]; exact HGR.out.symm) (regD_ok HW.out hxG).1 (HD.out.beg hyes2) hf HTO.out.1 HTO.out.2 HMj.out.doc hRj
          rw [HQ.out, HVAL.out, hrlen] at h31
          have y0 : ∀ c, wr.cell? ⟨W.heap.size, c, none⟩ = (#[.string (fnOf C fn).nm, .int .i64 (fnOf C fn).params, .int .i64 G, .int .i64 k, .slice (some ⟨bb, bo, none⟩) (fnOf C fn).blocks.length bcap] : Array Value)[c]? := fun c => cell_of_row _ _ c _ 49 (0, 0) HXj.out
          have z0 := y0 0
          have z1 := y0 1
          have z2 := y0 2
          have z3 := y0 3
          have z4 := y0 4
          simp only [List.getElem?_toArray, List.getElem?_cons_succ, List.getElem?_cons_zero] at z0 z1 z2 z3 z4
          have hbk := body_keep HP.out n fn 0 (-1) (regD xs G) (begD d k) hfn (HP.out.fn fn hfn).nb (regD_ok HW.out hxG).1 (by rw [hrlen]; exact HGR.out.symm) (HD.out.beg hyes2) HTO.out.1 HTO.out.2 hf
          rw [HQ.out] at hbk
          have HBK := hid' hbk
          have hbg : ¬ W.heap.size = gb := fun e => by
            have h1 := HXj.out
            rw [e, hRj.rc] at h1
            injection h1 with h1
            injection h1 with _ h2
            exact absurd h2 (by decide)
          clear hbk hRj y0
          go_wp2_with (go_at_call 31; refine h31.mono ?_; rintro e1 w7 ⟨rfl, ⟨v7, hD7⟩, hK7⟩; have HM7 := hid' (HMj.out.body hWle hD7 hK7); have HX7 := hid' (by rw [hK7.block _ hlx2 (no_turnD HXj.out (by decide) hsr hbg)]; exact HXj.out : w7.heap[W.heap.size]? = some (.cells #[.string (fnOf C fn).nm, .int .i64 (fnOf C fn).params, .int .i64 G, .int .i64 k, .slice (some ⟨bb, bo, none⟩) (fnOf C fn).blocks.length bcap] 49 (0, 0))); clear hD7 hK7)
          have hql : Q.2.low = d.low - k := HBK.out.keep.low
          have hqc : Q.2.calls = d.calls + 1 := HBK.out.keep.calls
          have hw7 : IntKind.i64.wrap (d.low - (k : Int) + k) = d.low - k + k := by simp [IntKind.wrap, IntKind.bits, IntKind.signed]; omega
          have g11 : ∀ q : After w7, q.1.cell? ⟨r, 11, none⟩ = some (.int .i64 (d.low - k)) := fun q => keep_cell (by rw [← hql]; exact HM7.out.doc.cell 11) q.2
          have gb3 : ∀ q : After w7, q.1.cell? ⟨W.heap.size, 3, none⟩ = some (.int .i64 k) := fun q => keep_cell (by rw [cell_of_row _ _ 3 _ 49 (0, 0) HX7.out]; rfl) q.2
          have gf : ∀ q : After w7, (∀ j, q.1.frozen? ⟨r, j, none⟩ = false) ∧ q.1.cell? ⟨r, 12, none⟩ = some (.int .i64 (d.calls + 1)) ∧ MidC C W0 W r Q.2 v7 q.1 := fun q => ⟨(HM7.out.doc.on q.2).fro, by rw [← hqc]; exact (HM7.out.doc.on q.2).cell 12, HM7.out.on q.2⟩
          have GF := hid' gf
          have hne := after_some w7
          clear gf
          refine region_after 10 mixed (by kernel_rfl) ?_
          simp only [List.take_succ_cons, List.take_zero, List.drop_succ_cons, List.drop_zero]
          repeat (first | go_big_quiet_step (fail) | quiet_step (fail))
          refine wpQuiet_nil ?_
          intro w8 hb8
          obtain ⟨f8, c12, m8⟩ := GF.out ⟨w8, hb8⟩
          dsimp only at f8 c12 m8
          have c11 := g11 ⟨w8, hb8⟩
          dsimp only at c11
          have HM8 := hid' m8
          clear g11 gb3 m8
          have hw9 : IntKind.i64.wrap (d.calls + 1 - 1) = d.calls + 1 - 1 := by simp [IntKind.wrap, IntKind.bits, IntKind.signed]; omega
          go_wp2
          go_ret
          have hfin := (HM8.out.put (d' := { Q.2 with low := d.low }) 11 (.int .i64 d.low) rfl rfl).put (d' := { Q.2 with low := d.low, calls := d.calls }) 12 (.int .i64 d.calls) rfl rfl
          have he : endC Q.2 k = { Q.2 with low := d.low, calls := d.calls } := by unfold endC; rw [hql, hqc, Int.sub_add_cancel, Int.add_sub_cancel]
          rw [he]
          exact ⟨rfl, ⟨_, hfin.doc⟩, hfin.kept⟩
/-- The document's body and call do what they tell. -/
theorem call19 (P : PgOk C.p) {n : Nat} (hB : BodyOk C W0 r n) : CallOk C W0 r (callD C (bodyD C n)) n := by
  intro fn xs d v W av hfn hxs hw hD hf ht ho h hav
  unfold callD
  by_cases hno : C.deep ≤ d.calls ∨ d.low - (fnOf C fn).slots < 8126464
  · rw [if_pos hno]
    exact call19_no P (xs := xs) hfn hD h ht hno
  · rw [if_neg hno]
    exact call19_yes P hB hfn hxs hw hD hf h ht ho hav hno
theorem both_ok (P : PgOk C.p) (hin : C.input.size ≤ 281474976710656) : ∀ n, ∀ k, k < n → CallOk C W0 r (callD C (bodyD C k)) k
  | 0, k, hk => by omega
  | n + 1, k, hk => by
    by_cases e : k = n
    · subst e
      exact call19 P (body31 P hin (both_ok P hin k))
    · exact both_ok P hin n k (by omega)
theorem call19_all (P : PgOk C.p) (hin : C.input.size ≤ 281474976710656) (n : Nat) : CallOk C W0 r (callD C (bodyD C n)) n := both_ok P hin (n + 1) n (by omega)
end
end Go.Proofs.Ytiehlkhpblldaaa
