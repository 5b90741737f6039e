/- The document's Count and Run, as they are called. -/
import Derived.Test.YtiehlkhpblldaaaG52
import Derived.Test.YtiehlkhpblldaaaG53
set_option linter.unusedVariables false
set_option linter.unusedSimpArgs false
set_option maxRecDepth 20000
set_option maxHeartbeats 8000000
namespace Go.Proofs.Ytiehlkhpblldaaa
open Go.RowKit Go.Maps
theorem count12 {W : World} {p : Pg} (hp : Pg.ok W p) {input : ByteArray} (hin : input.size ≤ big2) {fuel deep sf sa : Int} (hfu : fuel ≤ 32768) {sv : Value} {sl : List Int} (hsv : Src icell W sv sl) (hsl : sl.length * 8 ≤ big) :
    Calls Try.prog 12 #[p.val, .string input, .int .i64 fuel, .int .i64 deep, .int .i64 sa, sv, .int .i64 sf] W fun e w' => e = .returned (.tuple #[.int .i64 (dcntN p input fuel deep sf sa sv sl), (dcntE p input fuel deep sf sa sv sl).val]) ∧ Below W.heap.size W w' := by
  unfold dcntN dcntE
  cases h : pgF p with
  | false =>
    rw [if_neg (by decide), if_neg (by decide)]
    exact count12_no hp h
  | true =>
    rw [if_pos rfl, if_pos rfl]
    exact count12_yes hp hin hfu hsv hsl h
/-- What the document's Run tells. -/
def drunE (p : Pg) (input : ByteArray) (fuel deep : Int) : En := dcntE p input fuel deep (-1) 0 (.slice none 0 0) []
theorem run10 {W : World} {p : Pg} (hp : Pg.ok W p) {input : ByteArray} (hin : input.size ≤ big2) {fuel deep : Int} (hfu : fuel ≤ 32768) :
    Calls Try.prog 10 #[p.val, .string input, .int .i64 fuel, .int .i64 deep] W fun e w' => e = .returned (drunE p input fuel deep).val ∧ Below W.heap.size W w' := by
  have H12 : Hid (∀ w1, Below W.heap.size W w1 → _) := fun w1 h => count12 (hp.on h) hin (deep := deep) (sf := -1) (sa := 0) hfu (sv := .slice none 0 0) (sl := []) (.inl ⟨rfl, _, _, rfl⟩) (by simp)
  unfold drunE
  generalize dcntE p input fuel deep (-1) 0 (.slice none 0 0) [] = E at *
  generalize dcntN p input fuel deep (-1) 0 (.slice none 0 0) [] = N at *
  obtain ⟨k, c, t, o, u⟩ := E
  obtain ⟨fv, funcs, gl, dv, data, main⟩ := p
  unfold Pg.val En.val at *
  dsimp only at *
  clear hp hin hfu
  go_enter Try.func10, Try.ntmps10
  go_wp2_with (go_at_call 12; refine (H12.out _ (below2 _ _ _)).mono ?_; rintro e1 w1 ⟨rfl, hb1⟩; obtain ⟨_, hr1, hB1, hs1⟩ := blk2 hb1; have HR1 := hid' hr1; have HB1 := hid' hB1; obtain ⟨c0, c1, c2, c3, c4, cf⟩ := res5 hr1; have hne : ¬ W.heap.size + 1 = w1.heap.size := (by omega); clear hr1 hB1 hb1)
  obtain ⟨h9, hK⟩ := set5 (w := w1) (u0 := .int .i64 k) (u1 := .int .i32 c) (u2 := .int .i64 t) (u3 := .string o) (u4 := .int .i64 u) HR1.out
  clear c0 c1 c2 c3 c4 cf
  generalize ((((w1.setCell ⟨W.heap.size + 1, 0, none⟩ (.int .i64 k)).setCell ⟨W.heap.size + 1, 1, none⟩ (.int .i32 c)).setCell ⟨W.heap.size + 1, 2, none⟩ (.int .i64 t)).setCell ⟨W.heap.size + 1, 3, none⟩ (.string o)).setCell ⟨W.heap.size + 1, 4, none⟩ (.int .i64 u) = w9 at *
  have hB9 : Below W.heap.size W w9 := HB1.out.trans (hK.below HB1.out.size (fun q e => by omega))
  have h10 : (w9.alloc (.cells #[.int .i64 k, .int .i32 c, .int .i64 t, .string o, .int .i64 u] 31)).heap[W.heap.size + 1]? = some (.cells #[.int .i64 k, .int .i32 c, .int .i64 t, .string o, .int .i64 u] 31 (0, 0)) := by rw [Below.heap_alloc _ _ _ (by have := hK.size; omega)]; exact h9
  have hB10 : Below W.heap.size W (w9.alloc (.cells #[.int .i64 k, .int .i32 c, .int .i64 t, .string o, .int .i64 u] 31)) := hB9.alloc hB9.size _
  generalize w9.alloc (.cells #[.int .i64 k, .int .i32 c, .int .i64 t, .string o, .int .i64 u] 31) = w10 at *
  obtain ⟨d0, d1, d2, d3, d4, df⟩ := res5 h10
  exact bodyPost_ret (v := .agg #[.int .i64 k, .int .i32 c, .int .i64 t, .string o, .int .i64 u]) (by simp [results, Try.results10, go_sem, d0, d1, d2, d3, d4]) rfl ⟨rfl, hB10⟩
end Go.Proofs.Ytiehlkhpblldaaa
namespace Go.Proofs.Ytiehlkhpblldaaa
open Go.RowKit Go.Maps
section
variable {C : Cst}
theorem run_same {s : St} {j k : Nat} (hj : (runN C j s).kind ≠ 0) (hk : (runN C k s).kind ≠ 0) : runN C j s = runN C k s := by
  rcases Nat.le_total j k with h | h
  · obtain ⟨e, rfl⟩ := Nat.exists_eq_add_of_le h
    rw [runN_add, runN_end C hj]
  · obtain ⟨e, rfl⟩ := Nat.exists_eq_add_of_le h
    rw [runN_add, runN_end C hk]
theorem d0_ok (P : PgOk C.p) {fuel : Int} (hf : fuel ≤ 32768) : DOk C 1 (d0D C.p fuel C.p.data.length) := by
  have hg := P.gl
  have hl : (laidN C.p C.p.data.length).length = C.p.global.toNat := laidN_len _ _
  refine ⟨⟨by show (laidN C.p _).length ≤ 65536; rw [hl]; omega, stk_len, by show (8126464 : Int) ≤ 8388608 ∧ (8388608 : Int) ≤ 8388608; decide⟩, ⟨fun o => ?_, fun o => ?_⟩, hf, by show (0 : Int) ≤ 0 ∧ (0 : Int) + fuel.toNat + 1 ≤ 40000; omega, by show 0 + fuel.toNat + 1 ≤ 40000; omega, Nat.zero_le _, by show (0 : Int) ≤ 0 ∧ (0 : Int) + fuel.toNat + 1 ≤ 40000; omega, fun k hk => by cases hk⟩
  · have hc := (st0_core P fuel).mem.gb
    exact bytes_get2 hc o
  · show 0 ≤ stk0.getD o 0 ∧ stk0.getD o 0 < 256
    exact bytes_get2 (bytes_rep 262144) o
theorem st0_rel (p : Pg) (fuel : Int) : RelM (st0 p fuel) (d0D p fuel p.data.length) := by
  have hcur : ∀ fn i, cur (st0 p fuel) fn i = ⟨0, 0⟩ := fun fn i => by
    unfold cur regsOf
    have : (st0 p fuel).banks.getD fn none = none := by
      show (List.replicate p.funcs.length (none : Option (List Rg))).getD fn none = none
      simp only [List.getD]
      rw [List.getElem?_replicate]
      split <;> rfl
    rw [this]
    rfl
  refine ⟨rfl, rfl, rfl, rfl, rfl, ⟨rfl, rfl, fun a h1 h2 => ?_⟩, rfl, rfl, rfl, ⟨fun fn i => ?_, fun e he => by cases he⟩⟩
  · have h1 : (8388608 : Int) ≤ a := h1
    omega
  · rw [hcur]
    exact Int.le_refl _
/-- The same comes of both machines. -/
theorem both_same (P : PgOk C.p) {fuel : Int} (hf : fuel ≤ 32768) : (runF C fuel).times = (runD C fuel).2.count ∧ enOf (runF C fuel) = enD (runD C fuel) := by
  have hend := runF_ends P hf
  have hm := P.main
  have hpm := P.pm
  have hk := st1_kpt P hf
  have h := sim_enter P (sim P (fuel.toNat + 1)) (st0_rel C.p fuel) (st0_core P fuel) (fun c hc => by cases hc) (fn := C.p.main.toNat) (by omega) (xs := []) (by show (0 : Int) = _; exact hpm.symm) (fun k => by simp [List.getD]) (d0_ok P hf) rfl rfl (m := fuel.toNat + 1) (by show fuel.toNat < _; omega) (by show fuel.toNat < _; omega) hk
  unfold runD callD
  have est : entF C (st0 C.p fuel) C.p.main.toNat (fnOf C C.p.main.toNat) [] = st1 C fuel := rfl
  rw [est] at h
  rcases h with ⟨g1, g2⟩ | ⟨g1, nc, g2, k, g3⟩
  · rw [if_pos g1]
    have e : runF C fuel = trapF (st0 C.p fuel) 3 := by
      unfold runF
      rw [g2]
      exact runN_end C (by show (2 : Int) ≠ 0; decide) _
    rw [e]
    refine ⟨rfl, ?_⟩
    unfold enD
    rw [if_neg (show ¬ (({ d0D C.p fuel C.p.data.length with trap := 3 } : Ds).over = true) by show ¬ (false = true); decide)]
    rfl
  · rw [if_neg g1]
    generalize bodyD C (fuel.toNat + 1) C.p.main.toNat 0 (-1) (regD [] (fnOf C C.p.main.toNat).regs.toNat) (begD (d0D C.p fuel C.p.data.length) (fnOf C C.p.main.toNat).slots.toNat) = q at *
    have hrun : (runN C k (st1 C fuel)).kind ≠ 0 → runF C fuel = runN C k (st1 C fuel) := fun hk' => run_same hend hk'
    rcases g3 with ⟨o1, o2, o3, o4⟩ | ⟨o1, o2, o3, o4, o5⟩ | ⟨o1, o2, s0, c0, l0, o3, o4, o5⟩
    · have e := hrun (by rw [o2]; decide)
      rw [e]
      refine ⟨o4.times, ?_⟩
      unfold enD enOf
      have ho : (endC q.2 (fnOf C C.p.main.toNat).slots).over = true := o1
      rw [if_pos ho, if_pos ho, if_pos ho, o2, o3, o4.code, o4.out, o4.used]
      rfl
    · have e := hrun (by rw [o3]; decide)
      rw [e]
      refine ⟨o5.times, ?_⟩
      unfold enD enOf
      have ho : ¬ (endC q.2 (fnOf C C.p.main.toNat).slots).over = true := by show ¬ q.2.over = true; rw [o1]; decide
      have htr : (endC q.2 (fnOf C C.p.main.toNat).slots).trap ≠ 0 := o2
      rw [if_neg ho, if_neg ho, if_neg ho, if_pos htr, if_pos htr, o3, o4, o5.code, o5.out, o5.used]
      rfl
    · have hN : (fnOf C c0.fn).slots = (fnOf C C.p.main.toNat).slots := by rw [o5, g2]
      obtain ⟨a1, a2, a3, a4, a5, a6⟩ := left_all P o4 hN
      have hlv : levF C s0 c0 q.1 = exitS (leftS s0 c0 (fnOf C C.p.main.toNat).slots) q.1 := by
        unfold levF
        dsimp only
        rw [hN, a3]
        rfl
      rw [hlv] at o3
      have e := hrun (by rw [o3]; show (1 : Int) ≠ 0; decide)
      rw [e, o3]
      refine ⟨a1.times, ?_⟩
      unfold enD enOf exitS
      have ho : ¬ (endC q.2 (fnOf C C.p.main.toNat).slots).over = true := by show ¬ q.2.over = true; rw [o1]; decide
      have htr : ¬ (endC q.2 (fnOf C C.p.main.toNat).slots).trap ≠ 0 := fun z => z o2
      rw [if_neg ho, if_neg ho, if_neg ho, if_neg htr, if_neg htr]
      have t0 : (endC q.2 (fnOf C C.p.main.toNat).slots).trap = 0 := o2
      rw [t0]
      dsimp only
      rw [a1.trap, a1.out, a1.used]
end
theorem cnt_same (p : Pg) (input : ByteArray) {fuel : Int} (deep sf sa : Int) (sv : Value) (sl : List Int) (hf : fuel ≤ 32768) : cntN p input fuel deep sf sa sv sl = dcntN p input fuel deep sf sa sv sl ∧ cntE p input fuel deep sf sa sv sl = dcntE p input fuel deep sf sa sv sl := by
  unfold cntN cntE dcntN dcntE
  cases h : pgF p with
  | false => exact ⟨rfl, rfl⟩
  | true =>
    rw [if_pos rfl, if_pos rfl, if_pos rfl, if_pos rfl]
    exact both_same (C := cstOf p input deep sf sa sv sl) (pg_ok h) hf
theorem run_alike (p : Pg) (input : ByteArray) {fuel : Int} (deep : Int) (hf : fuel ≤ 32768) : runE p input fuel deep = drunE p input fuel deep := (cnt_same p input deep (-1) 0 (.slice none 0 0) [] hf).2
end Go.Proofs.Ytiehlkhpblldaaa
namespace Go.Proofs.Ytiehlkhpblldaaa
open Go.RowKit Go.Maps
section
variable {W : World} {p : Pg} {x : ByteArray} {f g : Int}
theorem light_fuel (h : lightF p f = true) : f ≤ 32768 := by
  unfold lightF at h
  simp only [Bool.and_eq_true, decide_eq_true_eq] at h
  exact h.1
set_option maxHeartbeats 20000000 in
theorem runs3_no (hp : Pg.ok W p) (h : lightF p f = false) :
    Calls Try.prog 3 #[p.val, .string x, .agg #[.int .i64 f, .int .i64 g]] W fun e w' => e = .returned (.bool true) ∧ Below W.heap.size W w' := by
  have H7 : Hid (∀ w1, Below W.heap.size W w1 → _) := fun w1 hb => light7 (hp.on hb) f g
  rw [h] at H7
  obtain ⟨fv, funcs, gl, dv, data, main⟩ := p
  unfold Pg.val at *
  dsimp only at *
  clear hp h
  go_enter Try.func3, Try.ntmps3
  go_wp2
  go_quiet (fail)
  go_wp2_with (first
    | (go_at_call 7; refine (H7.out _ (bdrew (below2 _ _ _) _)).mono ?_; rintro e1 w1 ⟨rfl, hb1⟩)
    | (go_at_call 8; refine (awake8 _).mono ?_; rintro e3 w3 ⟨rfl, hb3⟩))
  go_ret
  exact ⟨rfl, below_up (below_up (bdrew (below2 _ _ _) _) hb1) hb3⟩
set_option maxHeartbeats 20000000 in
theorem runs3_yes (hp : Pg.ok W p) (hx : x.size ≤ big2) (h : lightF p f = true) :
    Calls Try.prog 3 #[p.val, .string x, .agg #[.int .i64 f, .int .i64 g]] W fun e w' => e = .returned (.bool true) ∧ Below W.heap.size W w' := by
  have hfu := light_fuel h
  have H7 : Hid (∀ w1, Below W.heap.size W w1 → _) := fun w1 hb => light7 (hp.on hb) f g
  have H9 : Hid (∀ w1, Below W.heap.size W w1 → _) := fun w1 hb => run9 (hp.on hb) hx (fuel := f) (deep := g) hfu
  have H10 : Hid (∀ w1, Below W.heap.size W w1 → _) := fun w1 hb => run10 (hp.on hb) hx (fuel := f) (deep := g) hfu
  rw [← run_alike p x g hfu] at H10
  rw [h] at H7
  generalize runE p x f g = E at *
  obtain ⟨k, c, t, o, u⟩ := E
  obtain ⟨fv, funcs, gl, dv, data, main⟩ := p
  unfold Pg.val En.val at *
  dsimp only at *
  clear hp h hx hfu
  go_enter Try.func3, Try.ntmps3
  go_wp2
  go_quiet (fail)
  go_wp2_with (go_at_call 7; refine (H7.out _ (bdrew (below2 _ _ _) _)).mono ?_; rintro e1 w1 ⟨rfl, hb1⟩; have HB1 : Hid (Below W.heap.size W w1) := below_up (bdrew (below2 _ _ _) _) hb1; have hq := cells4 hb1; obtain ⟨q0, q1, q2, q3⟩ := hq; clear hb1)
  have r0 : ∀ t : After w1, t.1.cell? ⟨W.heap.size, 0, none⟩ = some fv := fun t => keep_cell q0 t.2
  have r1 : ∀ t : After w1, t.1.cell? ⟨W.heap.size, 1, none⟩ = some (.int .i64 gl) := fun t => keep_cell q1 t.2
  have r2 : ∀ t : After w1, t.1.cell? ⟨W.heap.size, 2, none⟩ = some dv := fun t => keep_cell q2 t.2
  have r3 : ∀ t : After w1, t.1.cell? ⟨W.heap.size, 3, none⟩ = some (.int .i64 main) := fun t => keep_cell q3 t.2
  have K9 : ∀ t : After w1, _ := fun t => Calls.after t (H9.out t.1 (below_up HB1.out t.2))
  have K10 : ∀ t : After w1, _ := fun t => Calls.after t (H10.out t.1 (below_up HB1.out t.2))
  have K8 : ∀ t : After w1, _ := fun t => Calls.after t (awake8 t.1)
  have hne := after_some w1
  clear q0 q1 q2 q3
  refine region_after 14 mixed (by kernel_rfl) ?_
  simp only [List.take_succ_cons, List.take_zero, List.drop_succ_cons, List.drop_zero]
  repeat (first | go_big_quiet_step (first | with_reducible exact K9 _ | with_reducible exact K10 _ | with_reducible exact K8 _) | quiet_step (first | with_reducible exact K9 _ | with_reducible exact K10 _ | with_reducible exact K8 _))
  refine wpQuiet_nil ?_
  intro w6 hb6
  go_wp2
  go_ret
  exact ⟨rfl, below_up HB1.out hb6⟩
/-- The law. -/
theorem runs3 (hp : Pg.ok W p) (hx : x.size ≤ big2) :
    Calls Try.prog 3 #[p.val, .string x, .agg #[.int .i64 f, .int .i64 g]] W fun e w' => e = .returned (.bool true) ∧ Below W.heap.size W w' := by
  cases h : lightF p f with
  | false => exact runs3_no hp h
  | true => exact runs3_yes hp hx h
end
end Go.Proofs.Ytiehlkhpblldaaa
