/- The document's Count. -/
import Derived.Test.YtiehlkhpblldaaaH44
import Derived.Test.YtiehlkhpblldaaaH50
set_option linter.unusedVariables false
set_option linter.unusedSimpArgs false
set_option maxRecDepth 20000
set_option maxHeartbeats 8000000
namespace Go.Proofs.Ytiehlkhpblldaaa
open Go.RowKit Go.Maps
/-- The stack as it begins. -/
def stk0 : List Int := List.replicate 262144 0
/-- The run ahead of its first call, k of the program's fills laid. -/
def d0D (p : Pg) (fuel : Int) (k : Nat) : Ds := ⟨fuel, 0, [], laidN p k, stk0, 8388608, 0, 0, false, 0⟩
/-- What the document's run comes to. -/
def runD (C : Cst) (fuel : Int) : Int × Ds := callD C (bodyD C (fuel.toNat + 1)) C.p.main.toNat [] (d0D C.p fuel C.p.data.length)
def enD (q : Int × Ds) : En := ⟨if q.2.over then 3 else if q.2.trap ≠ 0 then 2 else 1, if q.2.over then 0 else if q.2.trap ≠ 0 then 0 else wrap32 q.1, if q.2.over then 0 else q.2.trap, strOfNums q.2.out, q.2.used⟩
def dcntN (p : Pg) (input : ByteArray) (fuel deep sf sa : Int) (sv : Value) (sl : List Int) : Int := if pgF p then (runD (cstOf p input deep sf sa sv sl) fuel).2.count else 0
def dcntE (p : Pg) (input : ByteArray) (fuel deep sf sa : Int) (sv : Value) (sl : List Int) : En := if pgF p then enD (runD (cstOf p input deep sf sa sv sl) fuel) else enBad
theorem stk_len : stk0.length = 262144 := by unfold stk0; rw [List.length_replicate]
theorem flat_repB (n : Nat) : flat bcel (List.replicate n 0) = List.replicate n (.int .u8 0) := by
  induction n with
  | zero => rfl
  | succ n ih => rw [List.replicate_succ, List.replicate_succ, flat_cons, ih]; rfl
theorem run_bytes (w : World) {n : Nat} (hn : n ≤ 16777216) : (Instr.makeSlice 59 (.int .i64 n) (.int .i64 n)).run Try.prog w = .ok (.slice (some ⟨w.heap.size, 0, none⟩) n n) (w.alloc (.cells (Array.replicate n (.int .u8 0)) 5)) := by
  obtain ⟨i0, hi, e0, e1, e2⟩ := info_parts (show (Try.prog.info? 5).map (fun i => (i.zero, i.size, i.bytes)) = some (some (.int .u8 0), 1, 1) by kernel_rfl)
  have hr := run_make (P := Try.prog) w 59 5 i0 (.int .u8 0) Try.underlying59 hi e0 .i64 .i64 (n : Nat) (n : Nat) (by omega) (Int.le_refl _) (by rw [e2]; omega) (by omega)
  rw [hr]
  have e3 : madeCells (Value.int IntKind.u8 0).cells (n * 1) = Array.replicate n (.int .u8 0) := by
    rw [← List.toArray_replicate, ← made1, Array.toArray_toList]
    rfl
  rw [Int.toNat_natCast, e1, e3]
theorem run_stack : ∃ Z : Array Value, Z = (flat bcel stk0).toArray ∧ ∀ w : World, (Instr.makeSlice 59 (.int .i64 262144) (.int .i64 262144)).run Try.prog w = .ok (.slice (some ⟨w.heap.size, 0, none⟩) 262144 262144) (w.alloc (.cells Z 5)) := by
  refine ⟨_, rfl, fun w => ?_⟩
  have h := run_bytes w (n := 262144) (by omega)
  have e : (flat bcel stk0).toArray = Array.replicate 262144 (.int .u8 0) := by
    unfold stk0
    rw [flat_repB, List.toArray_replicate]
  rw [e]
  exact h
section
variable {C : Cst} {W0 W : World}
/-- The document's run is made. -/
theorem doc_begins {p : Pg} {input : ByteArray} {deep sf sa fuel : Int} {sv : Value} {sl : List Int} (hp : Pg.ok W0 p) (hsv : Src icell W0 sv sl) (hsl : sl.length * 8 ≤ big) (hB : Below W0.heap.size W0 W) {gb kb : Nat} (hgb : W0.heap.size ≤ gb) (hg : W.heap[gb]? = some (.cells (flat bcel (laidN p 0)).toArray 5 (0, 0))) (hkb : W0.heap.size ≤ kb) (hk : W.heap[kb]? = some (.cells (flat bcel stk0).toArray 5 (0, 0))) (hne : gb ≠ kb) :
    DocM (cstOf p input deep sf sa sv sl) W0 W.heap.size (W.alloc (.cells (dcells (cstOf p input deep sf sa sv sl) (d0D p fuel 0) ⟨.slice none 0 0, gb, kb⟩) 76)) (d0D p fuel 0) ⟨.slice none 0 0, gb, kb⟩ := by
  refine ⟨hB.alloc hB.size _, hp, hsv, hsl, hB.size, heap_alloc_new _ _, hgb, ?_, hkb, ?_, hne, own_nil _ _ _ _, (fun e => by cases e), (fun e => by cases e)⟩
  · rw [Below.heap_alloc _ _ _ (Array.getElem?_eq_some_iff.1 hg).1]
    exact hg
  · rw [Below.heap_alloc _ _ _ (Array.getElem?_eq_some_iff.1 hk).1]
    exact hk
end
set_option maxHeartbeats 20000000 in
theorem count12_no {W : World} {p : Pg} (hp : Pg.ok W p) {input : ByteArray} {fuel deep sf sa : Int} {sv : Value} (hpg : pgF p = false) :
    Calls Try.prog 12 #[p.val, .string input, .int .i64 fuel, .int .i64 deep, .int .i64 sa, sv, .int .i64 sf] W fun e w' => e = .returned (.tuple #[.int .i64 0, enBad.val]) ∧ Below W.heap.size W w' := by
  have H13 : Hid (∀ w1, Below W.heap.size W w1 → Calls Try.prog 13 #[p.val] w1 fun e w' => e = .returned (.bool (pgF p)) ∧ Below w1.heap.size w1 w') := fun w1 h => prog13 (hp.on h)
  rw [hpg] at H13
  obtain ⟨fv, funcs, gl, dv, data, main⟩ := p
  unfold Pg.val enBad En.val at *
  dsimp only at *
  clear hp hpg
  go_enter Try.func12, Try.ntmps12
  go_wp2_with (go_at_call 13; refine (H13.out _ (below2 _ _ _)).mono ?_; rintro e1 w1 ⟨rfl, hb1⟩; obtain ⟨_, hr1, hB1, hs1⟩ := blk2 hb1; have HR1 := hid' hr1; have HB1 := hid' hB1; obtain ⟨c0, c1, c2, c3, c4, cf⟩ := res5 hr1; have hlt1 : W.heap.size + 1 < w1.heap.size := (by omega); clear hr1 hB1 hb1)
  obtain ⟨h9, hK⟩ := set5 (u0 := .int .i64 2) (u1 := .int .i32 0) (u2 := .int .i64 4) (u3 := .string ⟨#[]⟩) (u4 := .int .i64 0) HR1.out
  generalize ((((w1.setCell ⟨W.heap.size + 1, 0, none⟩ (.int .i64 2)).setCell ⟨W.heap.size + 1, 1, none⟩ (.int .i32 0)).setCell ⟨W.heap.size + 1, 2, none⟩ (.int .i64 4)).setCell ⟨W.heap.size + 1, 3, none⟩ (.string ⟨#[]⟩)).setCell ⟨W.heap.size + 1, 4, none⟩ (.int .i64 0) = w9 at *
  obtain ⟨d0, d1, d2, d3, d4, df⟩ := res5 h9
  exact bodyPost_ret (v := .tuple #[.int .i64 0, .agg #[.int .i64 2, .int .i32 0, .int .i64 4, .string ⟨#[]⟩, .int .i64 0]]) (by simp [results, Try.results12, go_sem, d0, d1, d2, d3, d4]) rfl ⟨rfl, HB1.out.trans (hK.below HB1.out.size (fun q e => by omega))⟩
end Go.Proofs.Ytiehlkhpblldaaa
