/- Rows of bits. -/
import Derived.Test.YtjhndnhldhmjnaaDoorLs
namespace Go.Proofs.YtjhndnhldhmjnaaDoor
open Go.RowKit Go.Maps
set_option linter.unusedVariables false
set_option linter.unusedSimpArgs false
theorem step_call {P : Program} {ops : Array Oper} {o : Oper} {a : Act} {w : World} {K : Act → World → Prop} {Q : Exit → Act → World → Prop} {E : Prop}
    (hg : o.guard = none) (f : FuncId) (xs : Array Operand) (ts : Array TypeId) (hop : o.op = Op.call { callee := Callee.value (.func f), args := xs, argTypes := ts })
    (args : Array Value) (ha : xs.map a.eval = args) (hen : ∀ W : World, (callFunc f args).run P W = .ok (.enter f args) W)
    (h : Calls P f args w fun e w' => ∃ v, e = .returned v ∧ K (a.put o.dst v) w') :
    if Region.wanted o (yielded ops a.tmps) = true then Oper.wp P o a w K Q else E := by
  have hw : Region.wanted o (yielded ops a.tmps) = true := by simp [Region.wanted, hg]
  rw [if_pos hw]
  unfold Oper.wp
  have he : (execOp a.eval o).run P w = .ok (.enter f args) w := by
    simp [execOp, hop, resolve, invoke, Act.eval, ha, hen, Deferred.ofValue, go_sem]
  rw [he, Oper.upon_enter]
  refine h.mono ?_
  rintro e w' ⟨v, rfl, hk⟩
  exact hk
/-- One bit. -/
def bitW (n : Nat) : Wd := BitVec.twoPow 64 (n % 64)
theorem bitW_is (n : Nat) : IntKind.u64.wrap (2 ^ (n % 64)) = ((bitW n).toNat : Int) := by
  rw [IntKind.wrap_u64, bitW, BitVec.toNat_twoPow, Int.natCast_emod, Int.natCast_pow, Int.natCast_pow]
  rfl
theorem bit52 (w : World) (n : Nat) : Calls Tryd.prog 52 #[.int .i64 n] w fun e w' => e = .returned (uv (bitW n)) ∧ w' = w := by
  have hb := bitW_is n
  go_enter Tryd.func52, Tryd.ntmps52
  go_wp2
  go_ret
  exact ⟨congrArg (fun z => Ending.returned (.int .u64 z)) hb, rfl⟩
theorem mayBeIn35 (w : World) (n : Int) : Calls Tryd.prog 35 #[.int .i64 n] w fun e w' => e = .returned (.bool (decide (0 ≤ n ∧ n < 65536))) ∧ w' = w := by
  by_cases h : 0 ≤ n
  · rw [show decide (0 ≤ n ∧ n < 65536) = decide (n < 65536) by simp [h]]
    go_enter Tryd.func35, Tryd.ntmps35
    go_wp2
    go_ret
    exact ⟨rfl, rfl⟩
  · rw [show decide (0 ≤ n ∧ n < 65536) = false by simp; omega]
    go_enter Tryd.func35, Tryd.ntmps35
    go_wp2
    go_ret
    exact ⟨rfl, rfl⟩
theorem wrap_small {x : Int} (h : 0 ≤ x) (h2 : x < 9223372036854775808) : IntKind.i64.wrap x = x := by
  rw [IntKind.wrap_i64]
  omega
theorem bit_get (n i : Nat) (hi : i < 64) : (bitW n).getLsbD i = decide (i = n % 64) := by
  unfold bitW
  rw [BitVec.getLsbD_twoPow]
  have : n % 64 < 64 := Nat.mod_lt _ (by decide)
  by_cases h : i = n % 64
  · subst h; simp; omega
  · simp [h]; omega
theorem bit_test (x : Wd) (n : Nat) : (x &&& bitW n = 0) ↔ x.getLsbD (n % 64) = false := by
  have hm : n % 64 < 64 := Nat.mod_lt _ (by decide)
  constructor
  · intro h
    have := bit_of h (n % 64)
    rw [BitVec.getLsbD_and, bit_get n _ hm, decide_eq_true rfl, Bool.and_true] at this
    rw [this]
    simp
  · intro h
    refine bit_ext fun i hi => ?_
    rw [BitVec.getLsbD_and, bit_get n i hi]
    by_cases e : i = n % 64
    · subst e; rw [h]; simp
    · simp [e]
set_option maxRecDepth 20000 in
theorem add37 {w : World} {g m cp : Nat} {f : Nat → Wd} (h : RowU w g m f) {n : Nat} (hn : n / 64 < m) (hm : m ≤ 1024) : Calls Tryd.prog 37 #[.slice (some ⟨g, 0, none⟩) m cp, .int .i64 n] w fun e w' => e = .returned (.tuple #[]) ∧ ∃ d, w' = (w.drewN d).setCell ⟨g, n / 64, none⟩ (uv (f (n / 64) ||| bitW n)) := by
  have c := h.cell hn
  have z := h.fro (n / 64)
  have c1 : w.drew.cell? ⟨g, n / 64, none⟩ = some (uv (f (n / 64))) := c
  have z1 : w.drew.frozen? ⟨g, n / 64, none⟩ = false := z
  have hb := b_or (f (n / 64)) (bitW n)
  have w1 : IntKind.i64.wrap ((n : Int) / 64) = (n : Int) / 64 := wrap_small (by omega) (by omega)
  have w2 : (0 : Int) ≤ (n : Int) / 64 := by omega
  have w3 : (n : Int) / 64 < (m : Int) := by omega
  have w4 : ((n : Int) / 64).toNat = n / 64 := by omega
  unfold uv at *
  clear h
  go_enter Tryd.func37, Tryd.ntmps37
  go_wp2
  go_region_law (first
    | (refine step_call rfl 52 #[.tmp 9] #[3] rfl #[.int .i64 n] (by simp [Act.eval, Act.put]) (fun W => by simp [go_sem, Tryd.func52]) ?_; refine (bit52 _ n).mono ?_; rintro e4 w4 ⟨rfl, rfl⟩; refine ⟨_, rfl, ?_⟩; unfold uv))
  all_goals go_end0
  all_goals exact ⟨rfl, 1, by rw [← n_or]; rfl⟩
set_option maxRecDepth 20000 in
theorem remove41 {w : World} {g m cp : Nat} {f : Nat → Wd} (h : RowU w g m f) {n : Nat} (hn : n / 64 < m) (hm : m ≤ 1024) : Calls Tryd.prog 41 #[.slice (some ⟨g, 0, none⟩) m cp, .int .i64 n] w fun e w' => e = .returned (.tuple #[]) ∧ ∃ d, w' = (w.drewN d).setCell ⟨g, n / 64, none⟩ (uv (f (n / 64) &&& ~~~bitW n)) := by
  have c := h.cell hn
  have z := h.fro (n / 64)
  have c1 : w.drew.cell? ⟨g, n / 64, none⟩ = some (uv (f (n / 64))) := c
  have z1 : w.drew.frozen? ⟨g, n / 64, none⟩ = false := z
  have hb := b_andNot (f (n / 64)) (bitW n)
  have w1 : IntKind.i64.wrap ((n : Int) / 64) = (n : Int) / 64 := wrap_small (by omega) (by omega)
  have w2 : (0 : Int) ≤ (n : Int) / 64 := by omega
  have w3 : (n : Int) / 64 < (m : Int) := by omega
  have w4 : ((n : Int) / 64).toNat = n / 64 := by omega
  unfold uv at *
  clear h
  go_enter Tryd.func41, Tryd.ntmps41
  go_wp2
  go_region_law (first
    | (refine step_call rfl 52 #[.tmp 9] #[3] rfl #[.int .i64 n] (by simp [Act.eval, Act.put]) (fun W => by simp [go_sem, Tryd.func52]) ?_; refine (bit52 _ n).mono ?_; rintro e4 w4 ⟨rfl, rfl⟩; refine ⟨_, rfl, ?_⟩; unfold uv))
  all_goals go_end0
  all_goals exact ⟨rfl, 1, by first | (rw [← n_andNot]; rfl) | (rw [← hb]; rfl)⟩
theorem step_callG {P : Program} {ops : Array Oper} {o : Oper} {a : Act} {w : World} {K : Act → World → Prop} {Q : Exit → Act → World → Prop} {E : Prop}
    (hw : Region.wanted o (yielded ops a.tmps) = true) (f : FuncId) (xs : Array Operand) (ts : Array TypeId) (hop : o.op = Op.call { callee := Callee.value (.func f), args := xs, argTypes := ts })
    (args : Array Value) (ha : xs.map a.eval = args) (hen : ∀ W : World, (callFunc f args).run P W = .ok (.enter f args) W)
    (h : Calls P f args w fun e w' => ∃ v, e = .returned v ∧ K (a.put o.dst v) w') :
    if Region.wanted o (yielded ops a.tmps) = true then Oper.wp P o a w K Q else E := by
  rw [if_pos hw]
  unfold Oper.wp
  have he : (execOp a.eval o).run P w = .ok (.enter f args) w := by
    simp [execOp, hop, resolve, invoke, Act.eval, ha, hen, Deferred.ofValue, go_sem]
  rw [he, Oper.upon_enter]
  refine h.mono ?_
  rintro e w' ⟨v, rfl, hk⟩
  exact hk
theorem bit_and_test (x : Wd) (n : Nat) : (!(((x &&& bitW n).toNat : Int) == 0)) = decide (x.getLsbD (n % 64) = true) := by
  have h := bit_test x n
  have e : (((x &&& bitW n).toNat : Int) == 0) = decide (x &&& bitW n = 0) := b_beq (x &&& bitW n) 0
  rw [e]
  by_cases c : x.getLsbD (n % 64) = true
  · have : ¬ (x &&& bitW n = 0) := fun h2 => by rw [h.1 h2] at c; cases c
    simp only [this, c, decide_false, decide_true, Bool.not_false]
  · have : x &&& bitW n = 0 := h.2 (by simpa using c)
    rw [decide_eq_true this, decide_eq_false c]
    rfl
end Go.Proofs.YtjhndnhldhmjnaaDoor
