/- A row that is made, of things of several cells. -/
import Derived.Test.YtiehlkhpblldaaaRh
namespace Go.Proofs.Ytiehlkhpblldaaa
open Go.RowKit Go.Maps
set_option linter.unusedVariables false
theorem make_any2 {et st : TypeId} {cs : Array Value} {z by_ : Nat} (w : World) {n : Nat} (hst : Try.prog.underlying st = some (.slice et)) (hi' : (Try.prog.info? et).map (fun i => (i.zero, i.size, i.bytes)) = some (some (.agg cs), z, by_)) (hn : n * by_ ≤ 140737488355328) (hn2 : n ≤ 140737488355328) :
    ∃ (w1 : World) (cur : Array Value), (Instr.makeSlice st (.int .i64 (n : Nat)) (.int .i64 (n : Nat))).run Try.prog w = .ok (.slice (some ⟨w.heap.size, 0, none⟩) n n) w1 ∧ w1.heap[w.heap.size]? = some (.cells cur et (0, 0)) ∧ (cur.size = n * z ∧ cur = madeCells (Value.agg cs).cells (n * z)) ∧ Below w.heap.size w w1 := by
  obtain ⟨i0, hi, e0, e1, e2⟩ := info_parts hi'
  have hmul : ((by_ : Nat) : Int) * ((n : Nat) : Int) ≤ 281474976710656 := by
    have : ((by_ : Int) * (n : Int)) = ((n * by_ : Nat) : Int) := by rw [Int.mul_comm]; simp
    omega
  have hr := run_make (P := Try.prog) w st et i0 (.agg cs) hst hi e0 .i64 .i64 (n : Nat) (n : Nat) (by omega) (Int.le_refl _) (by rw [e2]; exact hmul) (by omega)
  rw [Int.toNat_natCast, e1] at hr
  exact ⟨_, _, hr, heap_alloc_new _ _, ⟨size_madeCells _ _, rfl⟩, below1 _ _⟩
theorem set_some2 {bs : List (Option (List Rg))} {fn : Nat} {m : List Rg} (h : fn < bs.length) {i : Nat} {k : List Rg} (hi : (bs.set fn (some m))[i]? = some (some k)) : (i = fn ∧ k = m) ∨ (i ≠ fn ∧ bs[i]? = some (some k)) := by
  rw [List.getElem?_set] at hi
  by_cases e : fn = i
  · subst e
    rw [if_pos rfl, if_pos h] at hi
    injection hi with hi
    injection hi with hi
    exact .inl ⟨rfl, hi.symm⟩
  · rw [if_neg e] at hi
    exact .inr ⟨Ne.symm e, hi⟩
end Go.Proofs.Ytiehlkhpblldaaa
