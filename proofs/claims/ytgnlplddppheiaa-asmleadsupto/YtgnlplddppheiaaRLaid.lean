/- The document's laid and away. -/
import Derived.Test.YtgnlplddppheiaaRChk
import Derived.Test.YtgnlplddppheiaaLayOut
namespace Go.Proofs.Ytgnlplddppheiaa
open Go.RowKit Go.Maps
set_option linter.unusedVariables false

/-- Which instruction a line is. -/
def ixF (ls : List Ln) (i : Nat) : Nat := insN (ls.take i)
/-- Is a line long? -/
def lgF (ls : List Ln) (S : Nat → Bool) (i : Nat) : Bool := (labAt ls i == 0) && S (ixF ls i)

theorem ixF_succ {ls : List Ln} {i : Nat} (h : i < ls.length) : ixF ls (i + 1) = ixF ls i + (if labAt ls i = 0 then 1 else 0) := by
  unfold ixF
  rw [taken' ls i h, insN_append, insN_one, labAt_get h]
theorem ixF_zero (ls : List Ln) : ixF ls 0 = 0 := rfl
theorem ixF_le (ls : List Ln) (i : Nat) : ixF ls i ≤ i := by
  unfold ixF
  have h1 := insN_le (ls.take i)
  have h2 : (ls.take i).length ≤ i := by simp; omega
  omega
theorem ixF_all (ls : List Ln) : ixF ls ls.length = insN ls := by unfold ixF; rw [List.take_of_length_le (Nat.le_refl _)]
theorem atF_ix {ls : List Ln} {S : Nat → Bool} {i : Nat} (h : i < ls.length) : atF S (ixF ls (i + 1)) = atF S (ixF ls i) + (if labAt ls i = 0 then 1 else 0) + (if lgF ls S i = true then 1 else 0) := by
  rw [ixF_succ h]
  unfold lgF
  by_cases e : labAt ls i = 0
  · simp only [e, if_true, atF_succ, beq_self_eq_true, Bool.true_and]
  · simp [e]

/-- The three rows of a layout: To, Long, At. -/
structure Lay (W : World) (tb lb ab N : Nat) (T : Nat → Int) (S : Nat → Bool) (A : Nat → Int) (ls : List Ln) : Prop where
  to : W.rowIs tb 3 N (fun i => .int .i64 (T i))
  long : W.rowIs lb 4 N (fun i => .bool (lgF ls S i))
  at_ : W.rowIs ab 3 (N + 1) (fun i => .int .i64 (A i))
  ne1 : tb ≠ lb
  ne2 : tb ≠ ab
  ne3 : lb ≠ ab

set_option maxRecDepth 100000 in
set_option maxHeartbeats 2000000 in
theorem laid33 {w : World} {v : Value} {tb lb ab : Nat} {T : Nat → Int} {S : Nat → Bool} {A : Nat → Int} {ls : List Ln} (h : IsLns w v ls) (hn : ls.length ≤ 262144) (hL : Lay w tb lb ab ls.length T S A ls) (hav : 0 < ls.length → ∀ b, v.ownBlock = some b → b ≠ ab) :
    Calls Try.prog 33 #[v, .agg #[.slice (some ⟨tb, 0, none⟩) ls.length ls.length, .slice (some ⟨lb, 0, none⟩) ls.length ls.length, .slice (some ⟨ab, 0, none⟩) (ls.length + 1) (ls.length + 1)]] w fun e w' =>
      e = .returned (.tuple #[]) ∧ (∃ A', Lay w' tb lb ab ls.length T S A' ls ∧ ∀ i, i ≤ ls.length → A' i = (atF S (ixF ls i) : Nat)) ∧ Kept (fun b => b = ab) w w' := by
  obtain ⟨ao, cap, rfl, hform⟩ := h.form
  have HF := hid' hform
  have hab : ab < w.heap.size := hL.at_.lt
  have hlb : lb < w.heap.size := hL.long.lt
  have HL := hid' hL
  have ne3 := hL.ne3
  clear h hform hL
  go_enter Try.func33, Try.ntmps33
  go_wp2
  go_loopw [4, 5] (fun c i wr => ∃ k : Nat, k ≤ ls.length ∧ i = .int .i64 k ∧ c = .int .i64 (atF S (ixF ls k) : Nat) ∧ Kept (fun b => b = ab) (w.alloc (.cells #[.slice (some ⟨tb, 0, none⟩) ls.length ls.length, .slice (some ⟨lb, 0, none⟩) ls.length ls.length, .slice (some ⟨ab, 0, none⟩) (ls.length + 1) (ls.length + 1)] 56)) wr ∧ ∃ A' : Nat → Int, wr.rowIs ab 3 (ls.length + 1) (fun i => .int .i64 (A' i)) ∧ ∀ i, i < k → A' i = (atF S (ixF ls i) : Nat)) (fun _ i _ => ls.length - (intOf i).toNat)
  case atStart => exact ⟨0, Nat.zero_le _, rfl, rfl, Kept.rfl _ _, A, HL.out.at_.alloc _, fun i hi => by omega⟩
  case round =>
    obtain ⟨k, hk, rfl, rfl, hK, A', hA, hA2⟩ := hrel
    have b1 : wr.cell? ⟨w.heap.size, 1, none⟩ = some (.slice (some ⟨lb, 0, none⟩) ls.length ls.length) := (hK.cell (by simp) (by omega)).trans (World.cell?_alloc_at _ _ _ _ rfl)
    have b2 : wr.cell? ⟨w.heap.size, 2, none⟩ = some (.slice (some ⟨ab, 0, none⟩) (ls.length + 1) (ls.length + 1)) := (hK.cell (by simp) (by omega)).trans (World.cell?_alloc_at _ _ _ _ rfl)
    have hlo := hK.row (HL.out.long.alloc _) ne3
    have fz := fun i => hA.frozen i
    have hsz := hK.size
    have HK := hid' hK
    have HA := hid' hA
    have HA2 := hid' hA2
    have hab' : ab < wr.heap.size := hA.lt
    simp only [World.size_alloc] at hsz
    clear hK hA2
    by_cases hlt : k < ls.length
    · obtain ⟨b, rfl, hl, ha⟩ := HF.out k hlt
      have hbab : b ≠ ab := hav (by omega) b rfl
      have cl : wr.cell? ⟨b, k * 7, none⟩ = some (.int .i64 (labAt ls k)) := by
        rw [labAt_get hlt]
        exact (HK.out.cell (by simp; omega) hbab).trans ((World.cell?_alloc_past _ _ _ hl).trans (ha k hlt).1)
      have cg := hlo.cell hlt
      have hstep := atF_ix (S := S) hlt
      have hle := atF_le S (ixF ls k)
      have hix := ixF_le ls k
      have ck := hA.cell (i := k) (by omega)
      clear ha hlo hA
      generalize hA0 : atF S (ixF ls k) = a0 at *
      have H1 := hid' hA0
      clear hA0
      have N := HA.out.set k (.int .i64 (a0 : Int))
      have HN : Hid (∃ A'' : Nat → Int, (wr.setCell ⟨ab, k, none⟩ (.int .i64 (a0 : Int))).rowIs ab 3 (ls.length + 1) (fun i => .int .i64 (A'' i)) ∧ ∀ i, i < k + 1 → A'' i = (atF S (ixF ls i) : Nat)) :=
        ⟨fun j => if j = k then (a0 : Int) else A' j, N.congr (fun i _ => by by_cases e : i = k <;> simp [e]), fun i hi => by
          by_cases e : i = k
          · subst e; simp [H1.out]
          · simp only [e, if_false]; exact HA2.out i (by omega)⟩
      have HK2 := hid' (HK.out.set (a := ⟨ab, k, none⟩) (.inl rfl) (.int .i64 (a0 : Int)))
      clear N
      have H2 := hid' hstep
      clear hstep
      by_cases e1 : labAt ls k = 0 <;> cases e2 : lgF ls S k
      all_goals
        have e3 := H2.out
        simp only [e1, e2, if_true, if_false, Bool.false_eq_true] at e3 cl cg
        have H3 := hid' e3
        clear e3 e2
        go_wp2
        go_roundw
        case rel => exact ⟨k + 1, by omega, by go_num, congrArg (Value.int .i64) (by rw [H3.out]; omega), HK2.out, HN.out⟩
        case measure => simp [intOf]; omega
    · have : k = ls.length := by omega
      subst this
      have ck := hA.cell (i := ls.length) (by omega)
      have hle := atF_le S (ixF ls ls.length)
      have hix := ixF_le ls ls.length
      clear hlo hA
      generalize hA0 : atF S (ixF ls ls.length) = a0 at *
      have H1 := hid' hA0
      clear hA0
      have N := HA.out.set ls.length (.int .i64 (a0 : Int))
      have HK2 := HK.out.set (a := ⟨ab, ls.length, none⟩) (.inl rfl) (.int .i64 (a0 : Int))
      have HR : Hid ((∃ A'', Lay (wr.setCell ⟨ab, ls.length, none⟩ (.int .i64 (a0 : Int))) tb lb ab ls.length T S A'' ls ∧ ∀ i, i ≤ ls.length → A'' i = (atF S (ixF ls i) : Nat)) ∧ Kept (fun b => b = ab) w (wr.setCell ⟨ab, ls.length, none⟩ (.int .i64 (a0 : Int)))) :=
        ⟨⟨fun j => if j = ls.length then (a0 : Int) else A' j, ⟨HK2.row (HL.out.to.alloc _) HL.out.ne2, HK2.row (HL.out.long.alloc _) ne3, N.congr (fun i _ => by by_cases e : i = ls.length <;> simp [e]), HL.out.ne1, HL.out.ne2, HL.out.ne3⟩, fun i hi => by
          by_cases e : i = ls.length
          · subst e; simp [H1.out]
          · simp only [e, if_false]; exact HA2.out i (by omega)⟩, ((Kept.rfl _ w).alloc _).trans HK2⟩
      clear N HK2
      go_wp2
      go_end0
      exact ⟨rfl, HR.out⟩

/-- away. -/
theorem away23 {w : World} {v : Value} {tb ab N M i : Nat} {T A : Nat → Int} {j : Nat} {bh : Int} (hT : w.rowIs tb 3 N (fun i => .int .i64 (T i))) (hA : w.rowIs ab 3 M (fun i => .int .i64 (A i))) (hi : i < N) (hj : T i = j) (hjM : j < M) (hN : N ≤ 1000000) (hM : M ≤ 1000000)
    (h0 : -9223372036854775808 ≤ A j - bh) (h1 : A j - bh ≤ 9223372036854775807) :
    Calls Try.prog 23 #[.agg #[.slice (some ⟨tb, 0, none⟩) N N, v, .slice (some ⟨ab, 0, none⟩) M M], .int .i64 i, .int .i64 bh] w fun e w' => e = .returned (.int .i64 (A j - bh)) ∧ Below w.heap.size w w' := by
  have c1 := hT.cell hi
  have c2 := hA.cell hjM
  rw [hj] at c1
  have l1 := hT.lt
  have l2 := hA.lt
  clear hT hA
  generalize A j = x at *
  go_enter Try.func23, Try.ntmps23
  go_wp2
  go_quiet (fail)
  go_wp2
  go_ret
  have B := below1 w (.cells #[.slice (some ⟨tb, 0, none⟩) N N, v, .slice (some ⟨ab, 0, none⟩) M M] 56)
  exact ⟨rfl, ⟨B.os, B.tape, B.output, B.size, B.block⟩⟩
end Go.Proofs.Ytgnlplddppheiaa
