/- push: room for a call's slots. -/
import Derived.Test.YtiehlkhpblldaaaRk
namespace Go.Proofs.Ytiehlkhpblldaaa
open Go.RowKit Go.Maps
set_option linter.unusedVariables false
set_option linter.unusedSimpArgs false
theorem step_call {P : Program} {ops : Array Oper} {o : Oper} {a : Act} {w : World} {K : Act → World → Prop} {Q : Exit → Act → World → Prop} {E : Prop}
    (hg : o.guard = none) (f : FuncId) (xs : Array Operand) (ts : Array TypeId) (hop : o.op = Op.call { callee := Callee.value (.func f), args := xs, argTypes := ts })
    (args : Array Value) (ha : xs.map a.eval = args) (hen : ∀ W : World, (callFunc f args).run P W = .ok (.enter f args) W)
    (h : Calls P f args w fun e w' => ∃ v, e = .returned v ∧ K (a.put o.dst v) w') :
    if Region.wanted o (yielded ops a.tmps) = true then Oper.wp P o a w K Q else E := by
  have hw : Region.wanted o (yielded ops a.tmps) = true := by simp [Region.wanted, hg]
  rw [if_pos hw]
  unfold Oper.wp
  have he : (execOp a.eval o).run P w = .ok (.enter f args) w := by
    simp [execOp, hop, resolve, invoke, Act.eval, ha, hen, Deferred.ofValue, go_sem]
  rw [he, Oper.upon_enter]
  refine h.mono ?_
  rintro e w' ⟨v, rfl, hk⟩
  exact hk
theorem step_clr {P : Program} {ops : Array Oper} {o : Oper} {a : Act} {w w' : World} {K : Act → World → Prop} {Q : Exit → Act → World → Prop} {E : Prop}
    (hg : o.guard = none) (s : Operand) (t : TypeId) (hop : o.op = Op.call { callee := Callee.builtin Builtin.clear, args := #[s], argTypes := #[t] })
    (v v' : Value) (hs : a.eval s = v) (hrun : ∀ ty, (Builtin.clear_ #[t] ty #[v]).run P w = .ok v' w') (hK : K (a.put o.dst v') w') :
    if Region.wanted o (yielded ops a.tmps) = true then Oper.wp P o a w K Q else E := by
  have hw : Region.wanted o (yielded ops a.tmps) = true := by simp [Region.wanted, hg]
  rw [if_pos hw]
  unfold Oper.wp
  simp [execOp, hop, resolve, invoke, builtin, hs, hrun, Result.andThen]
  exact hK
section
variable {C : Cst} {W0 W W' : World} {r : Nat} {s s' : St} {x : Vs} {t : Tp}
theorem bytes43 (h : RunM C W0 r W s x t) (hL : s.sk.length ≤ 16777216) {a b : Int} (h1 : 8388608 - (s.sk.length : Int) ≤ a) (h2 : a ≤ b) (h3 : b ≤ 8388608) :
    Calls Try.prog 43 #[.pointer (some ⟨r, 6, none⟩), .int .i64 a, .int .i64 b] W fun e w' => ∃ v kb cap, e = .returned v ∧ PartV v kb (a - (8388608 - (s.sk.length : Int))).toNat (b - a).toNat ∧ (0 < (b - a).toNat → x.kv = .slice (some ⟨kb, 0, none⟩) s.sk.length cap ∧ s.sk.length ≤ cap) ∧ w' = W := by
  rcases h.rows.ks.2 with ⟨e, e0⟩ | ⟨g, cap, cur, e, _, _, hc, _⟩
  · have ea : a = 8388608 := by omega
    have eb : b = 8388608 := by omega
    subst ea eb
    refine (bytes43_nil h e e0).mono ?_
    rintro e w' ⟨v, rfl, ⟨ao, cp, rfl, _⟩, rfl⟩
    exact ⟨_, 0, 0, rfl, ⟨ao, cp, by simp, fun hp => by simp at hp⟩, fun hp => by simp at hp, rfl⟩
  · refine (bytes43_some h e hc hL h1 h2 h3).mono ?_
    rintro e1 w' ⟨v, rfl, hv, rfl⟩
    exact ⟨v, g, cap, rfl, hv, fun _ => ⟨e, hc⟩, rfl⟩
def pushOk (s : St) (n : Int) : Bool := decide (8126464 ≤ s.low - n)
def pushG (s : St) (n : Nat) : St :=
  let s2 := reachF { s with low := s.low - n } (8388608 - (s.low - n)).toNat
  { s2 with sk := putL s2.sk (s.low - n - (8388608 - (s2.sk.length : Int))).toNat (List.replicate n 0) }
def pushF (s : St) (n : Nat) : St := if pushOk s n then pushG s n else s
/-- The slots' bytes are 0 again. -/
theorem RunM.cleared (h : RunM C W0 r W s x t) {v : Value} {kb o n cap : Nat} (hv : PartV v kb o n) (hk : 0 < n → x.kv = .slice (some ⟨kb, 0, none⟩) s.sk.length cap) (hn : o + n ≤ s.sk.length) :
    ∃ w', (∀ ty, (Builtin.clear_ #[59] ty #[v]).run Try.prog W = .ok (.tuple #[]) w') ∧ RunM C W0 r w' { s with sk := putL s.sk o (List.replicate n 0) } x t := by
  obtain ⟨ao, cp, rfl, ha⟩ := hv
  rcases Nat.eq_zero_or_pos n with rfl | hp
  · refine ⟨W, fun ty => ?_, h⟩
    cases ao <;> simp [Builtin.clear_, run_underlying Try.underlying59, go_sem, storeCells, Builtin.zeroCells]
  · rw [ha hp]
    have hrow := h.rows.ks
    rw [hk hp] at hrow
    refine ⟨W.setCells kb o (List.replicate n (.int .u8 0)), fun ty => ?_, ?_⟩
    · refine Lib.run_clear_slice (P := Try.prog) W 59 5 ty (.int .u8 0) Try.underlying59 (fun w => ?_) rfl rfl kb o n cp hp (fun j hj => ?_) (fun j hj => World.ownsRow.frozenAt hrow _)
      · simp [go_sem]
      · rw [World.ownsRow.cellAt hrow _ (by omega), List.getElem?_eq_getElem (by rw [flat_length by1]; omega)]
        rfl
    · have := RunM.bytesK (List.replicate n 0) o W s h (hk hp)
      rw [flat_by, List.map_replicate] at this
      exact this
theorem reachF_len (s : St) (m : Nat) (h : s.sk.length ≤ 524288) : s.sk.length ≤ (reachF s m).sk.length ∧ m ≤ (reachF s m).sk.length ∧ (m ≤ 262144 → (reachF s m).sk.length ≤ 1048576) := by
  unfold reachF
  split
  · exact ⟨Nat.le_refl _, by omega, fun _ => by omega⟩
  · simp only [List.length_append, List.length_replicate]
    omega
set_option maxRecDepth 20000 in
set_option maxHeartbeats 8000000 in
theorem push23 (h : RunM C W0 r W s x t) {n : Nat} (hn : n ≤ 65536) (hl : 8126464 ≤ s.low ∧ s.low ≤ 8388608) (hL : s.sk.length ≤ 524288) (hL2 : 8388608 - s.low ≤ s.sk.length) :
    Calls Try.prog 23 #[.pointer (some ⟨r, 6, none⟩), .int .i64 n] W fun e w' => e = .returned (.bool (pushOk s n)) ∧ ∃ x', RunM C W0 r w' (pushF s n) x' t ∧ x' = { x with kv := x'.kv } := by
  have H := hid' h
  have c8 : W.cell? ⟨r, 8, none⟩ = some (.int .i64 s.low) := h.cell 8
  have fr := h.fro
  have hw : IntKind.i64.wrap (s.low - (n : Int)) = s.low - n := by simp [IntKind.wrap, IntKind.bits, IntKind.signed]; omega
  unfold pushF
  by_cases g : 8126464 ≤ s.low - n
  · have eo : pushOk s n = true := decide_eq_true g
    rw [eo]
    simp only [if_true]
    obtain ⟨m, hm⟩ : ∃ m : Nat, (m : Int) = 8388608 - (s.low - n) := ⟨(8388608 - (s.low - n)).toNat, by omega⟩
    have HP : Hid (pushG s n = { reachF { s with low := s.low - n } m with sk := putL (reachF { s with low := s.low - n } m).sk (s.low - n - (8388608 - ((reachF { s with low := s.low - n } m).sk.length : Int))).toNat (List.replicate n 0) }) := by
      unfold Hid pushG
      rw [← hm, Int.toNat_natCast]
    have g' : ¬ s.low - (n : Int) < 8126464 := by omega
    have hm8 : m ≤ 8388608 := by omega
    have h1 : RunM C W0 r (W.setCell ⟨r, 8, none⟩ (.int .i64 (s.low - n))) { s with low := s.low - n } x t := H.out.put 8 _ rfl rfl
    have h42 := reach42 h1 (n := m) hm8 (by dsimp only; omega)
    rw [hm] at h42
    have hw2 : IntKind.i64.wrap (8388608 - (s.low - (n : Int))) = 8388608 - (s.low - n) := by simp [IntKind.wrap, IntKind.bits, IntKind.signed]; omega
    have hw3 : IntKind.i64.wrap (s.low - (n : Int) + n) = s.low := by simp [IntKind.wrap, IntKind.bits, IntKind.signed]; omega
    have hw4 : IntKind.i64.wrap s.low = s.low := by simp [IntKind.wrap, IntKind.bits, IntKind.signed]; omega
    have hSL := reachF_len { s with low := s.low - n } m (by dsimp only; omega)
    have hlow : (reachF { s with low := s.low - n } m).low = s.low - n := by unfold reachF; split <;> rfl
    generalize hS2 : reachF { s with low := s.low - n } m = S2 at *
    clear h h1 hS2
    go_enter Try.func23, Try.ntmps23
    go_wp2_with (go_at_call 42; refine h42.mono ?_; rintro e1 w1 ⟨rfl, x1, hR1, hx1⟩; have c8b : w1.cell? ⟨r, 8, none⟩ = some (.int .i64 S2.low) := hR1.cell 8; rw [hlow] at c8b; have HR1 := hid' hR1; have HX1 := hid' hx1; clear hR1 hx1)
    have h43 := bytes43 HR1.out.drew (a := s.low - n) (b := s.low) (by have := hSL.2.2 (by omega); omega) (by omega) (by omega) (by omega)
    have en : (s.low - (s.low - (n : Int))).toNat = n := by omega
    have HF := hid' (fun (v : Value) (kb cap : Nat) (hv : PartV v kb (s.low - n - (8388608 - (S2.sk.length : Int))).toNat n) (hk : 0 < n → x1.kv = .slice (some ⟨kb, 0, none⟩) S2.sk.length cap ∧ S2.sk.length ≤ cap) => HR1.out.drew.cleared hv (fun hp => (hk hp).1) (by omega))
    rw [en] at h43
    go_region_law (first
      | (refine step_call rfl 43 #[.tmp 27, .tmp 31, .tmp 37] #[105, 3, 3] rfl #[.pointer (some ⟨r, 6, none⟩), .int .i64 (s.low - n), .int .i64 s.low] (by simp [Act.eval, Act.put, hw3, hw4]) (fun W => by simp [go_sem, Try.func43]) ?_; refine h43.mono ?_; rintro e2 w2 ⟨v, kb, cap, rfl, hv, hk, rfl⟩; refine ⟨v, rfl, ?_⟩; obtain ⟨w3, hclr, hR3⟩ := HF.out v kb cap hv hk)
      | (refine step_clr rfl (.tmp 38) 59 rfl _ _ (by simp [Act.eval]) hclr ?_))
    all_goals
      go_wp2
      go_ret
      exact ⟨rfl, x1, by rw [HP.out]; exact hR3, HX1.out⟩
  · have eo : pushOk s n = false := decide_eq_false g
    rw [eo]
    simp only [Bool.false_eq_true, if_false]
    have g' : s.low - (n : Int) < 8126464 := by omega
    clear h
    go_enter Try.func23, Try.ntmps23
    go_wp2
    go_ret
    exact ⟨rfl, x, H.out, rfl⟩
end
end Go.Proofs.Ytiehlkhpblldaaa
