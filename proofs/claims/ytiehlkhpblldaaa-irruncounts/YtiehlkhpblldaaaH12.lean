/- push: room for a call's slots. -/
import Derived.Test.YtiehlkhpblldaaaH07
import Derived.Deep.MidRow
set_option linter.unusedVariables false
set_option linter.unusedSimpArgs false
set_option maxRecDepth 20000
set_option maxHeartbeats 8000000
namespace Go.Proofs.Ytiehlkhpblldaaa
open Go.RowKit Go.Maps
theorem step_call {P : Program} {ops : Array Oper} {o : Oper} {a : Act} {w : World} {K : Act → World → Prop} {Q : Exit → Act → World → Prop} {E : Prop}
    (hg : o.guard = none) (f : FuncId) (xs : Array Operand) (ts : Array TypeId) (hop : o.op = Op.call { callee := Callee.value (.func f), args := xs, argTypes := ts })
    (args : Array Value) (ha : xs.map a.eval = args) (hen : ∀ W : World, (callFunc f args).run P W = .ok (.enter f args) W)
    (h : Calls P f args w fun e w' => ∃ v, e = .returned v ∧ K (a.put o.dst v) w') :
    if Region.wanted o (yielded ops a.tmps) = true then Oper.wp P o a w K Q else E := by
  have hw : Region.wanted o (yielded ops a.tmps) = true := by simp [Region.wanted, hg]
  rw [if_pos hw]
  unfold Oper.wp
  have he : (execOp a.eval o).run P w = .ok (.enter f args) w := by
    simp [execOp, hop, resolve, invoke, Act.eval, ha, hen, Deferred.ofValue, go_sem]
  rw [he, Oper.upon_enter]
  refine h.mono ?_
  rintro e w' ⟨v, rfl, hk⟩
  exact hk
theorem step_clr {P : Program} {ops : Array Oper} {o : Oper} {a : Act} {w w' : World} {K : Act → World → Prop} {Q : Exit → Act → World → Prop} {E : Prop}
    (hg : o.guard = none) (s : Operand) (t : TypeId) (hop : o.op = Op.call { callee := Callee.builtin Builtin.clear, args := #[s], argTypes := #[t] })
    (v v' : Value) (hs : a.eval s = v) (hrun : ∀ ty, (Builtin.clear_ #[t] ty #[v]).run P w = .ok v' w') (hK : K (a.put o.dst v') w') :
    if Region.wanted o (yielded ops a.tmps) = true then Oper.wp P o a w K Q else E := by
  have hw : Region.wanted o (yielded ops a.tmps) = true := by simp [Region.wanted, hg]
  rw [if_pos hw]
  unfold Oper.wp
  simp [execOp, hop, resolve, invoke, builtin, hs, hrun, Result.andThen]
  exact hK
section
variable {C : Cst} {W0 W W' : World} {r : Nat} {s s' : St} {x : Vs} {t : Tp}
theorem bytes43 (h : RunM C W0 r W s x t) (hL : s.sk.length ≤ 16777216) {a b : Int} (h1 : 8388608 - (s.sk.length : Int) ≤ a) (h2 : a ≤ b) (h3 : b ≤ 8388608) :
    Calls Try.prog 43 #[.pointer (some ⟨r, 6, none⟩), .int .i64 a, .int .i64 b] W fun e w' => ∃ v kb cap, e = .returned v ∧ PartV v kb (a - (8388608 - (s.sk.length : Int))).toNat (b - a).toNat ∧ (0 < (b - a).toNat → x.kv = .slice (some ⟨kb, 0, none⟩) s.sk.length cap ∧ s.sk.length ≤ cap) ∧ w' = W := by
  rcases h.rows.ks.2 with ⟨e, e0⟩ | ⟨g, cap, cur, e, _, _, hc, _⟩
  · have ea : a = 8388608 := by omega
    have eb : b = 8388608 := by omega
    subst ea eb
    refine (bytes43_nil h e e0).mono ?_
    rintro e w' ⟨v, rfl, ⟨ao, cp, rfl, _⟩, rfl⟩
    exact ⟨_, 0, 0, rfl, ⟨ao, cp, by simp, fun hp => by simp at hp⟩, fun hp => by simp at hp, rfl⟩
  · refine (bytes43_some h e hc hL h1 h2 h3).mono ?_
    rintro e1 w' ⟨v, rfl, hv, rfl⟩
    exact ⟨v, g, cap, rfl, hv, fun _ => ⟨e, hc⟩, rfl⟩
def pushOk (s : St) (n : Int) : Bool := decide (8126464 ≤ s.low - n)
def pushG (s : St) (n : Nat) : St :=
  let s2 := reachF { s with low := s.low - n } (8388608 - (s.low - n)).toNat
  { s2 with sk := putL s2.sk (s.low - n - (8388608 - (s2.sk.length : Int))).toNat (List.replicate n 0) }
def pushF (s : St) (n : Nat) : St := if pushOk s n then pushG s n else s
/-- The slots' bytes are 0 again. -/
theorem RunM.cleared (h : RunM C W0 r W s x t) {v : Value} {kb o n cap : Nat} (hv : PartV v kb o n) (hk : 0 < n → x.kv = .slice (some ⟨kb, 0, none⟩) s.sk.length cap) (hn : o + n ≤ s.sk.length) :
    ∃ w', (∀ ty, (Builtin.clear_ #[59] ty #[v]).run Try.prog W = .ok (.tuple #[]) w') ∧ RunM C W0 r w' { s with sk := putL s.sk o (List.replicate n 0) } x t := by
  obtain ⟨ao, cp, rfl, ha⟩ := hv
  rcases Nat.eq_zero_or_pos n with rfl | hp
  · refine ⟨W, fun ty => ?_, h⟩
    cases ao <;> simp [Builtin.clear_, run_underlying Try.underlying59, go_sem, storeCells, Builtin.zeroCells]
  · rw [ha hp]
    have hrow := h.rows.ks
    rw [hk hp] at hrow
    refine ⟨W.setCells kb o (List.replicate n (.int .u8 0)), fun ty => ?_, ?_⟩
    · refine Lib.run_clear_slice (P := Try.prog) W 59 5 ty (.int .u8 0) Try.underlying59 (fun w => ?_) rfl rfl kb o n cp hp (fun j hj => ?_) (fun j hj => World.ownsRow.frozenAt hrow _)
      · simp [go_sem]
      · rw [World.ownsRow.cellAt hrow _ (by omega), List.getElem?_eq_getElem (by rw [flat_length by1]; omega)]
        rfl
    · have := RunM.bytesK (List.replicate n 0) o W s h (hk hp)
      rw [flat_by, List.map_replicate] at this
      exact this
theorem reachF_len (s : St) (m : Nat) (h : s.sk.length ≤ 524288) : s.sk.length ≤ (reachF s m).sk.length ∧ m ≤ (reachF s m).sk.length ∧ (m ≤ 262144 → (reachF s m).sk.length ≤ 1048576) := by
  unfold reachF
  split
  · exact ⟨Nat.le_refl _, by omega, fun _ => by omega⟩
  · simp only [List.length_append, List.length_replicate]
    omega
theorem push23 (h : RunM C W0 r W s x t) {n : Nat} (hn : n ≤ 65536) (hl : 8126464 ≤ s.low ∧ s.low ≤ 8388608) (hL : s.sk.length ≤ 524288) (hL2 : 8388608 - s.low ≤ s.sk.length) :
    Calls Try.prog 23 #[.pointer (some ⟨r, 6, none⟩), .int .i64 n] W fun e w' => e = .returned (.bool (pushOk s n)) ∧ ∃ x', RunM C W0 r w' (pushF s n) x' t ∧ x' = { x with kv := x'.kv } := by
  have H := hid' h
  have c8 : W.cell? ⟨r, 8, none⟩ = some (.int .i64 s.low) := h.cell 8
  have fr := h.fro
  have hw : IntKind.i64.wrap (s.low - (n : Int)) = s.low - n := by simp [IntKind.wrap, IntKind.bits, IntKind.signed]; omega
  unfold pushF
  by_cases g : 8126464 ≤ s.low - n
  · have eo : pushOk s n = true := decide_eq_true g
    rw [eo]
    simp only [if_true]
    obtain ⟨m, hm⟩ : ∃ m : Nat, (m : Int) = 8388608 - (s.low - n) := ⟨(8388608 - (s.low - n)).toNat, by omega⟩
    have HP : Hid (pushG s n = { reachF { s with low := s.low - n } m with sk := putL (reachF { s with low := s.low - n } m).sk (s.low - n - (8388608 - ((reachF { s with low := s.low - n } m).sk.length : Int))).toNat (List.replicate n 0) }) := by
      unfold Hid pushG
      rw [← hm, Int.toNat_natCast]
    have g' : ¬ s.low - (n : Int) < 8126464 := by omega
    have hm8 : m ≤ 8388608 := by omega
    have h1 : RunM C W0 r (W.setCell ⟨r, 8, none⟩ (.int .i64 (s.low - n))) { s with low := s.low - n } x t := H.out.put 8 _ rfl rfl
    have h42 := reach42 h1 (n := m) hm8 (by dsimp only; omega)
    rw [hm] at h42
    have hw2 : IntKind.i64.wrap (8388608 - (s.low - (n : Int))) = 8388608 - (s.low - n) := by simp [IntKind.wrap, IntKind.bits, IntKind.signed]; omega
    have hw3 : IntKind.i64.wrap (s.low - (n : Int) + n) = s.low := by simp [IntKind.wrap, IntKind.bits, IntKind.signed]; omega
    have hw4 : IntKind.i64.wrap s.low = s.low := by simp [IntKind.wrap, IntKind.bits, IntKind.signed]; omega
    have hSL := reachF_len { s with low := s.low - n } m (by dsimp only; omega)
    have hlow : (reachF { s with low := s.low - n } m).low = s.low - n := by unfold reachF; split <;> rfl
    generalize hS2 : reachF { s with low := s.low - n } m = S2 at *
    clear h h1 hS2
    go_enter Try.func23, Try.ntmps23
    go_wp2_with (go_at_call 42; refine h42.mono ?_; rintro e1 w1 ⟨rfl, x1, hR1, hx1⟩; have c8b : w1.cell? ⟨r, 8, none⟩ = some (.int .i64 S2.low) := hR1.cell 8; rw [hlow] at c8b; have HR1 := hid' hR1; have HX1 := hid' hx1; clear hR1 hx1)
    have h43 := bytes43 HR1.out.drew (a := s.low - n) (b := s.low) (by have := hSL.2.2 (by omega); omega) (by omega) (by omega) (by omega)
    have en : (s.low - (s.low - (n : Int))).toNat = n := by omega
    have HF := hid' (fun (v : Value) (kb cap : Nat) (hv : PartV v kb (s.low - n - (8388608 - (S2.sk.length : Int))).toNat n) (hk : 0 < n → x1.kv = .slice (some ⟨kb, 0, none⟩) S2.sk.length cap ∧ S2.sk.length ≤ cap) => HR1.out.drew.cleared hv (fun hp => (hk hp).1) (by omega))
    rw [en] at h43
    go_region_law (first
      | (refine step_call rfl 43 #[.tmp 27, .tmp 31, .tmp 37] #[105, 3, 3] rfl #[.pointer (some ⟨r, 6, none⟩), .int .i64 (s.low - n), .int .i64 s.low] (by simp [Act.eval, Act.put, hw3, hw4]) (fun W => by simp [go_sem, Try.func43]) ?_; refine h43.mono ?_; rintro e2 w2 ⟨v, kb, cap, rfl, hv, hk, rfl⟩; refine ⟨v, rfl, ?_⟩; obtain ⟨w3, hclr, hR3⟩ := HF.out v kb cap hv hk)
      | (refine step_clr rfl (.tmp 38) 59 rfl _ _ (by simp [Act.eval]) hclr ?_))
    all_goals
      go_wp2
      go_ret
      exact ⟨rfl, x1, by rw [HP.out]; exact hR3, HX1.out⟩
  · have eo : pushOk s n = false := decide_eq_false g
    rw [eo]
    simp only [Bool.false_eq_true, if_false]
    have g' : s.low - (n : Int) < 8126464 := by omega
    clear h
    go_enter Try.func23, Try.ntmps23
    go_wp2
    go_ret
    exact ⟨rfl, x, H.out, rfl⟩
end
end Go.Proofs.Ytiehlkhpblldaaa
namespace Go.Proofs.Ytiehlkhpblldaaa
open Go.RowKit Go.Maps
section
variable {C : Cst} {W0 W W' : World} {r : Nat} {s s' : St} {x : Vs} {t : Tp}
/-- What the first k of some bytes say, the lowest first. -/
def wordK (l : List Int) : Nat → Int
  | 0 => 0
  | k + 1 => bits BinOp.or IntKind.u32 (wordK l k) (l.getD k 0 % 4294967296 * 2 ^ (8 * k) % 4294967296)
theorem wordOf71 {kb o n cap : Nat} {l : List Int} (hn : l.length = n) (hn4 : n ≤ 4) (hb : ∀ k (h : k < l.length), 0 ≤ l[k] ∧ l[k] < 256) (hc : ∀ k (h : k < l.length), W.cell? ⟨kb, o + k, none⟩ = some (.int .u8 l[k])) :
    Calls Try.prog 71 #[.slice (some ⟨kb, o, none⟩) n cap] W fun e w' => e = .returned (.int .u32 (wordK l n)) ∧ Below W.heap.size W w' := by
  have HC := hid' hc
  have HBY := hid' hb
  clear hc hb
  go_enter Try.func71, Try.ntmps71
  go_wp2
  go_loopw [3, 8] (fun u i wr => ∃ k : Nat, k ≤ n ∧ i = .int .i64 k ∧ u = .int .u32 (wordK l k) ∧ Below W.heap.size W wr) (fun _ i _ => n - (intOf i).toNat)
  case atStart => exact ⟨0, Nat.zero_le _, rfl, rfl, Below.refl _ _⟩
  case round =>
    obtain ⟨k, hk, rfl, rfl, hbw⟩ := hrel
    have HB := hid' hbw
    by_cases hlt : k < n
    · have hlt2 : k < l.length := by omega
      have hk8 : IntKind.i64.wrap (8 * (k : Int)) = 8 * (k : Int) := by simp [IntKind.wrap, IntKind.bits, IntKind.signed]; omega
      have c1 : wr.cell? ⟨kb, o + k, none⟩ = some (.int .u8 l[k]) := keep_cell (HC.out k hlt2) hbw
      have HE : Hid (wordK l (k + 1) = bits BinOp.or IntKind.u32 (wordK l k) (l[k] % 4294967296 * 2 ^ (8 * k) % 4294967296)) := by unfold Hid; simp [wordK, hlt2]
      clear hbw
      go_wp2
      refine ⟨⟨k + 1, by omega, by go_num, by rw [HE.out], HB.out⟩, ?_⟩
      simp [intOf]; omega
    · have e : k = n := by omega
      subst e
      go_wp2
      go_ret
      exact ⟨rfl, HB.out⟩

theorem setCells_snoc (b : Nat) : ∀ (vs : List Value) (o : Nat) (w : World) (v : Value), w.setCells b o (vs ++ [v]) = (w.setCells b o vs).setCell ⟨b, o + vs.length, none⟩ v
  | [], o, w, v => rfl
  | u :: vs, o, w, v => by
    show (w.setCell ⟨b, o, none⟩ u).setCells b (o + 1) (vs ++ [v]) = _
    rw [setCells_snoc b vs (o + 1) _ v]
    simp only [List.length_cons, World.setCells]
    rw [show o + 1 + vs.length = o + (vs.length + 1) by omega]
/-- A word's bytes, the lowest first. -/
def layL (w : Int) (n : Nat) : List Int := (List.range n).map (fun k => w / 2 ^ (8 * k) % 256)
theorem layL_len (w : Int) (n : Nat) : (layL w n).length = n := by simp [layL]
theorem layL_succ (w : Int) (n : Nat) : layL w (n + 1) = layL w n ++ [w / 2 ^ (8 * n) % 256] := by simp [layL, List.range_succ]
theorem layWord72 {kb o n cap : Nat} {w : Int} (hw : 0 ≤ w ∧ w < 4294967296) (hn4 : n ≤ 4) (hc : ∀ k, k < n → (W.cell? ⟨kb, o + k, none⟩).isSome = true) (hf : ∀ k, W.frozen? ⟨kb, k, none⟩ = false) :
    Calls Try.prog 72 #[.slice (some ⟨kb, o, none⟩) n cap, .int .u32 w] W fun e w' => e = .returned (.tuple #[]) ∧ w' = W.setCells kb o (flat bcel (layL w n)) := by
  have HC := hid' hc
  have HF := hid' hf
  clear hc hf
  go_enter Try.func72, Try.ntmps72
  go_wp2
  go_loopw [7] (fun i wr => ∃ k : Nat, k ≤ n ∧ i = .int .i64 k ∧ wr = W.setCells kb o (flat bcel (layL w k))) (fun i _ => n - (intOf i).toNat)
  case atStart => exact ⟨0, Nat.zero_le _, rfl, rfl⟩
  case round =>
    obtain ⟨k, hk, rfl, hwr⟩ := hrel
    have HW := hid' hwr
    by_cases hlt : k < n
    · have hk8 : IntKind.i64.wrap (8 * (k : Int)) = 8 * (k : Int) := by simp [IntKind.wrap, IntKind.bits, IntKind.signed]; omega
      obtain ⟨v0, hv0⟩ : ∃ v, wr.cell? ⟨kb, o + k, none⟩ = some v := by
        rw [hwr]
        exact Option.isSome_iff_exists.1 (World.isSome_setCells kb _ o W ⟨kb, o + k, none⟩ (HC.out k hlt))
      have hf0 : wr.frozen? ⟨kb, o + k, none⟩ = false := by
        rw [hwr, World.frozen?_setCells]; exact HF.out _
      have HS : Hid (wr.setCell ⟨kb, o + k, none⟩ (.int .u8 (w / 2 ^ (8 * k) % 256)) = W.setCells kb o (flat bcel (layL w (k + 1)))) := by
        unfold Hid
        rw [layL_succ, flat_append, show flat bcel [w / 2 ^ (8 * k) % 256] = [.int .u8 (w / 2 ^ (8 * k) % 256)] from rfl, setCells_snoc, flat_length by1, layL_len, Nat.mul_one, ← hwr]
      clear hwr
      go_wp2
      refine ⟨⟨k + 1, by omega, by go_num, HS.out⟩, ?_⟩
      simp [intOf]; omega
    · have e : k = n := by omega
      subst e
      clear hwr
      go_wp2
      go_end0
      exact ⟨rfl, HW.out⟩

/-- Where bytes lie: on the stack (true) or among the globals, and how far from its beginning. -/
def atF (s : St) (a : Int) (n : Int) : Option (Bool × Nat) :=
  if s.low ≤ a ∧ a + n ≤ 8388608 then some (true, (a - (8388608 - (s.sk.length : Int))).toNat)
  else if 16777216 ≤ a ∧ a + n ≤ 16777216 + (s.gl.length : Int) then some (false, (a - 16777216).toNat) else none
/-- What at tells. -/
def AtR (s : St) (x : Vs) (a : Int) (n : Nat) (v : Value) : Prop :=
  (atF s a n = none ∧ v = .slice none 0 0) ∨
  (∃ o kb cap cap', atF s a n = some (true, o) ∧ v = .slice (some ⟨kb, o, none⟩) n cap' ∧ x.kv = .slice (some ⟨kb, 0, none⟩) s.sk.length cap ∧ o + n ≤ s.sk.length) ∨
  (∃ o kb cap cap', atF s a n = some (false, o) ∧ v = .slice (some ⟨kb, o, none⟩) n cap' ∧ x.gv = .slice (some ⟨kb, 0, none⟩) s.gl.length cap ∧ o + n ≤ s.gl.length)
theorem at70 (h : RunM C W0 r W s x t) {a : Int} {n : Nat} (ha : 0 ≤ a ∧ a < 4294967296) (hn : 0 < n ∧ n ≤ 4) (hl : 0 ≤ s.low ∧ s.low ≤ 8388608) (hL : s.sk.length ≤ 16777216) (hL2 : 8388608 - s.low ≤ s.sk.length) (hG : s.gl.length ≤ 65536) :
    Calls Try.prog 70 #[.pointer (some ⟨r, 6, none⟩), .int .u32 a, .int .i64 n] W fun e w' => ∃ v, e = .returned v ∧ AtR s x a n v ∧ w' = W := by
  have c8 : W.cell? ⟨r, 8, none⟩ = some (.int .i64 s.low) := h.cell 8
  have c6 : W.cell? ⟨r, 6, none⟩ = some x.gv := h.cell 6
  have e1 : IntKind.i64.wrap a = a := by simp [IntKind.wrap, IntKind.bits, IntKind.signed]; omega
  have e2 : IntKind.i64.wrap (a + (n : Int)) = a + n := by simp [IntKind.wrap, IntKind.bits, IntKind.signed]; omega
  by_cases g : s.low ≤ a ∧ a + n ≤ 8388608
  · obtain ⟨g1, g2⟩ := g
    have HA : Hid (atF s a n = some (true, (a - (8388608 - (s.sk.length : Int))).toNat)) := by unfold Hid atF; rw [if_pos ⟨g1, g2⟩]
    have h43 := bytes43 h hL (a := a) (b := a + n) (by omega) (by omega) g2
    have en : (a + (n : Int) - a).toNat = n := by omega
    rw [en] at h43
    clear h
    go_enter Try.func70, Try.ntmps70
    go_wp2_with (go_at_call 43; refine h43.mono ?_; rintro e3 w3 ⟨v, kb, cap, rfl, ⟨ao, cp, rfl, hv⟩, hk, rfl⟩)
    go_ret
    refine ⟨_, rfl, .inr (.inl ⟨_, kb, cap, cp, HA.out, ?_, (hk hn.1).1, by omega⟩), rfl⟩
    first
      | rfl
      | (rw [hv hn.1]; rfl)
  · have g' : (s.low ≤ a ∧ a + (n : Int) ≤ 8388608) = False := eq_false g
    by_cases k : 16777216 ≤ a ∧ a + n ≤ 16777216 + (s.gl.length : Int)
    · obtain ⟨k1, k2⟩ := k
      have HA : Hid (atF s a n = some (false, (a - 16777216).toNat)) := by unfold Hid atF; rw [if_neg g, if_pos ⟨k1, k2⟩]
      obtain ⟨m, hm⟩ : ∃ m, s.gl.length = m + 1 := ⟨s.gl.length - 1, by omega⟩
      have hgs := h.rows.gs
      rw [hm] at hgs
      obtain ⟨gb, gcap, egv, hgc⟩ := own_form2 hgs
      rw [← hm] at egv hgc
      have HG := hid' egv
      rw [egv] at c6
      have e3 : IntKind.i64.wrap (16777216 + (s.gl.length : Int)) = 16777216 + (s.gl.length : Int) := by simp [IntKind.wrap, IntKind.bits, IntKind.signed]; omega
      have e4 : IntKind.i64.wrap (a - 16777216) = a - 16777216 := by simp [IntKind.wrap, IntKind.bits, IntKind.signed]; omega
      have e5 : IntKind.i64.wrap (a + (n : Int) - 16777216) = a + n - 16777216 := by simp [IntKind.wrap, IntKind.bits, IntKind.signed]; omega
      have e6 : (a + (n : Int) - 16777216).toNat - (a - 16777216).toNat = n := by omega
      have e7 : ¬ gcap = (a - 16777216).toNat := by omega
      clear hm hgs egv h
      by_cases q : s.low ≤ a
      · have q2 : ¬ a + (n : Int) ≤ 8388608 := fun e => g ⟨q, e⟩
        clear g g'
        go_enter Try.func70, Try.ntmps70
        go_wp2
        go_ret
        exact ⟨_, rfl, .inr (.inr ⟨_, gb, gcap, _, HA.out, rfl, HG.out, by omega⟩), rfl⟩
      · exfalso; omega
    · have HA : Hid (atF s a n = none) := by unfold Hid atF; rw [if_neg g, if_neg k]
      obtain ⟨go, gcap, egv, hgc⟩ := own_len h.rows.gs
      rw [egv] at c6
      have e3 : IntKind.i64.wrap (16777216 + (s.gl.length : Int)) = 16777216 + (s.gl.length : Int) := by simp [IntKind.wrap, IntKind.bits, IntKind.signed]; omega
      clear egv h
      by_cases q : s.low ≤ a
      · have q2 : ¬ a + (n : Int) ≤ 8388608 := fun e => g ⟨q, e⟩
        by_cases p : 16777216 ≤ a
        · have p2 : ¬ a + (n : Int) ≤ 16777216 + (s.gl.length : Int) := fun e => k ⟨p, e⟩
          clear g g' k
          go_enter Try.func70, Try.ntmps70
          go_wp2
          go_ret
          exact ⟨_, rfl, .inl ⟨HA.out, rfl⟩, rfl⟩
        · clear g g' k
          go_enter Try.func70, Try.ntmps70
          go_wp2
          go_ret
          exact ⟨_, rfl, .inl ⟨HA.out, rfl⟩, rfl⟩
      · by_cases p : 16777216 ≤ a
        · exfalso; omega
        · clear g g' k
          go_enter Try.func70, Try.ntmps70
          go_wp2
          go_ret
          exact ⟨_, rfl, .inl ⟨HA.out, rfl⟩, rfl⟩
end
end Go.Proofs.Ytiehlkhpblldaaa
