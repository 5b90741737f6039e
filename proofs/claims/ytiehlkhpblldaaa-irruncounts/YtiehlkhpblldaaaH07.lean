/- The run's bytes: the stack and the globals. -/
import Derived.Test.YtiehlkhpblldaaaH06
import Derived.Laws.CopyRow
import Derived.Laws.IdiomCopy
import Derived.Lib.SliceRun
set_option linter.unusedVariables false
set_option linter.unusedSimpArgs false
set_option maxRecDepth 20000
set_option maxHeartbeats 8000000
namespace Go.Proofs.Ytiehlkhpblldaaa
open Go.RowKit Go.Maps
/-- Bytes over those from o on. -/
def putL : List Int → Nat → List Int → List Int
  | l, _, [] => l
  | l, o, v :: vs => putL (l.set o v) (o + 1) vs
theorem putL_length : ∀ (vs l : List Int) (o : Nat), (putL l o vs).length = l.length
  | [], l, o => rfl
  | v :: vs, l, o => by unfold putL; rw [putL_length, List.length_set]
theorem flat_by : ∀ l : List Int, flat bcel l = l.map (fun n => .int .u8 n)
  | [] => rfl
  | x :: l => by rw [flat_cons, flat_by l]; rfl
theorem by_set (l : List Int) (o : Nat) (v : Int) : (flat bcel l).set o (.int .u8 v) = flat bcel (l.set o v) := by
  rw [flat_by, flat_by, List.map_set]
section
variable {C : Cst} {W0 W W' : World} {r : Nat} {s s' : St} {x : Vs} {t : Tp}
theorem RunM.byteK (h : RunM C W0 r W s x t) {kb cap : Nat} (hk : x.kv = .slice (some ⟨kb, 0, none⟩) s.sk.length cap) (o : Nat) (v : Int) : RunM C W0 r (W.setCell ⟨kb, o, none⟩ (.int .u8 v)) { s with sk := s.sk.set o v } x t := by
  have R := h.rows
  have hrow := R.ks
  rw [hk] at hrow
  obtain ⟨cur, hcur⟩ := own_block hrow (b := kb) rfl
  have K := setK W kb o (.int .u8 v)
  have hB := (World.ownsRow.lt hrow kb rfl).1
  have hne : r ≠ kb := fun e => by
    have := h.rc
    rw [e, hcur] at this
    injection this with this
    injection this with _ h2
    cases h2
  have hst := (World.ownsRow.stored hrow o (.int .u8 v)).1
  rw [by_set] at hst
  refine ⟨?_, h.rr, (K.block r h.lt hne).trans h.rc⟩
  refine { below := R.below.trans (K.below R.below.size (fun k e => by omega)), pg := R.pg, sv := R.sv, svl := R.svl, bk := fun i l hi => own_ty (R.bk i l hi) hcur (by decide) K, bi := R.bi, gk := R.gk, go := R.go, ko := R.ko, rm := fun g0 c0 hg0 => blk_ty (R.rm g0 c0 hg0) hcur (by decide) K, bs := own_ty R.bs hcur (by decide) K, hs := own_ty R.hs hcur (by decide) K, cs := own_ty R.cs hcur (by decide) K, xs := own_ty R.xs hcur (by decide) K, gs := K.owns R.gs (fun b hb e => R.gk b hb (by rw [hk, e]; rfl)), os := K.owns R.os (fun b hb e => R.ko kb (by rw [hk]; rfl) (by rw [hb, e])), ks := by dsimp only; rw [hk, List.length_set]; exact hst }
theorem RunM.bytesK : ∀ (vs : List Int) (o : Nat) (W : World) (s : St), RunM C W0 r W s x t → ∀ {kb cap : Nat}, x.kv = .slice (some ⟨kb, 0, none⟩) s.sk.length cap → RunM C W0 r (W.setCells kb o (flat bcel vs)) { s with sk := putL s.sk o vs } x t
  | [], o, W, s, h, kb, cap, hk => h
  | v :: vs, o, W, s, h, kb, cap, hk => RunM.bytesK vs (o + 1) _ _ (h.byteK hk o v) (by dsimp only; rw [List.length_set]; exact hk)
theorem RunM.byteG (h : RunM C W0 r W s x t) {kb cap : Nat} (hk : x.gv = .slice (some ⟨kb, 0, none⟩) s.gl.length cap) (o : Nat) (v : Int) : RunM C W0 r (W.setCell ⟨kb, o, none⟩ (.int .u8 v)) { s with gl := s.gl.set o v } x t := by
  have R := h.rows
  have hrow := R.gs
  rw [hk] at hrow
  obtain ⟨cur, hcur⟩ := own_block hrow (b := kb) rfl
  have K := setK W kb o (.int .u8 v)
  have hB := (World.ownsRow.lt hrow kb rfl).1
  have hne : r ≠ kb := fun e => by
    have := h.rc
    rw [e, hcur] at this
    injection this with this
    injection this with _ h2
    cases h2
  have hst := (World.ownsRow.stored hrow o (.int .u8 v)).1
  rw [by_set] at hst
  refine ⟨?_, h.rr, (K.block r h.lt hne).trans h.rc⟩
  refine { below := R.below.trans (K.below R.below.size (fun k e => by omega)), pg := R.pg, sv := R.sv, svl := R.svl, bk := fun i l hi => own_ty (R.bk i l hi) hcur (by decide) K, bi := R.bi, gk := R.gk, go := R.go, ko := R.ko, rm := fun g0 c0 hg0 => blk_ty (R.rm g0 c0 hg0) hcur (by decide) K, bs := own_ty R.bs hcur (by decide) K, hs := own_ty R.hs hcur (by decide) K, cs := own_ty R.cs hcur (by decide) K, xs := own_ty R.xs hcur (by decide) K, ks := K.owns R.ks (fun b hb e => R.gk kb (by rw [hk]; rfl) (by rw [hb, e])), os := K.owns R.os (fun b hb e => R.go kb (by rw [hk]; rfl) (by rw [hb, e])), gs := by dsimp only; rw [hk, List.length_set]; exact hst }
theorem RunM.bytesG : ∀ (vs : List Int) (o : Nat) (W : World) (s : St), RunM C W0 r W s x t → ∀ {kb cap : Nat}, x.gv = .slice (some ⟨kb, 0, none⟩) s.gl.length cap → RunM C W0 r (W.setCells kb o (flat bcel vs)) { s with gl := putL s.gl o vs } x t
  | [], o, W, s, h, kb, cap, hk => h
  | v :: vs, o, W, s, h, kb, cap, hk => RunM.bytesG vs (o + 1) _ _ (h.byteG hk o v) (by dsimp only; rw [List.length_set]; exact hk)
/-- A new row of bytes for the stack. -/
theorem RunM.newK (h : RunM C W0 r W s x t) {w2 : World} (hb : Below W.heap.size W w2) {g : Nat} (hg : W.heap.size ≤ g) {l : List Int} (hc : w2.heap[g]? = some (.cells (flat bcel l).toArray 5 (0, 0))) (hl : l.length ≤ maxLen) :
    RunM C W0 r (w2.setCell ⟨r, 7, none⟩ (.slice (some ⟨g, 0, none⟩) l.length l.length)) { s with sk := l } { x with kv := .slice (some ⟨g, 0, none⟩) l.length l.length } t := by
  have h2 := h.on hb
  have R := h2.rows
  have KS := setK w2 r 7 (.slice (some ⟨g, 0, none⟩) l.length l.length)
  have hB := h.rows.below.size
  have hnew : w2.ownsRow W0.heap.size 5 1 (.slice (some ⟨g, 0, none⟩) l.length l.length) l.length (flat bcel l) := by
    refine ⟨by rw [flat_length by1], .inr ⟨g, l.length, _, rfl, by omega, hc, Nat.le_refl _, hl, by simp [flat_length by1], ?_⟩⟩
    rw [List.take_of_length_le (by simp [flat_length by1])]
  have R' := R.turn h2.rc h2.rr (by decide) KS
  refine ⟨?_, h2.rr, heap_setCell_same w2 r 7 _ 72 _ h2.rc⟩
  refine { R' with ks := own_ty hnew h2.rc (by decide) KS, gk := fun b hb2 e => ?_, ko := fun b hb2 e => ?_ }
  · have e3 : g = b := by injection e
    have := (World.ownsRow.lt h.rows.gs b hb2).2
    omega
  · have e3 : g = b := by injection hb2
    have := (World.ownsRow.lt h.rows.os b e).2
    omega

/-- A part of the stack. -/
def PartV (v : Value) (kb o n : Nat) : Prop := ∃ ao cap, v = .slice ao n cap ∧ (0 < n → ao = some ⟨kb, o, none⟩)
theorem bytes43_some (h : RunM C W0 r W s x t) {kb cap : Nat} (hk : x.kv = .slice (some ⟨kb, 0, none⟩) s.sk.length cap) (hcap : s.sk.length ≤ cap) (hL : s.sk.length ≤ 16777216) {a b : Int} (h1 : 8388608 - (s.sk.length : Int) ≤ a) (h2 : a ≤ b) (h3 : b ≤ 8388608) :
    Calls Try.prog 43 #[.pointer (some ⟨r, 6, none⟩), .int .i64 a, .int .i64 b] W fun e w' => ∃ v, e = .returned v ∧ PartV v kb (a - (8388608 - (s.sk.length : Int))).toNat (b - a).toNat ∧ w' = W := by
  have c7 : W.cell? ⟨r, 7, none⟩ = some x.kv := h.cell 7
  rw [hk] at c7
  have e1 : IntKind.i64.wrap (8388608 - (s.sk.length : Int)) = 8388608 - (s.sk.length : Int) := by simp [IntKind.wrap, IntKind.bits, IntKind.signed]; omega
  have e2 : IntKind.i64.wrap (a - (8388608 - (s.sk.length : Int))) = a - (8388608 - (s.sk.length : Int)) := by simp [IntKind.wrap, IntKind.bits, IntKind.signed]; omega
  have e3 : IntKind.i64.wrap (b - (8388608 - (s.sk.length : Int))) = b - (8388608 - (s.sk.length : Int)) := by simp [IntKind.wrap, IntKind.bits, IntKind.signed]; omega
  have en : ((b - (8388608 - (s.sk.length : Int))).toNat - (a - (8388608 - (s.sk.length : Int))).toNat) = (b - a).toNat := by omega
  have ez : cap = (a - (8388608 - (s.sk.length : Int))).toNat → (b - a).toNat = 0 := by omega
  clear h hk
  go_enter Try.func43, Try.ntmps43
  go_wp2
  all_goals
    go_ret
    refine ⟨_, rfl, ?_, rfl⟩
    simp only [Array.getD_eq_getD_getElem?, List.getElem?_toArray, List.getElem?_cons_zero, List.getElem?_cons_succ, Option.getD_some]
    first
      | exact ⟨_, _, by rw [← en], fun _ => rfl⟩
      | exact ⟨_, _, by rw [← en], fun hp => by omega⟩
      | exact ⟨_, _, rfl, fun hp => by omega⟩
theorem bytes43_nil (h : RunM C W0 r W s x t) (hk : x.kv = .slice none 0 0) (hL : s.sk.length = 0) :
    Calls Try.prog 43 #[.pointer (some ⟨r, 6, none⟩), .int .i64 8388608, .int .i64 8388608] W fun e w' => ∃ v, e = .returned v ∧ PartV v 0 0 0 ∧ w' = W := by
  have c7 : W.cell? ⟨r, 7, none⟩ = some x.kv := h.cell 7
  rw [hk] at c7
  clear h hk
  go_enter Try.func43, Try.ntmps43
  go_wp2
  go_ret
  exact ⟨_, rfl, ⟨_, _, rfl, fun hp => by omega⟩, rfl⟩
theorem setRow_size (w : World) (g : Nat) (cs : Array Value) : (w.setRow g cs).heap.size = w.heap.size := by simp [World.setRow]
theorem step_cpy {P : Program} {ops : Array Oper} {o : Oper} {a : Act} {w w' : World} {K : Act → World → Prop} {Q : Exit → Act → World → Prop} {E : Prop}
    (hg : o.guard = none) (s x : Operand) (t : TypeId) (hop : o.op = Op.call { callee := Callee.builtin Builtin.copy, args := #[s, x], argTypes := #[t, t] })
    (v xv v' : Value) (hs : a.eval s = v) (hx : a.eval x = xv) (hrun : ∀ ty, (Builtin.copy_ #[t, t] ty #[v, xv]).run P w = .ok v' w') (hK : K (a.put o.dst v') w') :
    if Region.wanted o (yielded ops a.tmps) = true then Oper.wp P o a w K Q else E := by
  have hw : Region.wanted o (yielded ops a.tmps) = true := by simp [Region.wanted, hg]
  rw [if_pos hw]
  unfold Oper.wp
  simp [execOp, hop, resolve, invoke, builtin, hs, hx, hrun, Result.andThen]
  exact hK
theorem inf5 : (Try.prog.info? 5).map (fun i => (i.zero, i.size, i.bytes)) = some (some (.int .u8 0), 1, 1) := by kernel_rfl
theorem siz5 : (Try.prog.info? 5).map (·.size) = some 1 := by kernel_rfl
/-- The stack, as long as is asked. -/
def reachF (s : St) (n : Nat) : St := if n ≤ s.sk.length then s else { s with sk := List.replicate (max n (2 * s.sk.length) - s.sk.length) 0 ++ s.sk }
/-- The new row, and what is copied into it. -/
theorem RunM.grown (h : RunM C W0 r W s x t) {N : Nat} (hN : s.sk.length ≤ N) (hb : N ≤ 16777216) : ∃ w1 w2, (Instr.makeSlice 59 (.int .i64 (N : Nat)) (.int .i64 (N : Nat))).run Try.prog W = .ok (.slice (some ⟨W.heap.size, 0, none⟩) N N) w1 ∧ RunM C W0 r w1 s x t ∧
    (∀ ao ty, (0 < s.sk.length → ao = some ⟨W.heap.size, N - s.sk.length, none⟩) → ∀ cap, (Builtin.copy_ #[59, 59] ty #[.slice ao s.sk.length cap, x.kv]).run Try.prog w1.drew = .ok (goInt s.sk.length) w2) ∧
    RunM C W0 r w2 s x t ∧ RunM C W0 r (w2.setCell ⟨r, 7, none⟩ (.slice (some ⟨W.heap.size, 0, none⟩) N N)) { s with sk := List.replicate (N - s.sk.length) 0 ++ s.sk } { x with kv := .slice (some ⟨W.heap.size, 0, none⟩) N N } t := by
  obtain ⟨w1, hm, hrow, hb1, hs1⟩ := make_row (v := .int .u8 0) rfl W (base := W.heap.size) (n := N) Try.underlying59 inf5 (by omega) (by omega) (Nat.le_refl _)
  have hN2 : (List.replicate (N - s.sk.length) (0 : Int) ++ s.sk).length = N := by simp; omega
  obtain ⟨cur, hg, hcs⟩ : ∃ cur : Array Value, w1.heap[W.heap.size]? = some (.cells cur 5 (0, 0)) ∧ cur.toList = List.replicate N (.int .u8 0) := by
    rcases hrow.2 with ⟨e, _⟩ | ⟨g, cap', cur, e, _, hh, _, _, hsz, ht⟩
    · cases e
    · injection e with e1 e2 e3
      injection e1 with e1
      injection e1 with e1
      subst e1 e3
      refine ⟨cur, hh, ?_⟩
      rw [List.take_of_length_le (by simp; omega)] at ht
      exact ht
  have h1 := h.on hb1
  by_cases h0 : s.sk.length = 0
  · have e0 : s.sk = [] := List.eq_nil_of_length_eq_zero h0
    refine ⟨w1, w1.drew, hm, h1, fun ao ty _ cap => ?_, h1.drew, ?_⟩
    · obtain ⟨ko, kc, ek, _⟩ := own_len h.rows.ks
      rw [ek, h0]
      exact run_copy_none (P := Try.prog) w1.drew 59 59 ty 5 ao ko 0 cap 0 kc Try.underlying59 siz5 (by simp)
    · have := h.newK (w2 := w1.drew) ⟨hb1.os, hb1.tape, hb1.output, hb1.size, hb1.block⟩ (g := W.heap.size) (Nat.le_refl _) (l := List.replicate (N - s.sk.length) 0 ++ s.sk) (by
        show w1.heap[W.heap.size]? = _
        rw [hg, e0, List.append_nil, flat_by, List.map_replicate, List.length_nil, Nat.sub_zero, ← hcs, Array.toArray_toList]) (by rw [hN2]; unfold maxLen; omega)
      rw [hN2] at this
      exact this
  · obtain ⟨n, hn⟩ : ∃ n, s.sk.length = n + 1 := ⟨s.sk.length - 1, by omega⟩
    have hks := h.rows.ks
    rw [hn] at hks
    obtain ⟨kb, kc, ek, hkc⟩ := own_form2 hks
    rw [← hn] at hks ek hkc
    rw [ek] at hks
    have hkl := (World.ownsRow.lt hks kb rfl).2
    have hcp := fun ty cap => run_copy_row (P := Try.prog) w1.drew 59 59 ty 5 W.heap.size (N - s.sk.length) s.sk.length cap ⟨kb, 0, none⟩ s.sk.length kc cur 5 (flat bcel s.sk) Try.underlying59 siz5 hg (by rw [flat_length by1]; simp) (fun j u hj => by
      rw [Addr.add_lit, Nat.zero_add]
      show w1.cell? ⟨kb, j, none⟩ = some u
      rw [hb1.cell (p := ⟨kb, j, none⟩) hkl, World.ownsRow.cellAt hks j (by have := (List.getElem?_eq_some_iff.1 hj).1; rw [flat_length by1] at this; omega)]
      exact hj) (by have := congrArg List.length hcs; simp at this; rw [flat_length by1]; omega) (by intro u hu; rw [flat_by] at hu; obtain ⟨y, _, rfl⟩ := List.mem_map.1 hu; rfl)
    have ecur : (cur.toList.take (N - s.sk.length) ++ flat bcel s.sk ++ cur.toList.drop (N - s.sk.length + (flat bcel s.sk).length)) = flat bcel (List.replicate (N - s.sk.length) 0 ++ s.sk) := by
      rw [hcs, List.take_replicate, List.drop_of_length_le (by rw [List.length_replicate, flat_length by1]; omega), List.append_nil, flat_append, flat_by (List.replicate _ _), List.map_replicate, Nat.min_eq_left (by omega)]
    have hb2 : Below W.heap.size W (w1.drew.setRow W.heap.size (flat bcel (List.replicate (N - s.sk.length) 0 ++ s.sk)).toArray) := hb1.trans ⟨rfl, rfl, rfl, Nat.le_of_eq (setRow_size _ _ _).symm, fun k hk => setRow_other w1.drew _ k _ (by omega)⟩
    refine ⟨w1, w1.drew.setRow W.heap.size (flat bcel (List.replicate (N - s.sk.length) 0 ++ s.sk)).toArray, hm, h1, fun ao ty hao cap => ?_, h.on hb2, ?_⟩
    · rw [hao (by omega), ek]
      have := hcp ty cap
      rw [ecur, flat_length by1] at this
      simpa using this
    · have := h.newK hb2 (g := W.heap.size) (Nat.le_refl _) (l := List.replicate (N - s.sk.length) 0 ++ s.sk) (setRow_heap w1.drew W.heap.size cur _ 5 (0, 0) hg) (by rw [hN2]; unfold maxLen; omega)
      rw [hN2] at this
      exact this
def reachE (s : St) (N : Nat) : List Int := List.replicate (N - s.sk.length) 0 ++ s.sk
theorem reach42 (h : RunM C W0 r W s x t) {n : Nat} (hn : n ≤ 8388608) (hL : s.sk.length ≤ 8388608) :
    Calls Try.prog 42 #[.pointer (some ⟨r, 6, none⟩), .int .i64 n] W fun e w' => e = .returned (.tuple #[]) ∧ ∃ x', RunM C W0 r w' (reachF s n) x' t ∧ x' = { x with kv := x'.kv } := by
  have H := hid' h
  obtain ⟨ko, kc, ek, hkc⟩ := own_len h.rows.ks
  have c7 : W.cell? ⟨r, 7, none⟩ = some x.kv := h.cell 7
  rw [ek] at c7
  unfold reachF
  by_cases g : n ≤ s.sk.length
  · rw [if_pos g]
    have g' : (n : Int) ≤ s.sk.length := by omega
    clear h ek
    go_enter Try.func42, Try.ntmps42
    go_wp2
    exact bodyPost_ret (v := .tuple #[]) (by simp [results, Try.results42]) rfl ⟨rfl, x, H.out, rfl⟩
  · rw [if_neg g]
    have g' : ¬ (n : Int) ≤ s.sk.length := by omega
    obtain ⟨N, hN⟩ : ∃ N, N = max n (2 * s.sk.length) := ⟨_, rfl⟩
    rw [← hN]
    have hN1 : s.sk.length ≤ N := by omega
    have hN2 : N ≤ 16777216 := by omega
    obtain ⟨w1, w2, hm, h1, hcp, h2, hR⟩ := h.grown hN1 hN2
    have HR := hid' hR
    have hmx : max (n : Int) (2 * (s.sk.length : Int)) = (N : Int) := by omega
    have hw : IntKind.i64.wrap (2 * (s.sk.length : Int)) = 2 * (s.sk.length : Int) := by simp [IntKind.wrap, IntKind.bits, IntKind.signed]; omega
    have d7 : w1.cell? ⟨r, 7, none⟩ = some (.slice ko s.sk.length kc) := by rw [← ek]; exact h1.cell 7
    have e7 : w2.cell? ⟨r, 7, none⟩ = some (.slice ko s.sk.length kc) := by rw [← ek]; exact h2.cell 7
    have ef := h2.fro 7
    rw [ek] at hcp
    have hwd : IntKind.i64.wrap ((N : Int) - (s.sk.length : Int)) = (N : Int) - (s.sk.length : Int) := by simp [IntKind.wrap, IntKind.bits, IntKind.signed]; omega
    have hNL : ((N : Int) - (s.sk.length : Int)).toNat = N - s.sk.length := by omega
    have hNN : N - (N - s.sk.length) = s.sk.length := by omega
    have hNL2 : (s.sk.length : Int) ≤ N := by omega
    have hcp1 := fun ty cap => hcp (some ⟨W.heap.size, N - s.sk.length, none⟩) ty (fun _ => rfl) cap
    have hcp2 := fun (hz : s.sk.length = 0) ao ty cap => hcp ao ty (fun hp => by omega) cap
    clear h h1 h2 hR ek hcp
    have HE : Hid (reachE s N = List.replicate (N - s.sk.length) 0 ++ s.sk) := rfl
    rw [← HE.out] at HR ⊢
    clear HE hN
    generalize reachE s N = SK at *
    generalize s.sk.length = L at *
    have fin : Hid (∀ w', w' = w2.setCell ⟨r, 7, none⟩ (.slice (some ⟨W.heap.size, 0, none⟩) N N) → ∃ x', RunM C W0 r w' { s with sk := SK } x' t ∧ x' = { x with kv := x'.kv }) := fun w' e => by subst e; exact ⟨_, HR.out, rfl⟩
    clear HR H
    rcases Nat.eq_zero_or_pos L with rfl | hp
    · have hNn : (N : Int) = n := by omega
      have hcp3 := fun ty ao cap => hcp2 rfl ao ty cap
      have hge2 : ¬ (n : Int) < 0 := by omega
      rw [hNn] at hm
      have hNp : 0 < N := by omega
      have hwN : IntKind.i64.wrap (N : Int) = N := by simp [IntKind.wrap, IntKind.bits, IntKind.signed]; omega
      clear hcp1 hcp2 hmx hNn hw hNN
      go_enter Try.func42, Try.ntmps42
      go_wp2
      go_region_law (refine step_cpy rfl (.tmp 30) (.tmp 34) 59 rfl _ _ _ (by simp [Act.eval]) (by simp [Act.eval]) (fun ty => hcp3 ty _ _) ?_)
      all_goals
        go_wp2
        go_end0
        exact ⟨rfl, fin.out _ rfl⟩
    · by_cases hge : 2 * (L : Int) ≤ n
      · have hNn : (N : Int) = n := by omega
        rw [hNn] at hm
        have hge2 : ¬ (n : Int) < 2 * (L : Int) := by omega
        have hNlt : ¬ N = N - L := by omega
        have hNle : (N : Int) - (L : Int) ≤ N := by omega
        clear hmx hcp2 hNn
        go_enter Try.func42, Try.ntmps42
        go_wp2
        go_region_law (refine step_cpy rfl (.tmp 30) (.tmp 34) 59 rfl _ _ _ (by simp [Act.eval]) (by simp [Act.eval]) (fun ty => hcp1 ty _) ?_)
        all_goals
          go_wp2
          go_end0
          exact ⟨rfl, fin.out _ rfl⟩
      · have hNn : (N : Int) = 2 * (L : Int) := by omega
        rw [hNn] at hm
        have hge2 : (n : Int) < 2 * (L : Int) := by omega
        have hNlt : ¬ N = N - L := by omega
        have hNle : (N : Int) - (L : Int) ≤ N := by omega
        clear hmx hcp2 hNn
        go_enter Try.func42, Try.ntmps42
        go_wp2
        go_region_law (refine step_cpy rfl (.tmp 30) (.tmp 34) 59 rfl _ _ _ (by simp [Act.eval]) (by simp [Act.eval]) (fun ty => hcp1 ty _) ?_)
        all_goals
          go_wp2
          go_end0
          exact ⟨rfl, fin.out _ rfl⟩
end
end Go.Proofs.Ytiehlkhpblldaaa
