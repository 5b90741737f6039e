/- What a problem may be. -/
import Derived.Test.YtjhndnhldhmjnaaDoorEd
namespace Go.Proofs.YtjhndnhldhmjnaaDoor
open Go.RowKit Go.Maps
set_option linter.unusedVariables false
set_option linter.unusedSimpArgs false
/-- A problem of n nodes: with what its functions hold. -/
def prbV (n : Int) (ev : Value) (bot : Int) (s j q f : Value) : Value := .agg #[.int .i64 n, ev, .int .u64 bot, s, j, q, f]
theorem eqf30 (f : Fn) (a b : Array Value) (W : World) : Sem.run Tryd.prog (Go.binOp BinOp.eql 30 (.func f a b) .nilFunc) W = .ok (.bool false) W := rfl
theorem eqn30 (W : World) : Sem.run Tryd.prog (Go.binOp BinOp.eql 30 .nilFunc .nilFunc) W = .ok (.bool true) W := rfl
theorem eqf31 (f : Fn) (a b : Array Value) (W : World) : Sem.run Tryd.prog (Go.binOp BinOp.eql 31 (.func f a b) .nilFunc) W = .ok (.bool false) W := rfl
theorem eqn31 (W : World) : Sem.run Tryd.prog (Go.binOp BinOp.eql 31 .nilFunc .nilFunc) W = .ok (.bool true) W := rfl
theorem eqf32 (f : Fn) (a b : Array Value) (W : World) : Sem.run Tryd.prog (Go.binOp BinOp.eql 32 (.func f a b) .nilFunc) W = .ok (.bool false) W := rfl
theorem eqn32 (W : World) : Sem.run Tryd.prog (Go.binOp BinOp.eql 32 .nilFunc .nilFunc) W = .ok (.bool true) W := rfl
theorem eqf33 (f : Fn) (a b : Array Value) (W : World) : Sem.run Tryd.prog (Go.binOp BinOp.eql 33 (.func f a b) .nilFunc) W = .ok (.bool false) W := rfl
theorem eqn33 (W : World) : Sem.run Tryd.prog (Go.binOp BinOp.eql 33 .nilFunc .nilFunc) W = .ok (.bool true) W := rfl
set_option maxHeartbeats 1000000 in
theorem mayBe28_no {w : World} {n bot : Int} {ev s j q f : Value} (h : n < 0 ∨ 4096 < n) : Calls Tryd.prog 28 #[prbV n ev bot s j q f] w fun e w' => e = .returned (.bool false) ∧ Below w.heap.size w w' := by
  unfold prbV
  by_cases hn : n < 0
  · go_enter Tryd.func28, Tryd.ntmps28
    go_wp2
    go_ret
    exact ⟨rfl, by first | exact Below.refl _ _ | exact below1 _ _⟩
  · have h2 : 4096 < n := by omega
    go_enter Tryd.func28, Tryd.ntmps28
    go_wp2
    go_ret
    exact ⟨rfl, by first | exact Below.refl _ _ | exact below1 _ _⟩
set_option maxHeartbeats 1000000 in
theorem mayBe28_nil {w : World} {n bot : Int} {ev : Value} {s j q : Fn} {s1 s2 j1 j2 q1 q2 : Array Value} (h : 0 ≤ n ∧ n ≤ 4096) : Calls Tryd.prog 28 #[prbV n ev bot (.func s s1 s2) (.func j j1 j2) (.func q q1 q2) .nilFunc] w fun e w' => e = .returned (.bool false) ∧ Below w.heap.size w w' := by
  unfold prbV
  obtain ⟨h1, h2⟩ := h
  have f0 := eqf30
  have f1 := eqf31
  have f2 := eqf32
  have f3 := eqn33
  go_enter Tryd.func28, Tryd.ntmps28
  go_wp2
  go_ret
  exact ⟨rfl, by first | exact Below.refl _ _ | exact below1 _ _⟩
set_option maxHeartbeats 1000000 in
theorem mayBe28 {w : World} {n bot : Int} {ev : Value} {l : List (Int × Int)} {s j q f : Fn} {s1 s2 j1 j2 q1 q2 f1 f2 : Array Value} (hs : Src ecell w ev l) (hl : l.length * 16 ≤ big) (h : 0 ≤ n ∧ n ≤ 4096) :
    Calls Tryd.prog 28 #[prbV n ev bot (.func s s1 s2) (.func j j1 j2) (.func q q1 q2) (.func f f1 f2)] w fun e w' => e = .returned (.bool (edgesF l n)) ∧ Below w.heap.size w w' := by
  unfold prbV
  obtain ⟨ao, cap, rfl, hf⟩ := hs.edges
  unfold big at hl
  have HF := hid' hf
  obtain ⟨h1, h2⟩ := h
  have e0 := eqf30
  have e1 := eqf31
  have e2 := eqf32
  have e3 := eqf33
  clear hf hs
  go_enter Tryd.func28, Tryd.ntmps28
  go_wp2
  have B0 : Below w.heap.size w (w.alloc (Obj.cells #[.int .i64 n, .slice ao l.length cap, .int .u64 bot, .func s s1 s2, .func j j1 j2, .func q q1 q2, .func f f1 f2] 35)) := below1 _ _
  have c0 : (w.alloc (Obj.cells #[.int .i64 n, .slice ao l.length cap, .int .u64 bot, .func s s1 s2, .func j j1 j2, .func q q1 q2, .func f f1 f2] 35)).cell? ⟨w.heap.size, 0, none⟩ = some (.int .i64 n) := by simp
  generalize hw2 : (w.alloc (Obj.cells #[.int .i64 n, .slice ao l.length cap, .int .u64 bot, .func s s1 s2, .func j j1 j2, .func q q1 q2, .func f f1 f2] 35)) = w2 at B0 c0 ⊢
  go_loopw [34] (fun i wr => ∃ k : Nat, k ≤ l.length ∧ i = .int .i64 k ∧ Below w2.heap.size w2 wr ∧ (∀ j (hj : j < l.length), j < k → 0 ≤ l[j].1 ∧ l[j].1 < n ∧ 0 ≤ l[j].2 ∧ l[j].2 < n)) (fun i _ => l.length - (intOf i).toNat)
  case atStart => exact ⟨0, Nat.zero_le _, rfl, Below.refl _ _, fun j _ hj => by omega⟩
  case round =>
    obtain ⟨k, hk, rfl, hB, hok⟩ := hrel
    have HK := hid' hok
    have HB := hid' hB
    have BW := hid' (below_on B0 hB B0.size)
    have cn := keep_cell c0 hB
    clear hok hB
    by_cases hlt : k < l.length
    · obtain ⟨b, off, rfl, hbl, hcp, hc⟩ := HF.out k hlt
      have d0 := hc wr BW.out
      clear hc
      obtain ⟨d0, d1⟩ := d0
      have bad : ¬ (0 ≤ l[k].1 ∧ l[k].1 < n ∧ 0 ≤ l[k].2 ∧ l[k].2 < n) → edgesF l n = false := fun hh => decide_eq_false (fun hx => hh (hx _ (List.getElem_mem hlt)))
      have BAD := hid' bad
      have good : Hid ((0 ≤ l[k].1 ∧ l[k].1 < n ∧ 0 ≤ l[k].2 ∧ l[k].2 < n) → ∀ j (hj : j < l.length), j < k + 1 → 0 ≤ l[j].1 ∧ l[j].1 < n ∧ 0 ≤ l[j].2 ∧ l[j].2 < n) := fun hh j hj hjk => by
        by_cases e : j = k
        · subst e; exact hh
        · exact HK.out j hj (by omega)
      clear bad
      generalize l[k].1 = x at d0 BAD good
      generalize l[k].2 = y at d1 BAD good
      have l0 : w.heap.size < wr.heap.size := World.block_lt_of_cell? wr ⟨w.heap.size, 0, none⟩ cn
      have l1 : b < wr.heap.size := by omega
      have BE : Hid (Below w.heap.size w (wr.alloc (Obj.cells #[.int .i64 x, .int .i64 y] 44))) := BW.out.alloc BW.out.size _
      have BF : Hid (Below w2.heap.size w2 (wr.alloc (Obj.cells #[.int .i64 x, .int .i64 y] 44))) := HB.out.alloc HB.out.size _
      have FIN : Hid (¬ (0 ≤ x ∧ x < n ∧ 0 ≤ y ∧ y < n) → edgesF l n = false) := BAD.out
      rcases Int.lt_trichotomy x y with hxy | hxy | hxy
      · by_cases ha : x < 0
        · go_wp2
          go_ret
          exact ⟨by rw [FIN.out (by omega)]; rfl, BE.out⟩
        · by_cases hb : n ≤ y
          · go_wp2
            go_ret
            exact ⟨by rw [FIN.out (by omega)]; rfl, BE.out⟩
          · go_wp2
            go_round
            case rel => exact ⟨k + 1, by omega, by go_num, BF.out, good.out (by omega)⟩
            case measure => simp [intOf]; omega
      · subst hxy
        by_cases ha : x < 0
        · go_wp2
          go_ret
          exact ⟨by rw [FIN.out (by omega)]; rfl, BE.out⟩
        · by_cases hb : n ≤ x
          · go_wp2
            go_ret
            exact ⟨by rw [FIN.out (by omega)]; rfl, BE.out⟩
          · go_wp2
            go_round
            case rel => exact ⟨k + 1, by omega, by go_num, BF.out, good.out (by omega)⟩
            case measure => simp [intOf]; omega
      · by_cases ha : y < 0
        · go_wp2
          go_ret
          exact ⟨by rw [FIN.out (by omega)]; rfl, BE.out⟩
        · by_cases hb : n ≤ x
          · go_wp2
            go_ret
            exact ⟨by rw [FIN.out (by omega)]; rfl, BE.out⟩
          · go_wp2
            go_round
            case rel => exact ⟨k + 1, by omega, by go_num, BF.out, good.out (by omega)⟩
            case measure => simp [intOf]; omega
    · have e : k = l.length := by omega
      subst e
      have HR : Hid (edgesF l n = true) := decide_eq_true (fun e he => by
        obtain ⟨i, hi, e⟩ := List.getElem_of_mem he
        subst e
        exact HK.out i hi hi)
      go_wp2
      go_ret
      exact ⟨by rw [HR.out]; rfl, BW.out⟩
end Go.Proofs.YtjhndnhldhmjnaaDoor
