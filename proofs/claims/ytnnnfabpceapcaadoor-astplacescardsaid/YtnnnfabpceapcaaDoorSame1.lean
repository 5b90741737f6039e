/- Are nodes alike? -/
import Derived.Test.YtnnnfabpceapcaaDoorTree
import Derived.Deep.QuietTactic
import Derived.BigQuiet
namespace Go.Proofs.YtnnnfabpceapcaaDoor
open Go.RowKit
set_option linter.unusedVariables false
/-- Are two nodes alike, but for places and kids? -/
def eqN (x y : NdH) : Bool := decide (x.kind = y.kind) && ((x.str.toList == y.str.toList) && (decide (x.num = y.num) && (x.flag == y.flag)))
theorem below_dr (w : World) (n : Nat) : Below w.heap.size w (w.drewN n) := ⟨rfl, rfl, rfl, Nat.le_refl _, fun _ _ => rfl⟩
set_option maxHeartbeats 8000000 in
theorem alike_kind {w : World} {b o b' o' : Nat} {k k' m m' : Int} {s s' : ByteArray} {f f' : Bool} (hb : b < w.heap.size) (hb' : b' < w.heap.size)
    (c0 : w.cell? ⟨b, o, none⟩ = some (.int .i64 k)) (c1 : w.cell? ⟨b, o + 1, none⟩ = some (.string s)) (c2 : w.cell? ⟨b, o + 2, none⟩ = some (.int .u32 m)) (c3 : w.cell? ⟨b, o + 3, none⟩ = some (.bool f))
    (d0 : w.cell? ⟨b', o', none⟩ = some (.int .i64 k')) (d1 : w.cell? ⟨b', o' + 1, none⟩ = some (.string s')) (d2 : w.cell? ⟨b', o' + 2, none⟩ = some (.int .u32 m')) (d3 : w.cell? ⟨b', o' + 3, none⟩ = some (.bool f')) (hk : (k == k') = false) :
    Calls Tryd.prog 22 #[.pointer (some ⟨b, o, none⟩), .pointer (some ⟨b', o', none⟩)] w fun e w' => e = .returned (.bool false) ∧ Below w.heap.size w w' := by
  go_enter Tryd.func22, Tryd.ntmps22
  go_wp2
  go_quiet (fail)
  go_wp2
  go_ret
  exact ⟨rfl, below_dr _ _⟩
set_option maxHeartbeats 8000000 in
theorem alike_str {w : World} {b o b' o' : Nat} {k k' m m' : Int} {s s' : ByteArray} {f f' : Bool} (hb : b < w.heap.size) (hb' : b' < w.heap.size)
    (c0 : w.cell? ⟨b, o, none⟩ = some (.int .i64 k)) (c1 : w.cell? ⟨b, o + 1, none⟩ = some (.string s)) (c2 : w.cell? ⟨b, o + 2, none⟩ = some (.int .u32 m)) (c3 : w.cell? ⟨b, o + 3, none⟩ = some (.bool f))
    (d0 : w.cell? ⟨b', o', none⟩ = some (.int .i64 k)) (d1 : w.cell? ⟨b', o' + 1, none⟩ = some (.string s')) (d2 : w.cell? ⟨b', o' + 2, none⟩ = some (.int .u32 m')) (d3 : w.cell? ⟨b', o' + 3, none⟩ = some (.bool f')) (hs : (s.toList == s'.toList) = false) :
    Calls Tryd.prog 22 #[.pointer (some ⟨b, o, none⟩), .pointer (some ⟨b', o', none⟩)] w fun e w' => e = .returned (.bool false) ∧ Below w.heap.size w w' := by
  go_enter Tryd.func22, Tryd.ntmps22
  go_wp2
  go_quiet (fail)
  go_wp2
  go_ret
  exact ⟨rfl, below_dr _ _⟩
set_option maxHeartbeats 8000000 in
theorem alike_num {w : World} {b o b' o' : Nat} {k k' m m' : Int} {s s' : ByteArray} {f f' : Bool} (hb : b < w.heap.size) (hb' : b' < w.heap.size)
    (c0 : w.cell? ⟨b, o, none⟩ = some (.int .i64 k)) (c1 : w.cell? ⟨b, o + 1, none⟩ = some (.string s)) (c2 : w.cell? ⟨b, o + 2, none⟩ = some (.int .u32 m)) (c3 : w.cell? ⟨b, o + 3, none⟩ = some (.bool f))
    (d0 : w.cell? ⟨b', o', none⟩ = some (.int .i64 k)) (d1 : w.cell? ⟨b', o' + 1, none⟩ = some (.string s')) (d2 : w.cell? ⟨b', o' + 2, none⟩ = some (.int .u32 m')) (d3 : w.cell? ⟨b', o' + 3, none⟩ = some (.bool f')) (hs : (s.toList == s'.toList) = true) (hm0 : ¬ m = m') (hm : decide (m = m') = false) :
    Calls Tryd.prog 22 #[.pointer (some ⟨b, o, none⟩), .pointer (some ⟨b', o', none⟩)] w fun e w' => e = .returned (.bool false) ∧ Below w.heap.size w w' := by
  go_enter Tryd.func22, Tryd.ntmps22
  go_wp2
  go_quiet (fail)
  go_wp2
  go_ret
  exact ⟨rfl, below_dr _ _⟩
set_option maxHeartbeats 8000000 in
theorem alike_flag {w : World} {b o b' o' : Nat} {k k' m m' : Int} {s s' : ByteArray} {f f' : Bool} (hb : b < w.heap.size) (hb' : b' < w.heap.size)
    (c0 : w.cell? ⟨b, o, none⟩ = some (.int .i64 k)) (c1 : w.cell? ⟨b, o + 1, none⟩ = some (.string s)) (c2 : w.cell? ⟨b, o + 2, none⟩ = some (.int .u32 m)) (c3 : w.cell? ⟨b, o + 3, none⟩ = some (.bool f))
    (d0 : w.cell? ⟨b', o', none⟩ = some (.int .i64 k)) (d1 : w.cell? ⟨b', o' + 1, none⟩ = some (.string s')) (d2 : w.cell? ⟨b', o' + 2, none⟩ = some (.int .u32 m)) (d3 : w.cell? ⟨b', o' + 3, none⟩ = some (.bool f')) (hs : (s.toList == s'.toList) = true) :
    Calls Tryd.prog 22 #[.pointer (some ⟨b, o, none⟩), .pointer (some ⟨b', o', none⟩)] w fun e w' => e = .returned (.bool (f == f')) ∧ Below w.heap.size w w' := by
  go_enter Tryd.func22, Tryd.ntmps22
  go_wp2
  go_quiet (fail)
  go_wp2
  go_ret
  exact ⟨rfl, below_dr _ _⟩
theorem alike22 {w : World} {b o b' o' : Nat} {x y : NdH} {kv kv' : Value} (h : NdAt w b o x kv) (hb : b < w.heap.size) (h' : NdAt w b' o' y kv') (hb' : b' < w.heap.size) :
    Calls Tryd.prog 22 #[.pointer (some ⟨b, o, none⟩), .pointer (some ⟨b', o', none⟩)] w fun e w' => e = .returned (.bool (eqN x y)) ∧ Below w.heap.size w w' := by
  obtain ⟨c0, c1, c2, c3, _, _⟩ := h
  obtain ⟨d0, d1, d2, d3, _, _⟩ := h'
  unfold eqN
  by_cases hk : x.kind = y.kind
  · rw [decide_eq_true hk, Bool.true_and]
    rw [← hk] at d0
    cases hs : x.str.toList == y.str.toList with
    | true =>
      rw [Bool.true_and]
      by_cases hm : x.num = y.num
      · rw [decide_eq_true hm, Bool.true_and]
        rw [← hm] at d2
        exact alike_flag (k' := 0) (m' := 0) hb hb' c0 c1 c2 c3 d0 d1 d2 d3 hs
      · rw [decide_eq_false hm, Bool.false_and]
        exact alike_num (k' := 0) hb hb' c0 c1 c2 c3 d0 d1 d2 d3 hs hm (decide_eq_false hm)
    | false =>
      rw [Bool.false_and]
      exact alike_str (k' := 0) hb hb' c0 c1 c2 c3 d0 d1 d2 d3 hs
  · rw [decide_eq_false hk, Bool.false_and]
    exact alike_kind hb hb' c0 c1 c2 c3 d0 d1 d2 d3 (by simpa using hk)
end Go.Proofs.YtnnnfabpceapcaaDoor
