/- Where each line's words stand in the code. -/
import Derived.Test.YtgnlplddppheiaaIBackAll
import Derived.Test.YtgnlplddppheiaaCode
import Derived.Test.YtgnlplddppheiaaRAsm
namespace Go.Proofs.Ytgnlplddppheiaa
open Go.RowKit Go.Maps
set_option linter.unusedVariables false

theorem or_u32 (a b : Nat) (ha : a < 4294967296) (hb : b < 4294967296) : bits .or .u32 (a : Int) (b : Int) = ((a ||| b : Nat) : Int) := by
  have hlt : a ||| b < 4294967296 := Nat.or_lt_two_pow (n := 32) ha hb
  have e : (BitVec.ofInt 32 (a : Int) ||| BitVec.ofInt 32 (b : Int)).toNat = a ||| b := by
    rw [BitVec.toNat_or, BitVec.ofInt_natCast, BitVec.ofInt_natCast, BitVec.toNat_ofNat, BitVec.toNat_ofNat, Nat.mod_eq_of_lt ha, Nat.mod_eq_of_lt hb]
  show IntKind.u32.wrap ((BitVec.ofInt 32 (a : Int) ||| BitVec.ofInt 32 (b : Int)).toNat : Int) = _
  rw [e]
  simp [IntKind.wrap, IntKind.bits, IntKind.signed]
  omega
theorem or_high (i a b : Nat) (h : a < 2 ^ i) : a ||| b * 2 ^ i = a + b * 2 ^ i := by
  have := Nat.shiftLeft_add_eq_or_of_lt h b
  rw [Nat.shiftLeft_eq] at this
  rw [Nat.or_comm, ← this, Nat.add_comm]
theorem or_low (x y : Nat) (hy : y < 256) (hx : x < 16777216) : bits .or .u32 ((x : Int) * 256 % 4294967296) (y : Int) = ((x * 256 + y : Nat) : Int) := by
  have h1 : x * 256 < 4294967296 := by omega
  have h2 : y < 4294967296 := by omega
  have o := or_u32 (x * 256) y h1 h2
  have h3 := or_high 8 y x hy
  have e : (x : Int) * 256 % 4294967296 = ((x * 256 : Nat) : Int) := by omega
  rw [e, o, Nat.or_comm]
  rw [show (2 : Nat) ^ 8 = 256 from rfl] at h3
  rw [h3, Nat.add_comm]
theorem or_low' (x y : Nat) (hy : y < 256) (hx : x < 16777216) : bits .or .u32 ((x : Int) * 256) (y : Int) = ((x * 256 + y : Nat) : Int) := by
  have := or_low x y hy hx
  rw [show (x : Int) * 256 % 4294967296 = (x : Int) * 256 by omega] at this
  exact this

/-- Decode of an instruction's word. -/
theorem decode39 {op d a b i : Int} (h : mayI op d a b i = true) (w : World) :
    Calls Try.prog 39 #[.int .u32 (wdI op d a b i : Int)] w fun e w' => e = .returned (.tuple #[.agg #[.int .i64 op, .int .i64 d, .int .i64 a, .int .i64 b, .int .i32 i], .int .i64 0]) ∧ Below w.heap.size w w' := by
  obtain ⟨u0, u1, ho, hd, ha, hb, hI⟩ := back_word (row_of op) rfl h
  have e : (wdI op d a b i : Int) = wordF (nF (partsF op)) op d a b i := by
    unfold wdI
    rw [if_pos h, Int.toNat_of_nonneg u0]
  rw [e]
  exact decode13_yes (row_of op) rfl u0 u1 ho hd ha hb hI h rfl w

abbrev insBox (op d a b i : Int) : Obj := .cells #[.int .i64 op, .int .i64 d, .int .i64 a, .int .i64 b, .int .i32 i] 24
theorem or_w {X Y : Int} {x y z : Nat} (hX : X = (x : Int) * 256) (hY : Y = (y : Int)) (hy : y < 256) (hx : x < 16777216) (hz : x * 256 + y = z) : bits .or .u32 X Y = (z : Int) := by
  subst hX hY hz
  exact or_low' x y hy hx
theorem vw {a b : Int} (h : a = b) : Value.int .u32 a = Value.int .u32 b := by rw [h]

theorem zk5 {w w1 : World} (hb : Below (w.alloc (insBox 0 0 0 0 0)).heap.size (w.alloc (insBox 0 0 0 0 0)) w1) :
    (w1.cell? ⟨w.heap.size, 0, none⟩ = some (.int .i64 0) ∧ w1.cell? ⟨w.heap.size, 1, none⟩ = some (.int .i64 0) ∧ w1.cell? ⟨w.heap.size, 2, none⟩ = some (.int .i64 0) ∧ w1.cell? ⟨w.heap.size, 3, none⟩ = some (.int .i64 0) ∧ w1.cell? ⟨w.heap.size, 4, none⟩ = some (.int .i32 0)) ∧ (∀ o, w1.frozen? ⟨w.heap.size, o, none⟩ = false) ∧ Below w.heap.size w w1 ∧ w.heap.size < w1.heap.size := by
  obtain ⟨hc, hf⟩ := bcell hb
  have hl : w.heap.size < (w.alloc (insBox 0 0 0 0 0)).heap.size := by simp
  refine ⟨⟨?_, ?_, ?_, ?_, ?_⟩, fun o => ?_, below_call hb, Nat.lt_of_lt_of_le hl hb.size⟩
  all_goals first | (rw [hc _ _ hl]; simp [go_sem]) | (rw [hf _ _ hl]; simp [go_sem])
theorem below_set5a {w W : World} (h : Below w.heap.size w W) (v0 v1 v2 v3 v4 : Value) (o : Obj) : Below w.heap.size w ((((((W.setCell ⟨w.heap.size, 0, none⟩ v0).setCell ⟨w.heap.size, 1, none⟩ v1).setCell ⟨w.heap.size, 2, none⟩ v2).setCell ⟨w.heap.size, 3, none⟩ v3).setCell ⟨w.heap.size, 4, none⟩ v4).alloc o) :=
  have h5 := ((((h.setCell (Nat.le_refl _) v0).setCell (Nat.le_refl _) v1).setCell (Nat.le_refl _) v2).setCell (Nat.le_refl _) v3).setCell (Nat.le_refl _) v4
  h5.alloc h5.size o

set_option maxRecDepth 20000 in
set_option maxHeartbeats 4000000 in
theorem word28 (s : ByteArray) (at' n : Nat) (hn : n < 4294967296) (h4 : 4 * at' + 4 ≤ s.size) (hs : s.size ≤ 2000000)
    (e0 : (s[4 * at' + 0]).toNat = n % 256) (e1 : (s[4 * at' + 1]).toNat = n / 256 % 256) (e2 : (s[4 * at' + 2]).toNat = n / 65536 % 256) (e3 : (s[4 * at' + 3]).toNat = n / 16777216)
    {op d a b i : Int} (hD : ∀ w, Calls Try.prog 39 #[.int .u32 (n : Int)] w fun e w' => e = .returned (.tuple #[.agg #[.int .i64 op, .int .i64 d, .int .i64 a, .int .i64 b, .int .i32 i], .int .i64 0]) ∧ Below w.heap.size w w') (w : World) :
    Calls Try.prog 28 #[.string s, .int .i64 (at' : Int)] w fun e w' => e = .returned (.tuple #[.agg #[.int .i64 op, .int .i64 d, .int .i64 a, .int .i64 b, .int .i32 i], .bool true]) ∧ Below w.heap.size w w' := by
  have h4' : (4 : Int) * at' + 4 ≤ s.size := by omega
  go_enter Try.func28, Try.ntmps28
  go_wp2
  go_loop [6, 7] (fun v k => ∃ j : Nat, j ≤ 4 ∧ k = .int .i64 ((j : Int) - 1) ∧ ((j = 4 ∧ v = .int .u32 0) ∨ (j = 3 ∧ v = .int .u32 ((n / 16777216 : Nat) : Int)) ∨ (j = 2 ∧ v = .int .u32 ((n / 65536 : Nat) : Int)) ∨ (j = 1 ∧ v = .int .u32 ((n / 256 : Nat) : Int)) ∨ (j = 0 ∧ v = .int .u32 (n : Int)))) (fun _ k => (intOf k + 1).toNat)
  case atStart => exact ⟨4, Nat.le_refl _, rfl, .inl ⟨rfl, rfl⟩⟩
  case round =>
    obtain ⟨j, hj, rfl, hv⟩ := hrel
    rcases hv with ⟨rfl, rfl⟩ | ⟨rfl, rfl⟩ | ⟨rfl, rfl⟩ | ⟨rfl, rfl⟩ | ⟨rfl, rfl⟩
    · go_wp2
      exact ⟨⟨3, by omega, rfl, .inr (.inl ⟨rfl, vw (or_w (x := 0) (y := n / 16777216) (by omega) (by omega) (by omega) (by omega) (by omega))⟩)⟩, by simp [intOf]⟩
    · go_wp2
      exact ⟨⟨2, by omega, rfl, .inr (.inr (.inl ⟨rfl, vw (or_w (x := n / 16777216) (y := n / 65536 % 256) (by omega) (by omega) (by omega) (by omega) (by omega))⟩))⟩, by simp [intOf]⟩
    · go_wp2
      exact ⟨⟨1, by omega, rfl, .inr (.inr (.inr (.inl ⟨rfl, vw (or_w (x := n / 65536) (y := n / 256 % 256) (by omega) (by omega) (by omega) (by omega) (by omega))⟩)))⟩, by simp [intOf]⟩
    · have e0' : (s[4 * at']'(by omega)).toNat = n % 256 := e0
      clear e0
      go_wp2
      exact ⟨⟨0, by omega, rfl, .inr (.inr (.inr (.inr ⟨rfl, vw (or_w (x := n / 256) (y := n % 256) (by omega) (by omega) (by omega) (by omega) (by omega))⟩)))⟩, by simp [intOf]⟩
    · go_wp2_with (go_at_call 39; (with_reducible refine (hD _).mono ?_); rintro e w1 ⟨rfl, hb1⟩; obtain ⟨⟨k0, k1, k2, k3, k4⟩, hz, hB, hlz⟩ := zk5 hb1; have z0 := hz 0; have z1 := hz 1; have z2 := hz 2; have z3 := hz 3; have z4 := hz 4; replace hB := hid' hB; clear hz hb1)
      exact bodyPost_ret (v := .tuple #[.agg #[.int .i64 op, .int .i64 d, .int .i64 a, .int .i64 b, .int .i32 i], .bool true]) (by simp [results, Try.results28, go_sem, k0, k1, k2, k3, k4, hlz]) rfl ⟨rfl, below_set5a hB.out _ _ _ _ _ _⟩
end Go.Proofs.Ytgnlplddppheiaa

namespace Go.Proofs.Ytgnlplddppheiaa
open Go.RowKit Go.Maps
set_option linter.unusedVariables false

section
variable {s : ByteArray} {at' : Nat} {lb op d a b i t : Int}
theorem box7 {w w1 : World} {lb op d a b i tz : Int} (hb : Below (w.alloc (.cells #[.int .i64 lb, .int .i64 op, .int .i64 d, .int .i64 a, .int .i64 b, .int .i32 i, .int .i64 tz] 40)).heap.size (w.alloc (.cells #[.int .i64 lb, .int .i64 op, .int .i64 d, .int .i64 a, .int .i64 b, .int .i32 i, .int .i64 tz] 40)) w1) :
    (w1.cell? ⟨w.heap.size, 1, none⟩ = some (.int .i64 op) ∧ w1.cell? ⟨w.heap.size, 2, none⟩ = some (.int .i64 d) ∧ w1.cell? ⟨w.heap.size, 3, none⟩ = some (.int .i64 a) ∧ w1.cell? ⟨w.heap.size, 4, none⟩ = some (.int .i64 b) ∧ w1.cell? ⟨w.heap.size, 5, none⟩ = some (.int .i32 i) ∧ w1.cell? ⟨w.heap.size, 6, none⟩ = some (.int .i64 tz)) ∧ w.heap.size < w1.heap.size := by
  have hl : w.heap.size < (w.alloc (.cells #[.int .i64 lb, .int .i64 op, .int .i64 d, .int .i64 a, .int .i64 b, .int .i32 i, .int .i64 tz] 40)).heap.size := by simp
  have hc := (bcell hb).1
  refine ⟨⟨?_, ?_, ?_, ?_, ?_, ?_⟩, Nat.lt_of_lt_of_le hl hb.size⟩
  all_goals (rw [hc _ _ hl]; simp [go_sem])

set_option maxHeartbeats 4000000 in
theorem leads_plain (hW : ∀ w, Calls Try.prog 28 #[.string s, .int .i64 (at' : Int)] w fun e w' => e = .returned (.tuple #[.agg #[.int .i64 op, .int .i64 d, .int .i64 a, .int .i64 b, .int .i32 i], .bool true]) ∧ Below w.heap.size w w') (w : World) :
    Calls Try.prog 16 #[.string s, .int .i64 (at' : Int), .agg #[.int .i64 lb, .int .i64 op, .int .i64 d, .int .i64 a, .int .i64 b, .int .i32 i, .int .i64 0], .int .i64 t] w fun e w' => e = .returned (.tuple #[.int .i64 1, .bool true]) ∧ Below w.heap.size w w' := by
  go_enter Try.func16, Try.ntmps16
  go_wp2_with (go_at_call 28; (with_reducible refine (hW _).mono ?_); rintro e w1 ⟨rfl, hb1⟩; obtain ⟨⟨x1, x2, x3, x4, x5, x6⟩, hl1⟩ := box7 hb1; replace hb1 := hid' (below_call hb1))
  go_quiet (fail)
  go_wp2
  go_ret2
  exact ⟨rfl, (hb1.out.alloc hb1.out.size _).trans ⟨rfl, rfl, rfl, Nat.le_refl _, fun _ _ => rfl⟩⟩

set_option maxHeartbeats 4000000 in
theorem leads_short {d' b' i' tz : Int} (hto : tz ≠ 0) (hi0 : -2147483648 ≤ i') (hi1 : i' ≤ 2147483647) (hat : at' ≤ 1000000) (ht : t = (at' : Int) + 1 + i')
    (hW : ∀ w, Calls Try.prog 28 #[.string s, .int .i64 (at' : Int)] w fun e w' => e = .returned (.tuple #[.agg #[.int .i64 op, .int .i64 d', .int .i64 a, .int .i64 b', .int .i32 i'], .bool true]) ∧ Below w.heap.size w w') (w : World) :
    Calls Try.prog 16 #[.string s, .int .i64 (at' : Int), .agg #[.int .i64 lb, .int .i64 op, .int .i64 d, .int .i64 a, .int .i64 b, .int .i32 i, .int .i64 tz], .int .i64 t] w fun e w' => e = .returned (.tuple #[.int .i64 1, .bool true]) ∧ Below w.heap.size w w' := by
  have hto' : ((tz : Int) == 0) = false := by simp; exact hto
  subst ht
  have w1' : IntKind.i64.wrap ((at' : Int) + 1) = (at' : Int) + 1 := Go.IntWalk.i64_in _ (by omega)
  have w2' : IntKind.i64.wrap ((at' : Int) + 1 + i') = (at' : Int) + 1 + i' := Go.IntWalk.i64_in _ (by omega)
  have w3' : IntKind.i64.wrap i' = i' := Go.IntWalk.i64_in _ (by omega)
  clear hto
  go_enter Try.func16, Try.ntmps16
  go_wp2_with (go_at_call 28; (with_reducible refine (hW _).mono ?_); rintro e w1 ⟨rfl, hb1⟩; obtain ⟨⟨x1, x2, x3, x4, x5, x6⟩, hl1⟩ := box7 hb1; replace hb1 := hid' (below_call hb1))
  go_quiet (fail)
  go_wp2
  go_ret2
  exact ⟨rfl, (hb1.out.alloc hb1.out.size _).trans ⟨rfl, rfl, rfl, Nat.le_refl _, fun _ _ => rfl⟩⟩

set_option maxHeartbeats 8000000 in
theorem leads_long {d' b' c1 c2 c3 i' tz : Int} (hto : tz ≠ 0) (hop : op = 39 ∨ op = 40) (hi0 : -2147483648 ≤ i') (hi1 : i' ≤ 2147483647) (hat : at' ≤ 1000000) (ht : t = (at' : Int) + 2 + i')
    (hW : ∀ w, Calls Try.prog 28 #[.string s, .int .i64 (at' : Int)] w fun e w' => e = .returned (.tuple #[.agg #[.int .i64 (79 - op), .int .i64 d', .int .i64 a, .int .i64 b', .int .i32 1], .bool true]) ∧ Below w.heap.size w w')
    (hV : ∀ w, Calls Try.prog 28 #[.string s, .int .i64 ((at' : Int) + 1)] w fun e w' => e = .returned (.tuple #[.agg #[.int .i64 41, .int .i64 c1, .int .i64 c2, .int .i64 c3, .int .i32 i'], .bool true]) ∧ Below w.heap.size w w') (w : World) :
    Calls Try.prog 16 #[.string s, .int .i64 (at' : Int), .agg #[.int .i64 lb, .int .i64 op, .int .i64 d, .int .i64 a, .int .i64 b, .int .i32 i, .int .i64 tz], .int .i64 t] w fun e w' => e = .returned (.tuple #[.int .i64 2, .bool true]) ∧ Below w.heap.size w w' := by
  have hto' : ((tz : Int) == 0) = false := by simp; exact hto
  subst ht
  have w1' : IntKind.i64.wrap ((at' : Int) + 2) = (at' : Int) + 2 := Go.IntWalk.i64_in _ (by omega)
  have w2' : IntKind.i64.wrap ((at' : Int) + 2 + i') = (at' : Int) + 2 + i' := Go.IntWalk.i64_in _ (by omega)
  have w3' : IntKind.i64.wrap i' = i' := Go.IntWalk.i64_in _ (by omega)
  clear hto
  rcases hop with rfl | rfl
  · simp only [show (79 : Int) - 39 = 40 from rfl] at hW
    go_enter Try.func16, Try.ntmps16
    go_wp2_with (first
      | (go_at_call 28; (with_reducible refine (hW _).mono ?_); rintro e w1 ⟨rfl, hb1⟩; obtain ⟨⟨x1, x2, x3, x4, x5, x6⟩, hl1⟩ := box7 hb1; replace hb1 := hid' (below_call hb1))
      | (go_at_call 28; (with_reducible refine (hV _).mono ?_); rintro e w2 ⟨rfl, hb2⟩; have y1 := (hb2.cell (p := ⟨w.heap.size, 1, none⟩) (by simp; omega)).trans ((World.cell?_alloc_past _ _ _ hl1).trans x1); have y3 := (hb2.cell (p := ⟨w.heap.size, 3, none⟩) (by simp; omega)).trans ((World.cell?_alloc_past _ _ _ hl1).trans x3); have v0 : w2.cell? ⟨w1.heap.size, 0, none⟩ = some (.int .i64 40) := (hb2.cell (p := ⟨w1.heap.size, 0, none⟩) (by simp)).trans (by simp [go_sem]); have v2 : w2.cell? ⟨w1.heap.size, 2, none⟩ = some (.int .i64 a) := (hb2.cell (p := ⟨w1.heap.size, 2, none⟩) (by simp)).trans (by simp [go_sem]); have v4 : w2.cell? ⟨w1.heap.size, 4, none⟩ = some (.int .i32 1) := (hb2.cell (p := ⟨w1.heap.size, 4, none⟩) (by simp)).trans (by simp [go_sem]); have hl2 : w1.heap.size < w2.heap.size := Nat.lt_of_lt_of_le (by simp) hb2.size; have hl3 : w.heap.size < w2.heap.size := Nat.lt_trans hl1 hl2; replace hb2 := hid' hb2))
    go_quiet (fail)
    go_wp2
    go_ret2
    exact ⟨rfl, (((below_next hb1.out hb2.out).alloc (below_next hb1.out hb2.out).size _).trans ⟨rfl, rfl, rfl, Nat.le_refl _, fun _ _ => rfl⟩)⟩
  · simp only [show (79 : Int) - 40 = 39 from rfl] at hW
    go_enter Try.func16, Try.ntmps16
    go_wp2_with (first
      | (go_at_call 28; (with_reducible refine (hW _).mono ?_); rintro e w1 ⟨rfl, hb1⟩; obtain ⟨⟨x1, x2, x3, x4, x5, x6⟩, hl1⟩ := box7 hb1; replace hb1 := hid' (below_call hb1))
      | (go_at_call 28; (with_reducible refine (hV _).mono ?_); rintro e w2 ⟨rfl, hb2⟩; have y1 := (hb2.cell (p := ⟨w.heap.size, 1, none⟩) (by simp; omega)).trans ((World.cell?_alloc_past _ _ _ hl1).trans x1); have y3 := (hb2.cell (p := ⟨w.heap.size, 3, none⟩) (by simp; omega)).trans ((World.cell?_alloc_past _ _ _ hl1).trans x3); have v0 : w2.cell? ⟨w1.heap.size, 0, none⟩ = some (.int .i64 39) := (hb2.cell (p := ⟨w1.heap.size, 0, none⟩) (by simp)).trans (by simp [go_sem]); have v2 : w2.cell? ⟨w1.heap.size, 2, none⟩ = some (.int .i64 a) := (hb2.cell (p := ⟨w1.heap.size, 2, none⟩) (by simp)).trans (by simp [go_sem]); have v4 : w2.cell? ⟨w1.heap.size, 4, none⟩ = some (.int .i32 1) := (hb2.cell (p := ⟨w1.heap.size, 4, none⟩) (by simp)).trans (by simp [go_sem]); have hl2 : w1.heap.size < w2.heap.size := Nat.lt_of_lt_of_le (by simp) hb2.size; have hl3 : w.heap.size < w2.heap.size := Nat.lt_trans hl1 hl2; replace hb2 := hid' hb2))
    go_quiet (fail)
    go_wp2
    go_ret2
    exact ⟨rfl, (((below_next hb1.out hb2.out).alloc (below_next hb1.out hb2.out).size _).trans ⟨rfl, rfl, rfl, Nat.le_refl _, fun _ _ => rfl⟩)⟩
end
end Go.Proofs.Ytgnlplddppheiaa

namespace Go.Proofs.Ytgnlplddppheiaa
open Go.RowKit Go.Maps
set_option linter.unusedVariables false

theorem strL_get (l : List UInt8) (k : Nat) (h : k < l.length) : (strL l)[k]'(by rw [strL_size]; exact h) = l[k] := rfl
theorem wd_byte (n : Nat) : ((n.toUInt8).toNat = n % 256) := by simp
theorem word_code {A B : List UInt8} {at' : Nat} {op d a b i : Int} (hA : A.length = 4 * at') (hm : mayI op d a b i = true) (hl : (A ++ (wdL (wdI op d a b i) ++ B)).length ≤ 2000000) (w : World) :
    Calls Try.prog 28 #[.string (strL (A ++ (wdL (wdI op d a b i) ++ B))), .int .i64 (at' : Int)] w fun e w' => e = .returned (.tuple #[.agg #[.int .i64 op, .int .i64 d, .int .i64 a, .int .i64 b, .int .i32 i], .bool true]) ∧ Below w.heap.size w w' := by
  have hn := wdI_lt op d a b i
  have hD := decode39 hm
  generalize wdI op d a b i = n at *
  have hlen : (A ++ (wdL n ++ B)).length = 4 * at' + 4 + B.length := by rw [List.length_append, List.length_append, wdL_length, hA]; omega
  have hs := strL_size (A ++ (wdL n ++ B))
  have get : ∀ j (hj : j < 4), ((strL (A ++ (wdL n ++ B)))[4 * at' + j]'(by rw [hs, hlen]; omega)) = (wdL n)[j]'(by rw [wdL_length]; exact hj) := fun j hj => by
    rw [strL_get _ _ (by rw [hlen]; omega), List.getElem_append_right (by omega)]
    simp only [hA, Nat.add_sub_cancel_left]
    rw [List.getElem_append_left]
  refine word28 _ at' n hn (by rw [hs, hlen]; omega) (by rw [hs]; exact hl) ?_ ?_ ?_ ?_ hD w
  · rw [get 0 (by omega)]; exact wd_byte n
  · rw [get 1 (by omega)]; exact wd_byte (n / 256)
  · rw [get 2 (by omega)]; exact wd_byte (n / 65536)
  · rw [get 3 (by omega)]
    show ((n / 16777216).toUInt8).toNat = _
    rw [wd_byte]
    omega

section
variable {ls : List Ln} {S : Nat → Bool}
/-- A long line is a branch that asks. -/
theorem long_to (h : Least (bsOf ls) S) {k : Nat} (hk : k < ls.length) (h0 : labAt ls k = 0) (hS : S (ixF ls k) = true) : ls[k].to ≠ 0 ∧ askF ls[k].op = true := by
  obtain ⟨b, hb, e⟩ := least_ix h (bs_low ls) hS
  unfold bsOf at hb
  obtain ⟨y, hy, rfl⟩ := List.mem_map.1 hb
  rw [brGo_mem] at hy
  obtain ⟨i, hi, hl, ha, rfl⟩ := hy
  rw [(br_low _ _).2, Nat.zero_add] at e
  have : i = k := ixF_inj hi hk (by rw [labAt_get hi]; exact hl) h0 e
  subst this
  unfold asksB at ha
  rw [Bool.and_eq_true] at ha
  exact ⟨by simpa using ha.1, ha.2⟩
/-- How many bytes a line has. -/
theorem line_len (h : Least (bsOf ls) S) {k : Nat} (hk : k < ls.length) : (codeGo (labs ls) S (ixF ls k) [ls[k]]).length = 4 * (atF S (ixF ls (k + 1)) - atF S (ixF ls k)) := by
  rw [codeGo_one]
  have hst := atF_ix (S := S) hk
  by_cases h0 : ls[k].label = 0
  · have hl : labAt ls k = 0 := by rw [labAt_get hk]; exact h0
    rw [if_pos h0]
    rw [hl, if_pos rfl] at hst
    have hlg : lgF ls S k = S (ixF ls k) := by unfold lgF; rw [hl]; simp
    rw [hlg] at hst
    cases hS : S (ixF ls k)
    · rw [hS] at hst
      simp at hst
      unfold lineB
      split
      · rw [wdL_length, hst]; omega
      · rw [hS, if_neg (by simp), wdL_length, hst]; omega
    · rw [hS] at hst
      simp at hst
      obtain ⟨ht, _⟩ := long_to h hk hl hS
      unfold lineB
      rw [if_neg ht, if_pos hS, List.length_append, wdL_length, wdL_length, hst]; omega
  · have hl : ¬ labAt ls k = 0 := by rw [labAt_get hk]; exact h0
    rw [if_neg h0]
    have hlg : lgF ls S k = false := by unfold lgF; simp [hl]
    rw [hlg, if_neg hl] at hst
    simp at hst
    simp [hst]
theorem code_len (h : Least (bsOf ls) S) : ∀ k, k ≤ ls.length → (codeGo (labs ls) S 0 (ls.take k)).length = 4 * atF S (ixF ls k)
  | 0, _ => by simp [codeGo, ixF_zero, atF_zero]
  | k + 1, hk => by
    have ih := code_len h k (by omega)
    have hl := line_len h (show k < ls.length by omega)
    have hm := atF_mono S (ixF_mono ls (show k ≤ k + 1 by omega) hk)
    rw [taken' ls k (by omega), codeGo_append, Nat.zero_add, List.length_append, ih]
    have e : insN (ls.take k) = ixF ls k := rfl
    rw [e, hl]
    omega
/-- The code around a line. -/
theorem code_at {k : Nat} (hk : k < ls.length) : ∃ B, codeGo (labs ls) S 0 ls = codeGo (labs ls) S 0 (ls.take k) ++ (codeGo (labs ls) S (ixF ls k) [ls[k]] ++ B) := by
  refine ⟨codeGo (labs ls) S (ixF ls k + insN [ls[k]]) (ls.drop (k + 1)), ?_⟩
  have key : ∀ (f : Int → Option Nat) (m : List Ln), m = ls.take k ++ ([ls[k]] ++ ls.drop (k + 1)) → codeGo f S 0 m = codeGo f S 0 (ls.take k) ++ (codeGo f S (ixF ls k) [ls[k]] ++ codeGo f S (ixF ls k + insN [ls[k]]) (ls.drop (k + 1))) := fun f m e => by
    rw [e, codeGo_append, codeGo_append, Nat.zero_add]
    rfl
  exact key _ _ (by rw [List.singleton_append, List.getElem_cons_drop, List.take_append_drop])

theorem may_imm {op d a b i i' : Int} (h : mayI op d a b i = true) (h1 : loF (partsF op) ≤ i') (h2 : i' ≤ hiF (partsF op)) : mayI op d a b i' = true := by
  unfold mayI at h ⊢
  obtain ⟨q1, q2, q3, q4, _, _⟩ := mayR_true h
  unfold mayR
  rw [q1, q2, q3, q4]
  simp [h1, h2]
theorem ask_lo {op : Int} (h : askF op = true) : loF (partsF op) = -32768 ∧ hiF (partsF op) = 32767 ∧ partsF (79 - op) = partsF op := by
  unfold askF at h
  rw [Bool.or_eq_true, beq_iff_eq, beq_iff_eq] at h
  rcases h with rfl | rfl <;> decide
theorem jump_lo : loF (partsF 41) = -8388608 ∧ hiF (partsF 41) = 8388607 ∧ loF (partsF 42) = -8388608 ∧ hiF (partsF 42) = 8388607 := by decide
theorem may_jump {i : Int} (h1 : -8388608 ≤ i) (h2 : i ≤ 8388607) : mayI 41 0 0 0 i = true := by
  have h : mayI 41 0 0 0 0 = true := by decide
  exact may_imm h (by rw [jump_lo.1]; exact h1) (by rw [jump_lo.2.1]; exact h2)
theorem may_other {op d a b i : Int} (h : mayI op d a b i = true) (ha : askF op = true) : mayI (79 - op) d a b 1 = true := by
  obtain ⟨h1, h2, h3⟩ := ask_lo ha
  have := may_imm h (i' := 1) (by omega) (by omega)
  unfold mayI at this ⊢
  rw [h3]
  exact this
theorem ok_may {x : Ln} (h : x.ok = true) (hl : x.label = 0) : mayI x.op x.d x.a x.b x.imm = true ∧ (x.to ≠ 0 → leadF x.op = true) := by
  unfold Ln.ok at h
  rw [if_pos hl, Bool.and_eq_true, Bool.and_eq_true] at h
  refine ⟨h.1.1, fun ht => ?_⟩
  have := h.2
  rw [Bool.or_eq_true, beq_iff_eq, Bool.and_eq_true] at this
  rcases this with e | e
  · exact absurd e ht
  · exact e.1

/-- A line's code leads where it should. -/
theorem leads_line (h0 : ErrIs ls 0) (h : Least (bsOf ls) S) (h4 : 4 * atF S (insN ls) ≤ 1048576) {k : Nat} (hk : k < ls.length) (hl : ls[k].label = 0) (t : Int) (ht : ls[k].to ≠ 0 → t = (atF S ((labs ls ls[k].to).getD 0) : Int)) (w : World) :
    Calls Try.prog 16 #[.string (strL (codeGo (labs ls) S 0 ls)), .int .i64 (atF S (ixF ls k) : Int), ls[k].val, .int .i64 t] w fun e w' => e = .returned (.tuple #[.int .i64 ((atF S (ixF ls (k + 1)) : Int) - (atF S (ixF ls k) : Int)), .bool true]) ∧ Below w.heap.size w w' := by
  have hlen := err_len h0
  obtain ⟨hok, hnd, hin⟩ : (∀ x ∈ ls, x.ok = true) ∧ (labL ls).Nodup ∧ (∀ x ∈ ls, x.to ≠ 0 → x.to ∈ labL ls) := by
    rcases h0 with ⟨_, e⟩ | ⟨_, _, e⟩ | ⟨_, _, _, e⟩ | ⟨h1, h2, h3, h4, _⟩
    · omega
    · omega
    · omega
    · exact ⟨h2, h3, h4⟩
  have hxo := hok ls[k] (List.getElem_mem hk)
  obtain ⟨hmay, hlead⟩ := ok_may hxo hl
  have hlab : labAt ls k = 0 := by rw [labAt_get hk]; exact hl
  have hA := code_len h k (by omega)
  obtain ⟨B, hB⟩ := code_at (S := S) hk
  rw [codeGo_one, if_pos hl] at hB
  have htot := code_len h ls.length (Nat.le_refl _)
  rw [List.take_of_length_le (Nat.le_refl _), ixF_all] at htot
  have hst := atF_ix (S := S) hk
  rw [hlab, if_pos rfl] at hst
  have hlg : lgF ls S k = S (ixF ls k) := by unfold lgF; rw [hlab]; simp
  rw [hlg] at hst
  have hkN := atF_mono S (show ixF ls k ≤ insN ls by rw [← ixF_all]; exact ixF_mono ls (by omega) (Nat.le_refl _))
  generalize hcode : codeGo (labs ls) S 0 ls = code at *
  generalize codeGo (labs ls) S 0 (ls.take k) = A at *
  have hcl : code.length ≤ 2000000 := by omega
  unfold Ln.val
  by_cases hto : ls[k].to = 0
  · have hSk : S (ixF ls k) = false := by
      cases e : S (ixF ls k)
      · rfl
      · exact absurd hto (long_to h hk hlab e).1
    rw [hSk] at hst
    simp at hst
    rw [lineB_plain hto] at hB
    rw [hB] at hcl ⊢
    rw [hto, show (atF S (ixF ls (k + 1)) : Int) - (atF S (ixF ls k) : Int) = 1 by omega]
    exact leads_plain (fun w => word_code hA hmay hcl w) w
  · obtain ⟨q, hql, hqt⟩ := labL_pos (hin ls[k] (List.getElem_mem hk) hto)
    have hlb := labs_ix hnd hql hqt hto
    have hq2 := atF_mono S (show ixF ls q ≤ insN ls by rw [← ixF_all]; exact ixF_mono ls (by omega) (Nat.le_refl _))
    have htv := ht hto
    cases hSk : S (ixF ls k)
    · rw [hSk] at hst
      simp at hst
      rw [lineB_short hto hSk, hlb] at hB
      rw [hlb] at htv
      simp only [Option.getD_some] at hB htv
      rw [hB] at hcl ⊢
      rw [show (atF S (ixF ls (k + 1)) : Int) - (atF S (ixF ls k) : Int) = 1 by omega]
      have hrange : loF (partsF ls[k].op) ≤ (atF S (ixF ls q) : Int) - ((atF S (ixF ls k) : Int) + 1) ∧ (atF S (ixF ls q) : Int) - ((atF S (ixF ls k) : Int) + 1) ≤ hiF (partsF ls[k].op) := by
        have hld := hlead hto
        unfold leadF at hld
        rw [Bool.or_eq_true, Bool.or_eq_true, beq_iff_eq, beq_iff_eq] at hld
        rcases hld with (hask | h41) | h42
        · obtain ⟨l1, l2, _⟩ := ask_lo hask
          rw [l1, l2]
          have hf := far_iff (S := S) (k := ixF ls k) (p := ixF ls q) hSk
          have hm : mkBr (brTo (ixF ls k) (ixF ls q)) ∈ bsOf ls := by
            unfold bsOf
            refine List.mem_map_of_mem ?_
            rw [brGo_mem]
            refine ⟨k, hk, hl, ?_, by rw [Nat.zero_add, hlb]; rfl⟩
            unfold asksB
            simp [hto, hask]
          have hc := h.1 _ hm (by rw [(br_low _ _).2]; exact hSk)
          have hnf : ¬ 32767 < roomS S (mkBr (brTo (ixF ls k) (ixF ls q))) := by unfold roomS; omega
          have := fun q => hnf (hf.1 q)
          omega
        · rw [h41, jump_lo.1, jump_lo.2.1]; omega
        · rw [h42, jump_lo.2.2.1, jump_lo.2.2.2]; omega
      exact leads_short hto (by omega) (by omega) (by omega) (by rw [htv]; omega) (fun w => word_code hA (may_imm hmay hrange.1 hrange.2) hcl w) w
    · rw [hSk] at hst
      simp at hst
      obtain ⟨_, hask⟩ := long_to h hk hlab hSk
      have hop : ls[k].op = 39 ∨ ls[k].op = 40 := by unfold askF at hask; simpa using hask
      rw [lineB_long hto hSk hxo hl hask, hlb] at hB
      rw [hlb] at htv
      simp only [Option.getD_some] at hB htv
      have hB2 : code = (A ++ wdL (wdI (79 - ls[k].op) ls[k].d ls[k].a ls[k].b 1)) ++ (wdL (wdI 41 0 0 0 ((atF S (ixF ls q) : Int) - ((atF S (ixF ls k) : Int) + 2))) ++ B) := by rw [hB]; simp [List.append_assoc]
      have hB1 : code = A ++ (wdL (wdI (79 - ls[k].op) ls[k].d ls[k].a ls[k].b 1) ++ (wdL (wdI 41 0 0 0 ((atF S (ixF ls q) : Int) - ((atF S (ixF ls k) : Int) + 2))) ++ B)) := by rw [hB]; simp [List.append_assoc]
      rw [show (atF S (ixF ls (k + 1)) : Int) - (atF S (ixF ls k) : Int) = 2 by omega]
      have hW := fun w => word_code (A := A) (B := wdL (wdI 41 0 0 0 ((atF S (ixF ls q) : Int) - ((atF S (ixF ls k) : Int) + 2))) ++ B) hA (may_other hmay hask) (by rw [← hB1]; exact hcl) w
      have hV := fun w => word_code (A := A ++ wdL (wdI (79 - ls[k].op) ls[k].d ls[k].a ls[k].b 1)) (B := B) (at' := atF S (ixF ls k) + 1) (by rw [List.length_append, wdL_length, hA]; omega) (may_jump (i := (atF S (ixF ls q) : Int) - ((atF S (ixF ls k) : Int) + 2)) (by omega) (by omega)) (by rw [← hB2]; exact hcl) w
      rw [← hB1] at hW
      rw [← hB2, show ((atF S (ixF ls k) + 1 : Nat) : Int) = (atF S (ixF ls k) : Int) + 1 by omega] at hV
      exact leads_long hto hop (by omega) (by omega) (by omega) (by rw [htv]; omega) hW hV w
end
end Go.Proofs.Ytgnlplddppheiaa
