/- The walks of MemoryPlays and MemoryLoads, behind both memories' making. -/
import Derived.Test.YtgonjmifpaddgaaMade
namespace Go.Proofs.Ytgonjmifpaddgaa
open Go.RowKit

theorem IsMem.drewN {w : World} {T : TypeId} {p r n : Nat} {g : Nat → UInt8} (h : IsMem w T p r n g) (q : Nat) : IsMem (w.drewN q) T p r n g := ⟨h.head, h.row, h.ne, h.lo, h.hi⟩

def okB (n a : Nat) (k : Int) : Bool := decide (0 ≤ k ∧ (a : Int) + k ≤ n)
def val4 (g : Nat → UInt8) (n a : Nat) : Int := if ok4 n a then wordAt g a else 0
def val1 (g : Nat → UInt8) (n a : Nat) : Int := if ok1 n a then ((g a).toNat : Int) else 0
def valB (g : Nat → UInt8) (n a : Nat) (k : Int) : ByteArray := if okB n a k then bstr g a k.toNat else ⟨#[]⟩

section
variable {p r n a : Nat} {k : Int} {g : Nat → UInt8} {w : World}
theorem load4_any (h : IsMem w 46 p r n g) (ha : a < 4294967296) :
    Calls Try.prog 10 #[.pointer (some ⟨p, 0, none⟩), .int .u32 a] w fun e w' => e = .returned (.tuple #[.int .u32 (val4 g n a), .int .i64 (codeOf (ok4 n a))]) ∧ ∃ q, w' = w.drewN q := by
  by_cases c : a % 4 = 0 ∧ a + 4 ≤ n
  · rw [val4, show ok4 n a = true from decide_eq_true c]
    exact load4_yes h c.1 c.2
  · rw [val4, show ok4 n a = false from decide_eq_false c]
    refine (load4_no h ha c).mono ?_
    rintro e w' ⟨rfl, rfl⟩
    exact ⟨rfl, 0, rfl⟩
theorem rload4_any (h : IsMem w 35 p r n g) (ha : a < 4294967296) :
    Calls Try.prog 11 #[.pointer (some ⟨p, 0, none⟩), .int .u32 a] w fun e w' => e = .returned (.tuple #[.int .u32 (val4 g n a), .int .i64 (codeOf (ok4 n a))]) ∧ w' = w := by
  by_cases c : a % 4 = 0 ∧ a + 4 ≤ n
  · rw [val4, show ok4 n a = true from decide_eq_true c]
    exact rload4_yes h c.1 c.2
  · rw [val4, show ok4 n a = false from decide_eq_false c]
    exact rload4_no h ha c
theorem load1_any (h : IsMem w 46 p r n g) (ha : a < 4294967296) :
    Calls Try.prog 12 #[.pointer (some ⟨p, 0, none⟩), .int .u32 a] w fun e w' => e = .returned (.tuple #[.int .u32 (val1 g n a), .int .i64 (codeOf (ok1 n a))]) ∧ w' = w := by
  by_cases c : a < n
  · rw [val1, show ok1 n a = true from decide_eq_true c]
    exact load1_yes h c
  · rw [val1, show ok1 n a = false from decide_eq_false c]
    exact load1_no h ha c
theorem rload1_any (h : IsMem w 35 p r n g) (ha : a < 4294967296) :
    Calls Try.prog 13 #[.pointer (some ⟨p, 0, none⟩), .int .u32 a] w fun e w' => e = .returned (.tuple #[.int .u32 (val1 g n a), .int .i64 (codeOf (ok1 n a))]) ∧ w' = w := by
  by_cases c : a < n
  · rw [val1, show ok1 n a = true from decide_eq_true c]
    exact rload1_yes h c
  · rw [val1, show ok1 n a = false from decide_eq_false c]
    exact rload1_no h ha c
theorem bytes_any (h : IsMem w 46 p r n g) (ha : a < 4294967296) (hk : k ≤ 9223372036854775807) :
    Calls Try.prog 8 #[.pointer (some ⟨p, 0, none⟩), .int .u32 a, .int .i64 k] w fun e w' => e = .returned (.tuple #[.string (valB g n a k), .int .i64 (codeOf (okB n a k))]) ∧ w' = w := by
  by_cases c : 0 ≤ k ∧ (a : Int) + k ≤ n
  · rw [valB, show okB n a k = true from decide_eq_true c]
    obtain ⟨j, rfl⟩ : ∃ j : Nat, k = j := ⟨k.toNat, by omega⟩
    exact bytes_yes h (by omega)
  · rw [valB, show okB n a k = false from decide_eq_false c]
    exact bytes_no h ha hk (by omega)
theorem rbytes_any (h : IsMem w 35 p r n g) (ha : a < 4294967296) :
    Calls Try.prog 14 #[.pointer (some ⟨p, 0, none⟩), .int .u32 a, .int .i64 k] w fun e w' => e = .returned (.tuple #[.string (valB g n a k), .int .i64 (codeOf (okB n a k))]) ∧ w' = w := by
  by_cases c : 0 ≤ k ∧ (a : Int) + k ≤ n
  · rw [valB, show okB n a k = true from decide_eq_true c]
    obtain ⟨j, rfl⟩ : ∃ j : Nat, k = j := ⟨k.toNat, by omega⟩
    exact rbytes_yes h (by omega)
  · rw [valB, show okB n a k = false from decide_eq_false c]
    exact rbytes_no h ha (by omega)
theorem bytes_all (h : IsMem w 46 p r n g) :
    Calls Try.prog 8 #[.pointer (some ⟨p, 0, none⟩), .int .u32 0, .int .i64 n] w fun e w' => e = .returned (.tuple #[.string (bstr g 0 n), .int .i64 0]) ∧ w' = w :=
  bytes_yes (a := 0) (k := n) h (by omega)
end

theorem bcell {W w1 : World} (hb : Below W.heap.size W w1) : (∀ b o, b < W.heap.size → w1.cell? ⟨b, o, none⟩ = W.cell? ⟨b, o, none⟩) ∧ (∀ b o, b < W.heap.size → w1.frozen? ⟨b, o, none⟩ = W.frozen? ⟨b, o, none⟩) :=
  ⟨fun b o h => hb.cell (p := ⟨b, o, none⟩) h, fun b o h => hb.frozen (p := ⟨b, o, none⟩) h⟩

theorem draws (B : Nat) (w : World) (n : Nat) : Below B w (w.drewN n) := ⟨rfl, rfl, rfl, Nat.le_refl _, fun _ _ => rfl⟩

/-- What made leaves, whatever the acts were. -/
def MadeOk (n : Nat) (l : Value) (w : World) : Prop := Calls Try.prog 6 #[.int .i64 n, l] w fun e w' => ∃ g p r q t, e = .returned (.tuple #[.pointer (some ⟨p, 0, none⟩), .pointer (some ⟨q, 0, none⟩), .bool true, .bool true]) ∧
  Pair w' w.heap.size p r q t n g ∧ Below w.heap.size w w'

set_option maxHeartbeats 1000000 in
theorem plays_no (n : Int) (h : n < 1 ∨ 262144 < n) (ao : Option Addr) (len cap : Nat) (w : World) :
    Calls Try.prog 3 #[.int .i64 n, .slice ao len cap] w fun e w' => e = .returned (.bool true) ∧ Below w.heap.size w w' := by
  have H : Hid (n < 1 ∨ 262144 < n) := h
  clear h
  go_enter Try.func3, Try.ntmps3
  go_wp2_with (first
    | (go_at_call 6; refine (made_no n H.out _ _ _ _).mono ?_; rintro e w' ⟨rfl, hw⟩; have hv := hw.symm; clear hw; subst hv)
    | (go_at_call 7; refine (awake7 _).mono ?_; rintro e w2 ⟨rfl, hb2⟩))
  go_ret
  exact ⟨rfl, by assumption⟩

set_option maxHeartbeats 1000000 in
theorem plays_yes (n : Nat) (ao : Option Addr) (len cap : Nat) (w : World) (hm : MadeOk n (.slice ao len cap) w) :
    Calls Try.prog 3 #[.int .i64 n, .slice ao len cap] w fun e w' => e = .returned (.bool true) ∧ Below w.heap.size w w' := by
  have HM : Hid (MadeOk n (.slice ao len cap) w) := hm
  clear hm
  go_enter Try.func3, Try.ntmps3
  go_wp2_with (first
    | (go_at_call 6; refine (HM.out).mono ?_; rintro e w1 ⟨g, p, r, q, t, rfl, hP, hB⟩; have hc1 := hP.m.cell; have hc2 := hP.d.cell; have hcv := hP.d.conv 0 n n (by omega))
    | (go_at_call 8; refine (bytes_all hP.m).mono ?_; rintro e w' ⟨rfl, hw⟩; have hv := hw.symm; clear hw; subst hv)
    | (go_at_call 9; refine (size9_mem hP.m).mono ?_; rintro e w' ⟨rfl, hw⟩; have hv := hw.symm; clear hw; subst hv)
    | (go_at_call 7; refine (awake7 _).mono ?_; rintro e w2 ⟨rfl, hb2⟩; have hB2 := hB.trans (hb2.mono hB.size)))
  go_ret
  exact ⟨rfl, by assumption⟩

set_option maxHeartbeats 1000000 in
theorem loads_no (n z0 z1 : Int) (h : n < 1 ∨ 262144 < n) (ao : Option Addr) (len cap : Nat) (w : World) :
    Calls Try.prog 4 #[.int .i64 n, .slice ao len cap, .agg #[.int .i64 z0, .int .i64 z1]] w fun e w' => e = .returned (.bool true) ∧ Below w.heap.size w w' := by
  have H : Hid (n < 1 ∨ 262144 < n) := h
  clear h
  have hb0 := (Below.refl w.heap.size w).alloc (Nat.le_refl _) (.cells #[.int .i64 z0, .int .i64 z1] 37)
  go_enter Try.func4, Try.ntmps4
  go_wp2_with (first
    | (go_at_call 6; refine (made_no n H.out _ _ _ _).mono ?_; rintro e w' ⟨rfl, hw⟩; have hv := hw.symm; clear hw; subst hv)
    | (go_at_call 7; refine (awake7 _).mono ?_; rintro e w2 ⟨rfl, hb2⟩))
  go_ret
  have hb2 := (by assumption : Below _ (w.alloc (.cells #[.int .i64 z0, .int .i64 z1] 37)) _)
  exact ⟨rfl, hb0.trans (hb2.mono hb0.size)⟩

set_option maxHeartbeats 2000000 in
theorem loads_yes (n : Nat) (z0 z1 : Int) (hz1 : z1 ≤ 9223372036854775807) (ao : Option Addr) (len cap : Nat) (w : World) (hm : MadeOk n (.slice ao len cap) (w.alloc (.cells #[.int .i64 z0, .int .i64 z1] 37))) :
    Calls Try.prog 4 #[.int .i64 n, .slice ao len cap, .agg #[.int .i64 z0, .int .i64 z1]] w fun e w' => e = .returned (.bool true) ∧ Below w.heap.size w w' := by
  have HM : Hid (MadeOk n (.slice ao len cap) (w.alloc (.cells #[.int .i64 z0, .int .i64 z1] 37))) := hm
  clear hm
  have hb0 := (Below.refl w.heap.size w).alloc (Nat.le_refl _) (.cells #[.int .i64 z0, .int .i64 z1] 37)
  obtain ⟨a, hza⟩ : ∃ a : Nat, z0 % 4294967296 = (a : Int) := ⟨(z0 % 4294967296).toNat, by omega⟩
  have ha : a < 4294967296 := by omega
  go_enter Try.func4, Try.ntmps4
  go_wp2_with (first
    | (go_at_call 6; refine (HM.out).mono ?_; rintro e w1 ⟨g, p, r, q, t, rfl, hP, hB⟩; obtain ⟨hk1, hf1⟩ := bcell hB)
    | (go_at_call 10; (with_reducible refine (load4_any hP.m ha).mono ?_; rintro e w2 ⟨rfl, q2, rfl⟩))
    | (go_at_call 11; (with_reducible refine (rload4_any (hP.d.drewN _) ha).mono ?_; rintro e w' ⟨rfl, hw⟩; have hv := hw.symm; clear hw; subst hv))
    | (go_at_call 12; (with_reducible refine (load1_any (hP.m.drewN _) ha).mono ?_; rintro e w' ⟨rfl, hw⟩; have hv := hw.symm; clear hw; subst hv))
    | (go_at_call 13; (with_reducible refine (rload1_any (hP.d.drewN _) ha).mono ?_; rintro e w' ⟨rfl, hw⟩; have hv := hw.symm; clear hw; subst hv))
    | (go_at_call 8; (with_reducible refine (bytes_any (hP.m.drewN _) ha hz1).mono ?_; rintro e w' ⟨rfl, hw⟩; have hv := hw.symm; clear hw; subst hv))
    | (go_at_call 14; (with_reducible refine (rbytes_any (hP.d.drewN _) ha).mono ?_; rintro e w' ⟨rfl, hw⟩; have hv := hw.symm; clear hw; subst hv))
    | (go_at_call 7; refine (awake7 _).mono ?_; rintro e w3 ⟨rfl, hb3⟩; have hB3 := ((hb0.trans (hB.mono hb0.size)).trans (draws _ w1 _)).trans (hb3.mono (Nat.le_trans hb0.size hB.size))))
  go_ret
  exact ⟨rfl, by assumption⟩
end Go.Proofs.Ytgonjmifpaddgaa
