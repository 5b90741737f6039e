/- The contracts of Decode: a word's instruction, or none. -/
import Derived.Test.YtimbnlcegcmfiaaIDecSmall
import Derived.WalkKit
namespace Go.Proofs.Ytimbnlcegcmfiaa
open Go.RowKit

theorem below_call2 {w w1 : World} {o o2 : Obj} (hb : Below ((w.alloc o).alloc o2).heap.size ((w.alloc o).alloc o2) w1) : Below w.heap.size w w1 :=
  (((Below.refl _ _).alloc (Nat.le_refl _) _).alloc (by simp) _).trans (hb.mono (by simp; omega))

/-- The cells of an instruction of zeros that lies at block g. -/
def ZeroAt (w : World) (g : Nat) : Prop :=
  w.cell? ⟨g, 0, none⟩ = some (.int .i64 0) ∧ w.cell? ⟨g, 1, none⟩ = some (.int .i64 0) ∧ w.cell? ⟨g, 2, none⟩ = some (.int .i64 0) ∧ w.cell? ⟨g, 3, none⟩ = some (.int .i64 0) ∧ w.cell? ⟨g, 4, none⟩ = some (.int .i32 0)

theorem zero_after {w w1 : World} {o2 : Obj} (hb : Below ((w.alloc (.cells #[.int .i64 0, .int .i64 0, .int .i64 0, .int .i64 0, .int .i32 0] 74)).alloc o2).heap.size ((w.alloc (.cells #[.int .i64 0, .int .i64 0, .int .i64 0, .int .i64 0, .int .i32 0] 74)).alloc o2) w1) : ZeroAt w1 w.heap.size := by
  have hc := (bcell hb).1
  have hl : w.heap.size < ((w.alloc (.cells #[.int .i64 0, .int .i64 0, .int .i64 0, .int .i64 0, .int .i32 0] 74)).alloc o2).heap.size := by simp; omega
  refine ⟨?_, ?_, ?_, ?_, ?_⟩
  all_goals (rw [hc _ _ hl]; simp [go_sem])

set_option maxHeartbeats 4000000 in
theorem decode12_yes {u op p lo hi n d a b i : Int} {D A B sg is : Bool} (R : Row p lo hi D A B n sg is) (hp : partsF op = p) (u0 : 0 ≤ u) (u1 : u < 4294967296)
    (ho : u / 16777216 = op) (hd : regF (u / 1048576) D = d) (ha : regF (u / 65536) A = a) (hb : regF (u / 4096) B = b) (hI : immF n sg u = i)
    (hm : mayR is D A B lo hi d a b i = true) (he : wordF n op d a b i = u) (w : World) :
    Calls Try.prog 48 #[.int .u32 u] w fun e w' => e = .returned (.tuple #[.agg #[.int .i64 op, .int .i64 d, .int .i64 a, .int .i64 b, .int .i32 i], .int .i64 0]) ∧ Below w.heap.size w w' := by
  have b1 := bit1 R
  have b2 := bit2 R
  have b4 := bit4 R
  go_enter Try.func48, Try.ntmps48
  go_wp2_with (first
    | (go_at_call 63; refine (parts18 op _).mono ?_; rintro e w1 ⟨rfl, rfl⟩)
    | (go_at_call 64; refine (reg23 _ _ (by omega) (by omega) _).mono ?_; rintro e w1 ⟨rfl, rfl⟩)
    | (go_at_call 65; refine (imm24 R u0 u1 _).mono ?_; rintro e w1 ⟨rfl, rfl⟩)
    | (go_at_call 66; refine (encode7_yes R hp hm _).mono ?_; rintro e w1 ⟨rfl, hb1⟩; obtain ⟨hc1, hf1⟩ := bcell hb1; have hs1 : w.heap.size + 1 < w1.heap.size := by have hq := hb1.size; simp at hq; omega))
  obtain ⟨k0, k1, k2, k3, k4⟩ := zero_after hb1
  refine bodyPost_ret (v := .tuple #[.agg #[.int .i64 op, .int .i64 d, .int .i64 a, .int .i64 b, .int .i32 i], .int .i64 0]) (by simp [results, Try.results48, go_sem, k0, k1, k2, k3, k4]) rfl ⟨rfl, ?_⟩
  exact (((((below_call2 hb1).setCell (Nat.le_refl _) _).setCell (Nat.le_refl _) _).setCell (Nat.le_refl _) _).setCell (Nat.le_refl _) _).setCell (Nat.le_refl _) _

set_option maxHeartbeats 4000000 in
theorem decode12_other {u op p lo hi n d a b i : Int} {D A B sg is : Bool} (R : Row p lo hi D A B n sg is) (hp : partsF op = p) (u0 : 0 ≤ u) (u1 : u < 4294967296)
    (ho : u / 16777216 = op) (hd : regF (u / 1048576) D = d) (ha : regF (u / 65536) A = a) (hb : regF (u / 4096) B = b) (hI : immF n sg u = i)
    (hm : mayR is D A B lo hi d a b i = true) (he : ¬ wordF n op d a b i = u) (w : World) :
    Calls Try.prog 48 #[.int .u32 u] w fun e w' => e = .returned (.tuple #[.agg #[.int .i64 0, .int .i64 0, .int .i64 0, .int .i64 0, .int .i32 0], .int .i64 1]) ∧ Below w.heap.size w w' := by
  have b1 := bit1 R
  have b2 := bit2 R
  have b4 := bit4 R
  go_enter Try.func48, Try.ntmps48
  go_wp2_with (first
    | (go_at_call 63; refine (parts18 op _).mono ?_; rintro e w1 ⟨rfl, rfl⟩)
    | (go_at_call 64; refine (reg23 _ _ (by omega) (by omega) _).mono ?_; rintro e w1 ⟨rfl, rfl⟩)
    | (go_at_call 65; refine (imm24 R u0 u1 _).mono ?_; rintro e w1 ⟨rfl, rfl⟩)
    | (go_at_call 66; refine (encode7_yes R hp hm _).mono ?_; rintro e w1 ⟨rfl, hb1⟩; obtain ⟨hc1, hf1⟩ := bcell hb1; have hs1 : w.heap.size + 1 < w1.heap.size := by have hq := hb1.size; simp at hq; omega))
  obtain ⟨k0, k1, k2, k3, k4⟩ := zero_after hb1
  refine bodyPost_ret (v := .tuple #[.agg #[.int .i64 0, .int .i64 0, .int .i64 0, .int .i64 0, .int .i32 0], .int .i64 1]) (by simp [results, Try.results48, go_sem, k0, k1, k2, k3, k4]) rfl ⟨rfl, ?_⟩
  exact (((((below_call2 hb1).setCell (Nat.le_refl _) _).setCell (Nat.le_refl _) _).setCell (Nat.le_refl _) _).setCell (Nat.le_refl _) _).setCell (Nat.le_refl _) _

set_option maxHeartbeats 4000000 in
theorem decode12_no {u op p lo hi n d a b i : Int} {D A B sg is : Bool} (R : Row p lo hi D A B n sg is) (hp : partsF op = p) (u0 : 0 ≤ u) (u1 : u < 4294967296)
    (ho : u / 16777216 = op) (hd : regF (u / 1048576) D = d) (ha : regF (u / 65536) A = a) (hb : regF (u / 4096) B = b) (hI : immF n sg u = i)
    (hm : mayR is D A B lo hi d a b i = false) (w : World) :
    Calls Try.prog 48 #[.int .u32 u] w fun e w' => e = .returned (.tuple #[.agg #[.int .i64 0, .int .i64 0, .int .i64 0, .int .i64 0, .int .i32 0], .int .i64 1]) ∧ Below w.heap.size w w' := by
  have b1 := bit1 R
  have b2 := bit2 R
  have b4 := bit4 R
  go_enter Try.func48, Try.ntmps48
  go_wp2_with (first
    | (go_at_call 63; refine (parts18 op _).mono ?_; rintro e w1 ⟨rfl, rfl⟩)
    | (go_at_call 64; refine (reg23 _ _ (by omega) (by omega) _).mono ?_; rintro e w1 ⟨rfl, rfl⟩)
    | (go_at_call 65; refine (imm24 R u0 u1 _).mono ?_; rintro e w1 ⟨rfl, rfl⟩)
    | (go_at_call 66; refine (encode7_no R hp hm _).mono ?_; rintro e w1 ⟨rfl, hb1⟩; obtain ⟨hc1, hf1⟩ := bcell hb1; have hs1 : w.heap.size + 1 < w1.heap.size := by have hq := hb1.size; simp at hq; omega))
  obtain ⟨k0, k1, k2, k3, k4⟩ := zero_after hb1
  refine bodyPost_ret (v := .tuple #[.agg #[.int .i64 0, .int .i64 0, .int .i64 0, .int .i64 0, .int .i32 0], .int .i64 1]) (by simp [results, Try.results48, go_sem, k0, k1, k2, k3, k4]) rfl ⟨rfl, ?_⟩
  exact (((((below_call2 hb1).setCell (Nat.le_refl _) _).setCell (Nat.le_refl _) _).setCell (Nat.le_refl _) _).setCell (Nat.le_refl _) _).setCell (Nat.le_refl _) _

end Go.Proofs.Ytimbnlcegcmfiaa
