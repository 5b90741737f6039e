/- The document's answer to Decode, Op's row by Op's row (the word is an instruction's). -/
import Derived.Test.YtimbnlcegcmfiaaIDec13Base
import Derived.WalkKit
namespace Go.Proofs.Ytimbnlcegcmfiaa
open Go.RowKit
set_option maxHeartbeats 1000000 in
theorem dec13_263_yes {u op d a b : Int} (R : Row 263 0 0 true true true 0 false true) (hp : partsF op = 263) (u0 : 0 ≤ u) (u1 : u < 4294967296) (ho : u / 16777216 = op) (mD : bits BinOp.and IntKind.u32 (u / 1048576) 15 = d) (d0 : 0 ≤ d) (d1 : d < 16) (mA : bits BinOp.and IntKind.u32 (u / 65536) 15 = a) (a0 : 0 ≤ a) (a1 : a < 16) (mB : bits BinOp.and IntKind.u32 (u / 4096) 15 = b) (b0 : 0 ≤ b) (b1 : b < 16) (hm : mayR true true true true 0 0 d a b 0 = true) (he : wordF 0 op d a b 0 = u) (w : World) :
    Calls Try.prog 52 #[.int .u32 u] w fun e w' => e = .returned (.tuple #[.agg #[.int .i64 op, .int .i64 d, .int .i64 a, .int .i64 b, .int .i32 0], .int .i64 0]) ∧ Below w.heap.size w w' := by
  go_enter Try.func52, Try.ntmps52
  go_wp2_with (first
    | (go_at_call 62; refine (shapedAt20 R hp _).mono ?_; rintro e w1 ⟨rfl, rfl⟩)
    | (go_at_call 47; refine (encode8_yes R hp (by omega) (by omega) hm _).mono ?_; rintro e w2 ⟨rfl, hb2⟩; obtain ⟨k0, k1, k2, k3, k4⟩ := zero_after4 hb2; obtain ⟨hc2, hf2⟩ := bcell hb2))
  refine bodyPost_ret (v := .tuple #[.agg #[.int .i64 op, .int .i64 d, .int .i64 a, .int .i64 b, .int .i32 0], .int .i64 0]) (by simp [results, Try.results52, go_sem, k0, k1, k2, k3, k4]) rfl ⟨rfl, ?_⟩
  exact (((((below_call4 hb2).setCell (Nat.le_refl _) _).setCell (Nat.le_refl _) _).setCell (Nat.le_refl _) _).setCell (Nat.le_refl _) _).setCell (Nat.le_refl _) _

set_option maxHeartbeats 1000000 in
theorem dec13_267p_yes {u op d a i : Int} (R : Row 267 (-32768) 32767 true true false 16 true true) (hp : partsF op = 267) (u0 : 0 ≤ u) (u1 : u < 4294967296) (ho : u / 16777216 = op) (mD : bits BinOp.and IntKind.u32 (u / 1048576) 15 = d) (d0 : 0 ≤ d) (d1 : d < 16) (mA : bits BinOp.and IntKind.u32 (u / 65536) 15 = a) (a0 : 0 ≤ a) (a1 : a < 16) (mI : bits BinOp.and IntKind.u32 u 65535 = i) (i0 : 0 ≤ i) (i1 : i < 32768) (hm : mayR true true true false (-32768) 32767 d a 0 i = true) (he : wordF 16 op d a 0 i = u) (w : World) :
    Calls Try.prog 52 #[.int .u32 u] w fun e w' => e = .returned (.tuple #[.agg #[.int .i64 op, .int .i64 d, .int .i64 a, .int .i64 0, .int .i32 i], .int .i64 0]) ∧ Below w.heap.size w w' := by
  go_enter Try.func52, Try.ntmps52
  go_wp2_with (first
    | (go_at_call 62; refine (shapedAt20 R hp _).mono ?_; rintro e w1 ⟨rfl, rfl⟩)
    | (go_at_call 47; refine (encode8_yes R hp (by omega) (by omega) hm _).mono ?_; rintro e w2 ⟨rfl, hb2⟩; obtain ⟨k0, k1, k2, k3, k4⟩ := zero_after4 hb2; obtain ⟨hc2, hf2⟩ := bcell hb2))
  refine bodyPost_ret (v := .tuple #[.agg #[.int .i64 op, .int .i64 d, .int .i64 a, .int .i64 0, .int .i32 i], .int .i64 0]) (by simp [results, Try.results52, go_sem, k0, k1, k2, k3, k4]) rfl ⟨rfl, ?_⟩
  exact (((((below_call4 hb2).setCell (Nat.le_refl _) _).setCell (Nat.le_refl _) _).setCell (Nat.le_refl _) _).setCell (Nat.le_refl _) _).setCell (Nat.le_refl _) _

set_option maxHeartbeats 1000000 in
theorem dec13_267n_yes {u op d a i : Int} (R : Row 267 (-32768) 32767 true true false 16 true true) (hp : partsF op = 267) (u0 : 0 ≤ u) (u1 : u < 4294967296) (ho : u / 16777216 = op) (mD : bits BinOp.and IntKind.u32 (u / 1048576) 15 = d) (d0 : 0 ≤ d) (d1 : d < 16) (mA : bits BinOp.and IntKind.u32 (u / 65536) 15 = a) (a0 : 0 ≤ a) (a1 : a < 16) (mI : bits BinOp.and IntKind.u32 u 65535 = i + 65536) (i0 : -32768 ≤ i) (i1 : i < 0) (hm : mayR true true true false (-32768) 32767 d a 0 i = true) (he : wordF 16 op d a 0 i = u) (w : World) :
    Calls Try.prog 52 #[.int .u32 u] w fun e w' => e = .returned (.tuple #[.agg #[.int .i64 op, .int .i64 d, .int .i64 a, .int .i64 0, .int .i32 i], .int .i64 0]) ∧ Below w.heap.size w w' := by
  go_enter Try.func52, Try.ntmps52
  go_wp2_with (first
    | (go_at_call 62; refine (shapedAt20 R hp _).mono ?_; rintro e w1 ⟨rfl, rfl⟩)
    | (go_at_call 47; refine (encode8_yes R hp (by omega) (by omega) hm _).mono ?_; rintro e w2 ⟨rfl, hb2⟩; obtain ⟨k0, k1, k2, k3, k4⟩ := zero_after4 hb2; obtain ⟨hc2, hf2⟩ := bcell hb2))
  refine bodyPost_ret (v := .tuple #[.agg #[.int .i64 op, .int .i64 d, .int .i64 a, .int .i64 0, .int .i32 i], .int .i64 0]) (by simp [results, Try.results52, go_sem, k0, k1, k2, k3, k4]) rfl ⟨rfl, ?_⟩
  exact (((((below_call4 hb2).setCell (Nat.le_refl _) _).setCell (Nat.le_refl _) _).setCell (Nat.le_refl _) _).setCell (Nat.le_refl _) _).setCell (Nat.le_refl _) _

set_option maxHeartbeats 1000000 in
theorem dec13_139p_yes {u op d a i : Int} (R : Row 139 (-32768) 32767 true true false 16 true true) (hp : partsF op = 139) (u0 : 0 ≤ u) (u1 : u < 4294967296) (ho : u / 16777216 = op) (mD : bits BinOp.and IntKind.u32 (u / 1048576) 15 = d) (d0 : 0 ≤ d) (d1 : d < 16) (mA : bits BinOp.and IntKind.u32 (u / 65536) 15 = a) (a0 : 0 ≤ a) (a1 : a < 16) (mI : bits BinOp.and IntKind.u32 u 65535 = i) (i0 : 0 ≤ i) (i1 : i < 32768) (hm : mayR true true true false (-32768) 32767 d a 0 i = true) (he : wordF 16 op d a 0 i = u) (w : World) :
    Calls Try.prog 52 #[.int .u32 u] w fun e w' => e = .returned (.tuple #[.agg #[.int .i64 op, .int .i64 d, .int .i64 a, .int .i64 0, .int .i32 i], .int .i64 0]) ∧ Below w.heap.size w w' := by
  go_enter Try.func52, Try.ntmps52
  go_wp2_with (first
    | (go_at_call 62; refine (shapedAt20 R hp _).mono ?_; rintro e w1 ⟨rfl, rfl⟩)
    | (go_at_call 47; refine (encode8_yes R hp (by omega) (by omega) hm _).mono ?_; rintro e w2 ⟨rfl, hb2⟩; obtain ⟨k0, k1, k2, k3, k4⟩ := zero_after4 hb2; obtain ⟨hc2, hf2⟩ := bcell hb2))
  refine bodyPost_ret (v := .tuple #[.agg #[.int .i64 op, .int .i64 d, .int .i64 a, .int .i64 0, .int .i32 i], .int .i64 0]) (by simp [results, Try.results52, go_sem, k0, k1, k2, k3, k4]) rfl ⟨rfl, ?_⟩
  exact (((((below_call4 hb2).setCell (Nat.le_refl _) _).setCell (Nat.le_refl _) _).setCell (Nat.le_refl _) _).setCell (Nat.le_refl _) _).setCell (Nat.le_refl _) _

set_option maxHeartbeats 1000000 in
theorem dec13_139n_yes {u op d a i : Int} (R : Row 139 (-32768) 32767 true true false 16 true true) (hp : partsF op = 139) (u0 : 0 ≤ u) (u1 : u < 4294967296) (ho : u / 16777216 = op) (mD : bits BinOp.and IntKind.u32 (u / 1048576) 15 = d) (d0 : 0 ≤ d) (d1 : d < 16) (mA : bits BinOp.and IntKind.u32 (u / 65536) 15 = a) (a0 : 0 ≤ a) (a1 : a < 16) (mI : bits BinOp.and IntKind.u32 u 65535 = i + 65536) (i0 : -32768 ≤ i) (i1 : i < 0) (hm : mayR true true true false (-32768) 32767 d a 0 i = true) (he : wordF 16 op d a 0 i = u) (w : World) :
    Calls Try.prog 52 #[.int .u32 u] w fun e w' => e = .returned (.tuple #[.agg #[.int .i64 op, .int .i64 d, .int .i64 a, .int .i64 0, .int .i32 i], .int .i64 0]) ∧ Below w.heap.size w w' := by
  go_enter Try.func52, Try.ntmps52
  go_wp2_with (first
    | (go_at_call 62; refine (shapedAt20 R hp _).mono ?_; rintro e w1 ⟨rfl, rfl⟩)
    | (go_at_call 47; refine (encode8_yes R hp (by omega) (by omega) hm _).mono ?_; rintro e w2 ⟨rfl, hb2⟩; obtain ⟨k0, k1, k2, k3, k4⟩ := zero_after4 hb2; obtain ⟨hc2, hf2⟩ := bcell hb2))
  refine bodyPost_ret (v := .tuple #[.agg #[.int .i64 op, .int .i64 d, .int .i64 a, .int .i64 0, .int .i32 i], .int .i64 0]) (by simp [results, Try.results52, go_sem, k0, k1, k2, k3, k4]) rfl ⟨rfl, ?_⟩
  exact (((((below_call4 hb2).setCell (Nat.le_refl _) _).setCell (Nat.le_refl _) _).setCell (Nat.le_refl _) _).setCell (Nat.le_refl _) _).setCell (Nat.le_refl _) _

set_option maxHeartbeats 1000000 in
theorem dec13_265p_yes {u op d i : Int} (R : Row 265 (-32768) 32767 true false false 16 true true) (hp : partsF op = 265) (u0 : 0 ≤ u) (u1 : u < 4294967296) (ho : u / 16777216 = op) (mD : bits BinOp.and IntKind.u32 (u / 1048576) 15 = d) (d0 : 0 ≤ d) (d1 : d < 16) (mI : bits BinOp.and IntKind.u32 u 65535 = i) (i0 : 0 ≤ i) (i1 : i < 32768) (hm : mayR true true false false (-32768) 32767 d 0 0 i = true) (he : wordF 16 op d 0 0 i = u) (w : World) :
    Calls Try.prog 52 #[.int .u32 u] w fun e w' => e = .returned (.tuple #[.agg #[.int .i64 op, .int .i64 d, .int .i64 0, .int .i64 0, .int .i32 i], .int .i64 0]) ∧ Below w.heap.size w w' := by
  go_enter Try.func52, Try.ntmps52
  go_wp2_with (first
    | (go_at_call 62; refine (shapedAt20 R hp _).mono ?_; rintro e w1 ⟨rfl, rfl⟩)
    | (go_at_call 47; refine (encode8_yes R hp (by omega) (by omega) hm _).mono ?_; rintro e w2 ⟨rfl, hb2⟩; obtain ⟨k0, k1, k2, k3, k4⟩ := zero_after4 hb2; obtain ⟨hc2, hf2⟩ := bcell hb2))
  refine bodyPost_ret (v := .tuple #[.agg #[.int .i64 op, .int .i64 d, .int .i64 0, .int .i64 0, .int .i32 i], .int .i64 0]) (by simp [results, Try.results52, go_sem, k0, k1, k2, k3, k4]) rfl ⟨rfl, ?_⟩
  exact (((((below_call4 hb2).setCell (Nat.le_refl _) _).setCell (Nat.le_refl _) _).setCell (Nat.le_refl _) _).setCell (Nat.le_refl _) _).setCell (Nat.le_refl _) _

set_option maxHeartbeats 1000000 in
theorem dec13_265n_yes {u op d i : Int} (R : Row 265 (-32768) 32767 true false false 16 true true) (hp : partsF op = 265) (u0 : 0 ≤ u) (u1 : u < 4294967296) (ho : u / 16777216 = op) (mD : bits BinOp.and IntKind.u32 (u / 1048576) 15 = d) (d0 : 0 ≤ d) (d1 : d < 16) (mI : bits BinOp.and IntKind.u32 u 65535 = i + 65536) (i0 : -32768 ≤ i) (i1 : i < 0) (hm : mayR true true false false (-32768) 32767 d 0 0 i = true) (he : wordF 16 op d 0 0 i = u) (w : World) :
    Calls Try.prog 52 #[.int .u32 u] w fun e w' => e = .returned (.tuple #[.agg #[.int .i64 op, .int .i64 d, .int .i64 0, .int .i64 0, .int .i32 i], .int .i64 0]) ∧ Below w.heap.size w w' := by
  go_enter Try.func52, Try.ntmps52
  go_wp2_with (first
    | (go_at_call 62; refine (shapedAt20 R hp _).mono ?_; rintro e w1 ⟨rfl, rfl⟩)
    | (go_at_call 47; refine (encode8_yes R hp (by omega) (by omega) hm _).mono ?_; rintro e w2 ⟨rfl, hb2⟩; obtain ⟨k0, k1, k2, k3, k4⟩ := zero_after4 hb2; obtain ⟨hc2, hf2⟩ := bcell hb2))
  refine bodyPost_ret (v := .tuple #[.agg #[.int .i64 op, .int .i64 d, .int .i64 0, .int .i64 0, .int .i32 i], .int .i64 0]) (by simp [results, Try.results52, go_sem, k0, k1, k2, k3, k4]) rfl ⟨rfl, ?_⟩
  exact (((((below_call4 hb2).setCell (Nat.le_refl _) _).setCell (Nat.le_refl _) _).setCell (Nat.le_refl _) _).setCell (Nat.le_refl _) _).setCell (Nat.le_refl _) _

set_option maxHeartbeats 1000000 in
theorem dec13_401_yes {u op d i : Int} (R : Row 401 0 65535 true false false 16 false true) (hp : partsF op = 401) (u0 : 0 ≤ u) (u1 : u < 4294967296) (ho : u / 16777216 = op) (mD : bits BinOp.and IntKind.u32 (u / 1048576) 15 = d) (d0 : 0 ≤ d) (d1 : d < 16) (mI : bits BinOp.and IntKind.u32 u 65535 = i) (i0 : 0 ≤ i) (i1 : i < 65536) (hm : mayR true true false false 0 65535 d 0 0 i = true) (he : wordF 16 op d 0 0 i = u) (w : World) :
    Calls Try.prog 52 #[.int .u32 u] w fun e w' => e = .returned (.tuple #[.agg #[.int .i64 op, .int .i64 d, .int .i64 0, .int .i64 0, .int .i32 i], .int .i64 0]) ∧ Below w.heap.size w w' := by
  go_enter Try.func52, Try.ntmps52
  go_wp2_with (first
    | (go_at_call 62; refine (shapedAt20 R hp _).mono ?_; rintro e w1 ⟨rfl, rfl⟩)
    | (go_at_call 47; refine (encode8_yes R hp (by omega) (by omega) hm _).mono ?_; rintro e w2 ⟨rfl, hb2⟩; obtain ⟨k0, k1, k2, k3, k4⟩ := zero_after4 hb2; obtain ⟨hc2, hf2⟩ := bcell hb2))
  refine bodyPost_ret (v := .tuple #[.agg #[.int .i64 op, .int .i64 d, .int .i64 0, .int .i64 0, .int .i32 i], .int .i64 0]) (by simp [results, Try.results52, go_sem, k0, k1, k2, k3, k4]) rfl ⟨rfl, ?_⟩
  exact (((((below_call4 hb2).setCell (Nat.le_refl _) _).setCell (Nat.le_refl _) _).setCell (Nat.le_refl _) _).setCell (Nat.le_refl _) _).setCell (Nat.le_refl _) _

set_option maxHeartbeats 1000000 in
theorem dec13_10p_yes {u op a i : Int} (R : Row 10 (-32768) 32767 false true false 16 true true) (hp : partsF op = 10) (u0 : 0 ≤ u) (u1 : u < 4294967296) (ho : u / 16777216 = op) (mA : bits BinOp.and IntKind.u32 (u / 65536) 15 = a) (a0 : 0 ≤ a) (a1 : a < 16) (mI : bits BinOp.and IntKind.u32 u 65535 = i) (i0 : 0 ≤ i) (i1 : i < 32768) (hm : mayR true false true false (-32768) 32767 0 a 0 i = true) (he : wordF 16 op 0 a 0 i = u) (w : World) :
    Calls Try.prog 52 #[.int .u32 u] w fun e w' => e = .returned (.tuple #[.agg #[.int .i64 op, .int .i64 0, .int .i64 a, .int .i64 0, .int .i32 i], .int .i64 0]) ∧ Below w.heap.size w w' := by
  go_enter Try.func52, Try.ntmps52
  go_wp2_with (first
    | (go_at_call 62; refine (shapedAt20 R hp _).mono ?_; rintro e w1 ⟨rfl, rfl⟩)
    | (go_at_call 47; refine (encode8_yes R hp (by omega) (by omega) hm _).mono ?_; rintro e w2 ⟨rfl, hb2⟩; obtain ⟨k0, k1, k2, k3, k4⟩ := zero_after4 hb2; obtain ⟨hc2, hf2⟩ := bcell hb2))
  refine bodyPost_ret (v := .tuple #[.agg #[.int .i64 op, .int .i64 0, .int .i64 a, .int .i64 0, .int .i32 i], .int .i64 0]) (by simp [results, Try.results52, go_sem, k0, k1, k2, k3, k4]) rfl ⟨rfl, ?_⟩
  exact (((((below_call4 hb2).setCell (Nat.le_refl _) _).setCell (Nat.le_refl _) _).setCell (Nat.le_refl _) _).setCell (Nat.le_refl _) _).setCell (Nat.le_refl _) _

set_option maxHeartbeats 1000000 in
theorem dec13_10n_yes {u op a i : Int} (R : Row 10 (-32768) 32767 false true false 16 true true) (hp : partsF op = 10) (u0 : 0 ≤ u) (u1 : u < 4294967296) (ho : u / 16777216 = op) (mA : bits BinOp.and IntKind.u32 (u / 65536) 15 = a) (a0 : 0 ≤ a) (a1 : a < 16) (mI : bits BinOp.and IntKind.u32 u 65535 = i + 65536) (i0 : -32768 ≤ i) (i1 : i < 0) (hm : mayR true false true false (-32768) 32767 0 a 0 i = true) (he : wordF 16 op 0 a 0 i = u) (w : World) :
    Calls Try.prog 52 #[.int .u32 u] w fun e w' => e = .returned (.tuple #[.agg #[.int .i64 op, .int .i64 0, .int .i64 a, .int .i64 0, .int .i32 i], .int .i64 0]) ∧ Below w.heap.size w w' := by
  go_enter Try.func52, Try.ntmps52
  go_wp2_with (first
    | (go_at_call 62; refine (shapedAt20 R hp _).mono ?_; rintro e w1 ⟨rfl, rfl⟩)
    | (go_at_call 47; refine (encode8_yes R hp (by omega) (by omega) hm _).mono ?_; rintro e w2 ⟨rfl, hb2⟩; obtain ⟨k0, k1, k2, k3, k4⟩ := zero_after4 hb2; obtain ⟨hc2, hf2⟩ := bcell hb2))
  refine bodyPost_ret (v := .tuple #[.agg #[.int .i64 op, .int .i64 0, .int .i64 a, .int .i64 0, .int .i32 i], .int .i64 0]) (by simp [results, Try.results52, go_sem, k0, k1, k2, k3, k4]) rfl ⟨rfl, ?_⟩
  exact (((((below_call4 hb2).setCell (Nat.le_refl _) _).setCell (Nat.le_refl _) _).setCell (Nat.le_refl _) _).setCell (Nat.le_refl _) _).setCell (Nat.le_refl _) _

set_option maxHeartbeats 1000000 in
theorem dec13_32p_yes {u op i : Int} (R : Row 32 (-8388608) 8388607 false false false 24 true true) (hp : partsF op = 32) (u0 : 0 ≤ u) (u1 : u < 4294967296) (ho : u / 16777216 = op) (mI : bits BinOp.and IntKind.u32 u 16777215 = i) (i0 : 0 ≤ i) (i1 : i < 8388608) (hm : mayR true false false false (-8388608) 8388607 0 0 0 i = true) (he : wordF 24 op 0 0 0 i = u) (w : World) :
    Calls Try.prog 52 #[.int .u32 u] w fun e w' => e = .returned (.tuple #[.agg #[.int .i64 op, .int .i64 0, .int .i64 0, .int .i64 0, .int .i32 i], .int .i64 0]) ∧ Below w.heap.size w w' := by
  go_enter Try.func52, Try.ntmps52
  go_wp2_with (first
    | (go_at_call 62; refine (shapedAt20 R hp _).mono ?_; rintro e w1 ⟨rfl, rfl⟩)
    | (go_at_call 47; refine (encode8_yes R hp (by omega) (by omega) hm _).mono ?_; rintro e w2 ⟨rfl, hb2⟩; obtain ⟨k0, k1, k2, k3, k4⟩ := zero_after4 hb2; obtain ⟨hc2, hf2⟩ := bcell hb2))
  refine bodyPost_ret (v := .tuple #[.agg #[.int .i64 op, .int .i64 0, .int .i64 0, .int .i64 0, .int .i32 i], .int .i64 0]) (by simp [results, Try.results52, go_sem, k0, k1, k2, k3, k4]) rfl ⟨rfl, ?_⟩
  exact (((((below_call4 hb2).setCell (Nat.le_refl _) _).setCell (Nat.le_refl _) _).setCell (Nat.le_refl _) _).setCell (Nat.le_refl _) _).setCell (Nat.le_refl _) _

set_option maxHeartbeats 1000000 in
theorem dec13_32n_yes {u op i : Int} (R : Row 32 (-8388608) 8388607 false false false 24 true true) (hp : partsF op = 32) (u0 : 0 ≤ u) (u1 : u < 4294967296) (ho : u / 16777216 = op) (mI : bits BinOp.and IntKind.u32 u 16777215 = i + 16777216) (i0 : -8388608 ≤ i) (i1 : i < 0) (hm : mayR true false false false (-8388608) 8388607 0 0 0 i = true) (he : wordF 24 op 0 0 0 i = u) (w : World) :
    Calls Try.prog 52 #[.int .u32 u] w fun e w' => e = .returned (.tuple #[.agg #[.int .i64 op, .int .i64 0, .int .i64 0, .int .i64 0, .int .i32 i], .int .i64 0]) ∧ Below w.heap.size w w' := by
  go_enter Try.func52, Try.ntmps52
  go_wp2_with (first
    | (go_at_call 62; refine (shapedAt20 R hp _).mono ?_; rintro e w1 ⟨rfl, rfl⟩)
    | (go_at_call 47; refine (encode8_yes R hp (by omega) (by omega) hm _).mono ?_; rintro e w2 ⟨rfl, hb2⟩; obtain ⟨k0, k1, k2, k3, k4⟩ := zero_after4 hb2; obtain ⟨hc2, hf2⟩ := bcell hb2))
  refine bodyPost_ret (v := .tuple #[.agg #[.int .i64 op, .int .i64 0, .int .i64 0, .int .i64 0, .int .i32 i], .int .i64 0]) (by simp [results, Try.results52, go_sem, k0, k1, k2, k3, k4]) rfl ⟨rfl, ?_⟩
  exact (((((below_call4 hb2).setCell (Nat.le_refl _) _).setCell (Nat.le_refl _) _).setCell (Nat.le_refl _) _).setCell (Nat.le_refl _) _).setCell (Nat.le_refl _) _

set_option maxHeartbeats 1000000 in
theorem dec13_2_yes {u op a : Int} (R : Row 2 0 0 false true false 0 false true) (hp : partsF op = 2) (u0 : 0 ≤ u) (u1 : u < 4294967296) (ho : u / 16777216 = op) (mA : bits BinOp.and IntKind.u32 (u / 65536) 15 = a) (a0 : 0 ≤ a) (a1 : a < 16) (hm : mayR true false true false 0 0 0 a 0 0 = true) (he : wordF 0 op 0 a 0 0 = u) (w : World) :
    Calls Try.prog 52 #[.int .u32 u] w fun e w' => e = .returned (.tuple #[.agg #[.int .i64 op, .int .i64 0, .int .i64 a, .int .i64 0, .int .i32 0], .int .i64 0]) ∧ Below w.heap.size w w' := by
  go_enter Try.func52, Try.ntmps52
  go_wp2_with (first
    | (go_at_call 62; refine (shapedAt20 R hp _).mono ?_; rintro e w1 ⟨rfl, rfl⟩)
    | (go_at_call 47; refine (encode8_yes R hp (by omega) (by omega) hm _).mono ?_; rintro e w2 ⟨rfl, hb2⟩; obtain ⟨k0, k1, k2, k3, k4⟩ := zero_after4 hb2; obtain ⟨hc2, hf2⟩ := bcell hb2))
  refine bodyPost_ret (v := .tuple #[.agg #[.int .i64 op, .int .i64 0, .int .i64 a, .int .i64 0, .int .i32 0], .int .i64 0]) (by simp [results, Try.results52, go_sem, k0, k1, k2, k3, k4]) rfl ⟨rfl, ?_⟩
  exact (((((below_call4 hb2).setCell (Nat.le_refl _) _).setCell (Nat.le_refl _) _).setCell (Nat.le_refl _) _).setCell (Nat.le_refl _) _).setCell (Nat.le_refl _) _

set_option maxHeartbeats 1000000 in
theorem dec13_257_yes {u op d : Int} (R : Row 257 0 0 true false false 0 false true) (hp : partsF op = 257) (u0 : 0 ≤ u) (u1 : u < 4294967296) (ho : u / 16777216 = op) (mD : bits BinOp.and IntKind.u32 (u / 1048576) 15 = d) (d0 : 0 ≤ d) (d1 : d < 16) (hm : mayR true true false false 0 0 d 0 0 0 = true) (he : wordF 0 op d 0 0 0 = u) (w : World) :
    Calls Try.prog 52 #[.int .u32 u] w fun e w' => e = .returned (.tuple #[.agg #[.int .i64 op, .int .i64 d, .int .i64 0, .int .i64 0, .int .i32 0], .int .i64 0]) ∧ Below w.heap.size w w' := by
  go_enter Try.func52, Try.ntmps52
  go_wp2_with (first
    | (go_at_call 62; refine (shapedAt20 R hp _).mono ?_; rintro e w1 ⟨rfl, rfl⟩)
    | (go_at_call 47; refine (encode8_yes R hp (by omega) (by omega) hm _).mono ?_; rintro e w2 ⟨rfl, hb2⟩; obtain ⟨k0, k1, k2, k3, k4⟩ := zero_after4 hb2; obtain ⟨hc2, hf2⟩ := bcell hb2))
  refine bodyPost_ret (v := .tuple #[.agg #[.int .i64 op, .int .i64 d, .int .i64 0, .int .i64 0, .int .i32 0], .int .i64 0]) (by simp [results, Try.results52, go_sem, k0, k1, k2, k3, k4]) rfl ⟨rfl, ?_⟩
  exact (((((below_call4 hb2).setCell (Nat.le_refl _) _).setCell (Nat.le_refl _) _).setCell (Nat.le_refl _) _).setCell (Nat.le_refl _) _).setCell (Nat.le_refl _) _

set_option maxHeartbeats 1000000 in
theorem dec13_64_yes {u op i : Int} (R : Row 64 1 5 false false false 16 false true) (hp : partsF op = 64) (u0 : 0 ≤ u) (u1 : u < 4294967296) (ho : u / 16777216 = op) (mI : bits BinOp.and IntKind.u32 u 65535 = i) (i0 : 0 ≤ i) (i1 : i < 65536) (hm : mayR true false false false 1 5 0 0 0 i = true) (he : wordF 16 op 0 0 0 i = u) (w : World) :
    Calls Try.prog 52 #[.int .u32 u] w fun e w' => e = .returned (.tuple #[.agg #[.int .i64 op, .int .i64 0, .int .i64 0, .int .i64 0, .int .i32 i], .int .i64 0]) ∧ Below w.heap.size w w' := by
  go_enter Try.func52, Try.ntmps52
  go_wp2_with (first
    | (go_at_call 62; refine (shapedAt20 R hp _).mono ?_; rintro e w1 ⟨rfl, rfl⟩)
    | (go_at_call 47; refine (encode8_yes R hp (by omega) (by omega) hm _).mono ?_; rintro e w2 ⟨rfl, hb2⟩; obtain ⟨k0, k1, k2, k3, k4⟩ := zero_after4 hb2; obtain ⟨hc2, hf2⟩ := bcell hb2))
  refine bodyPost_ret (v := .tuple #[.agg #[.int .i64 op, .int .i64 0, .int .i64 0, .int .i64 0, .int .i32 i], .int .i64 0]) (by simp [results, Try.results52, go_sem, k0, k1, k2, k3, k4]) rfl ⟨rfl, ?_⟩
  exact (((((below_call4 hb2).setCell (Nat.le_refl _) _).setCell (Nat.le_refl _) _).setCell (Nat.le_refl _) _).setCell (Nat.le_refl _) _).setCell (Nat.le_refl _) _

theorem decode13_yes {u op p lo hi n d a b i : Int} {D A B sg is : Bool} (R : Row p lo hi D A B n sg is) (hp : partsF op = p) (u0 : 0 ≤ u) (u1 : u < 4294967296)
    (ho : u / 16777216 = op) (hd : regF (u / 1048576) D = d) (ha : regF (u / 65536) A = a) (hb : regF (u / 4096) B = b) (hI : immF n sg u = i)
    (hm : mayR is D A B lo hi d a b i = true) (he : wordF n op d a b i = u) (w : World) :
    Calls Try.prog 52 #[.int .u32 u] w fun e w' => e = .returned (.tuple #[.agg #[.int .i64 op, .int .i64 d, .int .i64 a, .int .i64 b, .int .i32 i], .int .i64 0]) ∧ Below w.heap.size w w' := by
  rcases R.out with ⟨rfl, rfl, rfl, rfl, rfl, rfl, rfl, rfl, rfl⟩ | ⟨rfl, rfl, rfl, rfl, rfl, rfl, rfl, rfl, rfl⟩ | ⟨rfl, rfl, rfl, rfl, rfl, rfl, rfl, rfl, rfl⟩ | ⟨rfl, rfl, rfl, rfl, rfl, rfl, rfl, rfl, rfl⟩ | ⟨rfl, rfl, rfl, rfl, rfl, rfl, rfl, rfl, rfl⟩ | ⟨rfl, rfl, rfl, rfl, rfl, rfl, rfl, rfl, rfl⟩ | ⟨rfl, rfl, rfl, rfl, rfl, rfl, rfl, rfl, rfl⟩ | ⟨rfl, rfl, rfl, rfl, rfl, rfl, rfl, rfl, rfl⟩ | ⟨rfl, rfl, rfl, rfl, rfl, rfl, rfl, rfl, rfl⟩ | ⟨rfl, rfl, rfl, rfl, rfl, rfl, rfl, rfl, rfl⟩ | ⟨rfl, rfl, rfl, rfl, rfl, rfl, rfl, rfl, rfl⟩
  · obtain ⟨mD, d0, d1⟩ := reg15 (by omega) (by omega) hd
    obtain ⟨mA, a0, a1⟩ := reg15 (by omega) (by omega) ha
    obtain ⟨mB, b0, b1⟩ := reg15 (by omega) (by omega) hb
    obtain rfl : (0 : Int) = i := hI
    exact dec13_263_yes R hp u0 u1 ho mD d0 d1 mA a0 a1 mB b0 b1 hm he w
  · obtain ⟨mD, d0, d1⟩ := reg15 (by omega) (by omega) hd
    obtain ⟨mA, a0, a1⟩ := reg15 (by omega) (by omega) ha
    obtain rfl : (0 : Int) = b := hb
    rcases imm16s u0 u1 hI with ⟨mI, i0, i1⟩ | ⟨mI, i0, i1⟩
    · exact dec13_267p_yes R hp u0 u1 ho mD d0 d1 mA a0 a1 mI i0 i1 hm he w
    · exact dec13_267n_yes R hp u0 u1 ho mD d0 d1 mA a0 a1 mI i0 i1 hm he w
  · obtain ⟨mD, d0, d1⟩ := reg15 (by omega) (by omega) hd
    obtain ⟨mA, a0, a1⟩ := reg15 (by omega) (by omega) ha
    obtain rfl : (0 : Int) = b := hb
    rcases imm16s u0 u1 hI with ⟨mI, i0, i1⟩ | ⟨mI, i0, i1⟩
    · exact dec13_139p_yes R hp u0 u1 ho mD d0 d1 mA a0 a1 mI i0 i1 hm he w
    · exact dec13_139n_yes R hp u0 u1 ho mD d0 d1 mA a0 a1 mI i0 i1 hm he w
  · obtain ⟨mD, d0, d1⟩ := reg15 (by omega) (by omega) hd
    obtain rfl : (0 : Int) = a := ha
    obtain rfl : (0 : Int) = b := hb
    rcases imm16s u0 u1 hI with ⟨mI, i0, i1⟩ | ⟨mI, i0, i1⟩
    · exact dec13_265p_yes R hp u0 u1 ho mD d0 d1 mI i0 i1 hm he w
    · exact dec13_265n_yes R hp u0 u1 ho mD d0 d1 mI i0 i1 hm he w
  · obtain ⟨mD, d0, d1⟩ := reg15 (by omega) (by omega) hd
    obtain rfl : (0 : Int) = a := ha
    obtain rfl : (0 : Int) = b := hb
    obtain ⟨mI, i0, i1⟩ := imm16u u0 u1 hI
    exact dec13_401_yes R hp u0 u1 ho mD d0 d1 mI i0 i1 hm he w
  · obtain rfl : (0 : Int) = d := hd
    obtain ⟨mA, a0, a1⟩ := reg15 (by omega) (by omega) ha
    obtain rfl : (0 : Int) = b := hb
    rcases imm16s u0 u1 hI with ⟨mI, i0, i1⟩ | ⟨mI, i0, i1⟩
    · exact dec13_10p_yes R hp u0 u1 ho mA a0 a1 mI i0 i1 hm he w
    · exact dec13_10n_yes R hp u0 u1 ho mA a0 a1 mI i0 i1 hm he w
  · obtain rfl : (0 : Int) = d := hd
    obtain rfl : (0 : Int) = a := ha
    obtain rfl : (0 : Int) = b := hb
    rcases imm24s u0 u1 hI with ⟨mI, i0, i1⟩ | ⟨mI, i0, i1⟩
    · exact dec13_32p_yes R hp u0 u1 ho mI i0 i1 hm he w
    · exact dec13_32n_yes R hp u0 u1 ho mI i0 i1 hm he w
  · obtain rfl : (0 : Int) = d := hd
    obtain ⟨mA, a0, a1⟩ := reg15 (by omega) (by omega) ha
    obtain rfl : (0 : Int) = b := hb
    obtain rfl : (0 : Int) = i := hI
    exact dec13_2_yes R hp u0 u1 ho mA a0 a1 hm he w
  · obtain ⟨mD, d0, d1⟩ := reg15 (by omega) (by omega) hd
    obtain rfl : (0 : Int) = a := ha
    obtain rfl : (0 : Int) = b := hb
    obtain rfl : (0 : Int) = i := hI
    exact dec13_257_yes R hp u0 u1 ho mD d0 d1 hm he w
  · obtain rfl : (0 : Int) = d := hd
    obtain rfl : (0 : Int) = a := ha
    obtain rfl : (0 : Int) = b := hb
    obtain ⟨mI, i0, i1⟩ := imm16u u0 u1 hI
    exact dec13_64_yes R hp u0 u1 ho mI i0 i1 hm he w
  · simp [mayR] at hm
end Go.Proofs.Ytimbnlcegcmfiaa
