/- An instruction is told back by its word: on integers, and as Decode's contract; and unlike instructions have unlike words. -/
import Derived.Test.YtgnlplddppheiaaIEncode
import Derived.WalkKit
import Derived.Test.YtgnlplddppheiaaISmall
namespace Go.Proofs.Ytgnlplddppheiaa
set_option linter.unusedVariables false
open Go.RowKit

/-- The register at a word's lower end, if there is such a part. -/
def regF (u : Int) (has : Bool) : Int := if has then u % 16 else 0
/-- A word's Imm, by its bits and its sign. -/
def immF (n : Int) (sg : Bool) (u : Int) : Int :=
  if n = 16 then (if sg then (if u % 65536 < 32768 then u % 65536 else u % 65536 - 65536) else u % 65536)
  else if n = 24 then (if u % 16777216 < 8388608 then u % 16777216 else u % 16777216 - 16777216)
  else 0

end Go.Proofs.Ytgnlplddppheiaa

namespace Go.Proofs.Ytgnlplddppheiaa
set_option linter.unusedVariables false
open Go.RowKit

theorem below_call2 {w w1 : World} {o o2 : Obj} (hb : Below ((w.alloc o).alloc o2).heap.size ((w.alloc o).alloc o2) w1) : Below w.heap.size w w1 :=
  (((Below.refl _ _).alloc (Nat.le_refl _) _).alloc (by simp) _).trans (hb.mono (by simp; omega))

/-- The cells of an instruction of zeros that lies at block g. -/
def ZeroAt (w : World) (g : Nat) : Prop :=
  w.cell? ⟨g, 0, none⟩ = some (.int .i64 0) ∧ w.cell? ⟨g, 1, none⟩ = some (.int .i64 0) ∧ w.cell? ⟨g, 2, none⟩ = some (.int .i64 0) ∧ w.cell? ⟨g, 3, none⟩ = some (.int .i64 0) ∧ w.cell? ⟨g, 4, none⟩ = some (.int .i32 0)

theorem zero_after {w w1 : World} {o2 : Obj} (hb : Below ((w.alloc (.cells #[.int .i64 0, .int .i64 0, .int .i64 0, .int .i64 0, .int .i32 0] 24)).alloc o2).heap.size ((w.alloc (.cells #[.int .i64 0, .int .i64 0, .int .i64 0, .int .i64 0, .int .i32 0] 24)).alloc o2) w1) : ZeroAt w1 w.heap.size := by
  have hc := (bcell hb).1
  have hl : w.heap.size < ((w.alloc (.cells #[.int .i64 0, .int .i64 0, .int .i64 0, .int .i64 0, .int .i32 0] 24)).alloc o2).heap.size := by simp; omega
  refine ⟨?_, ?_, ?_, ?_, ?_⟩
  all_goals (rw [hc _ _ hl]; simp [go_sem])

end Go.Proofs.Ytgnlplddppheiaa

namespace Go.Proofs.Ytgnlplddppheiaa
set_option linter.unusedVariables false
open Go.RowKit
set_option maxHeartbeats 1000000 in
theorem shapedAt20_alu (op : Int) (h1 : 1 ≤ op) (h2 : op ≤ 19) (w : World) :
    Calls Try.prog 45 #[.int .i64 op] w fun e w' => e = .returned (.agg #[.bool true, .bool true, .bool true, .int .i64 0, .bool false, .bool true]) ∧ w' = w.alloc (.cells #[.bool true, .bool true, .bool true, .int .i64 0, .bool false, .bool true] 88) := by
  go_enter Try.func45, Try.ntmps45
  go_wp2
  exact bodyPost_ret (v := .agg #[.bool true, .bool true, .bool true, .int .i64 0, .bool false, .bool true]) (by simp [results, Try.results45, go_sem]) rfl ⟨rfl, rfl⟩
set_option maxHeartbeats 1000000 in
theorem shapedAt20_32 (w : World) :
    Calls Try.prog 45 #[.int .i64 32] w fun e w' => e = .returned (.agg #[.bool true, .bool true, .bool false, .int .i64 16, .bool true, .bool true]) ∧ w' = w.alloc (.cells #[.bool true, .bool true, .bool false, .int .i64 16, .bool true, .bool true] 88) := by
  go_enter Try.func45, Try.ntmps45
  go_wp2
  exact bodyPost_ret (v := .agg #[.bool true, .bool true, .bool false, .int .i64 16, .bool true, .bool true]) (by simp [results, Try.results45, go_sem]) rfl ⟨rfl, rfl⟩
set_option maxHeartbeats 1000000 in
theorem shapedAt20_35 (w : World) :
    Calls Try.prog 45 #[.int .i64 35] w fun e w' => e = .returned (.agg #[.bool true, .bool true, .bool false, .int .i64 16, .bool true, .bool true]) ∧ w' = w.alloc (.cells #[.bool true, .bool true, .bool false, .int .i64 16, .bool true, .bool true] 88) := by
  go_enter Try.func45, Try.ntmps45
  go_wp2
  exact bodyPost_ret (v := .agg #[.bool true, .bool true, .bool false, .int .i64 16, .bool true, .bool true]) (by simp [results, Try.results45, go_sem]) rfl ⟨rfl, rfl⟩
set_option maxHeartbeats 1000000 in
theorem shapedAt20_36 (w : World) :
    Calls Try.prog 45 #[.int .i64 36] w fun e w' => e = .returned (.agg #[.bool true, .bool true, .bool false, .int .i64 16, .bool true, .bool true]) ∧ w' = w.alloc (.cells #[.bool true, .bool true, .bool false, .int .i64 16, .bool true, .bool true] 88) := by
  go_enter Try.func45, Try.ntmps45
  go_wp2
  exact bodyPost_ret (v := .agg #[.bool true, .bool true, .bool false, .int .i64 16, .bool true, .bool true]) (by simp [results, Try.results45, go_sem]) rfl ⟨rfl, rfl⟩
set_option maxHeartbeats 1000000 in
theorem shapedAt20_37 (w : World) :
    Calls Try.prog 45 #[.int .i64 37] w fun e w' => e = .returned (.agg #[.bool true, .bool true, .bool false, .int .i64 16, .bool true, .bool true]) ∧ w' = w.alloc (.cells #[.bool true, .bool true, .bool false, .int .i64 16, .bool true, .bool true] 88) := by
  go_enter Try.func45, Try.ntmps45
  go_wp2
  exact bodyPost_ret (v := .agg #[.bool true, .bool true, .bool false, .int .i64 16, .bool true, .bool true]) (by simp [results, Try.results45, go_sem]) rfl ⟨rfl, rfl⟩
set_option maxHeartbeats 1000000 in
theorem shapedAt20_38 (w : World) :
    Calls Try.prog 45 #[.int .i64 38] w fun e w' => e = .returned (.agg #[.bool true, .bool true, .bool false, .int .i64 16, .bool true, .bool true]) ∧ w' = w.alloc (.cells #[.bool true, .bool true, .bool false, .int .i64 16, .bool true, .bool true] 88) := by
  go_enter Try.func45, Try.ntmps45
  go_wp2
  exact bodyPost_ret (v := .agg #[.bool true, .bool true, .bool false, .int .i64 16, .bool true, .bool true]) (by simp [results, Try.results45, go_sem]) rfl ⟨rfl, rfl⟩
set_option maxHeartbeats 1000000 in
theorem shapedAt20_33 (w : World) :
    Calls Try.prog 45 #[.int .i64 33] w fun e w' => e = .returned (.agg #[.bool true, .bool false, .bool false, .int .i64 16, .bool true, .bool true]) ∧ w' = w.alloc (.cells #[.bool true, .bool false, .bool false, .int .i64 16, .bool true, .bool true] 88) := by
  go_enter Try.func45, Try.ntmps45
  go_wp2
  exact bodyPost_ret (v := .agg #[.bool true, .bool false, .bool false, .int .i64 16, .bool true, .bool true]) (by simp [results, Try.results45, go_sem]) rfl ⟨rfl, rfl⟩
set_option maxHeartbeats 1000000 in
theorem shapedAt20_34 (w : World) :
    Calls Try.prog 45 #[.int .i64 34] w fun e w' => e = .returned (.agg #[.bool true, .bool false, .bool false, .int .i64 16, .bool false, .bool true]) ∧ w' = w.alloc (.cells #[.bool true, .bool false, .bool false, .int .i64 16, .bool false, .bool true] 88) := by
  go_enter Try.func45, Try.ntmps45
  go_wp2
  exact bodyPost_ret (v := .agg #[.bool true, .bool false, .bool false, .int .i64 16, .bool false, .bool true]) (by simp [results, Try.results45, go_sem]) rfl ⟨rfl, rfl⟩
set_option maxHeartbeats 1000000 in
theorem shapedAt20_39 (w : World) :
    Calls Try.prog 45 #[.int .i64 39] w fun e w' => e = .returned (.agg #[.bool false, .bool true, .bool false, .int .i64 16, .bool true, .bool true]) ∧ w' = w.alloc (.cells #[.bool false, .bool true, .bool false, .int .i64 16, .bool true, .bool true] 88) := by
  go_enter Try.func45, Try.ntmps45
  go_wp2
  exact bodyPost_ret (v := .agg #[.bool false, .bool true, .bool false, .int .i64 16, .bool true, .bool true]) (by simp [results, Try.results45, go_sem]) rfl ⟨rfl, rfl⟩
set_option maxHeartbeats 1000000 in
theorem shapedAt20_40 (w : World) :
    Calls Try.prog 45 #[.int .i64 40] w fun e w' => e = .returned (.agg #[.bool false, .bool true, .bool false, .int .i64 16, .bool true, .bool true]) ∧ w' = w.alloc (.cells #[.bool false, .bool true, .bool false, .int .i64 16, .bool true, .bool true] 88) := by
  go_enter Try.func45, Try.ntmps45
  go_wp2
  exact bodyPost_ret (v := .agg #[.bool false, .bool true, .bool false, .int .i64 16, .bool true, .bool true]) (by simp [results, Try.results45, go_sem]) rfl ⟨rfl, rfl⟩
set_option maxHeartbeats 1000000 in
theorem shapedAt20_41 (w : World) :
    Calls Try.prog 45 #[.int .i64 41] w fun e w' => e = .returned (.agg #[.bool false, .bool false, .bool false, .int .i64 24, .bool true, .bool true]) ∧ w' = w.alloc (.cells #[.bool false, .bool false, .bool false, .int .i64 24, .bool true, .bool true] 88) := by
  go_enter Try.func45, Try.ntmps45
  go_wp2
  exact bodyPost_ret (v := .agg #[.bool false, .bool false, .bool false, .int .i64 24, .bool true, .bool true]) (by simp [results, Try.results45, go_sem]) rfl ⟨rfl, rfl⟩
set_option maxHeartbeats 1000000 in
theorem shapedAt20_42 (w : World) :
    Calls Try.prog 45 #[.int .i64 42] w fun e w' => e = .returned (.agg #[.bool false, .bool false, .bool false, .int .i64 24, .bool true, .bool true]) ∧ w' = w.alloc (.cells #[.bool false, .bool false, .bool false, .int .i64 24, .bool true, .bool true] 88) := by
  go_enter Try.func45, Try.ntmps45
  go_wp2
  exact bodyPost_ret (v := .agg #[.bool false, .bool false, .bool false, .int .i64 24, .bool true, .bool true]) (by simp [results, Try.results45, go_sem]) rfl ⟨rfl, rfl⟩
set_option maxHeartbeats 1000000 in
theorem shapedAt20_43 (w : World) :
    Calls Try.prog 45 #[.int .i64 43] w fun e w' => e = .returned (.agg #[.bool false, .bool true, .bool false, .int .i64 0, .bool false, .bool true]) ∧ w' = w.alloc (.cells #[.bool false, .bool true, .bool false, .int .i64 0, .bool false, .bool true] 88) := by
  go_enter Try.func45, Try.ntmps45
  go_wp2
  exact bodyPost_ret (v := .agg #[.bool false, .bool true, .bool false, .int .i64 0, .bool false, .bool true]) (by simp [results, Try.results45, go_sem]) rfl ⟨rfl, rfl⟩
set_option maxHeartbeats 1000000 in
theorem shapedAt20_45 (w : World) :
    Calls Try.prog 45 #[.int .i64 45] w fun e w' => e = .returned (.agg #[.bool false, .bool true, .bool false, .int .i64 0, .bool false, .bool true]) ∧ w' = w.alloc (.cells #[.bool false, .bool true, .bool false, .int .i64 0, .bool false, .bool true] 88) := by
  go_enter Try.func45, Try.ntmps45
  go_wp2
  exact bodyPost_ret (v := .agg #[.bool false, .bool true, .bool false, .int .i64 0, .bool false, .bool true]) (by simp [results, Try.results45, go_sem]) rfl ⟨rfl, rfl⟩
set_option maxHeartbeats 1000000 in
theorem shapedAt20_47 (w : World) :
    Calls Try.prog 45 #[.int .i64 47] w fun e w' => e = .returned (.agg #[.bool false, .bool true, .bool false, .int .i64 0, .bool false, .bool true]) ∧ w' = w.alloc (.cells #[.bool false, .bool true, .bool false, .int .i64 0, .bool false, .bool true] 88) := by
  go_enter Try.func45, Try.ntmps45
  go_wp2
  exact bodyPost_ret (v := .agg #[.bool false, .bool true, .bool false, .int .i64 0, .bool false, .bool true]) (by simp [results, Try.results45, go_sem]) rfl ⟨rfl, rfl⟩
set_option maxHeartbeats 1000000 in
theorem shapedAt20_44 (w : World) :
    Calls Try.prog 45 #[.int .i64 44] w fun e w' => e = .returned (.agg #[.bool true, .bool false, .bool false, .int .i64 0, .bool false, .bool true]) ∧ w' = w.alloc (.cells #[.bool true, .bool false, .bool false, .int .i64 0, .bool false, .bool true] 88) := by
  go_enter Try.func45, Try.ntmps45
  go_wp2
  exact bodyPost_ret (v := .agg #[.bool true, .bool false, .bool false, .int .i64 0, .bool false, .bool true]) (by simp [results, Try.results45, go_sem]) rfl ⟨rfl, rfl⟩
set_option maxHeartbeats 1000000 in
theorem shapedAt20_46 (w : World) :
    Calls Try.prog 45 #[.int .i64 46] w fun e w' => e = .returned (.agg #[.bool false, .bool false, .bool false, .int .i64 16, .bool false, .bool true]) ∧ w' = w.alloc (.cells #[.bool false, .bool false, .bool false, .int .i64 16, .bool false, .bool true] 88) := by
  go_enter Try.func45, Try.ntmps45
  go_wp2
  exact bodyPost_ret (v := .agg #[.bool false, .bool false, .bool false, .int .i64 16, .bool false, .bool true]) (by simp [results, Try.results45, go_sem]) rfl ⟨rfl, rfl⟩
set_option maxHeartbeats 1000000 in
theorem shapedAt20_none (op : Int) (h1 : ¬ (1 ≤ op ∧ op ≤ 19)) (n32 : ¬ op = 32) (n33 : ¬ op = 33) (n34 : ¬ op = 34) (n35 : ¬ op = 35) (n36 : ¬ op = 36) (n37 : ¬ op = 37) (n38 : ¬ op = 38) (n39 : ¬ op = 39) (n40 : ¬ op = 40) (n41 : ¬ op = 41) (n42 : ¬ op = 42) (n43 : ¬ op = 43) (n44 : ¬ op = 44) (n45 : ¬ op = 45) (n46 : ¬ op = 46) (n47 : ¬ op = 47) (w : World) :
    Calls Try.prog 45 #[.int .i64 op] w fun e w' => e = .returned (.agg #[.bool false, .bool false, .bool false, .int .i64 0, .bool false, .bool false]) ∧ w' = w.alloc (.cells #[.bool false, .bool false, .bool false, .int .i64 0, .bool false, .bool false] 88) := by
  by_cases h2 : 1 ≤ op
  · have h3 : ¬ op ≤ 19 := by omega
    go_enter Try.func45, Try.ntmps45
    go_wp2
    exact bodyPost_ret (v := .agg #[.bool false, .bool false, .bool false, .int .i64 0, .bool false, .bool false]) (by simp [results, Try.results45, go_sem]) rfl ⟨rfl, rfl⟩
  · go_enter Try.func45, Try.ntmps45
    go_wp2
    exact bodyPost_ret (v := .agg #[.bool false, .bool false, .bool false, .int .i64 0, .bool false, .bool false]) (by simp [results, Try.results45, go_sem]) rfl ⟨rfl, rfl⟩

theorem shapedAt20 {op p lo hi n : Int} {D A B sg is : Bool} (R : Row p lo hi D A B n sg is) (hp : partsF op = p) (w : World) :
    Calls Try.prog 45 #[.int .i64 op] w fun e w' => e = .returned (.agg #[.bool D, .bool A, .bool B, .int .i64 n, .bool sg, .bool is]) ∧ w' = w.alloc (.cells #[.bool D, .bool A, .bool B, .int .i64 n, .bool sg, .bool is] 88) := by
  rcases R.out with ⟨rfl, rfl, rfl, rfl, rfl, rfl, rfl, rfl, rfl⟩ | ⟨rfl, rfl, rfl, rfl, rfl, rfl, rfl, rfl, rfl⟩ | ⟨rfl, rfl, rfl, rfl, rfl, rfl, rfl, rfl, rfl⟩ | ⟨rfl, rfl, rfl, rfl, rfl, rfl, rfl, rfl, rfl⟩ | ⟨rfl, rfl, rfl, rfl, rfl, rfl, rfl, rfl, rfl⟩ | ⟨rfl, rfl, rfl, rfl, rfl, rfl, rfl, rfl, rfl⟩ | ⟨rfl, rfl, rfl, rfl, rfl, rfl, rfl, rfl, rfl⟩ | ⟨rfl, rfl, rfl, rfl, rfl, rfl, rfl, rfl, rfl⟩ | ⟨rfl, rfl, rfl, rfl, rfl, rfl, rfl, rfl, rfl⟩ | ⟨rfl, rfl, rfl, rfl, rfl, rfl, rfl, rfl, rfl⟩ | ⟨rfl, rfl, rfl, rfl, rfl, rfl, rfl, rfl, rfl⟩
  · have h : 1 ≤ op ∧ op ≤ 19 := by unfold partsF at hp; omega
    exact shapedAt20_alu op h.1 h.2 w
  · have h : op = 32 ∨ op = 35 ∨ op = 36 := by unfold partsF at hp; omega
    rcases h with rfl | rfl | rfl
    · exact shapedAt20_32 w
    · exact shapedAt20_35 w
    · exact shapedAt20_36 w
  · have h : op = 37 ∨ op = 38 := by unfold partsF at hp; omega
    rcases h with rfl | rfl
    · exact shapedAt20_37 w
    · exact shapedAt20_38 w
  · have h : op = 33 := by unfold partsF at hp; omega
    rcases h with rfl
    exact shapedAt20_33 w
  · have h : op = 34 := by unfold partsF at hp; omega
    rcases h with rfl
    exact shapedAt20_34 w
  · have h : op = 39 ∨ op = 40 := by unfold partsF at hp; omega
    rcases h with rfl | rfl
    · exact shapedAt20_39 w
    · exact shapedAt20_40 w
  · have h : op = 41 ∨ op = 42 := by unfold partsF at hp; omega
    rcases h with rfl | rfl
    · exact shapedAt20_41 w
    · exact shapedAt20_42 w
  · have h : op = 43 ∨ op = 45 ∨ op = 47 := by unfold partsF at hp; omega
    rcases h with rfl | rfl | rfl
    · exact shapedAt20_43 w
    · exact shapedAt20_45 w
    · exact shapedAt20_47 w
  · have h : op = 44 := by unfold partsF at hp; omega
    rcases h with rfl
    exact shapedAt20_44 w
  · have h : op = 46 := by unfold partsF at hp; omega
    rcases h with rfl
    exact shapedAt20_46 w
  · have h : ¬ (1 ≤ op ∧ op ≤ 19) ∧ ¬ op = 32 ∧ ¬ op = 33 ∧ ¬ op = 34 ∧ ¬ op = 35 ∧ ¬ op = 36 ∧ ¬ op = 37 ∧ ¬ op = 38 ∧ ¬ op = 39 ∧ ¬ op = 40 ∧ ¬ op = 41 ∧ ¬ op = 42 ∧ ¬ op = 43 ∧ ¬ op = 44 ∧ ¬ op = 45 ∧ ¬ op = 46 ∧ ¬ op = 47 := by unfold partsF at hp; omega
    obtain ⟨h1, n32, n33, n34, n35, n36, n37, n38, n39, n40, n41, n42, n43, n44, n45, n46, n47⟩ := h
    exact shapedAt20_none op h1 n32 n33 n34 n35 n36 n37 n38 n39 n40 n41 n42 n43 n44 n45 n46 n47 w
end Go.Proofs.Ytgnlplddppheiaa

namespace Go.Proofs.Ytgnlplddppheiaa
open Go.RowKit

theorem below_call4 {w w1 : World} {o o2 o3 o4 : Obj} (hb : Below ((((w.alloc o).alloc o2).alloc o3).alloc o4).heap.size ((((w.alloc o).alloc o2).alloc o3).alloc o4) w1) : Below w.heap.size w w1 :=
  (((((Below.refl _ _).alloc (Nat.le_refl _) _).alloc (by simp) _).alloc (by simp; omega) _).alloc (by simp; omega) _).trans (hb.mono (by simp; omega))

theorem zero_after4 {w w1 : World} {o2 o3 o4 : Obj} (hb : Below ((((w.alloc (.cells #[.int .i64 0, .int .i64 0, .int .i64 0, .int .i64 0, .int .i32 0] 24)).alloc o2).alloc o3).alloc o4).heap.size ((((w.alloc (.cells #[.int .i64 0, .int .i64 0, .int .i64 0, .int .i64 0, .int .i32 0] 24)).alloc o2).alloc o3).alloc o4) w1) : ZeroAt w1 w.heap.size := by
  have hc := (bcell hb).1
  have hl : w.heap.size < ((((w.alloc (.cells #[.int .i64 0, .int .i64 0, .int .i64 0, .int .i64 0, .int .i32 0] 24)).alloc o2).alloc o3).alloc o4).heap.size := by simp; omega
  have l2 : w.heap.size < w.heap.size + 1 + 1 := by omega
  have l3 : w.heap.size < w.heap.size + 1 + 1 + 1 := by omega
  refine ⟨?_, ?_, ?_, ?_, ?_⟩
  all_goals (rw [hc _ _ hl]; simp [go_sem, l2, l3])

theorem reg15 {v r : Int} (v0 : 0 ≤ v) (v1 : v < 4294967296) (h : regF v true = r) : bits BinOp.and IntKind.u32 v 15 = r ∧ 0 ≤ r ∧ r < 16 := by
  have h' : v % 16 = r := h
  rw [mask4 v v0 v1]
  omega
theorem imm16s {u i : Int} (u0 : 0 ≤ u) (u1 : u < 4294967296) (h : immF 16 true u = i) :
    (bits BinOp.and IntKind.u32 u 65535 = i ∧ 0 ≤ i ∧ i < 32768) ∨ (bits BinOp.and IntKind.u32 u 65535 = i + 65536 ∧ -32768 ≤ i ∧ i < 0) := by
  have h' : (if u % 65536 < 32768 then u % 65536 else u % 65536 - 65536) = i := h
  rw [mask16 u u0 u1]
  omega
theorem imm16u {u i : Int} (u0 : 0 ≤ u) (u1 : u < 4294967296) (h : immF 16 false u = i) : bits BinOp.and IntKind.u32 u 65535 = i ∧ 0 ≤ i ∧ i < 65536 := by
  have h' : u % 65536 = i := h
  rw [mask16 u u0 u1]
  omega
theorem imm24s {u i : Int} (u0 : 0 ≤ u) (u1 : u < 4294967296) (h : immF 24 true u = i) :
    (bits BinOp.and IntKind.u32 u 16777215 = i ∧ 0 ≤ i ∧ i < 8388608) ∨ (bits BinOp.and IntKind.u32 u 16777215 = i + 16777216 ∧ -8388608 ≤ i ∧ i < 0) := by
  have h' : (if u % 16777216 < 8388608 then u % 16777216 else u % 16777216 - 16777216) = i := h
  rw [mask24 u u0 u1]
  omega
end Go.Proofs.Ytgnlplddppheiaa

namespace Go.Proofs.Ytgnlplddppheiaa
open Go.RowKit
set_option maxHeartbeats 1000000 in
theorem dec13_263_yes {u op d a b : Int} (R : Row 263 0 0 true true true 0 false true) (hp : partsF op = 263) (u0 : 0 ≤ u) (u1 : u < 4294967296) (ho : u / 16777216 = op) (mD : bits BinOp.and IntKind.u32 (u / 1048576) 15 = d) (d0 : 0 ≤ d) (d1 : d < 16) (mA : bits BinOp.and IntKind.u32 (u / 65536) 15 = a) (a0 : 0 ≤ a) (a1 : a < 16) (mB : bits BinOp.and IntKind.u32 (u / 4096) 15 = b) (b0 : 0 ≤ b) (b1 : b < 16) (hm : mayR true true true true 0 0 d a b 0 = true) (he : wordF 0 op d a b 0 = u) (w : World) :
    Calls Try.prog 39 #[.int .u32 u] w fun e w' => e = .returned (.tuple #[.agg #[.int .i64 op, .int .i64 d, .int .i64 a, .int .i64 b, .int .i32 0], .int .i64 0]) ∧ Below w.heap.size w w' := by
  go_enter Try.func39, Try.ntmps39
  go_wp2_with (first
    | (go_at_call 45; refine (shapedAt20 R hp _).mono ?_; rintro e w1 ⟨rfl, rfl⟩)
    | (go_at_call 34; refine (encode8_yes R hp (by omega) (by omega) hm _).mono ?_; rintro e w2 ⟨rfl, hb2⟩; obtain ⟨k0, k1, k2, k3, k4⟩ := zero_after4 hb2; obtain ⟨hc2, hf2⟩ := bcell hb2))
  refine bodyPost_ret (v := .tuple #[.agg #[.int .i64 op, .int .i64 d, .int .i64 a, .int .i64 b, .int .i32 0], .int .i64 0]) (by simp [results, Try.results39, go_sem, k0, k1, k2, k3, k4]) rfl ⟨rfl, ?_⟩
  exact (((((below_call4 hb2).setCell (Nat.le_refl _) _).setCell (Nat.le_refl _) _).setCell (Nat.le_refl _) _).setCell (Nat.le_refl _) _).setCell (Nat.le_refl _) _

set_option maxHeartbeats 1000000 in
theorem dec13_267p_yes {u op d a i : Int} (R : Row 267 (-32768) 32767 true true false 16 true true) (hp : partsF op = 267) (u0 : 0 ≤ u) (u1 : u < 4294967296) (ho : u / 16777216 = op) (mD : bits BinOp.and IntKind.u32 (u / 1048576) 15 = d) (d0 : 0 ≤ d) (d1 : d < 16) (mA : bits BinOp.and IntKind.u32 (u / 65536) 15 = a) (a0 : 0 ≤ a) (a1 : a < 16) (mI : bits BinOp.and IntKind.u32 u 65535 = i) (i0 : 0 ≤ i) (i1 : i < 32768) (hm : mayR true true true false (-32768) 32767 d a 0 i = true) (he : wordF 16 op d a 0 i = u) (w : World) :
    Calls Try.prog 39 #[.int .u32 u] w fun e w' => e = .returned (.tuple #[.agg #[.int .i64 op, .int .i64 d, .int .i64 a, .int .i64 0, .int .i32 i], .int .i64 0]) ∧ Below w.heap.size w w' := by
  go_enter Try.func39, Try.ntmps39
  go_wp2_with (first
    | (go_at_call 45; refine (shapedAt20 R hp _).mono ?_; rintro e w1 ⟨rfl, rfl⟩)
    | (go_at_call 34; refine (encode8_yes R hp (by omega) (by omega) hm _).mono ?_; rintro e w2 ⟨rfl, hb2⟩; obtain ⟨k0, k1, k2, k3, k4⟩ := zero_after4 hb2; obtain ⟨hc2, hf2⟩ := bcell hb2))
  refine bodyPost_ret (v := .tuple #[.agg #[.int .i64 op, .int .i64 d, .int .i64 a, .int .i64 0, .int .i32 i], .int .i64 0]) (by simp [results, Try.results39, go_sem, k0, k1, k2, k3, k4]) rfl ⟨rfl, ?_⟩
  exact (((((below_call4 hb2).setCell (Nat.le_refl _) _).setCell (Nat.le_refl _) _).setCell (Nat.le_refl _) _).setCell (Nat.le_refl _) _).setCell (Nat.le_refl _) _

set_option maxHeartbeats 1000000 in
theorem dec13_267n_yes {u op d a i : Int} (R : Row 267 (-32768) 32767 true true false 16 true true) (hp : partsF op = 267) (u0 : 0 ≤ u) (u1 : u < 4294967296) (ho : u / 16777216 = op) (mD : bits BinOp.and IntKind.u32 (u / 1048576) 15 = d) (d0 : 0 ≤ d) (d1 : d < 16) (mA : bits BinOp.and IntKind.u32 (u / 65536) 15 = a) (a0 : 0 ≤ a) (a1 : a < 16) (mI : bits BinOp.and IntKind.u32 u 65535 = i + 65536) (i0 : -32768 ≤ i) (i1 : i < 0) (hm : mayR true true true false (-32768) 32767 d a 0 i = true) (he : wordF 16 op d a 0 i = u) (w : World) :
    Calls Try.prog 39 #[.int .u32 u] w fun e w' => e = .returned (.tuple #[.agg #[.int .i64 op, .int .i64 d, .int .i64 a, .int .i64 0, .int .i32 i], .int .i64 0]) ∧ Below w.heap.size w w' := by
  go_enter Try.func39, Try.ntmps39
  go_wp2_with (first
    | (go_at_call 45; refine (shapedAt20 R hp _).mono ?_; rintro e w1 ⟨rfl, rfl⟩)
    | (go_at_call 34; refine (encode8_yes R hp (by omega) (by omega) hm _).mono ?_; rintro e w2 ⟨rfl, hb2⟩; obtain ⟨k0, k1, k2, k3, k4⟩ := zero_after4 hb2; obtain ⟨hc2, hf2⟩ := bcell hb2))
  refine bodyPost_ret (v := .tuple #[.agg #[.int .i64 op, .int .i64 d, .int .i64 a, .int .i64 0, .int .i32 i], .int .i64 0]) (by simp [results, Try.results39, go_sem, k0, k1, k2, k3, k4]) rfl ⟨rfl, ?_⟩
  exact (((((below_call4 hb2).setCell (Nat.le_refl _) _).setCell (Nat.le_refl _) _).setCell (Nat.le_refl _) _).setCell (Nat.le_refl _) _).setCell (Nat.le_refl _) _

set_option maxHeartbeats 1000000 in
theorem dec13_139p_yes {u op d a i : Int} (R : Row 139 (-32768) 32767 true true false 16 true true) (hp : partsF op = 139) (u0 : 0 ≤ u) (u1 : u < 4294967296) (ho : u / 16777216 = op) (mD : bits BinOp.and IntKind.u32 (u / 1048576) 15 = d) (d0 : 0 ≤ d) (d1 : d < 16) (mA : bits BinOp.and IntKind.u32 (u / 65536) 15 = a) (a0 : 0 ≤ a) (a1 : a < 16) (mI : bits BinOp.and IntKind.u32 u 65535 = i) (i0 : 0 ≤ i) (i1 : i < 32768) (hm : mayR true true true false (-32768) 32767 d a 0 i = true) (he : wordF 16 op d a 0 i = u) (w : World) :
    Calls Try.prog 39 #[.int .u32 u] w fun e w' => e = .returned (.tuple #[.agg #[.int .i64 op, .int .i64 d, .int .i64 a, .int .i64 0, .int .i32 i], .int .i64 0]) ∧ Below w.heap.size w w' := by
  go_enter Try.func39, Try.ntmps39
  go_wp2_with (first
    | (go_at_call 45; refine (shapedAt20 R hp _).mono ?_; rintro e w1 ⟨rfl, rfl⟩)
    | (go_at_call 34; refine (encode8_yes R hp (by omega) (by omega) hm _).mono ?_; rintro e w2 ⟨rfl, hb2⟩; obtain ⟨k0, k1, k2, k3, k4⟩ := zero_after4 hb2; obtain ⟨hc2, hf2⟩ := bcell hb2))
  refine bodyPost_ret (v := .tuple #[.agg #[.int .i64 op, .int .i64 d, .int .i64 a, .int .i64 0, .int .i32 i], .int .i64 0]) (by simp [results, Try.results39, go_sem, k0, k1, k2, k3, k4]) rfl ⟨rfl, ?_⟩
  exact (((((below_call4 hb2).setCell (Nat.le_refl _) _).setCell (Nat.le_refl _) _).setCell (Nat.le_refl _) _).setCell (Nat.le_refl _) _).setCell (Nat.le_refl _) _

set_option maxHeartbeats 1000000 in
theorem dec13_139n_yes {u op d a i : Int} (R : Row 139 (-32768) 32767 true true false 16 true true) (hp : partsF op = 139) (u0 : 0 ≤ u) (u1 : u < 4294967296) (ho : u / 16777216 = op) (mD : bits BinOp.and IntKind.u32 (u / 1048576) 15 = d) (d0 : 0 ≤ d) (d1 : d < 16) (mA : bits BinOp.and IntKind.u32 (u / 65536) 15 = a) (a0 : 0 ≤ a) (a1 : a < 16) (mI : bits BinOp.and IntKind.u32 u 65535 = i + 65536) (i0 : -32768 ≤ i) (i1 : i < 0) (hm : mayR true true true false (-32768) 32767 d a 0 i = true) (he : wordF 16 op d a 0 i = u) (w : World) :
    Calls Try.prog 39 #[.int .u32 u] w fun e w' => e = .returned (.tuple #[.agg #[.int .i64 op, .int .i64 d, .int .i64 a, .int .i64 0, .int .i32 i], .int .i64 0]) ∧ Below w.heap.size w w' := by
  go_enter Try.func39, Try.ntmps39
  go_wp2_with (first
    | (go_at_call 45; refine (shapedAt20 R hp _).mono ?_; rintro e w1 ⟨rfl, rfl⟩)
    | (go_at_call 34; refine (encode8_yes R hp (by omega) (by omega) hm _).mono ?_; rintro e w2 ⟨rfl, hb2⟩; obtain ⟨k0, k1, k2, k3, k4⟩ := zero_after4 hb2; obtain ⟨hc2, hf2⟩ := bcell hb2))
  refine bodyPost_ret (v := .tuple #[.agg #[.int .i64 op, .int .i64 d, .int .i64 a, .int .i64 0, .int .i32 i], .int .i64 0]) (by simp [results, Try.results39, go_sem, k0, k1, k2, k3, k4]) rfl ⟨rfl, ?_⟩
  exact (((((below_call4 hb2).setCell (Nat.le_refl _) _).setCell (Nat.le_refl _) _).setCell (Nat.le_refl _) _).setCell (Nat.le_refl _) _).setCell (Nat.le_refl _) _

set_option maxHeartbeats 1000000 in
theorem dec13_265p_yes {u op d i : Int} (R : Row 265 (-32768) 32767 true false false 16 true true) (hp : partsF op = 265) (u0 : 0 ≤ u) (u1 : u < 4294967296) (ho : u / 16777216 = op) (mD : bits BinOp.and IntKind.u32 (u / 1048576) 15 = d) (d0 : 0 ≤ d) (d1 : d < 16) (mI : bits BinOp.and IntKind.u32 u 65535 = i) (i0 : 0 ≤ i) (i1 : i < 32768) (hm : mayR true true false false (-32768) 32767 d 0 0 i = true) (he : wordF 16 op d 0 0 i = u) (w : World) :
    Calls Try.prog 39 #[.int .u32 u] w fun e w' => e = .returned (.tuple #[.agg #[.int .i64 op, .int .i64 d, .int .i64 0, .int .i64 0, .int .i32 i], .int .i64 0]) ∧ Below w.heap.size w w' := by
  go_enter Try.func39, Try.ntmps39
  go_wp2_with (first
    | (go_at_call 45; refine (shapedAt20 R hp _).mono ?_; rintro e w1 ⟨rfl, rfl⟩)
    | (go_at_call 34; refine (encode8_yes R hp (by omega) (by omega) hm _).mono ?_; rintro e w2 ⟨rfl, hb2⟩; obtain ⟨k0, k1, k2, k3, k4⟩ := zero_after4 hb2; obtain ⟨hc2, hf2⟩ := bcell hb2))
  refine bodyPost_ret (v := .tuple #[.agg #[.int .i64 op, .int .i64 d, .int .i64 0, .int .i64 0, .int .i32 i], .int .i64 0]) (by simp [results, Try.results39, go_sem, k0, k1, k2, k3, k4]) rfl ⟨rfl, ?_⟩
  exact (((((below_call4 hb2).setCell (Nat.le_refl _) _).setCell (Nat.le_refl _) _).setCell (Nat.le_refl _) _).setCell (Nat.le_refl _) _).setCell (Nat.le_refl _) _

set_option maxHeartbeats 1000000 in
theorem dec13_265n_yes {u op d i : Int} (R : Row 265 (-32768) 32767 true false false 16 true true) (hp : partsF op = 265) (u0 : 0 ≤ u) (u1 : u < 4294967296) (ho : u / 16777216 = op) (mD : bits BinOp.and IntKind.u32 (u / 1048576) 15 = d) (d0 : 0 ≤ d) (d1 : d < 16) (mI : bits BinOp.and IntKind.u32 u 65535 = i + 65536) (i0 : -32768 ≤ i) (i1 : i < 0) (hm : mayR true true false false (-32768) 32767 d 0 0 i = true) (he : wordF 16 op d 0 0 i = u) (w : World) :
    Calls Try.prog 39 #[.int .u32 u] w fun e w' => e = .returned (.tuple #[.agg #[.int .i64 op, .int .i64 d, .int .i64 0, .int .i64 0, .int .i32 i], .int .i64 0]) ∧ Below w.heap.size w w' := by
  go_enter Try.func39, Try.ntmps39
  go_wp2_with (first
    | (go_at_call 45; refine (shapedAt20 R hp _).mono ?_; rintro e w1 ⟨rfl, rfl⟩)
    | (go_at_call 34; refine (encode8_yes R hp (by omega) (by omega) hm _).mono ?_; rintro e w2 ⟨rfl, hb2⟩; obtain ⟨k0, k1, k2, k3, k4⟩ := zero_after4 hb2; obtain ⟨hc2, hf2⟩ := bcell hb2))
  refine bodyPost_ret (v := .tuple #[.agg #[.int .i64 op, .int .i64 d, .int .i64 0, .int .i64 0, .int .i32 i], .int .i64 0]) (by simp [results, Try.results39, go_sem, k0, k1, k2, k3, k4]) rfl ⟨rfl, ?_⟩
  exact (((((below_call4 hb2).setCell (Nat.le_refl _) _).setCell (Nat.le_refl _) _).setCell (Nat.le_refl _) _).setCell (Nat.le_refl _) _).setCell (Nat.le_refl _) _

set_option maxHeartbeats 1000000 in
theorem dec13_401_yes {u op d i : Int} (R : Row 401 0 65535 true false false 16 false true) (hp : partsF op = 401) (u0 : 0 ≤ u) (u1 : u < 4294967296) (ho : u / 16777216 = op) (mD : bits BinOp.and IntKind.u32 (u / 1048576) 15 = d) (d0 : 0 ≤ d) (d1 : d < 16) (mI : bits BinOp.and IntKind.u32 u 65535 = i) (i0 : 0 ≤ i) (i1 : i < 65536) (hm : mayR true true false false 0 65535 d 0 0 i = true) (he : wordF 16 op d 0 0 i = u) (w : World) :
    Calls Try.prog 39 #[.int .u32 u] w fun e w' => e = .returned (.tuple #[.agg #[.int .i64 op, .int .i64 d, .int .i64 0, .int .i64 0, .int .i32 i], .int .i64 0]) ∧ Below w.heap.size w w' := by
  go_enter Try.func39, Try.ntmps39
  go_wp2_with (first
    | (go_at_call 45; refine (shapedAt20 R hp _).mono ?_; rintro e w1 ⟨rfl, rfl⟩)
    | (go_at_call 34; refine (encode8_yes R hp (by omega) (by omega) hm _).mono ?_; rintro e w2 ⟨rfl, hb2⟩; obtain ⟨k0, k1, k2, k3, k4⟩ := zero_after4 hb2; obtain ⟨hc2, hf2⟩ := bcell hb2))
  refine bodyPost_ret (v := .tuple #[.agg #[.int .i64 op, .int .i64 d, .int .i64 0, .int .i64 0, .int .i32 i], .int .i64 0]) (by simp [results, Try.results39, go_sem, k0, k1, k2, k3, k4]) rfl ⟨rfl, ?_⟩
  exact (((((below_call4 hb2).setCell (Nat.le_refl _) _).setCell (Nat.le_refl _) _).setCell (Nat.le_refl _) _).setCell (Nat.le_refl _) _).setCell (Nat.le_refl _) _

set_option maxHeartbeats 1000000 in
theorem dec13_10p_yes {u op a i : Int} (R : Row 10 (-32768) 32767 false true false 16 true true) (hp : partsF op = 10) (u0 : 0 ≤ u) (u1 : u < 4294967296) (ho : u / 16777216 = op) (mA : bits BinOp.and IntKind.u32 (u / 65536) 15 = a) (a0 : 0 ≤ a) (a1 : a < 16) (mI : bits BinOp.and IntKind.u32 u 65535 = i) (i0 : 0 ≤ i) (i1 : i < 32768) (hm : mayR true false true false (-32768) 32767 0 a 0 i = true) (he : wordF 16 op 0 a 0 i = u) (w : World) :
    Calls Try.prog 39 #[.int .u32 u] w fun e w' => e = .returned (.tuple #[.agg #[.int .i64 op, .int .i64 0, .int .i64 a, .int .i64 0, .int .i32 i], .int .i64 0]) ∧ Below w.heap.size w w' := by
  go_enter Try.func39, Try.ntmps39
  go_wp2_with (first
    | (go_at_call 45; refine (shapedAt20 R hp _).mono ?_; rintro e w1 ⟨rfl, rfl⟩)
    | (go_at_call 34; refine (encode8_yes R hp (by omega) (by omega) hm _).mono ?_; rintro e w2 ⟨rfl, hb2⟩; obtain ⟨k0, k1, k2, k3, k4⟩ := zero_after4 hb2; obtain ⟨hc2, hf2⟩ := bcell hb2))
  refine bodyPost_ret (v := .tuple #[.agg #[.int .i64 op, .int .i64 0, .int .i64 a, .int .i64 0, .int .i32 i], .int .i64 0]) (by simp [results, Try.results39, go_sem, k0, k1, k2, k3, k4]) rfl ⟨rfl, ?_⟩
  exact (((((below_call4 hb2).setCell (Nat.le_refl _) _).setCell (Nat.le_refl _) _).setCell (Nat.le_refl _) _).setCell (Nat.le_refl _) _).setCell (Nat.le_refl _) _

set_option maxHeartbeats 1000000 in
theorem dec13_10n_yes {u op a i : Int} (R : Row 10 (-32768) 32767 false true false 16 true true) (hp : partsF op = 10) (u0 : 0 ≤ u) (u1 : u < 4294967296) (ho : u / 16777216 = op) (mA : bits BinOp.and IntKind.u32 (u / 65536) 15 = a) (a0 : 0 ≤ a) (a1 : a < 16) (mI : bits BinOp.and IntKind.u32 u 65535 = i + 65536) (i0 : -32768 ≤ i) (i1 : i < 0) (hm : mayR true false true false (-32768) 32767 0 a 0 i = true) (he : wordF 16 op 0 a 0 i = u) (w : World) :
    Calls Try.prog 39 #[.int .u32 u] w fun e w' => e = .returned (.tuple #[.agg #[.int .i64 op, .int .i64 0, .int .i64 a, .int .i64 0, .int .i32 i], .int .i64 0]) ∧ Below w.heap.size w w' := by
  go_enter Try.func39, Try.ntmps39
  go_wp2_with (first
    | (go_at_call 45; refine (shapedAt20 R hp _).mono ?_; rintro e w1 ⟨rfl, rfl⟩)
    | (go_at_call 34; refine (encode8_yes R hp (by omega) (by omega) hm _).mono ?_; rintro e w2 ⟨rfl, hb2⟩; obtain ⟨k0, k1, k2, k3, k4⟩ := zero_after4 hb2; obtain ⟨hc2, hf2⟩ := bcell hb2))
  refine bodyPost_ret (v := .tuple #[.agg #[.int .i64 op, .int .i64 0, .int .i64 a, .int .i64 0, .int .i32 i], .int .i64 0]) (by simp [results, Try.results39, go_sem, k0, k1, k2, k3, k4]) rfl ⟨rfl, ?_⟩
  exact (((((below_call4 hb2).setCell (Nat.le_refl _) _).setCell (Nat.le_refl _) _).setCell (Nat.le_refl _) _).setCell (Nat.le_refl _) _).setCell (Nat.le_refl _) _

set_option maxHeartbeats 1000000 in
theorem dec13_32p_yes {u op i : Int} (R : Row 32 (-8388608) 8388607 false false false 24 true true) (hp : partsF op = 32) (u0 : 0 ≤ u) (u1 : u < 4294967296) (ho : u / 16777216 = op) (mI : bits BinOp.and IntKind.u32 u 16777215 = i) (i0 : 0 ≤ i) (i1 : i < 8388608) (hm : mayR true false false false (-8388608) 8388607 0 0 0 i = true) (he : wordF 24 op 0 0 0 i = u) (w : World) :
    Calls Try.prog 39 #[.int .u32 u] w fun e w' => e = .returned (.tuple #[.agg #[.int .i64 op, .int .i64 0, .int .i64 0, .int .i64 0, .int .i32 i], .int .i64 0]) ∧ Below w.heap.size w w' := by
  go_enter Try.func39, Try.ntmps39
  go_wp2_with (first
    | (go_at_call 45; refine (shapedAt20 R hp _).mono ?_; rintro e w1 ⟨rfl, rfl⟩)
    | (go_at_call 34; refine (encode8_yes R hp (by omega) (by omega) hm _).mono ?_; rintro e w2 ⟨rfl, hb2⟩; obtain ⟨k0, k1, k2, k3, k4⟩ := zero_after4 hb2; obtain ⟨hc2, hf2⟩ := bcell hb2))
  refine bodyPost_ret (v := .tuple #[.agg #[.int .i64 op, .int .i64 0, .int .i64 0, .int .i64 0, .int .i32 i], .int .i64 0]) (by simp [results, Try.results39, go_sem, k0, k1, k2, k3, k4]) rfl ⟨rfl, ?_⟩
  exact (((((below_call4 hb2).setCell (Nat.le_refl _) _).setCell (Nat.le_refl _) _).setCell (Nat.le_refl _) _).setCell (Nat.le_refl _) _).setCell (Nat.le_refl _) _

set_option maxHeartbeats 1000000 in
theorem dec13_32n_yes {u op i : Int} (R : Row 32 (-8388608) 8388607 false false false 24 true true) (hp : partsF op = 32) (u0 : 0 ≤ u) (u1 : u < 4294967296) (ho : u / 16777216 = op) (mI : bits BinOp.and IntKind.u32 u 16777215 = i + 16777216) (i0 : -8388608 ≤ i) (i1 : i < 0) (hm : mayR true false false false (-8388608) 8388607 0 0 0 i = true) (he : wordF 24 op 0 0 0 i = u) (w : World) :
    Calls Try.prog 39 #[.int .u32 u] w fun e w' => e = .returned (.tuple #[.agg #[.int .i64 op, .int .i64 0, .int .i64 0, .int .i64 0, .int .i32 i], .int .i64 0]) ∧ Below w.heap.size w w' := by
  go_enter Try.func39, Try.ntmps39
  go_wp2_with (first
    | (go_at_call 45; refine (shapedAt20 R hp _).mono ?_; rintro e w1 ⟨rfl, rfl⟩)
    | (go_at_call 34; refine (encode8_yes R hp (by omega) (by omega) hm _).mono ?_; rintro e w2 ⟨rfl, hb2⟩; obtain ⟨k0, k1, k2, k3, k4⟩ := zero_after4 hb2; obtain ⟨hc2, hf2⟩ := bcell hb2))
  refine bodyPost_ret (v := .tuple #[.agg #[.int .i64 op, .int .i64 0, .int .i64 0, .int .i64 0, .int .i32 i], .int .i64 0]) (by simp [results, Try.results39, go_sem, k0, k1, k2, k3, k4]) rfl ⟨rfl, ?_⟩
  exact (((((below_call4 hb2).setCell (Nat.le_refl _) _).setCell (Nat.le_refl _) _).setCell (Nat.le_refl _) _).setCell (Nat.le_refl _) _).setCell (Nat.le_refl _) _

set_option maxHeartbeats 1000000 in
theorem dec13_2_yes {u op a : Int} (R : Row 2 0 0 false true false 0 false true) (hp : partsF op = 2) (u0 : 0 ≤ u) (u1 : u < 4294967296) (ho : u / 16777216 = op) (mA : bits BinOp.and IntKind.u32 (u / 65536) 15 = a) (a0 : 0 ≤ a) (a1 : a < 16) (hm : mayR true false true false 0 0 0 a 0 0 = true) (he : wordF 0 op 0 a 0 0 = u) (w : World) :
    Calls Try.prog 39 #[.int .u32 u] w fun e w' => e = .returned (.tuple #[.agg #[.int .i64 op, .int .i64 0, .int .i64 a, .int .i64 0, .int .i32 0], .int .i64 0]) ∧ Below w.heap.size w w' := by
  go_enter Try.func39, Try.ntmps39
  go_wp2_with (first
    | (go_at_call 45; refine (shapedAt20 R hp _).mono ?_; rintro e w1 ⟨rfl, rfl⟩)
    | (go_at_call 34; refine (encode8_yes R hp (by omega) (by omega) hm _).mono ?_; rintro e w2 ⟨rfl, hb2⟩; obtain ⟨k0, k1, k2, k3, k4⟩ := zero_after4 hb2; obtain ⟨hc2, hf2⟩ := bcell hb2))
  refine bodyPost_ret (v := .tuple #[.agg #[.int .i64 op, .int .i64 0, .int .i64 a, .int .i64 0, .int .i32 0], .int .i64 0]) (by simp [results, Try.results39, go_sem, k0, k1, k2, k3, k4]) rfl ⟨rfl, ?_⟩
  exact (((((below_call4 hb2).setCell (Nat.le_refl _) _).setCell (Nat.le_refl _) _).setCell (Nat.le_refl _) _).setCell (Nat.le_refl _) _).setCell (Nat.le_refl _) _

set_option maxHeartbeats 1000000 in
theorem dec13_257_yes {u op d : Int} (R : Row 257 0 0 true false false 0 false true) (hp : partsF op = 257) (u0 : 0 ≤ u) (u1 : u < 4294967296) (ho : u / 16777216 = op) (mD : bits BinOp.and IntKind.u32 (u / 1048576) 15 = d) (d0 : 0 ≤ d) (d1 : d < 16) (hm : mayR true true false false 0 0 d 0 0 0 = true) (he : wordF 0 op d 0 0 0 = u) (w : World) :
    Calls Try.prog 39 #[.int .u32 u] w fun e w' => e = .returned (.tuple #[.agg #[.int .i64 op, .int .i64 d, .int .i64 0, .int .i64 0, .int .i32 0], .int .i64 0]) ∧ Below w.heap.size w w' := by
  go_enter Try.func39, Try.ntmps39
  go_wp2_with (first
    | (go_at_call 45; refine (shapedAt20 R hp _).mono ?_; rintro e w1 ⟨rfl, rfl⟩)
    | (go_at_call 34; refine (encode8_yes R hp (by omega) (by omega) hm _).mono ?_; rintro e w2 ⟨rfl, hb2⟩; obtain ⟨k0, k1, k2, k3, k4⟩ := zero_after4 hb2; obtain ⟨hc2, hf2⟩ := bcell hb2))
  refine bodyPost_ret (v := .tuple #[.agg #[.int .i64 op, .int .i64 d, .int .i64 0, .int .i64 0, .int .i32 0], .int .i64 0]) (by simp [results, Try.results39, go_sem, k0, k1, k2, k3, k4]) rfl ⟨rfl, ?_⟩
  exact (((((below_call4 hb2).setCell (Nat.le_refl _) _).setCell (Nat.le_refl _) _).setCell (Nat.le_refl _) _).setCell (Nat.le_refl _) _).setCell (Nat.le_refl _) _

set_option maxHeartbeats 1000000 in
theorem dec13_64_yes {u op i : Int} (R : Row 64 1 5 false false false 16 false true) (hp : partsF op = 64) (u0 : 0 ≤ u) (u1 : u < 4294967296) (ho : u / 16777216 = op) (mI : bits BinOp.and IntKind.u32 u 65535 = i) (i0 : 0 ≤ i) (i1 : i < 65536) (hm : mayR true false false false 1 5 0 0 0 i = true) (he : wordF 16 op 0 0 0 i = u) (w : World) :
    Calls Try.prog 39 #[.int .u32 u] w fun e w' => e = .returned (.tuple #[.agg #[.int .i64 op, .int .i64 0, .int .i64 0, .int .i64 0, .int .i32 i], .int .i64 0]) ∧ Below w.heap.size w w' := by
  go_enter Try.func39, Try.ntmps39
  go_wp2_with (first
    | (go_at_call 45; refine (shapedAt20 R hp _).mono ?_; rintro e w1 ⟨rfl, rfl⟩)
    | (go_at_call 34; refine (encode8_yes R hp (by omega) (by omega) hm _).mono ?_; rintro e w2 ⟨rfl, hb2⟩; obtain ⟨k0, k1, k2, k3, k4⟩ := zero_after4 hb2; obtain ⟨hc2, hf2⟩ := bcell hb2))
  refine bodyPost_ret (v := .tuple #[.agg #[.int .i64 op, .int .i64 0, .int .i64 0, .int .i64 0, .int .i32 i], .int .i64 0]) (by simp [results, Try.results39, go_sem, k0, k1, k2, k3, k4]) rfl ⟨rfl, ?_⟩
  exact (((((below_call4 hb2).setCell (Nat.le_refl _) _).setCell (Nat.le_refl _) _).setCell (Nat.le_refl _) _).setCell (Nat.le_refl _) _).setCell (Nat.le_refl _) _

theorem decode13_yes {u op p lo hi n d a b i : Int} {D A B sg is : Bool} (R : Row p lo hi D A B n sg is) (hp : partsF op = p) (u0 : 0 ≤ u) (u1 : u < 4294967296)
    (ho : u / 16777216 = op) (hd : regF (u / 1048576) D = d) (ha : regF (u / 65536) A = a) (hb : regF (u / 4096) B = b) (hI : immF n sg u = i)
    (hm : mayR is D A B lo hi d a b i = true) (he : wordF n op d a b i = u) (w : World) :
    Calls Try.prog 39 #[.int .u32 u] w fun e w' => e = .returned (.tuple #[.agg #[.int .i64 op, .int .i64 d, .int .i64 a, .int .i64 b, .int .i32 i], .int .i64 0]) ∧ Below w.heap.size w w' := by
  rcases R.out with ⟨rfl, rfl, rfl, rfl, rfl, rfl, rfl, rfl, rfl⟩ | ⟨rfl, rfl, rfl, rfl, rfl, rfl, rfl, rfl, rfl⟩ | ⟨rfl, rfl, rfl, rfl, rfl, rfl, rfl, rfl, rfl⟩ | ⟨rfl, rfl, rfl, rfl, rfl, rfl, rfl, rfl, rfl⟩ | ⟨rfl, rfl, rfl, rfl, rfl, rfl, rfl, rfl, rfl⟩ | ⟨rfl, rfl, rfl, rfl, rfl, rfl, rfl, rfl, rfl⟩ | ⟨rfl, rfl, rfl, rfl, rfl, rfl, rfl, rfl, rfl⟩ | ⟨rfl, rfl, rfl, rfl, rfl, rfl, rfl, rfl, rfl⟩ | ⟨rfl, rfl, rfl, rfl, rfl, rfl, rfl, rfl, rfl⟩ | ⟨rfl, rfl, rfl, rfl, rfl, rfl, rfl, rfl, rfl⟩ | ⟨rfl, rfl, rfl, rfl, rfl, rfl, rfl, rfl, rfl⟩
  · obtain ⟨mD, d0, d1⟩ := reg15 (by omega) (by omega) hd
    obtain ⟨mA, a0, a1⟩ := reg15 (by omega) (by omega) ha
    obtain ⟨mB, b0, b1⟩ := reg15 (by omega) (by omega) hb
    obtain rfl : (0 : Int) = i := hI
    exact dec13_263_yes R hp u0 u1 ho mD d0 d1 mA a0 a1 mB b0 b1 hm he w
  · obtain ⟨mD, d0, d1⟩ := reg15 (by omega) (by omega) hd
    obtain ⟨mA, a0, a1⟩ := reg15 (by omega) (by omega) ha
    obtain rfl : (0 : Int) = b := hb
    rcases imm16s u0 u1 hI with ⟨mI, i0, i1⟩ | ⟨mI, i0, i1⟩
    · exact dec13_267p_yes R hp u0 u1 ho mD d0 d1 mA a0 a1 mI i0 i1 hm he w
    · exact dec13_267n_yes R hp u0 u1 ho mD d0 d1 mA a0 a1 mI i0 i1 hm he w
  · obtain ⟨mD, d0, d1⟩ := reg15 (by omega) (by omega) hd
    obtain ⟨mA, a0, a1⟩ := reg15 (by omega) (by omega) ha
    obtain rfl : (0 : Int) = b := hb
    rcases imm16s u0 u1 hI with ⟨mI, i0, i1⟩ | ⟨mI, i0, i1⟩
    · exact dec13_139p_yes R hp u0 u1 ho mD d0 d1 mA a0 a1 mI i0 i1 hm he w
    · exact dec13_139n_yes R hp u0 u1 ho mD d0 d1 mA a0 a1 mI i0 i1 hm he w
  · obtain ⟨mD, d0, d1⟩ := reg15 (by omega) (by omega) hd
    obtain rfl : (0 : Int) = a := ha
    obtain rfl : (0 : Int) = b := hb
    rcases imm16s u0 u1 hI with ⟨mI, i0, i1⟩ | ⟨mI, i0, i1⟩
    · exact dec13_265p_yes R hp u0 u1 ho mD d0 d1 mI i0 i1 hm he w
    · exact dec13_265n_yes R hp u0 u1 ho mD d0 d1 mI i0 i1 hm he w
  · obtain ⟨mD, d0, d1⟩ := reg15 (by omega) (by omega) hd
    obtain rfl : (0 : Int) = a := ha
    obtain rfl : (0 : Int) = b := hb
    obtain ⟨mI, i0, i1⟩ := imm16u u0 u1 hI
    exact dec13_401_yes R hp u0 u1 ho mD d0 d1 mI i0 i1 hm he w
  · obtain rfl : (0 : Int) = d := hd
    obtain ⟨mA, a0, a1⟩ := reg15 (by omega) (by omega) ha
    obtain rfl : (0 : Int) = b := hb
    rcases imm16s u0 u1 hI with ⟨mI, i0, i1⟩ | ⟨mI, i0, i1⟩
    · exact dec13_10p_yes R hp u0 u1 ho mA a0 a1 mI i0 i1 hm he w
    · exact dec13_10n_yes R hp u0 u1 ho mA a0 a1 mI i0 i1 hm he w
  · obtain rfl : (0 : Int) = d := hd
    obtain rfl : (0 : Int) = a := ha
    obtain rfl : (0 : Int) = b := hb
    rcases imm24s u0 u1 hI with ⟨mI, i0, i1⟩ | ⟨mI, i0, i1⟩
    · exact dec13_32p_yes R hp u0 u1 ho mI i0 i1 hm he w
    · exact dec13_32n_yes R hp u0 u1 ho mI i0 i1 hm he w
  · obtain rfl : (0 : Int) = d := hd
    obtain ⟨mA, a0, a1⟩ := reg15 (by omega) (by omega) ha
    obtain rfl : (0 : Int) = b := hb
    obtain rfl : (0 : Int) = i := hI
    exact dec13_2_yes R hp u0 u1 ho mA a0 a1 hm he w
  · obtain ⟨mD, d0, d1⟩ := reg15 (by omega) (by omega) hd
    obtain rfl : (0 : Int) = a := ha
    obtain rfl : (0 : Int) = b := hb
    obtain rfl : (0 : Int) = i := hI
    exact dec13_257_yes R hp u0 u1 ho mD d0 d1 hm he w
  · obtain rfl : (0 : Int) = d := hd
    obtain rfl : (0 : Int) = a := ha
    obtain rfl : (0 : Int) = b := hb
    obtain ⟨mI, i0, i1⟩ := imm16u u0 u1 hI
    exact dec13_64_yes R hp u0 u1 ho mI i0 i1 hm he w
  · simp [mayR] at hm
end Go.Proofs.Ytgnlplddppheiaa

namespace Go.Proofs.Ytgnlplddppheiaa
open Go.RowKit

theorem back_word {op p lo hi n d a b i : Int} {D A B sg is : Bool} (R : Row p lo hi D A B n sg is) (hp : partsF op = p) (hm : mayR is D A B lo hi d a b i = true) :
    0 ≤ wordF n op d a b i ∧ wordF n op d a b i < 4294967296 ∧ wordF n op d a b i / 16777216 = op ∧ regF (wordF n op d a b i / 1048576) D = d ∧ regF (wordF n op d a b i / 65536) A = a ∧ regF (wordF n op d a b i / 4096) B = b ∧ immF n sg (wordF n op d a b i) = i := by
  obtain ⟨h1, h2, h3, h4, h5, h6⟩ := mayR_true hm
  have ho := parts_bounds op (by rw [hp]; exact some_of R h1)
  obtain ⟨o1, o2⟩ := ho
  clear hm hp
  rcases R.out with ⟨rfl, rfl, rfl, rfl, rfl, rfl, rfl, rfl, rfl⟩ | ⟨rfl, rfl, rfl, rfl, rfl, rfl, rfl, rfl, rfl⟩ | ⟨rfl, rfl, rfl, rfl, rfl, rfl, rfl, rfl, rfl⟩ | ⟨rfl, rfl, rfl, rfl, rfl, rfl, rfl, rfl, rfl⟩ | ⟨rfl, rfl, rfl, rfl, rfl, rfl, rfl, rfl, rfl⟩ | ⟨rfl, rfl, rfl, rfl, rfl, rfl, rfl, rfl, rfl⟩ | ⟨rfl, rfl, rfl, rfl, rfl, rfl, rfl, rfl, rfl⟩ | ⟨rfl, rfl, rfl, rfl, rfl, rfl, rfl, rfl, rfl⟩ | ⟨rfl, rfl, rfl, rfl, rfl, rfl, rfl, rfl, rfl⟩ | ⟨rfl, rfl, rfl, rfl, rfl, rfl, rfl, rfl, rfl⟩ | ⟨rfl, rfl, rfl, rfl, rfl, rfl, rfl, rfl, rfl⟩
  all_goals clear R
  all_goals (simp [fitsB] at h2 h3 h4)
  all_goals (simp only [wordF, baseF, regF, immF])
  all_goals (simp)
  all_goals omega

end Go.Proofs.Ytgnlplddppheiaa
