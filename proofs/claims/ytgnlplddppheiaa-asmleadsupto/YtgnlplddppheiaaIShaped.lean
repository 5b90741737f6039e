/- The contract of the document's answer to which parts an Op has (its shape), Op by Op and then of any Op. -/
import Derived.Test.YtgnlplddppheiaaISmall
import Derived.WalkKit
namespace Go.Proofs.Ytgnlplddppheiaa
open Go.RowKit
set_option linter.unusedVariables false
set_option maxHeartbeats 1000000 in
theorem shaped20_alu (op : Int) (h1 : 1 ≤ op) (h2 : op ≤ 19) (w : World) :
    Calls Try.prog 45 #[.int .i64 op] w fun e w' => e = .returned (.agg #[.bool true, .bool true, .bool true, .int .i64 0, .bool false, .bool true]) ∧ Below w.heap.size w w' := by
  go_enter Try.func45, Try.ntmps45
  go_wp2
  exact bodyPost_ret (v := .agg #[.bool true, .bool true, .bool true, .int .i64 0, .bool false, .bool true]) (by simp [results, Try.results45, go_sem]) rfl ⟨rfl, (Below.refl _ _).alloc (Nat.le_refl _) _⟩
set_option maxHeartbeats 1000000 in
theorem shaped20_32 (w : World) :
    Calls Try.prog 45 #[.int .i64 32] w fun e w' => e = .returned (.agg #[.bool true, .bool true, .bool false, .int .i64 16, .bool true, .bool true]) ∧ Below w.heap.size w w' := by
  go_enter Try.func45, Try.ntmps45
  go_wp2
  exact bodyPost_ret (v := .agg #[.bool true, .bool true, .bool false, .int .i64 16, .bool true, .bool true]) (by simp [results, Try.results45, go_sem]) rfl ⟨rfl, (Below.refl _ _).alloc (Nat.le_refl _) _⟩
set_option maxHeartbeats 1000000 in
theorem shaped20_35 (w : World) :
    Calls Try.prog 45 #[.int .i64 35] w fun e w' => e = .returned (.agg #[.bool true, .bool true, .bool false, .int .i64 16, .bool true, .bool true]) ∧ Below w.heap.size w w' := by
  go_enter Try.func45, Try.ntmps45
  go_wp2
  exact bodyPost_ret (v := .agg #[.bool true, .bool true, .bool false, .int .i64 16, .bool true, .bool true]) (by simp [results, Try.results45, go_sem]) rfl ⟨rfl, (Below.refl _ _).alloc (Nat.le_refl _) _⟩
set_option maxHeartbeats 1000000 in
theorem shaped20_36 (w : World) :
    Calls Try.prog 45 #[.int .i64 36] w fun e w' => e = .returned (.agg #[.bool true, .bool true, .bool false, .int .i64 16, .bool true, .bool true]) ∧ Below w.heap.size w w' := by
  go_enter Try.func45, Try.ntmps45
  go_wp2
  exact bodyPost_ret (v := .agg #[.bool true, .bool true, .bool false, .int .i64 16, .bool true, .bool true]) (by simp [results, Try.results45, go_sem]) rfl ⟨rfl, (Below.refl _ _).alloc (Nat.le_refl _) _⟩
set_option maxHeartbeats 1000000 in
theorem shaped20_37 (w : World) :
    Calls Try.prog 45 #[.int .i64 37] w fun e w' => e = .returned (.agg #[.bool true, .bool true, .bool false, .int .i64 16, .bool true, .bool true]) ∧ Below w.heap.size w w' := by
  go_enter Try.func45, Try.ntmps45
  go_wp2
  exact bodyPost_ret (v := .agg #[.bool true, .bool true, .bool false, .int .i64 16, .bool true, .bool true]) (by simp [results, Try.results45, go_sem]) rfl ⟨rfl, (Below.refl _ _).alloc (Nat.le_refl _) _⟩
set_option maxHeartbeats 1000000 in
theorem shaped20_38 (w : World) :
    Calls Try.prog 45 #[.int .i64 38] w fun e w' => e = .returned (.agg #[.bool true, .bool true, .bool false, .int .i64 16, .bool true, .bool true]) ∧ Below w.heap.size w w' := by
  go_enter Try.func45, Try.ntmps45
  go_wp2
  exact bodyPost_ret (v := .agg #[.bool true, .bool true, .bool false, .int .i64 16, .bool true, .bool true]) (by simp [results, Try.results45, go_sem]) rfl ⟨rfl, (Below.refl _ _).alloc (Nat.le_refl _) _⟩
set_option maxHeartbeats 1000000 in
theorem shaped20_33 (w : World) :
    Calls Try.prog 45 #[.int .i64 33] w fun e w' => e = .returned (.agg #[.bool true, .bool false, .bool false, .int .i64 16, .bool true, .bool true]) ∧ Below w.heap.size w w' := by
  go_enter Try.func45, Try.ntmps45
  go_wp2
  exact bodyPost_ret (v := .agg #[.bool true, .bool false, .bool false, .int .i64 16, .bool true, .bool true]) (by simp [results, Try.results45, go_sem]) rfl ⟨rfl, (Below.refl _ _).alloc (Nat.le_refl _) _⟩
set_option maxHeartbeats 1000000 in
theorem shaped20_34 (w : World) :
    Calls Try.prog 45 #[.int .i64 34] w fun e w' => e = .returned (.agg #[.bool true, .bool false, .bool false, .int .i64 16, .bool false, .bool true]) ∧ Below w.heap.size w w' := by
  go_enter Try.func45, Try.ntmps45
  go_wp2
  exact bodyPost_ret (v := .agg #[.bool true, .bool false, .bool false, .int .i64 16, .bool false, .bool true]) (by simp [results, Try.results45, go_sem]) rfl ⟨rfl, (Below.refl _ _).alloc (Nat.le_refl _) _⟩
set_option maxHeartbeats 1000000 in
theorem shaped20_39 (w : World) :
    Calls Try.prog 45 #[.int .i64 39] w fun e w' => e = .returned (.agg #[.bool false, .bool true, .bool false, .int .i64 16, .bool true, .bool true]) ∧ Below w.heap.size w w' := by
  go_enter Try.func45, Try.ntmps45
  go_wp2
  exact bodyPost_ret (v := .agg #[.bool false, .bool true, .bool false, .int .i64 16, .bool true, .bool true]) (by simp [results, Try.results45, go_sem]) rfl ⟨rfl, (Below.refl _ _).alloc (Nat.le_refl _) _⟩
set_option maxHeartbeats 1000000 in
theorem shaped20_40 (w : World) :
    Calls Try.prog 45 #[.int .i64 40] w fun e w' => e = .returned (.agg #[.bool false, .bool true, .bool false, .int .i64 16, .bool true, .bool true]) ∧ Below w.heap.size w w' := by
  go_enter Try.func45, Try.ntmps45
  go_wp2
  exact bodyPost_ret (v := .agg #[.bool false, .bool true, .bool false, .int .i64 16, .bool true, .bool true]) (by simp [results, Try.results45, go_sem]) rfl ⟨rfl, (Below.refl _ _).alloc (Nat.le_refl _) _⟩
set_option maxHeartbeats 1000000 in
theorem shaped20_41 (w : World) :
    Calls Try.prog 45 #[.int .i64 41] w fun e w' => e = .returned (.agg #[.bool false, .bool false, .bool false, .int .i64 24, .bool true, .bool true]) ∧ Below w.heap.size w w' := by
  go_enter Try.func45, Try.ntmps45
  go_wp2
  exact bodyPost_ret (v := .agg #[.bool false, .bool false, .bool false, .int .i64 24, .bool true, .bool true]) (by simp [results, Try.results45, go_sem]) rfl ⟨rfl, (Below.refl _ _).alloc (Nat.le_refl _) _⟩
set_option maxHeartbeats 1000000 in
theorem shaped20_42 (w : World) :
    Calls Try.prog 45 #[.int .i64 42] w fun e w' => e = .returned (.agg #[.bool false, .bool false, .bool false, .int .i64 24, .bool true, .bool true]) ∧ Below w.heap.size w w' := by
  go_enter Try.func45, Try.ntmps45
  go_wp2
  exact bodyPost_ret (v := .agg #[.bool false, .bool false, .bool false, .int .i64 24, .bool true, .bool true]) (by simp [results, Try.results45, go_sem]) rfl ⟨rfl, (Below.refl _ _).alloc (Nat.le_refl _) _⟩
set_option maxHeartbeats 1000000 in
theorem shaped20_43 (w : World) :
    Calls Try.prog 45 #[.int .i64 43] w fun e w' => e = .returned (.agg #[.bool false, .bool true, .bool false, .int .i64 0, .bool false, .bool true]) ∧ Below w.heap.size w w' := by
  go_enter Try.func45, Try.ntmps45
  go_wp2
  exact bodyPost_ret (v := .agg #[.bool false, .bool true, .bool false, .int .i64 0, .bool false, .bool true]) (by simp [results, Try.results45, go_sem]) rfl ⟨rfl, (Below.refl _ _).alloc (Nat.le_refl _) _⟩
set_option maxHeartbeats 1000000 in
theorem shaped20_45 (w : World) :
    Calls Try.prog 45 #[.int .i64 45] w fun e w' => e = .returned (.agg #[.bool false, .bool true, .bool false, .int .i64 0, .bool false, .bool true]) ∧ Below w.heap.size w w' := by
  go_enter Try.func45, Try.ntmps45
  go_wp2
  exact bodyPost_ret (v := .agg #[.bool false, .bool true, .bool false, .int .i64 0, .bool false, .bool true]) (by simp [results, Try.results45, go_sem]) rfl ⟨rfl, (Below.refl _ _).alloc (Nat.le_refl _) _⟩
set_option maxHeartbeats 1000000 in
theorem shaped20_47 (w : World) :
    Calls Try.prog 45 #[.int .i64 47] w fun e w' => e = .returned (.agg #[.bool false, .bool true, .bool false, .int .i64 0, .bool false, .bool true]) ∧ Below w.heap.size w w' := by
  go_enter Try.func45, Try.ntmps45
  go_wp2
  exact bodyPost_ret (v := .agg #[.bool false, .bool true, .bool false, .int .i64 0, .bool false, .bool true]) (by simp [results, Try.results45, go_sem]) rfl ⟨rfl, (Below.refl _ _).alloc (Nat.le_refl _) _⟩
set_option maxHeartbeats 1000000 in
theorem shaped20_44 (w : World) :
    Calls Try.prog 45 #[.int .i64 44] w fun e w' => e = .returned (.agg #[.bool true, .bool false, .bool false, .int .i64 0, .bool false, .bool true]) ∧ Below w.heap.size w w' := by
  go_enter Try.func45, Try.ntmps45
  go_wp2
  exact bodyPost_ret (v := .agg #[.bool true, .bool false, .bool false, .int .i64 0, .bool false, .bool true]) (by simp [results, Try.results45, go_sem]) rfl ⟨rfl, (Below.refl _ _).alloc (Nat.le_refl _) _⟩
set_option maxHeartbeats 1000000 in
theorem shaped20_46 (w : World) :
    Calls Try.prog 45 #[.int .i64 46] w fun e w' => e = .returned (.agg #[.bool false, .bool false, .bool false, .int .i64 16, .bool false, .bool true]) ∧ Below w.heap.size w w' := by
  go_enter Try.func45, Try.ntmps45
  go_wp2
  exact bodyPost_ret (v := .agg #[.bool false, .bool false, .bool false, .int .i64 16, .bool false, .bool true]) (by simp [results, Try.results45, go_sem]) rfl ⟨rfl, (Below.refl _ _).alloc (Nat.le_refl _) _⟩
set_option maxHeartbeats 1000000 in
theorem shaped20_none (op : Int) (h1 : ¬ (1 ≤ op ∧ op ≤ 19)) (n32 : ¬ op = 32) (n33 : ¬ op = 33) (n34 : ¬ op = 34) (n35 : ¬ op = 35) (n36 : ¬ op = 36) (n37 : ¬ op = 37) (n38 : ¬ op = 38) (n39 : ¬ op = 39) (n40 : ¬ op = 40) (n41 : ¬ op = 41) (n42 : ¬ op = 42) (n43 : ¬ op = 43) (n44 : ¬ op = 44) (n45 : ¬ op = 45) (n46 : ¬ op = 46) (n47 : ¬ op = 47) (w : World) :
    Calls Try.prog 45 #[.int .i64 op] w fun e w' => e = .returned (.agg #[.bool false, .bool false, .bool false, .int .i64 0, .bool false, .bool false]) ∧ Below w.heap.size w w' := by
  by_cases h2 : 1 ≤ op
  · have h3 : ¬ op ≤ 19 := by omega
    go_enter Try.func45, Try.ntmps45
    go_wp2
    exact bodyPost_ret (v := .agg #[.bool false, .bool false, .bool false, .int .i64 0, .bool false, .bool false]) (by simp [results, Try.results45, go_sem]) rfl ⟨rfl, (Below.refl _ _).alloc (Nat.le_refl _) _⟩
  · go_enter Try.func45, Try.ntmps45
    go_wp2
    exact bodyPost_ret (v := .agg #[.bool false, .bool false, .bool false, .int .i64 0, .bool false, .bool false]) (by simp [results, Try.results45, go_sem]) rfl ⟨rfl, (Below.refl _ _).alloc (Nat.le_refl _) _⟩

theorem shaped20 {op p lo hi n : Int} {D A B sg is : Bool} (R : Row p lo hi D A B n sg is) (hp : partsF op = p) (w : World) :
    Calls Try.prog 45 #[.int .i64 op] w fun e w' => e = .returned (.agg #[.bool D, .bool A, .bool B, .int .i64 n, .bool sg, .bool is]) ∧ Below w.heap.size w w' := by
  rcases R.out with ⟨rfl, rfl, rfl, rfl, rfl, rfl, rfl, rfl, rfl⟩ | ⟨rfl, rfl, rfl, rfl, rfl, rfl, rfl, rfl, rfl⟩ | ⟨rfl, rfl, rfl, rfl, rfl, rfl, rfl, rfl, rfl⟩ | ⟨rfl, rfl, rfl, rfl, rfl, rfl, rfl, rfl, rfl⟩ | ⟨rfl, rfl, rfl, rfl, rfl, rfl, rfl, rfl, rfl⟩ | ⟨rfl, rfl, rfl, rfl, rfl, rfl, rfl, rfl, rfl⟩ | ⟨rfl, rfl, rfl, rfl, rfl, rfl, rfl, rfl, rfl⟩ | ⟨rfl, rfl, rfl, rfl, rfl, rfl, rfl, rfl, rfl⟩ | ⟨rfl, rfl, rfl, rfl, rfl, rfl, rfl, rfl, rfl⟩ | ⟨rfl, rfl, rfl, rfl, rfl, rfl, rfl, rfl, rfl⟩ | ⟨rfl, rfl, rfl, rfl, rfl, rfl, rfl, rfl, rfl⟩
  · have h : 1 ≤ op ∧ op ≤ 19 := by unfold partsF at hp; omega
    exact shaped20_alu op h.1 h.2 w
  · have h : op = 32 ∨ op = 35 ∨ op = 36 := by unfold partsF at hp; omega
    rcases h with rfl | rfl | rfl
    · exact shaped20_32 w
    · exact shaped20_35 w
    · exact shaped20_36 w
  · have h : op = 37 ∨ op = 38 := by unfold partsF at hp; omega
    rcases h with rfl | rfl
    · exact shaped20_37 w
    · exact shaped20_38 w
  · have h : op = 33 := by unfold partsF at hp; omega
    rcases h with rfl
    exact shaped20_33 w
  · have h : op = 34 := by unfold partsF at hp; omega
    rcases h with rfl
    exact shaped20_34 w
  · have h : op = 39 ∨ op = 40 := by unfold partsF at hp; omega
    rcases h with rfl | rfl
    · exact shaped20_39 w
    · exact shaped20_40 w
  · have h : op = 41 ∨ op = 42 := by unfold partsF at hp; omega
    rcases h with rfl | rfl
    · exact shaped20_41 w
    · exact shaped20_42 w
  · have h : op = 43 ∨ op = 45 ∨ op = 47 := by unfold partsF at hp; omega
    rcases h with rfl | rfl | rfl
    · exact shaped20_43 w
    · exact shaped20_45 w
    · exact shaped20_47 w
  · have h : op = 44 := by unfold partsF at hp; omega
    rcases h with rfl
    exact shaped20_44 w
  · have h : op = 46 := by unfold partsF at hp; omega
    rcases h with rfl
    exact shaped20_46 w
  · have h : ¬ (1 ≤ op ∧ op ≤ 19) ∧ ¬ op = 32 ∧ ¬ op = 33 ∧ ¬ op = 34 ∧ ¬ op = 35 ∧ ¬ op = 36 ∧ ¬ op = 37 ∧ ¬ op = 38 ∧ ¬ op = 39 ∧ ¬ op = 40 ∧ ¬ op = 41 ∧ ¬ op = 42 ∧ ¬ op = 43 ∧ ¬ op = 44 ∧ ¬ op = 45 ∧ ¬ op = 46 ∧ ¬ op = 47 := by unfold partsF at hp; omega
    obtain ⟨h1, n32, n33, n34, n35, n36, n37, n38, n39, n40, n41, n42, n43, n44, n45, n46, n47⟩ := h
    exact shaped20_none op h1 n32 n33 n34 n35 n36 n37 n38 n39 n40 n41 n42 n43 n44 n45 n46 n47 w
end Go.Proofs.Ytgnlplddppheiaa
