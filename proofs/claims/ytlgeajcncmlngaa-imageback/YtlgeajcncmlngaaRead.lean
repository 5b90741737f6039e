/- The image of a text, by the program. -/
import Derived.Test.YtlgeajcncmlngaaWake
import Derived.Test.YtlgeajcncmlngaaNums
import Derived.Test.YtlgeajcncmlngaaClone
namespace Go.Proofs.Ytlgeajcncmlngaa
open Go.RowKit
set_option linter.unusedVariables false

/-- The image of zeros. -/
abbrev zeroV : Value := .agg #[.string ⟨#[]⟩, .string ⟨#[]⟩, .int .i64 0, .int .i64 0, .int .i64 0]

theorem below_set5 {w w1 : World} (hb : Below w.heap.size w w1) (v0 v1 v2 v3 v4 : Value) :
    Below w.heap.size w (((((w1.setCell ⟨w.heap.size, 0, none⟩ v0).setCell ⟨w.heap.size, 1, none⟩ v1).setCell ⟨w.heap.size, 2, none⟩ v2).setCell ⟨w.heap.size, 3, none⟩ v3).setCell ⟨w.heap.size, 4, none⟩ v4) :=
  ((((hb.setCell (Nat.le_refl _) _).setCell (Nat.le_refl _) _).setCell (Nat.le_refl _) _).setCell (Nat.le_refl _) _).setCell (Nat.le_refl _) _

theorem wAt4 (s : ByteArray) (h : 28 ≤ s.size) (w : World) : Calls Try.prog 19 #[.string s, .int .i64 4] w fun e w' => e = .returned (.int .u32 (numAt s 4 : Nat)) ∧ ∃ n, w' = w.drewN n := wordAt19 s 4 (.inl rfl) h w
theorem wAt8 (s : ByteArray) (h : 28 ≤ s.size) (w : World) : Calls Try.prog 19 #[.string s, .int .i64 8] w fun e w' => e = .returned (.int .u32 (numAt s 8 : Nat)) ∧ ∃ n, w' = w.drewN n := wordAt19 s 8 (.inr (.inl rfl)) h w
theorem wAt12 (s : ByteArray) (h : 28 ≤ s.size) (w : World) : Calls Try.prog 19 #[.string s, .int .i64 12] w fun e w' => e = .returned (.int .u32 (numAt s 12 : Nat)) ∧ ∃ n, w' = w.drewN n := wordAt19 s 12 (.inr (.inr (.inl rfl))) h w
theorem wAt16 (s : ByteArray) (h : 28 ≤ s.size) (w : World) : Calls Try.prog 19 #[.string s, .int .i64 16] w fun e w' => e = .returned (.int .u32 (numAt s 16 : Nat)) ∧ ∃ n, w' = w.drewN n := wordAt19 s 16 (.inr (.inr (.inr (.inl rfl)))) h w
theorem wAt20 (s : ByteArray) (h : 28 ≤ s.size) (w : World) : Calls Try.prog 19 #[.string s, .int .i64 20] w fun e w' => e = .returned (.int .u32 (numAt s 20 : Nat)) ∧ ∃ n, w' = w.drewN n := wordAt19 s 20 (.inr (.inr (.inr (.inr (.inl rfl))))) h w
theorem wAt24 (s : ByteArray) (h : 28 ≤ s.size) (w : World) : Calls Try.prog 19 #[.string s, .int .i64 24] w fun e w' => e = .returned (.int .u32 (numAt s 24 : Nat)) ∧ ∃ n, w' = w.drewN n := wordAt19 s 24 (.inr (.inr (.inr (.inr (.inr rfl))))) h w

theorem read9_long (s : ByteArray) (h : ¬ s.size ≤ 1048576) (w : World) :
    Calls Try.prog 9 #[.string s] w fun e w' => e = .returned (.tuple #[zeroV, .int .i64 3]) ∧ Below w.heap.size w w' := by
  have h' : (1048576 : Int) < s.size := by omega
  go_enter Try.func9, Try.ntmps9
  go_wp2
  exact bodyPost_ret (v := .tuple #[zeroV, .int .i64 3]) (by simp [results, Try.results9, go_sem]) rfl ⟨rfl, below_box _ _⟩

theorem read9_short (s : ByteArray) (h : s.size < 28) (w : World) :
    Calls Try.prog 9 #[.string s] w fun e w' => e = .returned (.tuple #[zeroV, .int .i64 5]) ∧ Below w.heap.size w w' := by
  have h' : (s.size : Int) < 28 := by omega
  go_enter Try.func9, Try.ntmps9
  go_wp2
  exact bodyPost_ret (v := .tuple #[zeroV, .int .i64 5]) (by simp [results, Try.results9, go_sem]) rfl ⟨rfl, below_box _ _⟩

set_option maxHeartbeats 1000000 in
theorem read9_mark (s : ByteArray) (h : 28 ≤ s.size) (hs : s.size ≤ 1048576) (hm : ¬ s.data.toList.take 4 = markL) (w : World) :
    Calls Try.prog 9 #[.string s] w fun e w' => e = .returned (.tuple #[zeroV, .int .i64 5]) ∧ Below w.heap.size w w' := by
  have h1 : (28 : Int) ≤ s.size := by omega
  have h2 : (s.size : Int) ≤ 1048576 := by omega
  have hp := prefix17 s h
  rw [decide_eq_false hm] at hp
  go_enter Try.func9, Try.ntmps9
  go_wp2_with (go_at_call 17; refine (hp _).mono ?_; rintro e w1 ⟨rfl, rfl⟩)
  exact bodyPost_ret (v := .tuple #[zeroV, .int .i64 5]) (by simp [results, Try.results9, go_sem]) rfl ⟨rfl, below_box _ _⟩

/-- The zeros behind calls that have turned nothing. -/
theorem zkept {w w1 : World} (hb : Below (w.alloc (.cells #[.string ⟨#[]⟩, .string ⟨#[]⟩, .int .i64 0, .int .i64 0, .int .i64 0] 23)).heap.size (w.alloc (.cells #[.string ⟨#[]⟩, .string ⟨#[]⟩, .int .i64 0, .int .i64 0, .int .i64 0] 23)) w1) :
    (w1.cell? ⟨w.heap.size, 0, none⟩ = some (.string ⟨#[]⟩) ∧ w1.cell? ⟨w.heap.size, 1, none⟩ = some (.string ⟨#[]⟩) ∧ w1.cell? ⟨w.heap.size, 2, none⟩ = some (.int .i64 0) ∧ w1.cell? ⟨w.heap.size, 3, none⟩ = some (.int .i64 0) ∧ w1.cell? ⟨w.heap.size, 4, none⟩ = some (.int .i64 0)) ∧
    (∀ o, w1.frozen? ⟨w.heap.size, o, none⟩ = false) ∧ Below w.heap.size w w1 ∧ w.heap.size < w1.heap.size := by
  obtain ⟨hc, hf⟩ := bcell hb
  have hl : w.heap.size < (w.alloc (.cells #[.string ⟨#[]⟩, .string ⟨#[]⟩, .int .i64 0, .int .i64 0, .int .i64 0] 23)).heap.size := by simp
  refine ⟨⟨?_, ?_, ?_, ?_, ?_⟩, fun o => ?_, below_box2 hb, Nat.lt_of_lt_of_le hl hb.size⟩
  all_goals first | (rw [hc _ _ hl]; simp [go_sem]) | (rw [hf _ _ hl]; simp [go_sem])

theorem below_of_drew {P : Program} {f : FuncId} {args : Array Value} {w : World} {v : Value} (h : Calls P f args w fun e w' => e = .returned v ∧ ∃ n, w' = w.drewN n) : Calls P f args w fun e w' => e = .returned v ∧ Below w.heap.size w w' :=
  h.mono fun _ _ ⟨he, n, hn⟩ => ⟨he, hn ▸ below_drewN w n⟩

set_option maxHeartbeats 2000000 in
theorem read9_split (s : ByteArray) (h : 28 ≤ s.size) (hs : s.size ≤ 1048576) (hm : s.data.toList.take 4 = markL) (hn : ¬ numAt s 4 + numAt s 8 = s.size - 28) (w : World) :
    Calls Try.prog 9 #[.string s] w fun e w' => e = .returned (.tuple #[zeroV, .int .i64 5]) ∧ Below w.heap.size w w' := by
  have h1 : (28 : Int) ≤ s.size := by omega
  have h2 : (s.size : Int) ≤ 1048576 := by omega
  have hp := prefix17 s h
  rw [decide_eq_true hm] at hp
  have h4 := wAt4 s h
  have h8 := wAt8 s h
  have hz : (s.extract 28 s.size).size = s.size - 28 := by rw [ByteArray.size_extract]; omega
  have hsp := split18_no (s.extract 28 s.size) (numAt s 4) (numAt s 8) (numAt_lt _ _) (numAt_lt _ _) (by omega) (by omega)
  go_enter Try.func9, Try.ntmps9
  go_wp2_with (go_at_call 17; refine (hp _).mono ?_; rintro e w1 ⟨rfl, rfl⟩)
  go_quiet (first
    | (with_reducible exact Calls.quiet_of (h4 _))
    | (with_reducible exact Calls.quiet_of (h8 _))
    | (with_reducible exact Calls.quiet_of (hsp _)))
  have hB : Below (w.alloc (.cells #[.string ⟨#[]⟩, .string ⟨#[]⟩, .int .i64 0, .int .i64 0, .int .i64 0] 23)).heap.size (w.alloc (.cells #[.string ⟨#[]⟩, .string ⟨#[]⟩, .int .i64 0, .int .i64 0, .int .i64 0] 23)) ((w.alloc (.cells #[.string ⟨#[]⟩, .string ⟨#[]⟩, .int .i64 0, .int .i64 0, .int .i64 0] 23)).drewN nq) := below_drewN _ _
  generalize (w.alloc (.cells #[.string ⟨#[]⟩, .string ⟨#[]⟩, .int .i64 0, .int .i64 0, .int .i64 0] 23)).drewN nq = w1 at hB ⊢
  obtain ⟨⟨k0, k1, k2, k3, k4⟩, hz, hB, hlt⟩ := zkept hB
  have z0 := hz 0
  have z1 := hz 1
  have z2 := hz 2
  have z3 := hz 3
  have z4 := hz 4
  clear hz
  go_wp2
  exact bodyPost_ret (v := .tuple #[zeroV, .int .i64 5]) (by simp [results, Try.results9, go_sem, k0, k1, k2, k3, k4]) rfl ⟨rfl, below_set5 hB _ _ _ _ _⟩

theorem code_of {s : ByteArray} (h : 28 + numAt s 4 ≤ s.size) : (s.extract 28 s.size).extract 0 (numAt s 4) = (imOf s).code := by
  show _ = s.extract 28 (28 + numAt s 4)
  apply ext_list
  rw [ext_data, ext_data, ext_data, List.drop_zero, List.take_take]
  congr 1
  omega
theorem data_of {s : ByteArray} (h : 28 + numAt s 4 ≤ s.size) : (s.extract 28 s.size).extract (numAt s 4) (s.extract 28 s.size).size = (imOf s).data := by
  have hz : (s.extract 28 s.size).size = s.size - 28 := by rw [ByteArray.size_extract]; omega
  show _ = s.extract (28 + numAt s 4) s.size
  apply ext_list
  rw [hz, ext_data, ext_data, ext_data, List.take_of_length_le (l := s.data.toList.drop 28) (by rw [List.length_drop, size_list]; omega), List.drop_drop]
  congr 1
  omega
theorem code_size {s : ByteArray} (h : 28 + numAt s 4 ≤ s.size) : (imOf s).code.size = numAt s 4 := by
  show (s.extract _ _).size = _; rw [ByteArray.size_extract]; omega
theorem data_size {s : ByteArray} (h : 28 + numAt s 4 ≤ s.size) : (imOf s).data.size = s.size - 28 - numAt s 4 := by
  show (s.extract _ _).size = _; rw [ByteArray.size_extract]; omega

/-- The image that is read, as a value. -/
abbrev readV (s : ByteArray) : Value := .agg #[.string (imOf s).code, .string (imOf s).data, .int .i64 (numAt s 12 : Nat), .int .i64 (numAt s 16 : Nat), .int .i64 (numAt s 20 : Nat)]

end Go.Proofs.Ytlgeajcncmlngaa
