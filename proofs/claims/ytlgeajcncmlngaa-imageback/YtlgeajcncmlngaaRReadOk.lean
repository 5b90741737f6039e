/- The image of a text, by the document: Ok. -/
import Derived.Test.YtlgeajcncmlngaaRRead
namespace Go.Proofs.Ytlgeajcncmlngaa
open Go.RowKit
set_option linter.unusedVariables false

set_option maxRecDepth 20000 in
set_option maxHeartbeats 4000000 in
theorem read10_ok (s : ByteArray) (h : 28 ≤ s.size) (hs : s.size ≤ 1048576) (hn : 28 + numAt s 4 ≤ s.size) (h7 : ∀ w, Calls Try.prog 7 #[readX s] w fun e w' => e = .returned (.tuple #[.string s, .int .i64 0]) ∧ Below w.heap.size w w') (w : World) :
    Calls Try.prog 10 #[.string s] w fun e w' => e = .returned (.tuple #[readX s, .int .i64 0]) ∧ Below w.heap.size w w' := by
  have h1 : (28 : Int) ≤ s.size := by omega
  have h2 : (s.size : Int) ≤ 1048576 := by omega
  have h3 : (numAt s 4 : Nat) ≤ (s.size : Int) - 28 := by omega
  have h3' : (28 : Int) + (numAt s 4 : Nat) ≤ (s.size : Int) := by omega
  have q1 : (0 : Int) ≤ 28 + (numAt s 4 : Nat) := by omega
  have q2 : (28 : Int) ≤ 28 + (numAt s 4 : Nat) := by omega
  have q3 : ((28 : Int) + (numAt s 4 : Nat)).toNat = 28 + numAt s 4 := by omega
  have hw : IntKind.i64.wrap ((28 : Int) + (numAt s 4 : Nat)) = 28 + (numAt s 4 : Nat) := by simp [IntKind.wrap, IntKind.bits, IntKind.signed]; omega
  have h4 := nAt4 s h
  have h12 := nAt12 s h
  have h16 := nAt16 s h
  have h20 := nAt20 s h
  go_enter Try.func10, Try.ntmps10
  go_wp2_with (go_at_call 21; with_reducible refine (h4 _).mono ?_; rintro e w1 ⟨rfl, rfl⟩)
  haveI : Nonempty World := ⟨w⟩
  refine region_free (w1 := (w.alloc (.cells #[.string ⟨#[]⟩, .string ⟨#[]⟩, .int .i64 0, .int .i64 0, .int .i64 0] 23)).drew.alloc (.cells #[.string ⟨#[]⟩, .string ⟨#[]⟩, .int .i64 0, .int .i64 0, .int .i64 0] 23)) (p := .pointer (some ⟨w.heap.size + 1, 0, none⟩)) 15 mixed (by kernel_rfl) rfl (fun a => ⟨?_, ?_⟩) ?_
  · simp [go_sem]
  · simp [go_sem]
  simp only [List.take_succ_cons, List.take_zero, List.drop_succ_cons, List.drop_zero]
  repeat (
    refine wpFree_step (fun K hK => ?_)
    go_simp
    first
      | (refine hK _ ?_; clear hK K)
      | (apply Exists.intro
         refine ⟨fun _ => ?_, hK _ ?_⟩
         (first
           | (with_reducible exact h12 _)
           | (with_reducible exact h16 _)
           | (with_reducible exact h20 _))
         clear hK K))
  refine wpFree_nil ?_
  go_wp2_with (go_at_call 7; with_reducible refine (h7 _).mono ?_; rintro e w3 ⟨rfl, hb3⟩; obtain ⟨hc3, hf3⟩ := bcell hb3; have hB := below_drew2 hb3; obtain ⟨⟨k0, k1, k2, k3, k4⟩, hz, hB, hlt⟩ := zkept hB; have z0 := hz 0; have z1 := hz 1; have z2 := hz 2; have z3 := hz 3; have z4 := hz 4; clear hz)
  exact bodyPost_ret (v := .tuple #[readX s, .int .i64 0]) (by simp [results, Try.results10, go_sem, k0, k1, k2, k3, k4]) rfl ⟨rfl, below_set5 hB _ _ _ _ _⟩

end Go.Proofs.Ytlgeajcncmlngaa
