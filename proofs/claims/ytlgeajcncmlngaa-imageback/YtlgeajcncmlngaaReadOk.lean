/- The image of a text, by the program: ok. -/
import Derived.Test.YtlgeajcncmlngaaRead
namespace Go.Proofs.Ytlgeajcncmlngaa
open Go.RowKit
set_option linter.unusedVariables false

set_option maxRecDepth 20000 in
set_option maxHeartbeats 4000000 in
theorem read9_ok (s : ByteArray) (h : 28 ≤ s.size) (hs : s.size ≤ 1048576) (hm : s.data.toList.take 4 = markL) (hn : numAt s 4 + numAt s 8 = s.size - 28) (hq : (imOf s).sum = numAt s 24) (hy : (imOf s).may = true) (w : World) :
    Calls Try.prog 9 #[.string s] w fun e w' => e = .returned (.tuple #[readV s, .int .i64 0]) ∧ Below w.heap.size w w' := by
  have h1 : (28 : Int) ≤ s.size := by omega
  have h2 : (s.size : Int) ≤ 1048576 := by omega
  have hp := prefix17 s h
  rw [decide_eq_true hm] at hp
  have h4 := wAt4 s h
  have h8 := wAt8 s h
  have h24 := fun w => below_of_drew (wAt24 s h w)
  have hle : 28 + numAt s 4 ≤ s.size := by omega
  have hz : (s.extract 28 s.size).size = s.size - 28 := by rw [ByteArray.size_extract]; omega
  have hsp := split18_yes (s.extract 28 s.size) (numAt s 4) (numAt s 8) (numAt_lt _ _) (numAt_lt _ _) (by omega)
  rw [code_of hle, data_of hle] at hsp
  have c1 : (imOf s).code.size ≤ 1048576 := by rw [code_size hle]; omega
  have c2 : (imOf s).data.size ≤ 1048576 := by rw [data_size hle]; omega
  have u1 := sumL_lt (imOf s).code.data.toList
  have u2 := sumL_lt (imOf s).data.data.toList
  have u24 := numAt_lt s 24
  have hs13 := fun w => sum13 (imOf s).code w c1
  have hs13' := fun w => sum13 (imOf s).data w c2
  have hq' : ((sumL (imOf s).code.data.toList : Nat) + (sumL (imOf s).data.data.toList : Nat) : Int) % 4294967296 = ((numAt s 24 : Nat) : Int) := by
    unfold Im.sum at hq
    omega
  have u12 := numAt_lt s 12
  have u16 := numAt_lt s 16
  have u20 := numAt_lt s 20
  have h12 := fun w => below_of_drew (wAt12 s h w)
  have h16 := fun w => below_of_drew (wAt16 s h w)
  have h20 := fun w => below_of_drew (wAt20 s h w)
  have hcl := fun w => clone20 (imOf s).code w c1
  have hcl' := fun w => clone20 (imOf s).data w c2
  have hck : ∀ w, Calls Try.prog 11 #[readV s] w fun e w' => e = .returned (.int .i64 0) ∧ Below w.heap.size w w' := fun w => check11_yes (imOf s) hy w
  clear hq
  go_enter Try.func9, Try.ntmps9
  go_wp2_with (go_at_call 17; refine (hp _).mono ?_; rintro e w1 ⟨rfl, rfl⟩)
  go_quiet (first
    | (with_reducible exact Calls.quiet_of (h4 _))
    | (with_reducible exact Calls.quiet_of (h8 _))
    | (with_reducible exact Calls.quiet_of (hsp _)))
  have hB : Below (w.alloc (.cells #[.string ⟨#[]⟩, .string ⟨#[]⟩, .int .i64 0, .int .i64 0, .int .i64 0] 23)).heap.size (w.alloc (.cells #[.string ⟨#[]⟩, .string ⟨#[]⟩, .int .i64 0, .int .i64 0, .int .i64 0] 23)) ((w.alloc (.cells #[.string ⟨#[]⟩, .string ⟨#[]⟩, .int .i64 0, .int .i64 0, .int .i64 0] 23)).drewN nq) := below_drewN _ _
  generalize (w.alloc (.cells #[.string ⟨#[]⟩, .string ⟨#[]⟩, .int .i64 0, .int .i64 0, .int .i64 0] 23)).drewN nq = w1 at hB ⊢
  go_wp2_with (first
    | (go_at_call 13; with_reducible refine (hs13 _).mono ?_; rintro e w2 ⟨rfl, rfl⟩)
    | (go_at_call 13; with_reducible refine (hs13' _).mono ?_; rintro e w2 ⟨rfl, rfl⟩)
    | (go_at_call 19; with_reducible refine (h24 _).mono ?_; rintro e w2 ⟨rfl, hb2⟩; replace hB := below_then hB hb2; clear hb2)
    | (go_at_call 19; with_reducible refine (h12 _).mono ?_; rintro e w2 ⟨rfl, hb2⟩; replace hB := below_then hB hb2; clear hb2)
    | (go_at_call 19; with_reducible refine (h16 _).mono ?_; rintro e w2 ⟨rfl, hb2⟩; replace hB := below_then hB hb2; clear hb2)
    | (go_at_call 19; with_reducible refine (h20 _).mono ?_; rintro e w2 ⟨rfl, hb2⟩; replace hB := below_then hB hb2; clear hb2)
    | (go_at_call 20; with_reducible refine (hcl _).mono ?_; rintro e w2 ⟨rfl, hb2⟩; replace hB := below_then hB hb2; clear hb2)
    | (go_at_call 20; with_reducible refine (hcl' _).mono ?_; rintro e w2 ⟨rfl, hb2⟩; replace hB := below_then hB hb2; clear hb2)
    | (go_at_call 11; with_reducible refine (hck _).mono ?_; rintro e w3 ⟨rfl, hb3⟩; obtain ⟨hc3, hf3⟩ := bcell hb3; replace hB := below_then hB (below_box2 hb3); obtain ⟨⟨k0, k1, k2, k3, k4⟩, hz, hB, hlt⟩ := zkept hB; have z0 := hz 0; have z1 := hz 1; have z2 := hz 2; have z3 := hz 3; have z4 := hz 4; clear hz))
  exact bodyPost_ret (v := .tuple #[readV s, .int .i64 0]) (by simp [results, Try.results9, go_sem, k0, k1, k2, k3, k4]) rfl ⟨rfl, below_set5 hB _ _ _ _ _⟩

end Go.Proofs.Ytlgeajcncmlngaa
