/- Next, by the document. -/
import Derived.Test.YtfnekmhhhjdeiaaRTokA
import Derived.Test.YtfnekmhhhjdeiaaRGap
import Derived.Test.YtfnekmhhhjdeiaaRNextA
namespace Go.Proofs.Ytfnekmhhhjdeiaa
open Go.RowKit
set_option linter.unusedVariables false

set_option maxHeartbeats 4000000 in
theorem next10 (s : ByteArray) (k : Nat) (hk : k ≤ s.size) (hs : s.size < 4294967281) (m : Int) (w : World) (hm : HM m w) :
    Calls Try.prog 10 #[.string s, .int .i64 (k : Int)] w fun e w' => e = .returned (nextV k (nextF ((lst s).drop k))) ∧ Below w.heap.size w w' := by
  have hk' : (k : Int) ≤ s.size := by omega
  have hlen := lst_len s
  have hsk := gap23 s k hk hs
  have hgl := gap_len ((lst s).drop k)
  rw [List.length_drop, hlen] at hgl
  obtain ⟨g, b, hg⟩ : ∃ g b, gap ((lst s).drop k) = (g, b) := ⟨_, _, rfl⟩
  rw [hg] at hsk hgl
  obtain ⟨p, hp⟩ : ∃ p, p = k + g := ⟨_, rfl⟩
  simp only [← hp] at hsk
  have hps : (p : Int) ≤ s.size := by simp only at hgl; omega
  replace hp := hid hp
  clear hm
  cases b
  · have hN := next_bad hg
    generalize nextF ((lst s).drop k) = N at hN ⊢
    subst hN
    go_enter Try.func10, Try.ntmps10
    go_wp2_with (go_at_call 23; (with_reducible refine (hsk _).mono ?_); rintro e w1 ⟨rfl, rfl⟩)
    refine bodyPost_ret (v := .tuple #[zeroV, .int .i64 (p : Int), .int .i64 70]) (by simp [results, Try.results10, go_sem, zeroV]) rfl ⟨?_, below_box _ _⟩
    rw [hp.out]; rfl
  · have hd : (lst s).drop p = ((lst s).drop k).drop g := by rw [List.drop_drop, hp.out]
    by_cases hlt : p < s.size
    · have hlt' : (p : Int) < s.size := by omega
      have htk := token24 s p hlt hs
      cases hR : readF ((lst s).drop p) with
      | none =>
        rw [hR] at htk
        rw [hd] at hR
        have hN := next_none hg hR
        generalize nextF ((lst s).drop k) = N at hN ⊢
        subst hN
        clear hd hR
        go_enter Try.func10, Try.ntmps10
        go_wp2_with (first
          | (go_at_call 23; (with_reducible refine (hsk _).mono ?_); rintro e w1 ⟨rfl, rfl⟩)
          | (go_at_call 24; (with_reducible refine (htk _).mono ?_); rintro e w1 ⟨⟨q0, q1, q2, q3, q4, q5, rfl⟩, hb1⟩; obtain ⟨⟨k0, k1, k2, k3, k4, k5⟩, hz, hB, hlz⟩ := zkept hb1; have z0 := hz 0; have z1 := hz 1; have z2 := hz 2; have z3 := hz 3; have z4 := hz 4; have z5 := hz 5; clear hz))
        refine bodyPost_ret (v := .tuple #[zeroV, .int .i64 (p : Int), .int .i64 70]) (by simp [results, Try.results10, go_sem, zeroV, k0, k1, k2, k3, k4, k5, hlz]) rfl ⟨?_, ?_⟩
        · rw [hp.out]; rfl
        · exact below_set6a hB _ _ _ _ _ _ _
      | some q =>
        obtain ⟨t, n⟩ := q
        rw [hR] at htk
        rw [hd] at hR
        have hN := next_some hg hR
        generalize nextF ((lst s).drop k) = N at hN ⊢
        subst hN
        clear hd hR
        simp only [TokP, tokV] at htk
        obtain ⟨q, hq⟩ : ∃ q, q = p + n := ⟨_, rfl⟩
        rw [← hq] at htk
        replace hq := hid hq
        go_enter Try.func10, Try.ntmps10
        go_wp2_with (first
          | (go_at_call 23; (with_reducible refine (hsk _).mono ?_); rintro e w1 ⟨rfl, rfl⟩)
          | (go_at_call 24; (with_reducible refine (htk _).mono ?_); rintro e w1 ⟨rfl, hb1⟩; obtain ⟨⟨k0, k1, k2, k3, k4, k5⟩, hz, hB, hlz⟩ := zkept hb1; have z0 := hz 0; have z1 := hz 1; have z2 := hz 2; have z3 := hz 3; have z4 := hz 4; have z5 := hz 5; clear hz))
        refine bodyPost_ret (v := .tuple #[tokV t (p : Int) (q : Int), .int .i64 0, .int .i64 0]) (by simp [results, Try.results10, go_sem, tokV, k0, k1, k2, k3, k4, k5, hlz]) rfl ⟨?_, ?_⟩
        · rw [hq.out, hp.out, Nat.add_assoc]; rfl
        · exact below_set6a hB _ _ _ _ _ _ _
    · have hnil := lst_nil s p (by omega)
      rw [hd] at hnil
      have hN := next_some hg (show readF (((lst s).drop k).drop g) = some (⟨1, [], 0, false⟩, 0) by rw [hnil]; rfl)
      generalize nextF ((lst s).drop k) = N at hN ⊢
      subst hN
      clear hd hnil
      go_enter Try.func10, Try.ntmps10
      go_wp2_with (go_at_call 23; (with_reducible refine (hsk _).mono ?_); rintro e w1 ⟨rfl, rfl⟩)
      refine bodyPost_ret (v := .tuple #[tokV ⟨1, [], 0, false⟩ (p : Int) (p : Int), .int .i64 0, .int .i64 0]) (by simp [results, Try.results10, go_sem, tokV, strL]) rfl ⟨?_, below_box _ _⟩
      rw [hp.out]; rfl
end Go.Proofs.Ytfnekmhhhjdeiaa
