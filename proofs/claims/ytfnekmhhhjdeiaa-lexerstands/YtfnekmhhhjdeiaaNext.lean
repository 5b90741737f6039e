/- Next, by the program. -/
import Derived.Test.YtfnekmhhhjdeiaaRead
namespace Go.Proofs.Ytfnekmhhhjdeiaa
open Go.RowKit
set_option linter.unusedVariables false

/-- What Next tells of the rest of a text behind a place. -/
def nextV (k : Nat) : Except Nat (Tok × Nat × Nat) → Value
  | .error p => .tuple #[zeroV, .int .i64 ((k + p : Nat) : Int), .int .i64 70]
  | .ok (t, a, b) => .tuple #[tokV t ((k + a : Nat) : Int) ((k + b : Nat) : Int), .int .i64 0, .int .i64 0]
def argV : Value := .tuple #[zeroV, .int .i64 0, .int .i64 1]

/-- internal/bytealg.MaxLen holds some number. -/
def HM (m : Int) (w : World) : Prop := w.cell? ⟨0, 0, none⟩ = some (.int .i64 m)
theorem HM.pos {m : Int} {w : World} (h : HM m w) : 0 < w.heap.size := by
  rcases Nat.eq_zero_or_pos w.heap.size with e | e
  · unfold HM World.cell? at h
    rw [show w.heap[0]? = none from Array.getElem?_eq_none (by omega)] at h
    simp at h
  · exact e
theorem HM.below {m : Int} {w w' : World} (h : HM m w) (hb : Below w.heap.size w w') : HM m w' := by
  unfold HM
  rw [hb.cell (p := ⟨0, 0, none⟩) h.pos]
  exact h
theorem HM.alloc {m : Int} {w : World} (h : HM m w) (o : Obj) : HM m (w.alloc o) := h.below (below_box w o)

theorem next_bad {l : List UInt8} {g : Nat} (h : gap l = (g, false)) : nextF l = .error g := by unfold nextF; rw [h]; rfl
theorem next_none {l : List UInt8} {g : Nat} (h : gap l = (g, true)) (hr : readF (l.drop g) = none) : nextF l = .error g := by
  unfold nextF; rw [h]; simp only [if_pos]; rw [hr]
theorem next_some {l : List UInt8} {g n : Nat} {t : Tok} (h : gap l = (g, true)) (hr : readF (l.drop g) = some (t, n)) : nextF l = .ok (t, g, g + n) := by
  unfold nextF; rw [h]; simp only [if_pos]; rw [hr]

set_option maxHeartbeats 1000000 in
theorem next9_arg (s : ByteArray) (k : Int) (hk : k < 0 ∨ (s.size : Int) < k) (w : World) : Calls Try.prog 9 #[.string s, .int .i64 k] w fun e w' => e = .returned argV ∧ Below w.heap.size w w' := by
  go_enter Try.func9, Try.ntmps9
  go_wp2_with fail
  all_goals first
    | exact bodyPost_ret (v := argV) (by simp [results, Try.results9, go_sem, argV, zeroV]) rfl ⟨rfl, below_box _ _⟩
    | (exfalso; simp_all; omega)

set_option maxHeartbeats 4000000 in
theorem next9 (s : ByteArray) (k : Nat) (hk : k ≤ s.size) (hs : s.size < 4294967281) (m : Int) (w : World) (hm : HM m w) :
    Calls Try.prog 9 #[.string s, .int .i64 (k : Int)] w fun e w' => e = .returned (nextV k (nextF ((lst s).drop k))) ∧ Below w.heap.size w w' := by
  have hk' : (k : Int) ≤ s.size := by omega
  have hlen := lst_len s
  have hsk := skip21 s k hk hs m _ (hm.alloc box0)
  have hgl := gap_len ((lst s).drop k)
  rw [List.length_drop, hlen] at hgl
  obtain ⟨g, b, hg⟩ : ∃ g b, gap ((lst s).drop k) = (g, b) := ⟨_, _, rfl⟩
  rw [hg] at hsk hgl
  obtain ⟨p, hp⟩ : ∃ p, p = k + g := ⟨_, rfl⟩
  simp only [← hp] at hsk
  have hps : (p : Int) ≤ s.size := by simp only at hgl; omega
  replace hp := hid hp
  cases b
  · have hN := next_bad hg
    generalize nextF ((lst s).drop k) = N at hN ⊢
    subst hN
    go_enter Try.func9, Try.ntmps9
    go_wp2_with (go_at_call 21; (with_reducible refine hsk.mono ?_); rintro e w1 ⟨rfl, rfl⟩)
    refine bodyPost_ret (v := .tuple #[zeroV, .int .i64 (p : Int), .int .i64 70]) (by simp [results, Try.results9, go_sem, zeroV]) rfl ⟨?_, below_box _ _⟩
    rw [hp.out]; rfl
  · have hrd := fun w => read22 (s.extract p s.size) (by rw [ext_size]; omega) w
    rw [lst_ext] at hrd
    have hd : (lst s).drop p = ((lst s).drop k).drop g := by rw [List.drop_drop, hp.out]
    cases hR : readF ((lst s).drop p) with
    | none =>
      rw [hR] at hrd
      rw [hd] at hR
      have hN := next_none hg hR
      generalize nextF ((lst s).drop k) = N at hN ⊢
      subst hN
      clear hd hR
      simp only [readV, zeroV] at hrd
      go_enter Try.func9, Try.ntmps9
      go_wp2_with (first
        | (go_at_call 21; (with_reducible refine hsk.mono ?_); rintro e w1 ⟨rfl, rfl⟩)
        | (go_at_call 22; (with_reducible refine (hrd _).mono ?_); rintro e w1 ⟨rfl, hb1⟩; obtain ⟨⟨k0, k1, k2, k3, k4, k5⟩, hz, hB, hlz⟩ := zkept hb1; have z0 := hz 0; have z1 := hz 1; have z2 := hz 2; have z3 := hz 3; have z4 := hz 4; have z5 := hz 5; clear hz))
      refine bodyPost_ret (v := .tuple #[zeroV, .int .i64 (p : Int), .int .i64 70]) (by simp [results, Try.results9, go_sem, zeroV, k0, k1, k2, k3, k4, k5, hlz]) rfl ⟨?_, below_set6a hB _ _ _ _ _ _ _⟩
      rw [hp.out]; rfl
    | some q =>
      obtain ⟨t, n⟩ := q
      rw [hR] at hrd
      have hRl := readF_len hR
      rw [List.length_drop, hlen] at hRl
      rw [hd] at hR
      have hN := next_some hg hR
      generalize nextF ((lst s).drop k) = N at hN ⊢
      subst hN
      have hkind : ((t.kind : Int) == 0) = false := by simp; omega
      have hn2 : n ≤ s.size - p := hRl.2.1
      clear hd hR hRl
      simp only [readV, tokV] at hrd
      go_enter Try.func9, Try.ntmps9
      go_wp2_with (first
        | (go_at_call 21; (with_reducible refine hsk.mono ?_); rintro e w1 ⟨rfl, rfl⟩)
        | (go_at_call 22; (with_reducible refine (hrd _).mono ?_); rintro e w1 ⟨rfl, hb1⟩; obtain ⟨⟨k0, k1, k2, k3, k4, k5⟩, hz, hB, hlz⟩ := zkept hb1; have z0 := hz 0; have z1 := hz 1; have z2 := hz 2; have z3 := hz 3; have z4 := hz 4; have z5 := hz 5; clear hz))
      refine bodyPost_ret (v := .tuple #[tokV t (p : Int) ((p : Int) + n), .int .i64 0, .int .i64 0]) (by simp [results, Try.results9, go_sem, tokV, k0, k1, k2, k3, k4, k5, hlz]) rfl ⟨?_, below_set6a hB _ _ _ _ _ _ _⟩
      rw [show (p : Int) + n = ((p + n : Nat) : Int) by omega, hp.out, Nat.add_assoc]; rfl
end Go.Proofs.Ytfnekmhhhjdeiaa
