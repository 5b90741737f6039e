/- The law of All. -/
import Derived.Test.YtfnekmhhhjdeiaaRAll
import Derived.Test.YtfnekmhhhjdeiaaSame
namespace Go.Proofs.Ytfnekmhhhjdeiaa
open Go.RowKit
set_option linter.unusedVariables false

theorem ref_good {s : ByteArray} {ts : List TT} (h : OkA s ts) (m : Int) (w : World) (hm : HM m w) :
    Calls Try.prog 13 #[.string s] w fun e w' => ∃ g cap, e = .returned (.tuple #[.slice (some ⟨g, 0, none⟩) ts.length cap, .int .i64 0, .int .i64 0]) ∧ (∀ j u, (cellsT ts)[j]? = some u → w'.cell? ⟨g, j, none⟩ = some u) ∧ ts.length ≤ cap ∧ g < w'.heap.size ∧ Below w.heap.size w w' := by
  refine (all13 s h.1 m w hm).mono ?_
  rintro e w' ⟨h1, hb⟩
  rcases h1 with ⟨p, hp, _⟩ | ⟨ts', v, hv, rfl, hO⟩
  · rw [h.2] at hp; cases hp
  · rw [h.2] at hv
    have hts : ts = ts' := Except.ok.inj hv
    subst hts
    have hO' := hO
    obtain ⟨_, ⟨rfl, h0⟩ | ⟨g, cap, cur, rfl, hg1, hg2, hg3, _⟩⟩ := hO
    · exact absurd (List.eq_nil_of_length_eq_zero h0) (all_ne (Nat.zero_le _) h.2)
    · have hc := World.ownsRow.cells hO' (g := g) rfl
      exact ⟨g, cap, rfl, fun j u hj => by have := hc j u hj; rw [Addr.add_lit, Nat.zero_add] at this; exact this, hg3, (Array.getElem?_eq_some_iff.1 hg2).1, hb⟩
/-- What can't be read: both say the same. -/
theorem both_bad {s : ByteArray} (h : ∀ ts, ¬ OkA s ts) : ∃ p c : Int, (∀ (m : Int) (w : World), HM m w →
    Calls Try.prog 12 #[.string s] w fun e w' => e = .returned (.tuple #[.slice none 0 0, .int .i64 p, .int .i64 c]) ∧ Below w.heap.size w w') ∧ (∀ (m : Int) (w : World), HM m w →
    Calls Try.prog 13 #[.string s] w fun e w' => e = .returned (.tuple #[.slice none 0 0, .int .i64 p, .int .i64 c]) ∧ Below w.heap.size w w') := by
  by_cases hs : s.size ≤ 65536
  · match hA : allF (lst s) with
    | .ok ts => exact absurd ⟨hs, hA⟩ (h ts)
    | .error p =>
      refine ⟨p, 70, fun m w hm => (all12 s hs m w hm).mono ?_, fun m w hm => (all13 s hs m w hm).mono ?_⟩
      · rintro e w' ⟨h1, hb⟩
        rcases h1 with ⟨q, hq, rfl⟩ | ⟨ts', v, hv, _⟩
        · rw [hA] at hq
          have : p = q := Except.error.inj hq
          subst this
          exact ⟨rfl, hb⟩
        · rw [hA] at hv; cases hv
      · rintro e w' ⟨h1, hb⟩
        rcases h1 with ⟨q, hq, rfl⟩ | ⟨ts', v, hv, _⟩
        · rw [hA] at hq
          have : p = q := Except.error.inj hq
          subst this
          exact ⟨rfl, hb⟩
        · rw [hA] at hv; cases hv
  · exact ⟨0, 3, fun m w hm => (all12_long s hs w).mono fun e w' ⟨he, hw⟩ => ⟨he, hw ▸ Below.refl _ _⟩, fun m w hm => (all13_long s hs w).mono fun e w' ⟨he, hw⟩ => ⟨he, hw ▸ Below.refl _ _⟩⟩

set_option maxHeartbeats 1000000 in
theorem same14_nil (w : World) : Calls Try.prog 14 #[.slice none 0 0, .slice none 0 0] w fun e w' => e = .returned (.bool true) ∧ ∃ n, w' = w.drewN n := by
  go_enter Try.func14, Try.ntmps14
  go_wp2
  go_loopw [5] (fun i wr => i = .int .i64 0 ∧ wr = w) (fun i _ => 0)
  case atStart => exact ⟨rfl, rfl⟩
  case round =>
    obtain ⟨rfl, rfl⟩ := hrel
    go_wp2
    go_ret
    exact ⟨rfl, 0, rfl⟩

theorem HM.drewN {m : Int} {w : World} (h : HM m w) (n : Nat) : HM m (w.drewN n) := h.below ⟨rfl, rfl, rfl, Nat.le_refl _, fun _ _ => rfl⟩

set_option maxHeartbeats 4000000 in
theorem all4 (s : ByteArray) (m : Int) (w : World) (hm : HM m w) : Calls Try.prog 4 #[.string s] w fun e w' => e = .returned (.bool true) ∧ Below w.heap.size w w' := by
  rcases all_any s with ⟨ts, h⟩ | h
  · have hn : ts.length ≤ 1000000 := by
      have h1 := all_bound _ 0 ts (Nat.zero_le _) (Nat.le_refl _) h.2
      have h2 := h.1
      rw [lst_len] at h1
      omega
    have h12 := fun w => all_good h m w
    have h13 := fun w => ref_good h m w
    replace hm := hid hm
    go_enter Try.func4, Try.ntmps4
    go_wp2_with (first
      | (go_at_call 12; (with_reducible refine (h12 _ hm.out).mono ?_); rintro e w1 ⟨g1, cap1, rfl, hc1, hl1, hg1, hb1⟩; have hm1 := hid (hm.out.below hb1); replace hc1 := hid hc1; replace hb1 := hid hb1)
      | (go_at_call 13; (with_reducible refine (h13 _ hm1.out).mono ?_); rintro e w2 ⟨g2, cap2, rfl, hc2, hl2, hg2, hb2⟩; have hm2 := hid (hm1.out.below hb2); have hc1' := hid (fun j u hj => (hb2.cell (p := ⟨g1, j, none⟩) hg1).trans (hc1.out j u hj)); have hg1' := Nat.lt_of_lt_of_le hg1 hb2.size; replace hc2 := hid hc2; replace hb2 := hid hb2)
      | (go_at_call 14; (with_reducible refine (same14 hn hc1'.out hc2.out hg1' hg2).mono ?_); rintro e w3 ⟨rfl, n3, rfl⟩)
      | (go_at_call 11; (with_reducible refine (awake11 m _ (hm2.out.drewN _)).mono ?_); rintro e w4 ⟨rfl, hb4⟩; replace hb4 := hid hb4))
    go_ret
    exact ⟨rfl, below_then (below_then hb1.out hb2.out) (((below_drewN w2 n3)).trans (hb4.out.mono (Nat.le_refl _)))⟩
  · obtain ⟨p, c, h12, h13⟩ := both_bad h
    replace hm := hid hm
    go_enter Try.func4, Try.ntmps4
    go_wp2_with (first
      | (go_at_call 12; (with_reducible refine (h12 m _ hm.out).mono ?_); rintro e w1 ⟨rfl, hb1⟩; have hm1 := hid (hm.out.below hb1); replace hb1 := hid hb1)
      | (go_at_call 13; (with_reducible refine (h13 m _ hm1.out).mono ?_); rintro e w2 ⟨rfl, hb2⟩; have hm2 := hid (hm1.out.below hb2); replace hb2 := hid hb2)
      | (go_at_call 14; (with_reducible refine (same14_nil _).mono ?_); rintro e w3 ⟨rfl, n3, rfl⟩)
      | (go_at_call 11; (with_reducible refine (awake11 m _ (hm2.out.drewN _)).mono ?_); rintro e w4 ⟨rfl, hb4⟩; replace hb4 := hid hb4))
    go_ret
    exact ⟨rfl, below_then (below_then hb1.out hb2.out) (((below_drewN w2 n3)).trans (hb4.out.mono (Nat.le_refl _)))⟩
end Go.Proofs.Ytfnekmhhhjdeiaa
