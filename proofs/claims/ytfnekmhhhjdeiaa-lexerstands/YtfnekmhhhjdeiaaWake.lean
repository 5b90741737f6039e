/- A source of its own is read. -/
import Derived.Test.YtfnekmhhhjdeiaaAll
namespace Go.Proofs.Ytfnekmhhhjdeiaa
open Go.RowKit
set_option linter.unusedVariables false

abbrev wakeS : ByteArray := ⟨#[97, 45, 62, 98, 62, 62, 61, 48, 120, 49, 70, 117]⟩
def wakeT : List TT := [(⟨2, [97], 0, false⟩, 0, 1), (⟨4, [45, 62], 0, false⟩, 1, 3), (⟨2, [98], 0, false⟩, 3, 4), (⟨4, [62, 62, 61], 0, false⟩, 4, 7), (⟨5, [], 31, true⟩, 7, 12), (⟨1, [], 0, false⟩, 12, 12)]
theorem wake_all : allF (lst wakeS) = .ok wakeT := by kernel_rfl

set_option maxHeartbeats 2000000 in
theorem awake11 (m : Int) (w : World) (hm : HM m w) : Calls Try.prog 11 #[] w fun e w' => e = .returned (.bool true) ∧ Below w.heap.size w w' := by
  have hA := all12 wakeS (by decide) m w hm
  rw [wake_all] at hA
  have hA2 : Calls Try.prog 12 #[.string wakeS] w fun e w' => ∃ g cap, e = .returned (.tuple #[.slice (some ⟨g, 0, none⟩) 6 cap, .int .i64 0, .int .i64 0]) ∧ w'.cell? ⟨g, 7, none⟩ = some (.string ⟨#[45, 62]⟩) ∧ w'.cell? ⟨g, 26, none⟩ = some (.int .u32 31) ∧ w'.cell? ⟨g, 27, none⟩ = some (.bool true) ∧ Below w.heap.size w w' := by
    refine hA.mono ?_
    rintro e w' ⟨h1, hb⟩
    rcases h1 with ⟨p, h, _⟩ | ⟨ts, v, h, rfl, hO⟩
    · cases h
    · have hts : wakeT = ts := Except.ok.inj h
      subst hts
      have hO' := hO
      obtain ⟨_, ⟨rfl, h0⟩ | ⟨g, cap, cur, rfl, _⟩⟩ := hO
      · cases h0
      · have hc := World.ownsRow.cells hO' (g := g) rfl
        have c7 := hc 7 (.string ⟨#[45, 62]⟩) rfl
        have c26 := hc 26 (.int .u32 31) rfl
        have c27 := hc 27 (.bool true) rfl
        rw [Addr.add_lit] at c7 c26 c27
        exact ⟨g, cap, rfl, c7, c26, c27, hb⟩
  clear hA
  go_enter Try.func11, Try.ntmps11
  go_wp2_with (go_at_call 12; (with_reducible refine hA2.mono ?_); rintro e w1 ⟨g, cap, rfl, c7, c26, c27, hb⟩; replace hb := hid hb)
  go_ret
  exact ⟨rfl, hb.out⟩
end Go.Proofs.Ytfnekmhhhjdeiaa
