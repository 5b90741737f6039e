/- awake: a word of its own is stored. -/
import Derived.Test.YtgonjmifpaddgaaNew
import Derived.Test.YtgonjmifpaddgaaStores
import Derived.Test.YtgonjmifpaddgaaLoads
namespace Go.Proofs.Ytgonjmifpaddgaa
open Go.RowKit

theorem Only.below {r B : Nat} {w w' : World} (h : Only r w w') (hr : B ≤ r) (hB : B ≤ w.heap.size) : Below B w w' :=
  (Below.refl B w).grown h hB (fun k e => by cases e; exact hr)

theorem new18_8 (w : World) :
    Calls Try.prog 18 #[.int .i64 8] w fun e w' => e = .returned (.tuple #[.pointer (some ⟨w.heap.size + 1, 0, none⟩), .int .i64 0]) ∧ w' = newW w 46 8 :=
  new18_yes 8 (by omega) (by omega) w

theorem store4_4 {p r : Nat} {g : Nat → UInt8} {w : World} (h : IsMem w 46 p r 8 g) :
    Calls Try.prog 15 #[.pointer (some ⟨p, 0, none⟩), .int .u32 4, .int .u32 16909060] w fun e w' => e = .returned (.int .i64 0) ∧ IsMem w' 46 p r 8 (lay g 4 (four 16909060)) ∧ Only r w w' :=
  store4_yes (a := 4) (x := 16909060) h (by omega) (by omega) (by omega) (by omega)

theorem load1_4 {p r : Nat} {w : World} (h : IsMem w 46 p r 8 (lay (fun _ => 0) 4 (four 16909060))) :
    Calls Try.prog 12 #[.pointer (some ⟨p, 0, none⟩), .int .u32 4] w fun e w' => e = .returned (.tuple #[.int .u32 4, .int .i64 0]) ∧ w' = w := by
  refine (load1_yes (a := 4) h (by omega)).mono ?_
  rintro e w' ⟨rfl, rfl⟩
  have e : ((lay (fun _ => 0) 4 (four 16909060) 4).toNat : Int) = 4 := by decide
  exact ⟨by rw [e], rfl⟩

theorem awake7 (w : World) : Calls Try.prog 7 #[] w fun e w' => e = .returned (.bool true) ∧ Below w.heap.size w w' := by
  have h0 := newW_is w 46 8 (by omega) (by omega)
  have hb0 := newW_below w 46 8
  have hs0 := newW_size w 46 8
  go_enter Try.func7, Try.ntmps7
  go_wp2_with (first
    | (go_at_call 18; refine (new18_8 _).mono ?_; rintro e w1 ⟨rfl, rfl⟩)
    | (go_at_call 15; refine (store4_4 h0).mono ?_; rintro e w2 ⟨rfl, hM2, hO2⟩)
    | (go_at_call 12; refine (load1_4 (by assumption)).mono ?_; rintro e w3 ⟨rfl, rfl⟩))
  go_ret
  exact ⟨rfl, hb0.trans ((by assumption : Only _ (newW w 46 8) _).below (Nat.le_refl _) (by omega))⟩
end Go.Proofs.Ytgonjmifpaddgaa
