/- The program's Check, over may. -/
import Derived.Test.YtnnnfabpceapcaaGreatDoorWalkD
import Derived.Test.YtnnnfabpceapcaaGreatDoorSizes
namespace Go.Proofs.YtnnnfabpceapcaaGreatDoor
open Go.RowKit
set_option linter.unusedVariables false

/-- may answers a question. -/
def MayIs (gd ok : NdH → List Tr → Bool) : Prop := ∀ (W : World) (b o : Nat) (x : NdH) (kv : Value) (n : Nat) (ks : List Tr) (cb : Nat), gd x ks = true → NdAt W b o x kv → b < W.heap.size → Ks cb n W kv ks → Calls Tryz.prog 13 #[.pointer (some ⟨b, o, none⟩)] W fun e w' => e = .returned (.bool (ok x ks)) ∧ Below W.heap.size W w'

theorem enter24 (args : Array Value) (W : World) : (callFunc 12 args).run Tryz.prog W = .ok (.enter 12 args) W := by
  simp [go_sem]

theorem see24 {w : World} {p : Value} {d : Int} {r : Bool} (h : Calls Tryz.prog 13 #[p] w fun e w' => e = .returned (.bool r) ∧ Below w.heap.size w w') :
    Calls Tryz.prog 12 #[p, .int .i64 d] w fun e w' => e = .returned (.bool r) ∧ Below w.heap.size w w' := by
  have H := hid' h
  clear h
  go_enter Tryz.func12, Tryz.ntmps12
  go_wp2_with (go_at_call 13; (with_reducible refine H.out.mono ?_); rintro e w1 ⟨rfl, hb1⟩; replace hb1 := hid' hb1)
  go_ret
  exact ⟨rfl, hb1.out⟩

theorem box6g {w w1 : World} {v0 v1 v2 v3 v4 v5 : Value} (hb : Below (w.alloc (.cells #[v0, v1, v2, v3, v4, v5] 25)).heap.size (w.alloc (.cells #[v0, v1, v2, v3, v4, v5] 25)) w1) :
    w1.cell? ⟨w.heap.size, 0, none⟩ = some v0 ∧ w1.cell? ⟨w.heap.size, 1, none⟩ = some v1 ∧ w1.cell? ⟨w.heap.size, 2, none⟩ = some v2 ∧ w1.cell? ⟨w.heap.size, 3, none⟩ = some v3 ∧ w1.cell? ⟨w.heap.size, 4, none⟩ = some v4 ∧ w1.cell? ⟨w.heap.size, 5, none⟩ = some v5 := by
  refine ⟨?_, ?_, ?_, ?_, ?_, ?_⟩
  all_goals (rw [hb.cell (by simp)]; simp [go_sem])

/-- A text that any machine can hold. -/
def smallN (x : NdH) (ks : List Tr) : Bool := decide (x.str.size < 4611686018427387904)
/-- What Check tells. -/
def chkF (ok : NdH → List Tr → Bool) (x : NdH) (ks : List Tr) : Int := if x.kind = 40 ∧ szT (Tr.node x ks) ≤ 262144 ∧ allT ok (Tr.node x ks) = true then 0 else 80

set_option maxHeartbeats 2000000 in
theorem check15 {cb n : Nat} {w : World} {x : NdH} {kv : Value} {ks : List Tr} {gd ok : NdH → List Tr → Bool} (hm : MayIs gd ok) (hgd : allT gd (Tr.node x ks) = true) (hK : Ks cb n w kv ks) :
    Calls Tryz.prog 5 #[ndV x kv] w fun e w' => e = .returned (.int .i64 (chkF ok x ks)) ∧ Below w.heap.size w w' := by
  have h6 : Hid (∀ W, Below w.heap.size w W → Calls Tryz.prog 10 #[ndV x kv] W fun e w' => e = .returned (.int .i64 (szR (Tr.node x ks) : Int)) ∧ Below W.heap.size W w') := fun W hb => size6 (hK.below hb)
  have h16 : Hid (∀ W, Below w.heap.size w W → Calls Tryz.prog 11 #[ndV x kv, .func (.func 12) #[] #[]] W fun e w' => e = .returned (.bool (decide (1 + szL ks ≤ 262144) && allT ok (Tr.node x ks))) ∧ Below W.heap.size W w') := fun W hb => walk16c hgd ((hK.below hb).fresh (Nat.le_refl _)) enter24 (fun W' b o x kv n ks d h0 h1 h2 h3 => see24 (hm W' b o x kv n ks _ h0 h1 h2 h3))
  have hz : 1 ≤ szT (Tr.node x ks) := szT_pos _
  have hs : szT (Tr.node x ks) = 1 + szL ks := szT_node x ks
  unfold chkF
  unfold szR at h6
  rw [← hs] at h16
  clear hs hm hK hgd
  generalize szT (Tr.node x ks) = T at *
  generalize allT ok (Tr.node x ks) = A at *
  unfold ndV at h6 h16 ⊢
  by_cases hk : x.kind = 40
  · by_cases hT : T ≤ 262144
    · rw [if_pos hT] at h6
      rw [decide_eq_true hT, Bool.true_and] at h16
      have e : (x.kind = 40 ∧ T ≤ 262144 ∧ A = true) ↔ A = true := ⟨fun h => h.2.2, fun h => ⟨hk, hT, h⟩⟩
      simp only [e]
      rw [hk] at h6 h16 ⊢
      clear e
      cases A with
      | true =>
        go_enter Tryz.func5, Tryz.ntmps5
        go_wp2_with (first
          | (go_at_call 10; (with_reducible refine (h6.out _ (below1 _ _)).mono ?_); rintro e w1 ⟨rfl, hb1⟩; obtain ⟨x0, x1, x2, x3, x4, x5⟩ := box6g hb1; replace hb1 := hid' (below_call hb1))
          | (go_at_call 11; (with_reducible refine (h16.out _ hb1.out).mono ?_); rintro e w2 ⟨rfl, hb2⟩; replace hb2 := hid' hb2))
        go_ret
        exact ⟨rfl, below_on hb1.out hb2.out⟩
      | false =>
        go_enter Tryz.func5, Tryz.ntmps5
        go_wp2_with (first
          | (go_at_call 10; (with_reducible refine (h6.out _ (below1 _ _)).mono ?_); rintro e w1 ⟨rfl, hb1⟩; obtain ⟨x0, x1, x2, x3, x4, x5⟩ := box6g hb1; replace hb1 := hid' (below_call hb1))
          | (go_at_call 11; (with_reducible refine (h16.out _ hb1.out).mono ?_); rintro e w2 ⟨rfl, hb2⟩; replace hb2 := hid' hb2))
        go_ret
        exact ⟨rfl, below_on hb1.out hb2.out⟩
    · rw [if_neg hT] at h6
      rw [if_neg (fun h => hT h.2.1)]
      rw [hk] at h6 ⊢
      clear h16
      go_enter Tryz.func5, Tryz.ntmps5
      go_wp2_with (go_at_call 10; (with_reducible refine (h6.out _ (below1 _ _)).mono ?_); rintro e w1 ⟨rfl, hb1⟩; replace hb1 := hid' (below_call hb1))
      go_ret
      exact ⟨rfl, hb1.out⟩
  · rw [if_neg (fun h => hk h.1)]
    clear h6 h16
    go_enter Tryz.func5, Tryz.ntmps5
    go_wp2
    go_ret
    exact ⟨rfl, below1 _ _⟩
end Go.Proofs.YtnnnfabpceapcaaGreatDoor
