/- The law TypesLayouts. -/
import Derived.Test.YtmcadffagnbiaaaSame
import Derived.Test.YtmcadffagnbiaaaRLay
import Derived.Test.YtmcadffagnbiaaaWake
namespace Go.Proofs.Ytmcadffagnbiaaa
open Go.RowKit Go.Maps
set_option linter.unusedVariables false
set_option linter.unusedSimpArgs false

theorem lay_len {nm : ByteArray} {l : List Mb} {rn : ByteArray} {ms : List Mb} {rz er : Int} (h : LayIs nm l rn ms rz er) : ms.length ≤ 32 := by
  rcases h with ⟨_, _, _, rfl, _⟩ | ⟨_, _, _, _, rfl, _⟩ | ⟨h, _, _, _, rfl, _⟩
  · simp
  · simp
  · rw [runL_len]; exact h

set_option maxRecDepth 100000 in
set_option maxHeartbeats 8000000 in
theorem layouts4 {nm fd : ByteArray} {w : World} {v : Value} {l : List Mb} (h : Src Mb.cells w v l) (hnm : nm.size ≤ 140737488351232) (hns : ∀ m ∈ l, m.nm.size ≤ 140737488351232) (hl : l.length * 56 ≤ 140737488351232) :
    Calls Try.prog 4 #[.string nm, v, .string fd] w fun e w' => e = .returned (.bool true) ∧ Below w.heap.size w w' := by
  obtain ⟨v1, W1, hr1, ho1, hg1, hloc1⟩ := append_own (st := 35) (et := 49) (base := w.heap.size) (v := .slice none 0 0) (l := []) mb6 mb1 Try.underlying35 info49 rfl (by decide) (World.ownsRow_nil _ _ _ _) h (by simp; omega) (by unfold maxLen; simp; omega) (Nat.le_refl _) 35
  rw [List.nil_append] at ho1
  have hB1 : Below w.heap.size w W1 := (Below.refl _ _).grown hg1 (Nat.le_refl _) (fun k hk => by simp [Value.ownBlock] at hk)
  have hs1 : Src Mb.cells W1 v1 l := Own.src mb6 ho1
  have H19 : Hid (Calls Try.prog 19 #[.string nm, v1] W1 (LayR nm l W1)) := layout19 hs1 hnm hns
  have H20 : Hid (∀ W, Below w.heap.size w W → Calls Try.prog 20 #[.string nm, v] W (LayR nm l W)) := fun W hW => rlayout20 (h.on hW)
  have HB1 := hid' hB1
  obtain ⟨ao1, cap1, rfl⟩ := hs1.len
  obtain ⟨ao, cap, rfl⟩ := h.len
  clear h hns ho1 hg1 hloc1 hB1 hs1
  go_enter Try.func4, Try.ntmps4
  go_wp2_with (first
    | (at_builtin; refine wpList_append_run rfl _ _ rfl _ _ _ rfl rfl hr1 ?_)
    | (go_at_call 19; refine H19.out.mono ?_; rintro e3 w3 ⟨rn3, rv3, rz3, er3, ms3, rfl, hI3, hs3, hb3⟩; have HI3 := hid' hI3; have HS3 := hid' hs3; replace hb3 := hid' (below_on HB1.out hb3 HB1.out.size); obtain ⟨ao3, cap3, rfl⟩ := hs3.len; clear hI3 hs3)
    | (go_at_call 20; refine (H20.out _ (hb3.out.alloc hb3.out.size _)).mono ?_; rintro e4 w4 ⟨rn4, rv4, rz4, er4, ms4, rfl, hI4, hs4, hb4⟩; obtain ⟨hq1, hq2, hq3, hq4⟩ := hI4.unique HI3.out; subst hq1 hq2 hq3 hq4; have HS4 := hid' hs4; have HML := hid' (lay_len hI4); replace hb4 := hid' hb4; obtain ⟨ao4, cap4, rfl⟩ := hs4.len; clear hI4 hs4))
  have hb5 : Below (w3.alloc (.cells #[.string rn4, .slice ao3 ms4.length cap3, .int .i64 rz4] 37)).heap.size (w3.alloc (.cells #[.string rn4, .slice ao3 ms4.length cap3, .int .i64 rz4] 37)) (w4.alloc (.cells #[.string rn4, .slice ao4 ms4.length cap4, .int .i64 rz4] 37)) := hb4.out.alloc hb4.out.size _
  have R3 : IsRec (w4.alloc (.cells #[.string rn4, .slice ao4 ms4.length cap4, .int .i64 rz4] 37)) w3.heap.size rn4 (.slice ao3 ms4.length cap3) rz4 := (hb5.block _ (by simp)).trans (new_at _ _ _ rfl)
  have R4 : IsRec (w4.alloc (.cells #[.string rn4, .slice ao4 ms4.length cap4, .int .i64 rz4] 37)) w4.heap.size rn4 (.slice ao4 ms4.length cap4) rz4 := new_at _ _ _ rfl
  have S3 : Src Mb.cells (w4.alloc (.cells #[.string rn4, .slice ao4 ms4.length cap4, .int .i64 rz4] 37)) (.slice ao3 ms4.length cap3) ms4 := HS3.out.on ((below1 _ _).trans (hb5.mono (by simp)))
  have S4 : Src Mb.cells (w4.alloc (.cells #[.string rn4, .slice ao4 ms4.length cap4, .int .i64 rz4] 37)) (.slice ao4 ms4.length cap4) ms4 := HS4.out.on (below1 _ _)
  have HBW : Hid (Below w.heap.size w (w4.alloc (.cells #[.string rn4, .slice ao4 ms4.length cap4, .int .i64 rz4] 37))) := below_on (hb3.out.alloc hb3.out.size _) hb5 (by have := hb3.out.size; simp; omega)
  have hml := HML.out
  clear hb5
  generalize hW5 : w4.alloc (.cells #[.string rn4, .slice ao4 ms4.length cap4, .int .i64 rz4] 37) = w5 at *
  have K21 : ∀ t : After w5, _ := fun t => Calls.after t (same21 (S3.on t.2) (S4.on t.2) (by omega) rn4 rz4)
  have K22 : ∀ t : After w5, _ := fun t => Calls.after t (find22 (S3.on t.2) rn4 fd rz4 (by omega))
  have K23 : ∀ t : After w5, _ := fun t => Calls.after t (find23 (S4.on t.2) rn4 fd rz4 (by omega))
  have K9 : ∀ t : After w5, _ := fun t => Calls.after t (awake9 t.1)
  have q0 := fun t : After w5 => keep_cell R3.c0 t.2
  have q1 := fun t : After w5 => keep_cell R3.c1 t.2
  have q2 := fun t : After w5 => keep_cell R3.c2 t.2
  have p0 := fun t : After w5 => keep_cell R4.c0 t.2
  have p1 := fun t : After w5 => keep_cell R4.c1 t.2
  have p2 := fun t : After w5 => keep_cell R4.c2 t.2
  clear hW5 R3 R4 S3 S4 H19 H20 hr1
  generalize findF fd ms4 = F at *
  have hne := after_some w5
  refine region_after 20 mixed (by kernel_rfl) ?_
  simp only [List.take_succ_cons, List.take_zero, List.drop_succ_cons, List.drop_zero]
  repeat go_big_quiet_step (first | with_reducible exact K21 _ | with_reducible exact K22 _ | with_reducible exact K23 _ | with_reducible exact K9 _)
  refine wpQuiet_nil ?_
  intro w6 hb6
  have HB6 := hid' (below_on HBW.out hb6 HBW.out.size)
  clear K21 K22 K23 K9 q0 q1 q2 p0 p1 p2 hb6
  go_wp2_with fail
  go_ret
  exact ⟨rfl, HB6.out⟩
end Go.Proofs.Ytmcadffagnbiaaa
