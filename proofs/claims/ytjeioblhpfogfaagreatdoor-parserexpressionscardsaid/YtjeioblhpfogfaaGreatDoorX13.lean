/- name, leaf, nothing. -/
import Derived.Test.YtjeioblhpfogfaaGreatDoorX12
set_option linter.unusedVariables false
set_option linter.unusedSimpArgs false
set_option maxRecDepth 20000
set_option maxHeartbeats 8000000
namespace Go.Proofs.YtjeioblhpfogfaaGreatDoor
open Go.RowKit

/-- A block of another type stands. -/
theorem KQ.box {B p b : Nat} {w w' : World} {cs : Array Value} {T : TypeId} {f : Nat × Nat} (h : KQ B p w w') (hp : ∃ cs f, w.heap[p]? = some (.cells cs 65 f)) (hb : w.heap[b]? = some (.cells cs T f)) (h65 : ¬ T = 65) (h60 : ¬ T = 60) (h68 : ¬ T = 68) (h107 : ¬ T = 107) : w'.heap[b]? = some (.cells cs T f) := by
  rw [h.block b (lt_of_heap hb)]
  · exact hb
  · obtain ⟨cp, fp, hp⟩ := hp
    have ne : ∀ {T' cs' f'}, ¬ T = T' → ¬ w.heap[b]? = some (.cells cs' T' f') := fun hne e => by
      rw [hb] at e
      injection e with e
      injection e with _ e
      exact hne e
    rintro (rfl | ⟨_, ⟨_, _, e⟩ | ⟨_, _, e⟩ | ⟨_, _, e⟩⟩)
    · exact ne h65 hp
    · exact ne h60 e
    · exact ne h68 e
    · exact ne h107 e
theorem below_head {p : Nat} {w w' : World} (h : ∃ cs f, w.heap[p]? = some (.cells cs 65 f)) (hb : Below w.heap.size w w') : ∃ cs f, w'.heap[p]? = some (.cells cs 65 f) := by
  obtain ⟨cs, f, h⟩ := h
  exact ⟨cs, f, (hb.block p (lt_of_heap h)).trans h⟩
/-- A name that must come next: its text, and the place behind it; else where it failed. -/
def NameR (B p : Nat) (toks : List Tk) (w : World) (s : St) (t : Tk) (e : Ending) (w' : World) : Prop :=
  KQ B p w w' ∧ if t.kind = 2 then e = .returned (.string t.text) ∧ RdS w' B p toks { s with pl := s.pl + 1 } else e = .panicked [{ v := .iface 104 (.agg #[.int .i64 t.pos]), recovered := false }]
theorem name180 {w : World} {B p : Nat} {toks : List Tk} {s : St} (h : RdS w B p toks s) (hl : s.pl < toks.length) (hn : toks.length ≤ 9000000000000000000) :
    Calls Tryz.prog 180 #[.pointer (some ⟨p, 0, none⟩)] w (NameR B p toks w s toks[s.pl]) := by
  have HA := token75 h hl
  have HW : Hid (∀ W, Below w.heap.size w W → Calls Tryz.prog 91 #[.pointer (some ⟨p, 0, none⟩)] W (Res B p toks W (.error toks[s.pl].pos))) := fun W hb => wrong91 (h.below hb) hl
  have HS : Hid (∀ W, Below w.heap.size w W → Calls Tryz.prog 93 #[.pointer (some ⟨p, 0, none⟩)] W fun e w' => e = .returned (.tuple #[]) ∧ RdS w' B p toks { s with pl := s.pl + 1 } ∧ KQ B p W w') := fun W hb => skip93 (h.below hb) (by omega)
  have HP : Hid (∃ cs f, w.heap[p]? = some (.cells cs 65 f)) := by
    obtain ⟨_, _, _, _, _, h⟩ := h
    exact h.head'
  clear h
  obtain ⟨x, hx⟩ : ∃ x, x = toks[s.pl] := ⟨_, rfl⟩
  rw [← hx] at HA HW ⊢
  clear hx
  unfold tkV at HA
  obtain ⟨kd, tx, d0, e0, ps, g0⟩ := x
  simp only at HA HW
  unfold NameR
  simp only
  by_cases hk : kd = 2
  · subst hk
    simp only [↓reduceIte]
    go_enter Tryz.func180, Tryz.ntmps180
    go_wp2_with (first
      | (go_at_call 75; (with_reducible refine HA.mono ?_); rintro e w1 ⟨rfl, hb⟩)
      | (go_at_call 93; (with_reducible refine (HS.out _ (hb.alloc hb.size _)).mono ?_); rintro e w2 ⟨rfl, hR, hK⟩; have hx1 := hK.box (b := w1.heap.size) (below_head HP.out (hb.alloc hb.size _)) (heap_alloc_new w1 _) (by decide) (by decide) (by decide) (by decide); have k1 : w2.cell? ⟨w1.heap.size, 1, none⟩ = some (.string tx) := (by rw [cell_of_row w2 _ _ _ _ _ hx1]; rfl)))
    go_ret
    exact ⟨(KQ.of_below (hb.alloc hb.size _)).trans hK, rfl, hR⟩
  · have hk' : (kd == 2) = false := by simpa using hk
    have hk2 : (kd != 2) = true := by simpa using hk
    simp only [hk, ↓reduceIte]
    go_enter Tryz.func180, Tryz.ntmps180
    go_wp2_with (first
      | (go_at_call 75; (with_reducible refine HA.mono ?_); rintro e w1 ⟨rfl, hb⟩)
      | (go_at_call 91; (with_reducible refine (HW.out _ (hb.alloc hb.size _)).mono ?_); rintro e w2 ⟨hK, rfl⟩))
    exact ⟨rfl, (KQ.of_below (hb.alloc hb.size _)).trans hK, rfl⟩
theorem leaf194 {W : World} {B p : Nat} {toks : List Tk} {s : St} (x : NdH) (h : RdS W B p toks s) (hl : s.pl < toks.length) (hn : toks.length ≤ 9000000000000000000) (hd : s.done.length ≤ 1000000000) :
    Calls Tryz.prog 194 #[.pointer (some ⟨p, 0, none⟩), ndV x nilV] W (Res B p toks W (.ok { s with pl := s.pl + 1, done := s.done ++ [⟨{ x with pos := toks[s.pl].pos }, [], toks[s.pl].pos⟩] })) := by
  obtain ⟨W1, hW1⟩ : ∃ W1, W1 = W.alloc (.cells #[.int .i64 x.kind, .string x.str, .int .u32 x.num, .bool x.flag, .slice none 0 0, .int .i64 x.pos] 25) := ⟨_, rfl⟩
  have hb1 : Below W.heap.size W W1 := by rw [hW1]; exact below1 _ _
  have HP : Hid (∃ cs f, W.heap[p]? = some (.cells cs 65 f)) := by
    obtain ⟨_, _, _, _, _, h⟩ := h
    exact h.head'
  have HA := token75 (h.below hb1) hl
  have HS : Hid (∀ W', Below W.heap.size W W' → Calls Tryz.prog 93 #[.pointer (some ⟨p, 0, none⟩)] W' fun e w' => e = .returned (.tuple #[]) ∧ RdS w' B p toks { s with pl := s.pl + 1 } ∧ KQ B p W' w') := fun W hb => skip93 (h.below hb) (by omega)
  have hbx := heap_alloc_new W (.cells #[.int .i64 x.kind, .string x.str, .int .u32 x.num, .bool x.flag, .slice none 0 0, .int .i64 x.pos] 25)
  rw [← hW1] at hbx
  clear h
  obtain ⟨y, hy⟩ : ∃ y, y = toks[s.pl] := ⟨_, rfl⟩
  rw [← hy] at HA ⊢
  clear hy
  unfold tkV at HA
  obtain ⟨kd, tx, d0, e0, ps, g0⟩ := y
  obtain ⟨xk, xs, xn, xf, xp⟩ := x
  simp only at HA hbx hW1 ⊢
  have hf4 := fld42_4
  unfold ndV nilV
  simp only
  have HW1 := hid' hW1
  have HBX := hid' hbx
  have HB1 := hid' hb1
  clear hW1 hbx hb1
  go_enter Tryz.func194, Tryz.ntmps194
  go_wp2_with fail
  rw [← HW1.out]
  go_wp2_with (first
    | (go_at_call 75; (with_reducible refine HA.mono ?_); rintro e w1 ⟨rfl, hb⟩; have hx1 := hid' ((hb.block _ (lt_of_heap HBX.out)).trans HBX.out); have hb2 := hid' (HB1.out.trans (hb.mono HB1.out.size)); have j5 : w1.cell? ⟨W.heap.size, 5, none⟩ = some (.int .i64 xp) := (by rw [cell_of_row w1 _ _ _ _ _ hx1.out]; rfl); have j6 : w1.frozen? ⟨W.heap.size, 5, none⟩ = false := (by simp [World.frozen?, hx1.out])))
  have hb3 : Below W.heap.size W (w1.setCell ⟨W.heap.size, 5, none⟩ (.int .i64 ps)) := hb2.out.setCell (Nat.le_refl _) _
  have hx3 := setCell_heap (o := 5) hx1.out (.int .i64 ps) W.heap.size
  rw [if_pos rfl] at hx3
  generalize w1.setCell ⟨W.heap.size, 5, none⟩ (.int .i64 ps) = w3 at hb3 hx3 ⊢
  refine (HS.out _ hb3).mono ?_
  rintro e w2 ⟨rfl, hR, hK⟩
  have hx4 := hK.box (below_head HP.out hb3) hx3 (by decide) (by decide) (by decide) (by decide)
  have l0 : w2.cell? ⟨W.heap.size, 0, none⟩ = some (.int .i64 xk) := by rw [cell_of_row w2 _ _ _ _ _ hx4]; rfl
  have l1 : w2.cell? ⟨W.heap.size, 1, none⟩ = some (.string xs) := by rw [cell_of_row w2 _ _ _ _ _ hx4]; rfl
  have l2 : w2.cell? ⟨W.heap.size, 2, none⟩ = some (.int .u32 xn) := by rw [cell_of_row w2 _ _ _ _ _ hx4]; rfl
  have l3 : w2.cell? ⟨W.heap.size, 3, none⟩ = some (.bool xf) := by rw [cell_of_row w2 _ _ _ _ _ hx4]; rfl
  have l4 : w2.cell? ⟨W.heap.size, 4, none⟩ = some (.slice none 0 0) := by rw [cell_of_row w2 _ _ _ _ _ hx4]; rfl
  have l5 : w2.cell? ⟨W.heap.size, 5, none⟩ = some (.int .i64 ps) := by rw [cell_of_row w2 _ _ _ _ _ hx4]; rfl
  have HL : Hid (Calls Tryz.prog 78 #[.pointer (some ⟨p, 0, none⟩), .agg #[.int .i64 xk, .string xs, .int .u32 xn, .bool xf, .slice none 0 0, .int .i64 ps]] w2 (Res B p toks w2 (.ok { s with pl := s.pl + 1, done := s.done ++ [⟨⟨xk, xs, xn, xf, ps⟩, [], ps⟩] }))) := lay78 (n := 0) (ks := []) ⟨xk, xs, xn, xf, ps⟩ hR ⟨rfl, none, 0, rfl⟩ hd
  have HKK := hid' ((KQ.of_below hb3).trans hK)
  clear hR hK hx4 hx3 hb3 hx1 hb2
  go_wp2_with (go_at_call 78; (with_reducible refine HL.out.mono ?_); rintro e w4 ⟨hK4, rfl, hR4⟩)
  go_end0
  exact ⟨HKK.out.trans hK4, rfl, hR4⟩
theorem nothing264 {W : World} {B p : Nat} {toks : List Tk} {s : St} (h : RdS W B p toks s) (hl : s.pl < toks.length) (hd : s.done.length ≤ 1000000000) :
    Calls Tryz.prog 264 #[.pointer (some ⟨p, 0, none⟩)] W (Res B p toks W (.ok { s with done := s.done ++ [⟨⟨56, ⟨#[]⟩, 0, false, toks[s.pl].pos⟩, [], toks[s.pl].pos⟩] })) := by
  have HA := token75 h hl
  have HL : Hid (∀ (W' : World) (ps : Int), Below W.heap.size W W' → Calls Tryz.prog 78 #[.pointer (some ⟨p, 0, none⟩), .agg #[.int .i64 56, .string ⟨#[]⟩, .int .u32 0, .bool false, .slice none 0 0, .int .i64 ps]] W' (Res B p toks W' (.ok { s with done := s.done ++ [⟨⟨56, ⟨#[]⟩, 0, false, ps⟩, [], ps⟩] }))) := fun W' ps hb => lay78 (n := 0) (ks := []) ⟨56, ⟨#[]⟩, 0, false, ps⟩ (h.below hb) ⟨rfl, none, 0, rfl⟩ hd
  clear h
  obtain ⟨y, hy⟩ : ∃ y, y = toks[s.pl] := ⟨_, rfl⟩
  rw [← hy] at HA ⊢
  clear hy
  unfold tkV at HA
  obtain ⟨kd, tx, d0, e0, ps, g0⟩ := y
  simp only at HA ⊢
  have hf4 := fld42_4
  go_enter Tryz.func264, Tryz.ntmps264
  go_wp2_with (first
    | (go_at_call 75; (with_reducible refine HA.mono ?_); rintro e w1 ⟨rfl, hb⟩)
    | (go_at_call 78; (with_reducible refine (HL.out _ _ hb).mono ?_); rintro e w4 ⟨hK4, rfl, hR4⟩))
  go_end0
  exact ⟨(KQ.of_below hb).trans hK4, rfl, hR4⟩
end Go.Proofs.YtjeioblhpfogfaaGreatDoor
