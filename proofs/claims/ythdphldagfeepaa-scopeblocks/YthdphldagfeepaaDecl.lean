/- Declare of the program. -/
import Derived.Test.YthdphldagfeepaaWalks2
namespace Go.Proofs.Ythdphldagfeepaa
open Go.RowKit Go.Maps
set_option linter.unusedVariables false
set_option linter.unusedSimpArgs false

theorem eqm_some (b : Nat) (w : World) : (binOp BinOp.eql 50 (.map (some b)) (.map none)).run Try.prog w = .ok (.bool false) w := by rfl
theorem eqm_none (w : World) : (binOp BinOp.eql 50 (.map none) (.map none)).run Try.prog w = .ok (.bool true) w := by rfl

section
variable {w : World} {B p M k r cap : Nat} {mb : Nat → Option Nat} {g : Blocks}
set_option maxHeartbeats 1000000 in
theorem declare15_has (h : IsS w B p M (k + 1) r cap mb g) (s : ByteArray) (hs : s.size ≤ 140737488351232) (x : Int) (hM : M ≤ 10000000000000) (hv : (g k s).isSome = true) :
    Calls Try.prog 15 #[.pointer (some ⟨p, 0, none⟩), .string s, .int .i64 x] w fun e w' => e = .returned (.int .i64 1) ∧ w' = w := by
  have hc := h.cellp
  have hhi := h.hi
  have H9 := hid' (depth9 h)
  obtain ⟨cur, _, _, hcap, hcm⟩ := h.row
  have hrc : w.cell? ⟨r, k, none⟩ = some (.map (mb k)) := h.cellr (by omega)
  obtain ⟨c, hl, _⟩ := h.look (i := k) (by omega) s (by unfold maxLen; omega)
  rw [hv] at hl
  unfold maxLen at hcm
  clear h
  go_enter Try.func15, Try.ntmps15
  go_wp2_with (go_at_call 9; refine (H9.out).mono ?_; rintro e w' ⟨rfl, hw⟩; have hv := hw.symm; clear hw; subst hv)
  go_ret
  exact ⟨rfl, rfl⟩

set_option maxHeartbeats 1000000 in
theorem declare15_some (h : IsS w B p M (k + 1) r cap mb g) (s : ByteArray) (hs : s.size ≤ 140737488351232) (x : Int) (hx : (Lit.int .i64 x).wf = true) (hM : M ≤ 10000000000000) (hv : (g k s).isSome = false) {b : Nat} (hb : mb k = some b) :
    Calls Try.prog 15 #[.pointer (some ⟨p, 0, none⟩), .string s, .int .i64 x] w fun e w' => e = .returned (.int .i64 0) ∧ Sc w' B p (M + 1) (k + 1) (putG g k s x) ∧ KP B w w' := by
  have hc := h.cellp
  have hhi := h.hi
  have H9 := hid' (depth9 h)
  obtain ⟨cur, _, _, hcap, hcm⟩ := h.row
  have hrc : w.cell? ⟨r, k, none⟩ = some (.map (some b)) := by rw [h.cellr (by omega), hb]
  obtain ⟨c, hl, _⟩ := h.look (i := k) (by omega) s (by unfold maxLen; omega)
  rw [hv, hb] at hl
  unfold maxLen at hcm
  have HS := hid' h
  have hplt := h.plt
  have hrlt := h.rlt
  have q0 : ∀ t : After w, t.1.cell? ⟨p, 0, none⟩ = some (.slice (some ⟨r, 0, none⟩) (k + 1) cap) := fun t => (t.2.cell (p := ⟨p, 0, none⟩) hplt).trans hc
  have q1 : ∀ t : After w, t.1.cell? ⟨r, k, none⟩ = some (.map (some b)) := fun t => (t.2.cell (p := ⟨r, k, none⟩) hrlt).trans hrc
  have K19 : ∀ t : After w, _ := fun t => Calls.after t (clone19 s t.1 hs)
  have i0 : (0 : Int) ≤ (k : Int) := by omega
  have i1 : (k : Int) < ((k + 1 : Nat) : Int) := by omega
  have i2 : (k : Int) < (k : Int) + 1 := by omega
  have i3 : ¬ (k : Int) < 0 := by omega
  have hne := after_some w
  have he := eqm_some b w
  clear h
  go_enter Try.func15, Try.ntmps15
  go_wp2_with (go_at_call 9; refine (H9.out).mono ?_; rintro e w' ⟨rfl, hw⟩; have hv := hw.symm; clear hw; subst hv)
  refine region_after 10 mixed (by kernel_rfl) ?_
  simp only [List.take_succ_cons, List.take_zero, List.drop_succ_cons, List.drop_zero]
  repeat quiet_step (with_reducible exact K19 _)
  refine wpQuiet_nil ?_
  intro w1 hb1
  obtain ⟨w2, hrun, hS2, hK2⟩ := (HS.out.below hb1).laid (s := s) (b := b) (by simpa using hb) (by unfold maxLen; omega) (by unfold maxLen; omega) x hx
  have HE : Hid (Sc w2 B p (M + 1) (k + 1) (putG g k s x) ∧ KP B w w2) := ⟨⟨_, _, _, hS2⟩, (KP.of_below hb1).trans hK2⟩
  clear hS2 hK2 q0 q1 K19 hne
  go_wp2
  go_ret
  exact ⟨rfl, HE.out⟩

set_option maxHeartbeats 1000000 in
theorem declare15_none (h : IsS w B p M (k + 1) r cap mb g) (s : ByteArray) (hs : s.size ≤ 140737488351232) (x : Int) (hx : (Lit.int .i64 x).wf = true) (hM : M ≤ 10000000000000) (hv : (g k s).isSome = false) (hb : mb k = none) :
    Calls Try.prog 15 #[.pointer (some ⟨p, 0, none⟩), .string s, .int .i64 x] w fun e w' => e = .returned (.int .i64 0) ∧ Sc w' B p (M + 1) (k + 1) (putG g k s x) ∧ KP B w w' := by
  have hc := h.cellp
  have hhi := h.hi
  have H9 := hid' (depth9 h)
  obtain ⟨cur, _, _, hcap, hcm⟩ := h.row
  have hrc : w.cell? ⟨r, k, none⟩ = some (.map none) := by rw [h.cellr (by omega), hb]
  have hr := h.freer
  have hpr : ¬ p = r := h.pr
  have hpr' : ¬ r = p := fun e => hpr e.symm
  obtain ⟨c, hl, _⟩ := h.look (i := k) (by omega) s (by unfold maxLen; omega)
  rw [hv, hb] at hl
  unfold maxLen at hcm
  have HB := hid' (h.born (by simpa using hb))
  have hplt := h.plt
  have hrlt := h.rlt
  obtain ⟨W, hW⟩ : ∃ W, W = (w.alloc (.map #[] 0)).setCell ⟨r, k, none⟩ (.map (some w.heap.size)) := ⟨_, rfl⟩
  have HS : Hid (IsS W B p M (k + 1) r cap (fun i => if i = k then some w.heap.size else mb i) g ∧ KP B w W) := by rw [hW]; exact HB.out
  have hp2 := HS.out.1.plt
  have hr2 := HS.out.1.rlt
  have hcW := HS.out.1.cellp
  have hrW : W.cell? ⟨r, k, none⟩ = some (.map (some w.heap.size)) := by rw [HS.out.1.cellr (i := k) (by omega)]; simp
  have q0 : ∀ t : After W, t.1.cell? ⟨p, 0, none⟩ = some (.slice (some ⟨r, 0, none⟩) (k + 1) cap) := fun t => (t.2.cell (p := ⟨p, 0, none⟩) hp2).trans hcW
  have q1 : ∀ t : After W, t.1.cell? ⟨r, k, none⟩ = some (.map (some w.heap.size)) := fun t => (t.2.cell (p := ⟨r, k, none⟩) hr2).trans hrW
  have K19 : ∀ t : After W, _ := fun t => Calls.after t (clone19 s t.1 hs)
  have i0 : (0 : Int) ≤ (k : Int) := by omega
  have i1 : (k : Int) < ((k + 1 : Nat) : Int) := by omega
  have i2 : (k : Int) < (k : Int) + 1 := by omega
  have i3 : ¬ (k : Int) < 0 := by omega
  have hne := after_some W
  have he := eqm_none w
  have hmm := @run_makeMap Try.prog
  have HW : Hid (W = (w.setCell ⟨r, k, none⟩ (.map (some w.heap.size))).alloc (.map #[] 0)) := by unfold Hid; rw [hW]; exact World.setCell_alloc_past _ _ _ _ hrlt
  clear h HB hW
  go_enter Try.func15, Try.ntmps15
  go_wp2_with (go_at_call 9; refine (H9.out).mono ?_; rintro e w' ⟨rfl, hw⟩; have hv := hw.symm; clear hw; subst hv)
  rw [← HW.out]
  refine region_after 10 mixed (by kernel_rfl) ?_
  simp only [List.take_succ_cons, List.take_zero, List.drop_succ_cons, List.drop_zero]
  repeat quiet_step (with_reducible exact K19 _)
  refine wpQuiet_nil ?_
  intro w1 hb1
  obtain ⟨w2, hrun, hS2, hK2⟩ := (HS.out.1.below hb1).laid (s := s) (b := w.heap.size) (by simp) (by unfold maxLen; omega) (by unfold maxLen; omega) x hx
  have HE : Hid (Sc w2 B p (M + 1) (k + 1) (putG g k s x) ∧ KP B w w2) := ⟨⟨_, _, _, hS2⟩, HS.out.2.trans ((KP.of_below hb1).trans hK2)⟩
  clear hS2 hK2 q0 q1 K19 hne
  go_wp2
  go_ret
  exact ⟨rfl, HE.out⟩

/-- Declare, whatever the block has. -/
def declG (g : Blocks) (k : Nat) (s : ByteArray) (x : Int) : Blocks := if (g k s).isSome then g else putG g k s x
def declE (g : Blocks) (k : Nat) (s : ByteArray) : Int := if (g k s).isSome then 1 else 0
theorem declare15 (h : Sc w B p M (k + 1) g) (s : ByteArray) (hs : s.size ≤ 140737488351232) (x : Int) (hx : (Lit.int .i64 x).wf = true) (hM : M ≤ 10000000000000) :
    Calls Try.prog 15 #[.pointer (some ⟨p, 0, none⟩), .string s, .int .i64 x] w fun e w' => e = .returned (.int .i64 (declE g k s)) ∧ Sc w' B p (M + 1) (k + 1) (declG g k s x) ∧ KP B w w' := by
  have h0 := h
  obtain ⟨r, cap, mb, h⟩ := h
  unfold declE declG
  cases hv : (g k s).isSome with
  | true =>
    refine (declare15_has h s hs x hM hv).mono ?_
    rintro e w' ⟨rfl, rfl⟩
    exact ⟨rfl, h0.more (Nat.le_succ _), KP.rfl _ _⟩
  | false =>
    cases hb : mb k with
    | none => exact declare15_none h s hs x hx hM hv hb
    | some b => exact declare15_some h s hs x hx hM hv hb
theorem enter13' {n : Nat} (h : Sc w B p M n g) (hM : M ≤ 10000000000000) : Calls Try.prog 13 #[.pointer (some ⟨p, 0, none⟩)] w fun e w' => e = .returned (.tuple #[]) ∧ Sc w' B p (M + 1) (n + 1) (enterG g n) ∧ KP B w w' := by
  obtain ⟨r, cap, mb, h⟩ := h
  exact enter13 h hM
theorem depth9' {n : Nat} (h : Sc w B p M n g) : Calls Try.prog 9 #[.pointer (some ⟨p, 0, none⟩)] w fun e w' => e = .returned (.int .i64 n) ∧ w' = w := by
  obtain ⟨r, cap, mb, h⟩ := h
  exact depth9 h
theorem find10' {n : Nat} (h : Sc w B p M n g) (s : ByteArray) (hs : s.size ≤ 140737488351232) (hM : M ≤ 10000000000000) : Calls Try.prog 10 #[.pointer (some ⟨p, 0, none⟩), .string s] w fun e w' => e = .returned (retF (findG g n s)) ∧ w' = w := by
  obtain ⟨r, cap, mb, h⟩ := h
  exact find10 h s (by unfold maxLen; omega) (by omega)
/-- Leave, whatever there is. -/
def leaveN (n : Nat) : Nat := if n = 1 then 1 else n - 1
def leaveE (n : Nat) : Int := if n = 1 then 4 else 0
theorem leave14' {n : Nat} (h : Sc w B p M n g) (hM : M ≤ 10000000000000) : Calls Try.prog 14 #[.pointer (some ⟨p, 0, none⟩)] w fun e w' => e = .returned (.int .i64 (leaveE n)) ∧ Sc w' B p M (leaveN n) g ∧ KP B w w' := by
  have h0 := h
  obtain ⟨r, cap, mb, h⟩ := h
  have hlo := h.lo
  unfold leaveE leaveN
  by_cases e : n = 1
  · subst e
    refine (leave14_one h).mono ?_
    rintro e w' ⟨rfl, rfl⟩
    exact ⟨rfl, h0, KP.rfl _ _⟩
  · obtain ⟨k, rfl⟩ : ∃ k, n = k + 2 := ⟨n - 2, by omega⟩
    rw [if_neg e, if_neg e]
    exact leave14_two h hM
end
end Go.Proofs.Ythdphldagfeepaa
