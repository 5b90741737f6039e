/- play: an act done in both scopes: all but a name's laying. -/
import Derived.Test.YthdphldagfeepaaRel
import Derived.Deep.RegionWith
namespace Go.Proofs.Ythdphldagfeepaa
open Go.RowKit Go.Maps
set_option linter.unusedVariables false
set_option linter.unusedSimpArgs false

section
variable {w : World} {B q : Nat} {L : List Ent} {N : Int}
theorem rdecl (h : Rc w B q L N) (s : ByteArray) (x : Int) (hl : L.length * 32 ≤ 140737488351232) :
    Calls Try.prog 16 #[.pointer (some ⟨q, 0, none⟩), .string s, .int .i64 x] w fun e w' => e = .returned (.int .i64 (rdE L N s)) ∧ Rc w' B q (rdL L N s x) N ∧ KR B w w' := rdeclare16 h s x hl
theorem rleav (h : Rc w B q L N) (hN2 : N ≤ 9000000000000000000) (hl : L.length * 32 ≤ 140737488351232) :
    Calls Try.prog 18 #[.pointer (some ⟨q, 0, none⟩)] w fun e w' => e = .returned (.int .i64 (rlE N)) ∧ Rc w' B q (rlL L N) (rlN N) ∧ KR B w w' := rleave18 h hN2 hl
end

/-- What play tells and leaves. -/
def PlayOk (w : World) (B C p q M n : Nat) (g : Blocks) (L : List Ent) (N d : Int) (s : ByteArray) (x : Int) (e : Ending) (w' : World) : Prop :=
  ∃ b : Bool, e = .returned (.bool b) ∧ (toldB d s n g L N → b = true) ∧ Sc w' B p (M + 1) (stN d n) (stG d s x n g) ∧ Rc w' C q (stL d s x L N) (stR d N) ∧ KB B C w w'

section
variable {w : World} {B C p q M n : Nat} {g : Blocks} {L : List Ent} {N d x : Int} {s : ByteArray}
abbrev boxA (d : Int) (s : ByteArray) (x : Int) : Obj := .cells #[.int .i64 d, .string s, .int .i64 x] 29
theorem box_below (w : World) (o : Obj) : Below w.heap.size w (w.alloc o) := (Below.refl _ _).alloc (Nat.le_refl _) _
theorem ans_of {a b : Value} (h : a = b) : Ending.returned a = Ending.returned b := by rw [h]

set_option maxHeartbeats 2000000 in
theorem play_1 (hS : Sc w B p M n g) (hR : Rc w C q L N) (hM : M ≤ 10000000000000) (h0 : 0 ≤ N) (h1 : N ≤ 8000000000000000000) :
    Calls Try.prog 8 #[.pointer (some ⟨p, 0, none⟩), .pointer (some ⟨q, 0, none⟩), .agg #[.int .i64 1, .string s, .int .i64 x]] w (PlayOk w B C p q M n g L N 1 s x) := by
  have hb := box_below w (boxA 1 s x)
  have HS := hid' (hS.below hb)
  have HR := hid' (hR.below hb)
  have HB : Hid (KB B C w (w.alloc (boxA 1 s x))) := KB.of_below hb
  clear hS hR hb
  go_enter Try.func8, Try.ntmps8
  go_wp2_with (first
    | (go_at_call 13; refine (enter13' HS.out hM).mono ?_; rintro e1 w1 ⟨rfl, hS1, hK1⟩; replace hS1 := hid' hS1; replace hK1 := hid' hK1)
    | (go_at_call 17; refine (renter17' (HR.out.keepP hK1.out) h0 (by omega)).mono ?_; rintro e2 w2 ⟨rfl, hR2, hK2⟩; have hq1 : w2.cell? ⟨q, 1, none⟩ = some (.int .i64 (N + 1)) := (by obtain ⟨v, hv⟩ := hR2; exact hv.c1); replace hR2 := hid' hR2; have hS2 := hid' (hS1.out.keepR hK2); replace hK2 := hid' hK2))
  have q1 : ∀ t : After w2, t.1.cell? ⟨q, 1, none⟩ = some (.int .i64 (N + 1)) := fun t => by obtain ⟨v, hv⟩ := hR2.out.below t.2; exact hv.c1
  have K9 : ∀ t : After w2, _ := fun t => Calls.after t ((depth9' (hS2.out.below t.2)).mono fun e w' ⟨he, hw⟩ => ⟨he, hw ▸ Below.refl _ _⟩)
  have hne := after_some w2
  refine region_after 7 mixed (by kernel_rfl) ?_
  simp only [List.take_succ_cons, List.take_zero, List.drop_succ_cons, List.drop_zero]
  repeat quiet_step (with_reducible exact K9 _)
  refine wpQuiet_nil ?_
  intro w3 hb3
  have HE := hid' hb3
  clear q1 K9 hne hq1 hb3
  go_wp2
  go_ret
  refine ⟨_, rfl, fun h => ?_, hS2.out.below HE.out, hR2.out.below HE.out, ?_⟩
  · have := h.2.2.2 (by decide) (by decide) (by decide)
    simp [stN, stR] at this
    simp
    omega
  · exact ((HB.out.trans hK1.out.both).trans hK2.out.both).trans (KB.of_below HE.out)

set_option maxHeartbeats 2000000 in
theorem play_2 (hS : Sc w B p M n g) (hR : Rc w C q L N) (hM : M ≤ 10000000000000) (h1 : N ≤ 8000000000000000000) (hl : L.length * 32 ≤ 140737488351232) :
    Calls Try.prog 8 #[.pointer (some ⟨p, 0, none⟩), .pointer (some ⟨q, 0, none⟩), .agg #[.int .i64 2, .string s, .int .i64 x]] w (PlayOk w B C p q M n g L N 2 s x) := by
  have hb := box_below w (boxA 2 s x)
  have HS := hid' (hS.below hb)
  have HR := hid' (hR.below hb)
  have HB : Hid (KB B C w (w.alloc (boxA 2 s x))) := KB.of_below hb
  clear hS hR hb
  go_enter Try.func8, Try.ntmps8
  go_wp2_with (first
    | (go_at_call 14; refine (leave14' HS.out hM).mono ?_; rintro e1 w1 ⟨rfl, hS1, hK1⟩; replace hS1 := hid' hS1; replace hK1 := hid' hK1)
    | (go_at_call 18; refine (rleav (HR.out.keepP hK1.out) (by omega) hl).mono ?_; rintro e2 w2 ⟨rfl, hR2, hK2⟩; replace hR2 := hid' hR2; have hS2 := hid' (hS1.out.keepR hK2); replace hK2 := hid' hK2))
  go_ret
  refine ⟨_, rfl, fun h => ?_, hS2.out.more (Nat.le_succ _), hR2.out, ?_⟩
  · have := h.2.1 rfl
    rw [this]
    simp
  · exact (HB.out.trans hK1.out.both).trans hK2.out.both

set_option maxHeartbeats 2000000 in
theorem play_3 (hS : Sc w B p M n g) (hR : Rc w C q L N) (hs : s.size ≤ 140737488351232) (hM : M ≤ 10000000000000) (hl : L.length * 32 ≤ 140737488351232) :
    Calls Try.prog 8 #[.pointer (some ⟨p, 0, none⟩), .pointer (some ⟨q, 0, none⟩), .agg #[.int .i64 3, .string s, .int .i64 x]] w (PlayOk w B C p q M n g L N 3 s x) := by
  have hb := box_below w (boxA 3 s x)
  have HS := hid' (hS.below hb)
  have HR := hid' (hR.below hb)
  have HB : Hid (KB B C w (w.alloc (boxA 3 s x))) := KB.of_below hb
  clear hS hR hb
  have H10 := hid' (find10' HS.out s hs hM)
  have H11 := hid' (rfind11' HR.out s hl)
  have HT : Hid (toldB 3 s n g L N → findG g n s = lastF L s) := fun h => h.2.2.1 rfl
  unfold retF at H10 H11
  generalize findG g n s = a at *
  generalize lastF L s = b at *
  have HA : Hid (a = b → a.getD 0 = b.getD 0 ∧ a.isSome = b.isSome) := fun h => by subst h; exact ⟨rfl, rfl⟩
  generalize a.getD 0 = a0 at *
  generalize a.isSome = a1 at *
  generalize b.getD 0 = b0 at *
  generalize b.isSome = b1 at *
  by_cases e0 : a0 = b0
  · subst e0
    go_enter Try.func8, Try.ntmps8
    go_wp2_with (first
      | (go_at_call 10; refine (H10.out).mono ?_; rintro e1 w1 ⟨rfl, hw⟩; have hv := hw.symm; clear hw; subst hv)
      | (go_at_call 11; refine (H11.out).mono ?_; rintro e2 w2 ⟨rfl, hw⟩; have hv := hw.symm; clear hw; subst hv))
    go_ret
    refine ⟨_, rfl, fun h => ?_, HS.out.more (Nat.le_succ _), HR.out, HB.out⟩
    have := (HA.out (HT.out h)).2
    subst this
    simp
  · have e1 : ¬ b0 = a0 := fun h => e0 h.symm
    go_enter Try.func8, Try.ntmps8
    go_wp2_with (first
      | (go_at_call 10; refine (H10.out).mono ?_; rintro e1 w1 ⟨rfl, hw⟩; have hv := hw.symm; clear hw; subst hv)
      | (go_at_call 11; refine (H11.out).mono ?_; rintro e2 w2 ⟨rfl, hw⟩; have hv := hw.symm; clear hw; subst hv))
    go_ret
    refine ⟨_, rfl, fun h => absurd (HA.out (HT.out h)).1 e0, HS.out.more (Nat.le_succ _), HR.out, HB.out⟩

set_option maxHeartbeats 2000000 in
theorem play_other (hS : Sc w B p M n g) (hR : Rc w C q L N) (n0 : ¬ d = 0) (n1 : ¬ d = 1) (n2 : ¬ d = 2) (n3 : ¬ d = 3) :
    Calls Try.prog 8 #[.pointer (some ⟨p, 0, none⟩), .pointer (some ⟨q, 0, none⟩), .agg #[.int .i64 d, .string s, .int .i64 x]] w (PlayOk w B C p q M n g L N d s x) := by
  have hb := box_below w (boxA d s x)
  have HS := hid' (hS.below hb)
  have HR := hid' (hR.below hb)
  have HB : Hid (KB B C w (w.alloc (boxA d s x))) := KB.of_below hb
  clear hS hR hb
  obtain ⟨W, hW⟩ : ∃ W, W = w.alloc (boxA d s x) := ⟨_, rfl⟩
  rw [← hW] at HS HR HB
  have q1 : ∀ t : After W, t.1.cell? ⟨q, 1, none⟩ = some (.int .i64 N) := fun t => by obtain ⟨v, hv⟩ := HR.out.below t.2; exact hv.c1
  have K9 : ∀ t : After W, _ := fun t => Calls.after t ((depth9' (HS.out.below t.2)).mono fun e w' ⟨he, hw⟩ => ⟨he, hw ▸ Below.refl _ _⟩)
  have hne := after_some W
  have HW := hid' hW
  clear hW
  go_enter Try.func8, Try.ntmps8
  go_wp2
  rw [← HW.out]
  refine region_after 7 mixed (by kernel_rfl) ?_
  simp only [List.take_succ_cons, List.take_zero, List.drop_succ_cons, List.drop_zero]
  repeat quiet_step (with_reducible exact K9 _)
  refine wpQuiet_nil ?_
  intro w3 hb3
  have HE := hid' hb3
  clear q1 K9 hne hb3
  go_wp2
  go_ret
  have eN : stN d n = n := by simp [stN, n1, n2]
  have eR : stR d N = N := by simp [stR, n1, n2]
  have eG : stG d s x n g = g := by simp [stG, n0, n1]
  have eL : stL d s x L N = L := by simp [stL, n0, n2]
  refine ⟨_, rfl, fun h => ?_, ?_, ?_, ?_⟩
  · have := h.2.2.2 n0 n2 n3
    rw [eN, eR] at this
    simp
    omega
  · rw [eN, eG]
    exact (HS.out.below HE.out).more (Nat.le_succ _)
  · rw [eL, eR]
    exact HR.out.below HE.out
  · exact HB.out.trans (KB.of_below HE.out)
end
end Go.Proofs.Ythdphldagfeepaa
