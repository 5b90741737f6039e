/- reckon. -/
import Derived.Test.YtiehlkhpblldaaaRb
import Derived.Test.YtiehlkhpblldaaaRc
import Derived.Test.YtiehlkhpblldaaaWAlu
namespace Go.Proofs.Ytiehlkhpblldaaa
open Go.RowKit Go.Maps
set_option linter.unusedVariables false
set_option linter.unusedSimpArgs false
section
variable {C : Cst} {W0 W W' : World} {r : Nat} {s s' : St} {x : Vs} {t : Tp}
def RegsOk (l : List Rg) : Prop := ∀ i (h : i < l.length), 0 ≤ l[i].v ∧ l[i].v < 4294967296
theorem RegsOk.get {l : List Rg} (h : RegsOk l) {i : Nat} (hi : i < l.length) (no : Int) : 0 ≤ getR l i no ∧ getR l i no < 4294967296 := by
  rw [getR_at hi]
  split
  · exact h i hi
  · omega
def arg (i : In) (k : Nat) : Nat := (i.args.getD k 0).toNat
def timF (C : Cst) (s : St) (c : Cl) (i : In) : St := if souF C c i then { s with times := s.times + 1 } else s
def reckF (C : Cst) (s : St) (c : Cl) (l : List Rg) (i : In) : St :=
  if aluT i.alu (getR l (arg i 1) c.no) = 0 then setS (timF C s c i) c l i.dst.toNat (aluV i.alu (getR l (arg i 0) c.no) (getR l (arg i 1) c.no)) else trapF (timF C s c i) (aluT i.alu (getR l (arg i 1) c.no))
theorem Top.same {c : Cl} {l : List Rg} (T : Top C s x t c l) (h1 : s'.calls = s.calls) (h2 : s'.banks = s.banks) : Top C s' x t c l :=
  ⟨by rw [h1]; exact T.last, by rw [h1]; exact T.tt, T.fn, T.tf, by rw [h2]; exact T.bank, T.tb⟩
/-- The two registers of an instruction, and the one that it gives. -/
structure Two (l : List Rg) (i : In) : Prop where
  len : i.args.length = 2
  a0 : 0 ≤ i.args.getD 0 0 ∧ i.args.getD 0 0 < l.length
  a1 : 0 ≤ i.args.getD 1 0 ∧ i.args.getD 1 0 < l.length
theorem args_at {i : In} {b o : Nat} (h : InAt W0 b o i) {k : Nat} (hk : k < i.args.length) : ∃ ab ao cap, i.av = .slice (some ⟨ab, ao, none⟩) i.args.length cap ∧ ab < W0.heap.size ∧ i.args.length ≤ cap ∧ ∀ w', Below W0.heap.size W0 w' → ∀ j (hj : j < i.args.length), w'.cell? ⟨ab, ao + j, none⟩ = some (.int .i64 i.args[j]) := by
  obtain ⟨ao, cap, e, hf⟩ := h.2.2.a.form ic1
  obtain ⟨b1, o1, rfl, hb, hc, _⟩ := hf k hk
  refine ⟨b1, o1, cap, e, hb, hc, fun w' hw j hj => ?_⟩
  obtain ⟨b2, o2, e', _, _, hx⟩ := hf j hj
  injection e' with e'
  injection e' with e1 e2
  subst e1 e2
  have := hx w' hw 0 (by omega)
  simpa [icell] using this
set_option maxRecDepth 20000 in
set_option maxHeartbeats 20000000 in
theorem reckon49 {c : Cl} {l : List Rg} {b o : Nat} {i : In} (h : RunM C W0 r W s x t) (T : Top C s x t c l) (hI : InAt W0 b o i) (h2 : Two l i) (hd : 0 ≤ i.dst ∧ i.dst < l.length) (hR : RegsOk l) (ht : 0 ≤ s.times ∧ s.times < 4611686018427387904) (hl : (s.hidden.length + 1) * 24 ≤ 140737488355328) :
    Calls Try.prog 49 #[.pointer (some ⟨r, 0, none⟩), .pointer (some ⟨b, o, none⟩)] W fun e w' => e = .returned (.tuple #[]) ∧ ∃ x' l', RunM C W0 r w' (reckF C s c l i) x' t ∧ Top C (reckF C s c l i) x' t c l' := by
  have H := hid' h
  have HT := hid' T
  have HI := hid' hI
  have h68 := isSought68 h T hI
  have hlen := h2.len
  obtain ⟨ab, ao, acap, ea, hab, hac, hargs⟩ := args_at hI (k := 0) (by omega)
  obtain ⟨k0, e0⟩ : ∃ k0 : Nat, i.args[0]'(by omega) = k0 := ⟨(i.args.getD 0 0).toNat, by have := h2.a0; simp [hlen] at this ⊢; omega⟩
  obtain ⟨k1, e1⟩ : ∃ k1 : Nat, i.args[1]'(by omega) = k1 := ⟨(i.args.getD 1 0).toNat, by have := h2.a1; simp [hlen] at this ⊢; omega⟩
  have q0 : arg i 0 = k0 := by simp [arg, hlen, e0]
  have q1 : arg i 1 = k1 := by simp [arg, hlen, e1]
  have hk0 : k0 < l.length := by have := h2.a0; simp [hlen, e0] at this; omega
  have hk1 : k1 < l.length := by have := h2.a1; simp [hlen, e1] at this; omega
  obtain ⟨d, hd2⟩ : ∃ d : Nat, i.dst = d := ⟨i.dst.toNat, by omega⟩
  have hdl : d < l.length := by omega
  have HRK : Hid (reckF C s c l i = if aluT i.alu (getR l k1 c.no) = 0 then setS (timF C s c i) c l d (aluV i.alu (getR l k0 c.no) (getR l k1 c.no)) else trapF (timF C s c i) (aluT i.alu (getR l k1 c.no))) := by
    unfold Hid reckF
    rw [q0, q1, hd2, Int.toNat_natCast]
  -- behind the count
  have F : Hid (∀ W1 S1, RunM C W0 r W1 S1 x t → Top C S1 x t c l → ∀ t1 : After W1,
      (t1.1.cell? ⟨b, o + 4, none⟩ = some (.int .i64 i.alu) ∧ t1.1.cell? ⟨b, o + 2, none⟩ = some (.slice (some ⟨ab, ao, none⟩) 2 acap) ∧ t1.1.cell? ⟨ab, ao, none⟩ = some (.int .i64 k0) ∧ t1.1.cell? ⟨ab, ao + 1, none⟩ = some (.int .i64 k1)) ∧ t1.1.cell? ⟨b, o + 1, none⟩ = some (.int .i64 d) ∧
      (Calls Try.prog 46 #[.pointer (some ⟨r, 0, none⟩), .int .i64 k0] t1.1 fun e w' => e = .returned (.int .u32 (getR l k0 c.no)) ∧ ∃ t' : After W1, w' = t'.1) ∧
      (Calls Try.prog 46 #[.pointer (some ⟨r, 0, none⟩), .int .i64 k1] t1.1 fun e w' => e = .returned (.int .u32 (getR l k1 c.no)) ∧ ∃ t' : After W1, w' = t'.1) ∧
      (Calls Try.prog 69 #[.int .i64 i.alu, .int .u32 (getR l k0 c.no), .int .u32 (getR l k1 c.no)] t1.1 fun e w' => e = .returned (.tuple #[.int .u32 (aluV i.alu (getR l k0 c.no) (getR l k1 c.no)), .int .i64 (aluT i.alu (getR l k1 c.no))]) ∧ ∃ t' : After W1, w' = t'.1)) := fun W1 S1 h1 T1 t1 => by
    have hb := below_on h1.rows.below t1.2 h1.rows.below.size
    have hc := in_cells (HI.out.2.1 t1.1 hb)
    have hr1 := h1.on t1.2
    refine ⟨⟨hc.2.2.2.2.1, by rw [hc.2.2.1, ea, hlen], ?_, ?_⟩, by rw [hc.2.1, hd2], Calls.after t1 (get46 hr1 T1 hk0), Calls.after t1 (get46 hr1 T1 hk1), Calls.after t1 ((alu7 i.alu _ _ (hR.get hk0 c.no).1 (hR.get hk0 c.no).2 (hR.get hk1 c.no).1 (hR.get hk1 c.no).2 t1.1).mono fun _ w' h => ⟨h.1, by rw [h.2]; exact Below.refl _ _⟩)⟩
    · have := hargs t1.1 hb 0 (by omega)
      rw [e0] at this
      simpa using this
    · have := hargs t1.1 hb 1 (by omega)
      rw [e1] at this
      simpa using this
  have HSET : Hid (∀ W1 S1 v, RunM C W0 r W1 S1 x t → Top C S1 x t c l → S1.hidden = s.hidden → Calls Try.prog 26 #[.pointer (some ⟨r, 0, none⟩), .int .i64 d, .int .u32 v] W1 fun e w' => e = .returned (.tuple #[]) ∧ ∃ x', RunM C W0 r w' (setS S1 c l d v) x' t ∧ Top C (setS S1 c l d v) x' t c (l.set d ⟨v, c.no⟩)) := fun W1 S1 v h1 T1 e => set26 h1 T1 hdl v (by rw [e]; exact hl)
  have c22 : W.cell? ⟨r, 22, none⟩ = some (.int .i64 s.times) := h.cell 22
  have fr := h.fro
  have hwt : IntKind.i64.wrap (s.times + 1) = s.times + 1 := by simp [IntKind.wrap, IntKind.bits, IntKind.signed]; omega
  have HTIM : Hid (timF C s c i = if souF C c i then { s with times := s.times + 1 } else s) := rfl
  generalize timF C s c i = S1 at *
  generalize souF C c i = sou at *
  generalize aluV i.alu (getR l k0 c.no) (getR l k1 c.no) = v at *
  generalize getR l k0 c.no = g0 at *
  generalize hat : aluT i.alu (getR l k1 c.no) = at1 at *
  generalize getR l k1 c.no = g1 at *
  clear hat h T hI h2 hargs e0 e1 q0 q1 hd2 ea
  have hrl := H.out.lt
  cases sou
  · have e1 : S1 = s := HTIM.out
    go_enter Try.func49, Try.ntmps49
    go_wp2_with (go_at_call 68; refine h68.mono ?_; rintro e2 w2 ⟨rfl, hb2⟩; have HB2 := hid' hb2; clear hb2)
    clear c22 fr
    have H1 : Hid (RunM C W0 r w2 S1 x t) := by unfold Hid; rw [e1]; exact H.out.on HB2.out
    have HH : Hid (S1.hidden = s.hidden) := by unfold Hid; rw [e1]
    have T1 : Hid (Top C S1 x t c l) := by unfold Hid; rw [e1]; exact HT.out
    clear h68
    generalize w2 = W1 at *
    have y4 := fun q => (F.out W1 S1 H1.out T1.out q).1.1
    have y2 := fun q => (F.out W1 S1 H1.out T1.out q).1.2.1
    have ya0 := fun q => (F.out W1 S1 H1.out T1.out q).1.2.2.1
    have ya1 := fun q => (F.out W1 S1 H1.out T1.out q).1.2.2.2
    have K46a := fun q => (F.out W1 S1 H1.out T1.out q).2.2.1
    have K46b := fun q => (F.out W1 S1 H1.out T1.out q).2.2.2.1
    have K69 := fun q => (F.out W1 S1 H1.out T1.out q).2.2.2.2
    have hne := after_some W1
    refine region_after 25 mixed (by kernel_rfl) ?_
    simp only [List.take_succ_cons, List.take_zero, List.drop_succ_cons, List.drop_zero]
    repeat (first | go_big_quiet_step (first | with_reducible exact K46a _ | with_reducible exact K46b _ | with_reducible exact K69 _) | quiet_step (first | with_reducible exact K46a _ | with_reducible exact K46b _ | with_reducible exact K69 _))
    refine wpQuiet_nil ?_
    intro w6 hb6
    have HR6 := hid' (H1.out.on hb6)
    have z1 := (F.out W1 S1 H1.out T1.out ⟨w6, hb6⟩).2.1
    dsimp only at z1
    clear y4 y2 ya0 ya1 K46a K46b K69 hb6 F
    by_cases z : at1 = 0
    · subst z
      have HZ : Hid (reckF C s c l i = setS S1 c l d v) := by unfold Hid; rw [HRK.out, if_pos rfl]
      clear HRK
      go_wp2_with (go_at_call 26; refine (HSET.out w6 S1 v HR6.out T1.out HH.out).mono ?_; rintro e7 w7 ⟨rfl, x7, hR7, hT7⟩)
      go_end0
      exact ⟨rfl, x7, _, by rw [HZ.out]; exact hR7, by rw [HZ.out]; exact hT7⟩
    · have zb : (at1 == 0) = false := by simp [z]
      go_wp2_with (go_at_call 24; refine (trap24 HR6.out at1).mono ?_; rintro e7 w7 ⟨rfl, hR7⟩)
      exact bodyPost_ret (v := .tuple #[]) (by simp [results, Try.results49]) rfl ⟨rfl, x, l, by rw [HRK.out, if_neg z]; exact hR7, by rw [HRK.out, if_neg z]; exact T1.out.same rfl rfl⟩
  · have e1 : S1 = { s with times := s.times + 1 } := HTIM.out
    go_enter Try.func49, Try.ntmps49
    go_wp2_with (go_at_call 68; refine h68.mono ?_; rintro e2 w2 ⟨rfl, hb2⟩; obtain ⟨hc2, hf2⟩ := bcell hb2; have d22 := (hc2 r 22 hrl).trans c22; have df := fun j => (hf2 r j hrl).trans (fr j); have HB2 := hid' hb2; clear hb2)
    clear c22 fr d22 df hc2 hf2
    have H1 : Hid (RunM C W0 r (w2.setCell ⟨r, 22, none⟩ (.int .i64 (s.times + 1))) S1 x t) := by unfold Hid; rw [e1]; exact (H.out.on HB2.out).put 22 _ rfl rfl
    have HH : Hid (S1.hidden = s.hidden) := by unfold Hid; rw [e1]
    have T1 : Hid (Top C S1 x t c l) := by unfold Hid; rw [e1]; exact HT.out.same rfl rfl
    clear h68
    generalize (w2.setCell ⟨r, 22, none⟩ (.int .i64 (s.times + 1))) = W1 at *
    have y4 := fun q => (F.out W1 S1 H1.out T1.out q).1.1
    have y2 := fun q => (F.out W1 S1 H1.out T1.out q).1.2.1
    have ya0 := fun q => (F.out W1 S1 H1.out T1.out q).1.2.2.1
    have ya1 := fun q => (F.out W1 S1 H1.out T1.out q).1.2.2.2
    have K46a := fun q => (F.out W1 S1 H1.out T1.out q).2.2.1
    have K46b := fun q => (F.out W1 S1 H1.out T1.out q).2.2.2.1
    have K69 := fun q => (F.out W1 S1 H1.out T1.out q).2.2.2.2
    have hne := after_some W1
    refine region_after 25 mixed (by kernel_rfl) ?_
    simp only [List.take_succ_cons, List.take_zero, List.drop_succ_cons, List.drop_zero]
    repeat (first | go_big_quiet_step (first | with_reducible exact K46a _ | with_reducible exact K46b _ | with_reducible exact K69 _) | quiet_step (first | with_reducible exact K46a _ | with_reducible exact K46b _ | with_reducible exact K69 _))
    refine wpQuiet_nil ?_
    intro w6 hb6
    have HR6 := hid' (H1.out.on hb6)
    have z1 := (F.out W1 S1 H1.out T1.out ⟨w6, hb6⟩).2.1
    dsimp only at z1
    clear y4 y2 ya0 ya1 K46a K46b K69 hb6 F
    by_cases z : at1 = 0
    · subst z
      have HZ : Hid (reckF C s c l i = setS S1 c l d v) := by unfold Hid; rw [HRK.out, if_pos rfl]
      clear HRK
      go_wp2_with (go_at_call 26; refine (HSET.out w6 S1 v HR6.out T1.out HH.out).mono ?_; rintro e7 w7 ⟨rfl, x7, hR7, hT7⟩)
      go_end0
      exact ⟨rfl, x7, _, by rw [HZ.out]; exact hR7, by rw [HZ.out]; exact hT7⟩
    · have zb : (at1 == 0) = false := by simp [z]
      go_wp2_with (go_at_call 24; refine (trap24 HR6.out at1).mono ?_; rintro e7 w7 ⟨rfl, hR7⟩)
      exact bodyPost_ret (v := .tuple #[]) (by simp [results, Try.results49]) rfl ⟨rfl, x, l, by rw [HRK.out, if_neg z]; exact hR7, by rw [HRK.out, if_neg z]; exact T1.out.same rfl rfl⟩
end
end Go.Proofs.Ytiehlkhpblldaaa
