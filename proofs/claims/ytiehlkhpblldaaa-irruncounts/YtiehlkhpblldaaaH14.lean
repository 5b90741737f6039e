/- reckon. -/
import Derived.Test.YtiehlkhpblldaaaH09
import Derived.Test.YtiehlkhpblldaaaH12
import Derived.Test.YtiehlkhpblldaaaH13
set_option linter.unusedVariables false
set_option linter.unusedSimpArgs false
set_option maxRecDepth 20000
set_option maxHeartbeats 8000000
namespace Go.Proofs.Ytiehlkhpblldaaa
open Go.RowKit Go.Maps
section
variable {C : Cst} {W0 W W' : World} {r : Nat} {s s' : St} {x : Vs} {t : Tp}
def RegsOk (l : List Rg) : Prop := ∀ i (h : i < l.length), 0 ≤ l[i].v ∧ l[i].v < 4294967296
theorem RegsOk.get {l : List Rg} (h : RegsOk l) {i : Nat} (hi : i < l.length) (no : Int) : 0 ≤ getR l i no ∧ getR l i no < 4294967296 := by
  rw [getR_at hi]
  split
  · exact h i hi
  · omega
def arg (i : In) (k : Nat) : Nat := (i.args.getD k 0).toNat
def timF (C : Cst) (s : St) (c : Cl) (i : In) : St := if souF C c i then { s with times := s.times + 1 } else s
def reckF (C : Cst) (s : St) (c : Cl) (l : List Rg) (i : In) : St :=
  if aluT i.alu (getR l (arg i 1) c.no) = 0 then setS (timF C s c i) c l i.dst.toNat (aluV i.alu (getR l (arg i 0) c.no) (getR l (arg i 1) c.no)) else trapF (timF C s c i) (aluT i.alu (getR l (arg i 1) c.no))
theorem Top.same {c : Cl} {l : List Rg} (T : Top C s x t c l) (h1 : s'.calls = s.calls) (h2 : s'.banks = s.banks) : Top C s' x t c l :=
  ⟨by rw [h1]; exact T.last, by rw [h1]; exact T.tt, T.fn, T.tf, by rw [h2]; exact T.bank, T.tb⟩
/-- The two registers of an instruction, and the one that it gives. -/
structure Two (l : List Rg) (i : In) : Prop where
  len : i.args.length = 2
  a0 : 0 ≤ i.args.getD 0 0 ∧ i.args.getD 0 0 < l.length
  a1 : 0 ≤ i.args.getD 1 0 ∧ i.args.getD 1 0 < l.length
theorem args_at {i : In} {b o : Nat} (h : InAt W0 b o i) {k : Nat} (hk : k < i.args.length) : ∃ ab ao cap, i.av = .slice (some ⟨ab, ao, none⟩) i.args.length cap ∧ ab < W0.heap.size ∧ i.args.length ≤ cap ∧ ∀ w', Below W0.heap.size W0 w' → ∀ j (hj : j < i.args.length), w'.cell? ⟨ab, ao + j, none⟩ = some (.int .i64 i.args[j]) := by
  obtain ⟨ao, cap, e, hf⟩ := h.2.2.a.form ic1
  obtain ⟨b1, o1, rfl, hb, hc, _⟩ := hf k hk
  refine ⟨b1, o1, cap, e, hb, hc, fun w' hw j hj => ?_⟩
  obtain ⟨b2, o2, e', _, _, hx⟩ := hf j hj
  injection e' with e'
  injection e' with e1 e2
  subst e1 e2
  have := hx w' hw 0 (by omega)
  simpa [icell] using this
set_option maxHeartbeats 20000000 in
theorem reckon49 {c : Cl} {l : List Rg} {b o : Nat} {i : In} (h : RunM C W0 r W s x t) (T : Top C s x t c l) (hI : InAt W0 b o i) (h2 : Two l i) (hd : 0 ≤ i.dst ∧ i.dst < l.length) (hR : RegsOk l) (ht : 0 ≤ s.times ∧ s.times < 4611686018427387904) (hl : (s.hidden.length + 1) * 24 ≤ 140737488355328) :
    Calls Try.prog 49 #[.pointer (some ⟨r, 0, none⟩), .pointer (some ⟨b, o, none⟩)] W fun e w' => e = .returned (.tuple #[]) ∧ ∃ x' l', RunM C W0 r w' (reckF C s c l i) x' t ∧ Top C (reckF C s c l i) x' t c l' := by
  have H := hid' h
  have HT := hid' T
  have HI := hid' hI
  have h68 := isSought68 h T hI
  have hlen := h2.len
  obtain ⟨ab, ao, acap, ea, hab, hac, hargs⟩ := args_at hI (k := 0) (by omega)
  obtain ⟨k0, e0⟩ : ∃ k0 : Nat, i.args[0]'(by omega) = k0 := ⟨(i.args.getD 0 0).toNat, by have := h2.a0; simp [hlen] at this ⊢; omega⟩
  obtain ⟨k1, e1⟩ : ∃ k1 : Nat, i.args[1]'(by omega) = k1 := ⟨(i.args.getD 1 0).toNat, by have := h2.a1; simp [hlen] at this ⊢; omega⟩
  have q0 : arg i 0 = k0 := by simp [arg, hlen, e0]
  have q1 : arg i 1 = k1 := by simp [arg, hlen, e1]
  have hk0 : k0 < l.length := by have := h2.a0; simp [hlen, e0] at this; omega
  have hk1 : k1 < l.length := by have := h2.a1; simp [hlen, e1] at this; omega
  obtain ⟨d, hd2⟩ : ∃ d : Nat, i.dst = d := ⟨i.dst.toNat, by omega⟩
  have hdl : d < l.length := by omega
  have HRK : Hid (reckF C s c l i = if aluT i.alu (getR l k1 c.no) = 0 then setS (timF C s c i) c l d (aluV i.alu (getR l k0 c.no) (getR l k1 c.no)) else trapF (timF C s c i) (aluT i.alu (getR l k1 c.no))) := by
    unfold Hid reckF
    rw [q0, q1, hd2, Int.toNat_natCast]
  -- behind the count
  have F : Hid (∀ W1 S1, RunM C W0 r W1 S1 x t → Top C S1 x t c l → ∀ t1 : After W1,
      (t1.1.cell? ⟨b, o + 4, none⟩ = some (.int .i64 i.alu) ∧ t1.1.cell? ⟨b, o + 2, none⟩ = some (.slice (some ⟨ab, ao, none⟩) 2 acap) ∧ t1.1.cell? ⟨ab, ao, none⟩ = some (.int .i64 k0) ∧ t1.1.cell? ⟨ab, ao + 1, none⟩ = some (.int .i64 k1)) ∧ t1.1.cell? ⟨b, o + 1, none⟩ = some (.int .i64 d) ∧
      (Calls Try.prog 46 #[.pointer (some ⟨r, 0, none⟩), .int .i64 k0] t1.1 fun e w' => e = .returned (.int .u32 (getR l k0 c.no)) ∧ ∃ t' : After W1, w' = t'.1) ∧
      (Calls Try.prog 46 #[.pointer (some ⟨r, 0, none⟩), .int .i64 k1] t1.1 fun e w' => e = .returned (.int .u32 (getR l k1 c.no)) ∧ ∃ t' : After W1, w' = t'.1) ∧
      (Calls Try.prog 69 #[.int .i64 i.alu, .int .u32 (getR l k0 c.no), .int .u32 (getR l k1 c.no)] t1.1 fun e w' => e = .returned (.tuple #[.int .u32 (aluV i.alu (getR l k0 c.no) (getR l k1 c.no)), .int .i64 (aluT i.alu (getR l k1 c.no))]) ∧ ∃ t' : After W1, w' = t'.1)) := fun W1 S1 h1 T1 t1 => by
    have hb := below_on h1.rows.below t1.2 h1.rows.below.size
    have hc := in_cells (HI.out.2.1 t1.1 hb)
    have hr1 := h1.on t1.2
    refine ⟨⟨hc.2.2.2.2.1, by rw [hc.2.2.1, ea, hlen], ?_, ?_⟩, by rw [hc.2.1, hd2], Calls.after t1 (get46 hr1 T1 hk0), Calls.after t1 (get46 hr1 T1 hk1), Calls.after t1 ((alu7 i.alu _ _ (hR.get hk0 c.no).1 (hR.get hk0 c.no).2 (hR.get hk1 c.no).1 (hR.get hk1 c.no).2 t1.1).mono fun _ w' h => ⟨h.1, by rw [h.2]; exact Below.refl _ _⟩)⟩
    · have := hargs t1.1 hb 0 (by omega)
      rw [e0] at this
      simpa using this
    · have := hargs t1.1 hb 1 (by omega)
      rw [e1] at this
      simpa using this
  have HSET : Hid (∀ W1 S1 v, RunM C W0 r W1 S1 x t → Top C S1 x t c l → S1.hidden = s.hidden → Calls Try.prog 26 #[.pointer (some ⟨r, 0, none⟩), .int .i64 d, .int .u32 v] W1 fun e w' => e = .returned (.tuple #[]) ∧ ∃ x', RunM C W0 r w' (setS S1 c l d v) x' t ∧ Top C (setS S1 c l d v) x' t c (l.set d ⟨v, c.no⟩)) := fun W1 S1 v h1 T1 e => set26 h1 T1 hdl v (by rw [e]; exact hl)
  have c22 : W.cell? ⟨r, 22, none⟩ = some (.int .i64 s.times) := h.cell 22
  have fr := h.fro
  have hwt : IntKind.i64.wrap (s.times + 1) = s.times + 1 := by simp [IntKind.wrap, IntKind.bits, IntKind.signed]; omega
  have HTIM : Hid (timF C s c i = if souF C c i then { s with times := s.times + 1 } else s) := rfl
  generalize timF C s c i = S1 at *
  generalize souF C c i = sou at *
  generalize aluV i.alu (getR l k0 c.no) (getR l k1 c.no) = v at *
  generalize getR l k0 c.no = g0 at *
  generalize hat : aluT i.alu (getR l k1 c.no) = at1 at *
  generalize getR l k1 c.no = g1 at *
  clear hat h T hI h2 hargs e0 e1 q0 q1 hd2 ea
  have hrl := H.out.lt
  cases sou
  · have e1 : S1 = s := HTIM.out
    go_enter Try.func49, Try.ntmps49
    go_wp2_with (go_at_call 68; refine h68.mono ?_; rintro e2 w2 ⟨rfl, hb2⟩; have HB2 := hid' hb2; clear hb2)
    clear c22 fr
    have H1 : Hid (RunM C W0 r w2 S1 x t) := by unfold Hid; rw [e1]; exact H.out.on HB2.out
    have HH : Hid (S1.hidden = s.hidden) := by unfold Hid; rw [e1]
    have T1 : Hid (Top C S1 x t c l) := by unfold Hid; rw [e1]; exact HT.out
    clear h68
    generalize w2 = W1 at *
    have y4 := fun q => (F.out W1 S1 H1.out T1.out q).1.1
    have y2 := fun q => (F.out W1 S1 H1.out T1.out q).1.2.1
    have ya0 := fun q => (F.out W1 S1 H1.out T1.out q).1.2.2.1
    have ya1 := fun q => (F.out W1 S1 H1.out T1.out q).1.2.2.2
    have K46a := fun q => (F.out W1 S1 H1.out T1.out q).2.2.1
    have K46b := fun q => (F.out W1 S1 H1.out T1.out q).2.2.2.1
    have K69 := fun q => (F.out W1 S1 H1.out T1.out q).2.2.2.2
    have hne := after_some W1
    refine region_after 25 mixed (by kernel_rfl) ?_
    simp only [List.take_succ_cons, List.take_zero, List.drop_succ_cons, List.drop_zero]
    repeat (first | go_big_quiet_step (first | with_reducible exact K46a _ | with_reducible exact K46b _ | with_reducible exact K69 _) | quiet_step (first | with_reducible exact K46a _ | with_reducible exact K46b _ | with_reducible exact K69 _))
    refine wpQuiet_nil ?_
    intro w6 hb6
    have HR6 := hid' (H1.out.on hb6)
    have z1 := (F.out W1 S1 H1.out T1.out ⟨w6, hb6⟩).2.1
    dsimp only at z1
    clear y4 y2 ya0 ya1 K46a K46b K69 hb6 F
    by_cases z : at1 = 0
    · subst z
      have HZ : Hid (reckF C s c l i = setS S1 c l d v) := by unfold Hid; rw [HRK.out, if_pos rfl]
      clear HRK
      go_wp2_with (go_at_call 26; refine (HSET.out w6 S1 v HR6.out T1.out HH.out).mono ?_; rintro e7 w7 ⟨rfl, x7, hR7, hT7⟩)
      go_end0
      exact ⟨rfl, x7, _, by rw [HZ.out]; exact hR7, by rw [HZ.out]; exact hT7⟩
    · have zb : (at1 == 0) = false := by simp [z]
      go_wp2_with (go_at_call 24; refine (trap24 HR6.out at1).mono ?_; rintro e7 w7 ⟨rfl, hR7⟩)
      exact bodyPost_ret (v := .tuple #[]) (by simp [results, Try.results49]) rfl ⟨rfl, x, l, by rw [HRK.out, if_neg z]; exact hR7, by rw [HRK.out, if_neg z]; exact T1.out.same rfl rfl⟩
  · have e1 : S1 = { s with times := s.times + 1 } := HTIM.out
    go_enter Try.func49, Try.ntmps49
    go_wp2_with (go_at_call 68; refine h68.mono ?_; rintro e2 w2 ⟨rfl, hb2⟩; obtain ⟨hc2, hf2⟩ := bcell hb2; have d22 := (hc2 r 22 hrl).trans c22; have df := fun j => (hf2 r j hrl).trans (fr j); have HB2 := hid' hb2; clear hb2)
    clear c22 fr d22 df hc2 hf2
    have H1 : Hid (RunM C W0 r (w2.setCell ⟨r, 22, none⟩ (.int .i64 (s.times + 1))) S1 x t) := by unfold Hid; rw [e1]; exact (H.out.on HB2.out).put 22 _ rfl rfl
    have HH : Hid (S1.hidden = s.hidden) := by unfold Hid; rw [e1]
    have T1 : Hid (Top C S1 x t c l) := by unfold Hid; rw [e1]; exact HT.out.same rfl rfl
    clear h68
    generalize (w2.setCell ⟨r, 22, none⟩ (.int .i64 (s.times + 1))) = W1 at *
    have y4 := fun q => (F.out W1 S1 H1.out T1.out q).1.1
    have y2 := fun q => (F.out W1 S1 H1.out T1.out q).1.2.1
    have ya0 := fun q => (F.out W1 S1 H1.out T1.out q).1.2.2.1
    have ya1 := fun q => (F.out W1 S1 H1.out T1.out q).1.2.2.2
    have K46a := fun q => (F.out W1 S1 H1.out T1.out q).2.2.1
    have K46b := fun q => (F.out W1 S1 H1.out T1.out q).2.2.2.1
    have K69 := fun q => (F.out W1 S1 H1.out T1.out q).2.2.2.2
    have hne := after_some W1
    refine region_after 25 mixed (by kernel_rfl) ?_
    simp only [List.take_succ_cons, List.take_zero, List.drop_succ_cons, List.drop_zero]
    repeat (first | go_big_quiet_step (first | with_reducible exact K46a _ | with_reducible exact K46b _ | with_reducible exact K69 _) | quiet_step (first | with_reducible exact K46a _ | with_reducible exact K46b _ | with_reducible exact K69 _))
    refine wpQuiet_nil ?_
    intro w6 hb6
    have HR6 := hid' (H1.out.on hb6)
    have z1 := (F.out W1 S1 H1.out T1.out ⟨w6, hb6⟩).2.1
    dsimp only at z1
    clear y4 y2 ya0 ya1 K46a K46b K69 hb6 F
    by_cases z : at1 = 0
    · subst z
      have HZ : Hid (reckF C s c l i = setS S1 c l d v) := by unfold Hid; rw [HRK.out, if_pos rfl]
      clear HRK
      go_wp2_with (go_at_call 26; refine (HSET.out w6 S1 v HR6.out T1.out HH.out).mono ?_; rintro e7 w7 ⟨rfl, x7, hR7, hT7⟩)
      go_end0
      exact ⟨rfl, x7, _, by rw [HZ.out]; exact hR7, by rw [HZ.out]; exact hT7⟩
    · have zb : (at1 == 0) = false := by simp [z]
      go_wp2_with (go_at_call 24; refine (trap24 HR6.out at1).mono ?_; rintro e7 w7 ⟨rfl, hR7⟩)
      exact bodyPost_ret (v := .tuple #[]) (by simp [results, Try.results49]) rfl ⟨rfl, x, l, by rw [HRK.out, if_neg z]; exact hR7, by rw [HRK.out, if_neg z]; exact T1.out.same rfl rfl⟩
end
end Go.Proofs.Ytiehlkhpblldaaa
namespace Go.Proofs.Ytiehlkhpblldaaa
open Go.RowKit Go.Maps
section
variable {C : Cst} {W0 W W' : World} {r : Nat} {s s' : St} {x : Vs} {t : Tp}
def BytesOk (l : List Int) : Prop := ∀ i (h : i < l.length), 0 ≤ l[i] ∧ l[i] < 256
def adrF (l : List Rg) (no : Int) (i : In) : Int := (getR l (arg i 0) no + i.imm % 4294967296) % 4294967296
def partL (l : List Int) (o n : Nat) : List Int := (l.drop o).take n
theorem partL_len {l : List Int} {o n : Nat} (h : o + n ≤ l.length) : (partL l o n).length = n := by simp [partL]; omega
theorem partL_at {l : List Int} {o n k : Nat} (h : o + n ≤ l.length) (hk : k < (partL l o n).length) : (partL l o n)[k] = l[o + k]'(by rw [partL_len h] at hk; omega) := by simp [partL]
def accF (s : St) (c : Cl) (l : List Rg) (i : In) : St :=
  match atF s (adrF l c.no i) i.wide with
  | none => trapF s 5
  | some (st, o) =>
    if i.op = 6 then setS s c l i.dst.toNat (wordK (partL (if st then s.sk else s.gl) o i.wide.toNat) i.wide.toNat)
    else if st then { s with sk := putL s.sk o (layL (getR l (arg i 1) c.no) i.wide.toNat) } else { s with gl := putL s.gl o (layL (getR l (arg i 1) c.no) i.wide.toNat) }
/-- What the run's memory must be. -/
structure MemOk (s : St) : Prop where
  l1 : 8126464 ≤ s.low ∧ s.low ≤ 8388608
  l2 : s.sk.length ≤ 524288
  l3 : 8388608 - s.low ≤ s.sk.length
  g : s.gl.length ≤ 65536
  kb : BytesOk s.sk
  gb : BytesOk s.gl
structure Acc (l : List Rg) (i : In) : Prop where
  w : i.wide = 1 ∨ i.wide = 4
  len : 1 ≤ i.args.length
  a0 : 0 ≤ i.args.getD 0 0 ∧ i.args.getD 0 0 < l.length
  ld : i.op = 6 → 0 ≤ i.dst ∧ i.dst < l.length
  st : ¬ i.op = 6 → 2 ≤ i.args.length ∧ 0 ≤ i.args.getD 1 0 ∧ i.args.getD 1 0 < l.length
set_option maxHeartbeats 20000000 in
theorem access50 {c : Cl} {l : List Rg} {b o : Nat} {i : In} (h : RunM C W0 r W s x t) (T : Top C s x t c l) (hI : InAt W0 b o i) (hA : Acc l i) (hM : MemOk s) (hR : RegsOk l) (hl : (s.hidden.length + 1) * 24 ≤ 140737488355328) :
    Calls Try.prog 50 #[.pointer (some ⟨r, 0, none⟩), .pointer (some ⟨b, o, none⟩)] W fun e w' => e = .returned (.tuple #[]) ∧ ∃ x' l', RunM C W0 r w' (accF s c l i) x' t ∧ Top C (accF s c l i) x' t c l' := by
  have H := hid' h
  have HT := hid' T
  have HI := hid' hI
  have HAC := hid' hA
  have HM := hid' hM
  have HRG := hid' hR
  have hlen := hA.len
  obtain ⟨ab, ao, acap, ea, hab, hac, hargs⟩ := args_at hI (k := 0) (by omega)
  obtain ⟨k0, e0⟩ : ∃ k0 : Nat, i.args[0]'(by omega) = k0 := ⟨(i.args.getD 0 0).toNat, by have := hA.a0; simp [show 0 < i.args.length by omega] at this ⊢; omega⟩
  have q0 : arg i 0 = k0 := by simp [arg, show 0 < i.args.length by omega, e0]
  have hk0 : k0 < l.length := by have := hA.a0; simp [show 0 < i.args.length by omega, e0] at this; omega
  obtain ⟨n, hn⟩ : ∃ n : Nat, i.wide = n := ⟨i.wide.toNat, by rcases hA.w with e | e <;> rw [e] <;> rfl⟩
  have hn4 : 0 < n ∧ n ≤ 4 := by rcases hA.w with e | e <;> (rw [hn] at e; omega)
  have hadr : adrF l c.no i = (getR l k0 c.no + i.imm % 4294967296) % 4294967296 := by unfold adrF; rw [q0]
  have HACC : Hid (accF s c l i = match atF s ((getR l k0 c.no + i.imm % 4294967296) % 4294967296) n with
    | none => trapF s 5
    | some (st, o) =>
      if i.op = 6 then setS s c l i.dst.toNat (wordK (partL (if st then s.sk else s.gl) o n) n)
      else if st then { s with sk := putL s.sk o (layL (getR l (arg i 1) c.no) n) } else { s with gl := putL s.gl o (layL (getR l (arg i 1) c.no) n) }) := by
    unfold Hid accF
    rw [hadr, hn, Int.toNat_natCast]
  have F : Hid (∀ t1 : After W,
      (t1.1.cell? ⟨b, o, none⟩ = some (.int .i64 i.op) ∧ t1.1.cell? ⟨b, o + 1, none⟩ = some (.int .i64 i.dst) ∧ t1.1.cell? ⟨b, o + 2, none⟩ = some (.slice (some ⟨ab, ao, none⟩) i.args.length acap) ∧ t1.1.cell? ⟨b, o + 3, none⟩ = some (.int .i32 i.imm) ∧ t1.1.cell? ⟨b, o + 5, none⟩ = some (.int .i64 n)) ∧ t1.1.cell? ⟨ab, ao, none⟩ = some (.int .i64 k0) ∧
      (∀ k1 : Nat, (∃ h : 1 < i.args.length, i.args[1] = k1) → t1.1.cell? ⟨ab, ao + 1, none⟩ = some (.int .i64 k1)) ∧
      (Calls Try.prog 46 #[.pointer (some ⟨r, 0, none⟩), .int .i64 k0] t1.1 fun e w' => e = .returned (.int .u32 (getR l k0 c.no)) ∧ ∃ t' : After W, w' = t'.1)) := fun t1 => by
    have hb := below_on H.out.rows.below t1.2 H.out.rows.below.size
    have hc := in_cells (HI.out.2.1 t1.1 hb)
    have hr1 := H.out.on t1.2
    refine ⟨⟨hc.1, hc.2.1, by rw [hc.2.2.1, ea], hc.2.2.2.1, by rw [hc.2.2.2.2.2.1, hn]⟩, ?_, ?_, Calls.after t1 (get46 hr1 HT.out hk0)⟩
    · have := hargs t1.1 hb 0 (by omega)
      rw [e0] at this
      simpa using this
    · rintro k1 ⟨h1, e1⟩
      have := hargs t1.1 hb 1 h1
      rw [e1] at this
      simpa using this
  have hg0 := hR.get hk0 c.no
  have himm : (i.imm : Int) % 4294967296 % 4294967296 = i.imm % 4294967296 := by omega
  generalize getR l k0 c.no = g0 at *
  have ha32 : 0 ≤ (g0 + i.imm % 4294967296) % 4294967296 ∧ (g0 + i.imm % 4294967296) % 4294967296 < 4294967296 := by omega
  have H70 : Hid (∀ w6, Below W.heap.size W w6 → Calls Try.prog 70 #[.pointer (some ⟨r, 6, none⟩), .int .u32 ((g0 + i.imm % 4294967296) % 4294967296), .int .i64 n] w6 fun e w' => ∃ v, e = .returned v ∧ AtR s x ((g0 + i.imm % 4294967296) % 4294967296) n v ∧ w' = w6) := fun w6 hb6 => at70 (H.out.on hb6) ha32 hn4 ⟨by have := HM.out.l1; omega, HM.out.l1.2⟩ (by have := HM.out.l2; omega) HM.out.l3 HM.out.g
  have y0 := fun q => (F.out q).1.1
  have y1 := fun q => (F.out q).1.2.1
  have y2 := fun q => (F.out q).1.2.2.1
  have y3 := fun q => (F.out q).1.2.2.2.1
  have y5 := fun q => (F.out q).1.2.2.2.2
  have ya0 := fun q => (F.out q).2.1
  have K46 := fun q => (F.out q).2.2.2
  have hne := after_some W
  clear hargs e0 q0 hadr ea h T hI hA hM hR hn
  generalize hAD : (g0 + i.imm % 4294967296) % 4294967296 = AD at *
  go_enter Try.func50, Try.ntmps50
  go_wp2
  refine region_after 21 mixed (by kernel_rfl) ?_
  simp only [List.take_succ_cons, List.take_zero, List.drop_succ_cons, List.drop_zero]
  repeat (first | go_big_quiet_step (with_reducible exact K46 _) | quiet_step (with_reducible exact K46 _))
  refine wpQuiet_nil ?_
  intro w6 hb6
  have z0 := (F.out ⟨w6, hb6⟩).1.1
  dsimp only at z0
  have HR6 := hid' (H.out.on hb6)
  have HB6 := hid' hb6
  clear y0 y1 y2 y3 y5 ya0 K46
  have h70 := H70.out w6 hb6
  clear hb6 H70
  rcases hAT : atF s AD n with _ | ⟨st, o2⟩
  · have HA : Hid (∀ v, AtR s x AD n v → v = .slice none 0 0) := by
      rintro v (⟨_, e⟩ | ⟨o3, kb, cap, cap', e, _⟩ | ⟨o3, kb, cap, cap', e, _⟩)
      · exact e
      · rw [hAT] at e; cases e
      · rw [hAT] at e; cases e
    have HZ : Hid (accF s c l i = trapF s 5) := by unfold Hid; rw [HACC.out, hAT]
    have q1 := fun W => Go.Lib.run_eql_slice_nil (P := Try.prog) W 59 5 none 0 0 0 0 Try.underlying59
    simp only [Option.isNone_none] at q1
    clear HACC hAT
    go_wp2_with (first
      | (go_at_call 24; refine (trap24 HR6.out 5).mono ?_; rintro e8 w8 ⟨rfl, hR8⟩)
      | (go_at_call 70; refine h70.mono ?_; rintro e7 w7 ⟨v, rfl, hv, rfl⟩; obtain rfl := HA.out v hv))
    exact bodyPost_ret (v := .tuple #[]) (by simp [results, Try.results50]) rfl ⟨rfl, x, l, by rw [HZ.out]; exact hR8, by rw [HZ.out]; exact HT.out.same rfl rfl⟩
  · cases st
    · -- gl
      have HA : Hid (∀ v, AtR s x AD n v → ∃ kb cap cap', v = .slice (some ⟨kb, o2, none⟩) n cap' ∧ x.gv = .slice (some ⟨kb, 0, none⟩) s.gl.length cap ∧ o2 + n ≤ s.gl.length) := by
        rintro v (⟨e, _⟩ | ⟨o3, kb, cap, cap', e, hv, hk, hl⟩ | ⟨o3, kb, cap, cap', e, hv, hk, hl⟩) <;> rw [hAT] at e
        · cases e
        · injection e with e; injection e with e; cases e
        · injection e with e; injection e with _ e; subst e; exact ⟨kb, cap, cap', hv, hk, hl⟩
      by_cases g6 : i.op = 6
      · obtain ⟨d, hd⟩ : ∃ d : Nat, i.dst = d := ⟨i.dst.toNat, by have := (HAC.out.ld g6).1; omega⟩
        have hdl : d < l.length := by have := (HAC.out.ld g6).2; omega
        have HZ : Hid (accF s c l i = setS s c l d (wordK (partL s.gl o2 n) n)) := by unfold Hid; rw [HACC.out, hAT]; simp only [g6, if_true, hd, Int.toNat_natCast]; rfl
        rw [g6] at z0
        have HD := hid' hd
        clear HACC hAT g6 hd
        go_wp2_with (go_at_call 70; refine h70.mono ?_; rintro e7 w7 ⟨v, rfl, hv, rfl⟩; obtain ⟨kb, cap, cap', rfl, hk, hlo⟩ := HA.out v hv; have q1 := fun W => Go.Lib.run_eql_slice_nil (P := Try.prog) W 59 5 (some ⟨kb, o2, none⟩) n cap' 0 0 Try.underlying59; simp only [Option.isNone_some] at q1)
        clear h70
        have HK := hid' hk
        have y1 : ∀ q : After w7, q.1.cell? ⟨b, o + 1, none⟩ = some (.int .i64 d) := fun q => by rw [← HD.out]; exact (F.out ⟨q.1, below_up HB6.out q.2⟩).1.2.1
        have K71 : ∀ q : After w7, Calls Try.prog 71 #[.slice (some ⟨kb, o2, none⟩) n cap'] q.1 fun e w' => e = .returned (.int .u32 (wordK (partL s.gl o2 n) n)) ∧ ∃ t' : After w7, w' = t'.1 := fun q => Calls.after q (by
          have hrow := (HR6.out.on q.2).rows.gs
          rw [HK.out] at hrow
          refine wordOf71 (partL_len hlo) hn4.2 (fun k hk2 => ?_) (fun k hk2 => ?_)
          · rw [partL_at hlo hk2]; exact HM.out.gb _ _
          · rw [partL_at hlo hk2, World.ownsRow.cellAt hrow _ (by rw [partL_len hlo] at hk2; omega), flat_by]
            rw [partL_len hlo] at hk2
            simp [show o2 + k < s.gl.length by omega])
        have hne2 := after_some w7
        clear q1 z0 hk
        generalize wordK (partL s.gl o2 n) n = wv at *
        refine region_after 7 mixed (by kernel_rfl) ?_
        simp only [List.take_succ_cons, List.take_zero, List.drop_succ_cons, List.drop_zero]
        repeat (first | go_big_quiet_step (with_reducible exact K71 _) | quiet_step (with_reducible exact K71 _))
        refine wpQuiet_nil ?_
        intro w8 hb8
        have HR8 := hid' (HR6.out.on hb8)
        clear y1 K71 hb8
        go_wp2_with (go_at_call 26; refine (set26 HR8.out HT.out hdl wv hl).mono ?_; rintro e9 w9 ⟨rfl, x9, hR9, hT9⟩)
        exact bodyPost_ret (v := .tuple #[]) (by simp [results, Try.results50]) rfl ⟨rfl, x9, _, by rw [HZ.out]; exact hR9, by rw [HZ.out]; exact hT9⟩
      · obtain ⟨hl2, ha1⟩ := HAC.out.st g6
        have g6' : (i.op == 6) = false := by simp [g6]
        obtain ⟨k1, e1⟩ : ∃ k1 : Nat, i.args[1]'(by omega) = k1 := ⟨(i.args.getD 1 0).toNat, by simp [show 1 < i.args.length by omega] at ha1 ⊢; omega⟩
        have q1' : arg i 1 = k1 := by simp [arg, show 1 < i.args.length by omega, e1]
        have hk1 : k1 < l.length := by simp [show 1 < i.args.length by omega, e1] at ha1; omega
        have HZ : Hid (accF s c l i = { s with gl := putL s.gl o2 (layL (getR l k1 c.no) n) }) := by unfold Hid; rw [HACC.out, hAT]; simp only [g6, if_false, q1']; rfl
        have y2 := (F.out ⟨w6, HB6.out⟩).1.2.2.1
        have ya1 := (F.out ⟨w6, HB6.out⟩).2.2.1 k1 ⟨by omega, e1⟩
        dsimp only at y2 ya1
        have h46 := get46 HR6.out HT.out hk1
        have hgv := HRG.out.get hk1 c.no
        have hl2i : (1 : Int) < i.args.length := by omega
        generalize getR l k1 c.no = gv at *
        clear HACC hAT e1 q1' ha1
        go_wp2_with (first
          | (go_at_call 72; refine h72.mono ?_; rintro e9 w9 ⟨rfl, rfl⟩)
          | (go_at_call 46; refine h46.mono ?_; rintro e8 w8 ⟨rfl, hb8⟩; have HR8 := hid' (HR6.out.on hb8); have h72 : Calls Try.prog 72 #[.slice (some ⟨kb, o2, none⟩) n cap', .int .u32 gv] w8 fun e w' => e = .returned (.tuple #[]) ∧ w' = w8.setCells kb o2 (flat bcel (layL gv n)) := (layWord72 hgv hn4.2 (fun k hk2 => by
              have hrow := HR8.out.rows.gs
              rw [HK.out] at hrow
              rw [World.ownsRow.cellAt hrow _ (by omega), flat_by]
              simp [show o2 + k < s.gl.length by omega]) (fun k => by
              have hrow := HR8.out.rows.gs
              rw [HK.out] at hrow
              exact World.ownsRow.frozenAt hrow k)))
          | (go_at_call 70; refine h70.mono ?_; rintro e7 w7 ⟨v, rfl, hv, rfl⟩; obtain ⟨kb, cap, cap', rfl, hk, hlo⟩ := HA.out v hv; have HK := hid' hk; have q1 := fun W => Go.Lib.run_eql_slice_nil (P := Try.prog) W 59 5 (some ⟨kb, o2, none⟩) n cap' 0 0 Try.underlying59; simp only [Option.isNone_some] at q1))
        go_end0
        exact ⟨rfl, x, l, by rw [HZ.out]; exact RunM.bytesG _ o2 _ s HR8.out HK.out, by rw [HZ.out]; exact HT.out.same rfl rfl⟩
    · -- sk
      have HA : Hid (∀ v, AtR s x AD n v → ∃ kb cap cap', v = .slice (some ⟨kb, o2, none⟩) n cap' ∧ x.kv = .slice (some ⟨kb, 0, none⟩) s.sk.length cap ∧ o2 + n ≤ s.sk.length) := by
        rintro v (⟨e, _⟩ | ⟨o3, kb, cap, cap', e, hv, hk, hl⟩ | ⟨o3, kb, cap, cap', e, hv, hk, hl⟩) <;> rw [hAT] at e
        · cases e
        · injection e with e; injection e with _ e; subst e; exact ⟨kb, cap, cap', hv, hk, hl⟩
        · injection e with e; injection e with e; cases e
      by_cases g6 : i.op = 6
      · obtain ⟨d, hd⟩ : ∃ d : Nat, i.dst = d := ⟨i.dst.toNat, by have := (HAC.out.ld g6).1; omega⟩
        have hdl : d < l.length := by have := (HAC.out.ld g6).2; omega
        have HZ : Hid (accF s c l i = setS s c l d (wordK (partL s.sk o2 n) n)) := by unfold Hid; rw [HACC.out, hAT]; simp only [g6, if_true, hd, Int.toNat_natCast]
        rw [g6] at z0
        have HD := hid' hd
        clear HACC hAT g6 hd
        go_wp2_with (go_at_call 70; refine h70.mono ?_; rintro e7 w7 ⟨v, rfl, hv, rfl⟩; obtain ⟨kb, cap, cap', rfl, hk, hlo⟩ := HA.out v hv; have q1 := fun W => Go.Lib.run_eql_slice_nil (P := Try.prog) W 59 5 (some ⟨kb, o2, none⟩) n cap' 0 0 Try.underlying59; simp only [Option.isNone_some] at q1)
        clear h70
        have HK := hid' hk
        have y1 : ∀ q : After w7, q.1.cell? ⟨b, o + 1, none⟩ = some (.int .i64 d) := fun q => by rw [← HD.out]; exact (F.out ⟨q.1, below_up HB6.out q.2⟩).1.2.1
        have K71 : ∀ q : After w7, Calls Try.prog 71 #[.slice (some ⟨kb, o2, none⟩) n cap'] q.1 fun e w' => e = .returned (.int .u32 (wordK (partL s.sk o2 n) n)) ∧ ∃ t' : After w7, w' = t'.1 := fun q => Calls.after q (by
          have hrow := (HR6.out.on q.2).rows.ks
          rw [HK.out] at hrow
          refine wordOf71 (partL_len hlo) hn4.2 (fun k hk2 => ?_) (fun k hk2 => ?_)
          · rw [partL_at hlo hk2]; exact HM.out.kb _ _
          · rw [partL_at hlo hk2, World.ownsRow.cellAt hrow _ (by rw [partL_len hlo] at hk2; omega), flat_by]
            rw [partL_len hlo] at hk2
            simp [show o2 + k < s.sk.length by omega])
        have hne2 := after_some w7
        clear q1 z0 hk
        generalize wordK (partL s.sk o2 n) n = wv at *
        refine region_after 7 mixed (by kernel_rfl) ?_
        simp only [List.take_succ_cons, List.take_zero, List.drop_succ_cons, List.drop_zero]
        repeat (first | go_big_quiet_step (with_reducible exact K71 _) | quiet_step (with_reducible exact K71 _))
        refine wpQuiet_nil ?_
        intro w8 hb8
        have HR8 := hid' (HR6.out.on hb8)
        clear y1 K71 hb8
        go_wp2_with (go_at_call 26; refine (set26 HR8.out HT.out hdl wv hl).mono ?_; rintro e9 w9 ⟨rfl, x9, hR9, hT9⟩)
        exact bodyPost_ret (v := .tuple #[]) (by simp [results, Try.results50]) rfl ⟨rfl, x9, _, by rw [HZ.out]; exact hR9, by rw [HZ.out]; exact hT9⟩
      · obtain ⟨hl2, ha1⟩ := HAC.out.st g6
        have g6' : (i.op == 6) = false := by simp [g6]
        obtain ⟨k1, e1⟩ : ∃ k1 : Nat, i.args[1]'(by omega) = k1 := ⟨(i.args.getD 1 0).toNat, by simp [show 1 < i.args.length by omega] at ha1 ⊢; omega⟩
        have q1' : arg i 1 = k1 := by simp [arg, show 1 < i.args.length by omega, e1]
        have hk1 : k1 < l.length := by simp [show 1 < i.args.length by omega, e1] at ha1; omega
        have HZ : Hid (accF s c l i = { s with sk := putL s.sk o2 (layL (getR l k1 c.no) n) }) := by unfold Hid; rw [HACC.out, hAT]; simp only [g6, if_false, q1']; rfl
        have y2 := (F.out ⟨w6, HB6.out⟩).1.2.2.1
        have ya1 := (F.out ⟨w6, HB6.out⟩).2.2.1 k1 ⟨by omega, e1⟩
        dsimp only at y2 ya1
        have h46 := get46 HR6.out HT.out hk1
        have hgv := HRG.out.get hk1 c.no
        have hl2i : (1 : Int) < i.args.length := by omega
        generalize getR l k1 c.no = gv at *
        clear HACC hAT e1 q1' ha1
        go_wp2_with (first
          | (go_at_call 72; refine h72.mono ?_; rintro e9 w9 ⟨rfl, rfl⟩)
          | (go_at_call 46; refine h46.mono ?_; rintro e8 w8 ⟨rfl, hb8⟩; have HR8 := hid' (HR6.out.on hb8); have h72 : Calls Try.prog 72 #[.slice (some ⟨kb, o2, none⟩) n cap', .int .u32 gv] w8 fun e w' => e = .returned (.tuple #[]) ∧ w' = w8.setCells kb o2 (flat bcel (layL gv n)) := (layWord72 hgv hn4.2 (fun k hk2 => by
              have hrow := HR8.out.rows.ks
              rw [HK.out] at hrow
              rw [World.ownsRow.cellAt hrow _ (by omega), flat_by]
              simp [show o2 + k < s.sk.length by omega]) (fun k => by
              have hrow := HR8.out.rows.ks
              rw [HK.out] at hrow
              exact World.ownsRow.frozenAt hrow k)))
          | (go_at_call 70; refine h70.mono ?_; rintro e7 w7 ⟨v, rfl, hv, rfl⟩; obtain ⟨kb, cap, cap', rfl, hk, hlo⟩ := HA.out v hv; have HK := hid' hk; have q1 := fun W => Go.Lib.run_eql_slice_nil (P := Try.prog) W 59 5 (some ⟨kb, o2, none⟩) n cap' 0 0 Try.underlying59; simp only [Option.isNone_some] at q1))
        go_end0
        exact ⟨rfl, x, l, by rw [HZ.out]; exact RunM.bytesK _ o2 _ s HR8.out HK.out, by rw [HZ.out]; exact HT.out.same rfl rfl⟩
end
end Go.Proofs.Ytiehlkhpblldaaa
