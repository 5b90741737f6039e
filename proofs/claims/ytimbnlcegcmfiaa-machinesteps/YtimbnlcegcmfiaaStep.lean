/- A step of the program's machine. -/
import Derived.Test.YtimbnlcegcmfiaaPlain
import Derived.Test.YtimbnlcegcmfiaaPut
import Derived.Test.YtimbnlcegcmfiaaFetch
import Derived.Test.YtimbnlcegcmfiaaSto
import Derived.Test.YtimbnlcegcmfiaaLoadF
import Derived.Test.YtimbnlcegcmfiaaLoadO
namespace Go.Proofs.Ytimbnlcegcmfiaa
open Go.RowKit
set_option linter.unusedVariables false
section
variable {w : World} {N p q r : Nat} {sl : Value} {s : St}

/-- What value answers is valF. -/
theorem gives (h : IsM w N p q r sl s) (hO : Ok s) (op : Int) (d a b : Nat) (i : Int) (K : Known op d a b i) (ho : op ≤ 36) : Gives w p op d a b i (valF s op d a b i).1 (valF s op d a b i).2 := by
  have hd : d < 16 := by have := K.d1; omega
  have ha : a < 16 := by have := K.a1; omega
  have hb : b < 16 := by have := K.b1; omega
  have A0 := adr_lo s a i
  have A1 := adr_hi s a i
  have hA : adr s a i = ((adr s a i).toNat : Int) := by omega
  by_cases h1 : op = 32
  · subst h1
    exact value_addi h d b i a ha
  by_cases h2 : op = 33
  · subst h2
    exact value_low d a b i _ w
  by_cases h3 : op = 34
  · subst h3
    exact value_high h hO a b i d hd
  by_cases h4 : op = 35
  · subst h4
    have e : valF s 35 d a b i = ld4 s.mem (adr s a i).toNat := by simp [valF]
    rw [e]
    unfold ld4
    by_cases hk : (adr s a i).toNat % 4 = 0 ∧ (adr s a i).toNat + 4 ≤ 262144
    · rw [if_pos hk]
      exact value_load4_yes h d b i a ha _ hA hk
    · rw [if_neg hk]
      exact value_load4_no h d b i a ha _ hA (by omega) hk
  by_cases h5 : op = 36
  · subst h5
    have e : valF s 36 d a b i = ld1 s.mem (adr s a i).toNat := by simp [valF]
    rw [e]
    unfold ld1
    by_cases hk : (adr s a i).toNat < 262144
    · rw [if_pos hk]
      exact value_load1_yes h d b i a ha _ hA hk
    · rw [if_neg hk]
      exact value_load1_no h d b i a ha _ hA (by omega) hk
  have e : valF s op d a b i = (aluV op (s.reg a) (s.reg b), aluT op (s.reg b)) := by simp [valF, h1, h2, h3, h4, h5]
  rw [e]
  exact value_alu h hO op d i a b ha hb (by have := K.gap; omega)

theorem does_all (h : IsM w N p q r sl s) (hO : Ok s) (hl : s.out.length ≤ 1000000) (op : Int) (d a b : Nat) (i : Int) (K : Known op d a b i) : Does w N p q r sl op d a b i (doF s op d a b i) := by
  have hd : d < 16 := by have := K.d1; omega
  have ha : a < 16 := by have := K.a1; omega
  have hb : b < 16 := by have := K.b1; omega
  have A0 := adr_lo s a i
  have A1 := adr_hi s a i
  have hA : adr s a i = ((adr s a i).toNat : Int) := by omega
  by_cases h1 : op = 37 ∨ op = 38
  · have e : doF s op d a b i = if (stF s op d a i).2 = 0 then { (stF s op d a i).1 with pc := s.pc + 4 } else trapS s (stF s op d a i).2 := by unfold doF; rw [if_pos h1]
    rw [e]
    unfold stF
    by_cases hk : stOk op (adr s a i).toNat = true
    · rw [if_pos hk, if_pos rfl]
      refine do_store_ok h hO op d a b i h1 (fun o => ?_)
      rcases h1 with rfl | rfl
      · have hk' : (adr s a i).toNat % 4 = 0 ∧ (adr s a i).toNat + 4 ≤ 262144 := by simpa [stOk] using hk
        exact store_four_yes (h.alloc o) hO b i d a hd ha _ hA hk'
      · have hk' : (adr s a i).toNat < 262144 := by simpa [stOk] using hk
        exact store_one_yes (h.alloc o) hO b i d a hd ha _ hA hk'
    · have h5 : ¬ (5 : Int) = 0 := by decide
      rw [if_neg hk, if_neg h5]
      refine do_store_trap h hO h5 op d a b i h1 (fun o => ?_)
      rcases h1 with rfl | rfl
      · have hk' : ¬ ((adr s a i).toNat % 4 = 0 ∧ (adr s a i).toNat + 4 ≤ 262144) := by simpa [stOk] using hk
        exact store_four_no (h.alloc o) b i d a hd ha _ hA (by omega) hk'
      · have hk' : ¬ (adr s a i).toNat < 262144 := by simpa [stOk] using hk
        exact store_one_no (h.alloc o) b i d a hd ha _ hA (by omega) hk'
  by_cases h2 : op = 39 ∨ op = 40 ∨ op = 41 ∨ op = 43
  · have e : doF s op d a b i = { s with pc := brF s op a i } := by unfold doF; rw [if_neg h1, if_pos h2]
    rw [e]
    exact do_branch h hO op d b i a ha h2 K.i0 K.i1
  by_cases h3 : op = 42
  · have e : doF s op d a b i = { s with reg := upd s.reg 14 ((s.pc + 4) % 4294967296), pc := brF s op a i } := by unfold doF; rw [if_neg h1, if_neg h2, if_pos h3]
    rw [e]
    subst h3
    exact do_call h hO d b i a ha K.i0 K.i1
  by_cases h4 : op = 45
  · have e : doF s op d a b i = { s with out := s.out ++ [by8 (s.reg a)], pc := s.pc + 4 } := by unfold doF; rw [if_neg h1, if_neg h2, if_neg h3, if_pos h4]
    rw [e]
    subst h4
    exact do_put h hO hl d b i a ha
  by_cases h5 : op = 46
  · have e : doF s op d a b i = trapS s i := by unfold doF; rw [if_neg h1, if_neg h2, if_neg h3, if_neg h4, if_pos h5]
    rw [e]
    have hi := K.trap h5
    subst h5
    exact do_trap h hO d a b i hi.1 hi.2
  by_cases h6 : op = 47
  · have e : doF s op d a b i = { s with kind := 1, exit := wrap32 (s.reg a) } := by unfold doF; rw [if_neg h1, if_neg h2, if_neg h3, if_neg h4, if_neg h5, if_pos h6]
    rw [e]
    subst h6
    exact do_halt h hO d b i a ha
  have ho : op ≤ 36 ∨ op = 44 := by have := K.o1; omega
  have e : doF s op d a b i = if (giF s op d a b i).2 = 0 then { (giF s op d a b i).1 with pc := s.pc + 4 } else trapS s (giF s op d a b i).2 := by unfold doF; rw [if_neg h1, if_neg h2, if_neg h3, if_neg h4, if_neg h5, if_neg h6]
  rw [e]
  unfold giF
  by_cases h7 : op = 44
  · rw [if_pos h7, if_pos rfl]
    subst h7
    refine do_give_ok h hO 44 d a b i (.inr rfl) (fun o => ?_)
    by_cases hu : s.used < s.input.size
    · have e1 : getV s = (s.input[s.used].toNat : Int) := by unfold getV; rw [dif_pos hu]
      have e2 : getS s = { s with used := s.used + 1 } := by unfold getS; rw [if_pos hu]
      rw [e1, e2]
      exact give51_get (h.alloc o) hO b i a d hd hu
    · have hu2 : s.used = s.input.size := by have := hO.used; omega
      have e1 : getV s = 4294967295 := by unfold getV; rw [dif_neg hu]
      have e2 : getS s = s := by unfold getS; rw [if_neg hu]
      rw [e1, e2]
      exact give51_val (h.alloc o) 44 b i a 4294967295 d hd (fun o' => value_get_end ((h.alloc o).alloc o') d a b i hu2)
  · rw [if_neg h7]
    have h36 : op ≤ 36 := by omega
    by_cases hz : (valF s op d a b i).2 = 0
    · rw [if_pos hz, if_pos rfl]
      refine do_give_ok h hO op d a b i ho (fun o => ?_)
      refine give51_val (h.alloc o) op b i a _ d hd (fun o' => ?_)
      have := gives ((h.alloc o).alloc o') hO op d a b i K h36
      rwa [hz] at this
    · rw [if_neg hz, if_neg hz]
      refine do_give_trap h hO hz op d a b i ho (fun o => ?_)
      exact give51_trap (h.alloc o) op b i a d _ _ hz (fun o' => gives ((h.alloc o).alloc o') hO op d a b i K h36)

/-- Is there an instruction at the place? -/
def fetchB (s : St) : Bool := placeB s.code s.pc && uOk (codeWord s.code s.pc.toNat)
/-- The word at the place. -/
def wordU (s : St) : Int := codeWord s.code s.pc.toNat
/-- A step. -/
def stepF (s : St) : St :=
  if s.kind = 3 then (if fetchB s = true then doF s (uOp (wordU s)) (uD (wordU s)).toNat (uA (wordU s)).toNat (uB (wordU s)).toNat (uI (wordU s)) else trapS s 4) else s

theorem place_bounds {c : ByteArray} {k : Int} (h : placeB c k = true) : 0 ≤ k ∧ k < c.size ∧ k % 4 = 0 := by
  unfold placeB at h
  simp at h
  omega

theorem knownN {u : Int} (h : uOk u = true) : Known (uOp u) ((uD u).toNat : Int) ((uA u).toNat : Int) ((uB u).toNat : Int) (uI u) ∧ uD u = ((uD u).toNat : Int) ∧ uA u = ((uA u).toNat : Int) ∧ uB u = ((uB u).toNat : Int) := by
  have K := known u h
  have e1 : uD u = ((uD u).toNat : Int) := by have := K.d0; omega
  have e2 : uA u = ((uA u).toNat : Int) := by have := K.a0; omega
  have e3 : uB u = ((uB u).toNat : Int) := by have := K.b0; omega
  rw [← e1, ← e2, ← e3]
  exact ⟨K, rfl, rfl, rfl⟩

theorem stepF_ok (hO : Ok s) : Ok (stepF s) := by
  unfold stepF
  by_cases hk : s.kind = 3
  · rw [if_pos hk]
    by_cases hf : fetchB s = true
    · rw [if_pos hf]
      unfold fetchB at hf
      simp only [Bool.and_eq_true] at hf
      obtain ⟨b0, b1, _⟩ := place_bounds hf.1
      have := hO.csize
      exact doF_ok hO _ _ _ _ _ (knownN hf.2).1 b0 (by omega)
    · rw [if_neg hf]
      exact hO.trap _
  · rw [if_neg hk]
    exact hO

/-- What Step leaves. -/
def Steps (w : World) (N p q r : Nat) (sl : Value) (b : Bool) (s' : St) : Prop :=
  Calls Try.prog 17 #[.pointer (some ⟨p, 0, none⟩)] w fun e w' => e = .returned (.bool b) ∧ ∃ sl', IsM w' N p q r sl' s' ∧ Kept (Mine p r sl) w w' ∧ (sl'.ownBlock = sl.ownBlock ∨ ∀ k, sl'.ownBlock = some k → w.heap.size ≤ k)

theorem step17_over (h : IsM w N p q r sl s) (hk : ¬ s.kind = 3) : Steps w N p q r sl false s := by
  have hc := h.c21
  have hk' : (s.kind != 3) = true := by simp [hk]
  unfold Steps
  go_enter Try.func17, Try.ntmps17
  go_wp2
  go_ret
  exact ⟨rfl, sl, h, Kept.rfl _ _, .inl rfl⟩

theorem step17_trap (h : IsM w N p q r sl s) (hk : s.kind = 3) (hv : Calls Try.prog 32 #[.pointer (some ⟨p, 0, none⟩)] w fun e w' => e = .returned (.tuple #[.agg #[.int .i64 0, .int .i64 0, .int .i64 0, .int .i64 0, .int .i32 0], .int .i64 1]) ∧ Below w.heap.size w w') :
    Steps w N p q r sl true (trapS s 4) := by
  have hc := h.c21
  rw [hk] at hc
  unfold Steps
  go_enter Try.func17, Try.ntmps17
  go_wp2_with (first
    | (go_at_call 32; refine hv.mono ?_; rintro e w1 ⟨rfl, hb1⟩)
    | (go_at_call 33; refine (trap33 ((h.below hb1).alloc _) 4).mono ?_; rintro e w2 ⟨rfl, hM2, hK2⟩))
  go_ret
  exact ⟨rfl, sl, hM2, (Kept.of_below hb1).trans (kept_box hK2), .inl rfl⟩

theorem own_later {a b : Nat} {v v' : Value} (h : v'.ownBlock = v.ownBlock ∨ ∀ k, v'.ownBlock = some k → a ≤ k) (hab : b ≤ a) : v'.ownBlock = v.ownBlock ∨ ∀ k, v'.ownBlock = some k → b ≤ k := by
  rcases h with h | h
  · exact .inl h
  · exact .inr fun k hk => Nat.le_trans hab (h k hk)

theorem step17_do {op d a b i : Int} {s' : St} (h : IsM w N p q r sl s) (hk : s.kind = 3) (hv : Calls Try.prog 32 #[.pointer (some ⟨p, 0, none⟩)] w fun e w' => e = .returned (.tuple #[.agg #[.int .i64 op, .int .i64 d, .int .i64 a, .int .i64 b, .int .i32 i], .int .i64 0]) ∧ Below w.heap.size w w')
    (hd : ∀ w', IsM w' N p q r sl s → Does w' N p q r sl op d a b i s') : Steps w N p q r sl true s' := by
  have hc := h.c21
  rw [hk] at hc
  unfold Does at hd
  unfold Steps
  go_enter Try.func17, Try.ntmps17
  go_wp2_with (first
    | (go_at_call 32; refine hv.mono ?_; rintro e w1 ⟨rfl, hb1⟩; have hM1 := h.below hb1)
    | (go_at_call 34; refine (hd _ (hM1.alloc _)).mono ?_; rintro e w2 ⟨rfl, sl', hM2, hK2, hB2⟩))
  go_ret
  exact ⟨rfl, sl', hM2, (Kept.of_below hb1).trans (kept_box hK2), own_later hB2 (by have := hb1.size; simp; omega)⟩

theorem step17 (h : IsM w N p q r sl s) (hO : Ok s) (hl : s.out.length ≤ 1000000) : Steps w N p q r sl (decide (s.kind = 3)) (stepF s) := by
  unfold stepF
  by_cases hk : s.kind = 3
  · rw [if_pos hk, decide_eq_true hk]
    by_cases hp : placeB s.code s.pc = true
    · obtain ⟨b0, b1, b2⟩ := place_bounds hp
      have hkn : s.pc = (s.pc.toNat : Int) := by omega
      have hl4 : s.pc.toNat + 4 ≤ s.code.size := by have := hO.c4; omega
      by_cases hu : uOk (codeWord s.code s.pc.toNat) = true
      · have hf : fetchB s = true := by unfold fetchB; rw [hp, hu]; rfl
        rw [if_pos hf]
        obtain ⟨K, e1, e2, e3⟩ := knownN hu
        have hv := fetch32_yes h hO s.pc.toNat hkn hp hl4 hu
        rw [e1, e2, e3] at hv
        exact step17_do h hk hv (fun w' h' => does_all h' hO hl _ _ _ _ _ K)
      · have hu' : uOk (codeWord s.code s.pc.toNat) = false := by simpa using hu
        have hf : ¬ fetchB s = true := by unfold fetchB; rw [hp, hu']; simp
        rw [if_neg hf]
        exact step17_trap h hk (fetch32_no h hO s.pc.toNat hkn hp hl4 hu')
    · have hp' : placeB s.code s.pc = false := by simpa using hp
      have hf : ¬ fetchB s = true := by unfold fetchB; rw [hp']; simp
      rw [if_neg hf]
      exact step17_trap h hk (fetch32_none h hp')
  · rw [if_neg hk, decide_eq_false hk]
    exact step17_over h hk
end
end Go.Proofs.Ytimbnlcegcmfiaa
