/- Any image step by step: both machines side by side. -/
import Derived.Test.YtimbnlcegcmfiaaRStepW
import Derived.Test.YtimbnlcegcmfiaaRNewW
import Derived.Test.YtimbnlcegcmfiaaAwake
import Derived.Deep.Quiet
import Derived.StillTail
import Derived.Below
import Derived.Deep.QuietTactic
import Derived.BigQuiet
namespace Go.Proofs.Ytimbnlcegcmfiaa
open Go.RowKit
set_option linter.unusedVariables false

section
variable {w w' : World} {m : Im} {N p q r : Nat} {sl : Value} {s : St}

theorem ended14_not (h : IsM w N p q r sl s) (hk : s.kind = 3) : Calls Try.prog 14 #[.pointer (some ⟨p, 0, none⟩)] w fun e w' => e = .returned (.bool false) ∧ w' = w := by
  have hc := h.c21
  rw [hk] at hc
  go_enter Try.func14, Try.ntmps14
  go_wp2
  go_ret
  exact ⟨rfl, rfl⟩
theorem ended14_yes (h : IsM w N p q r sl s) (hk : s.kind = 1 ∨ s.kind = 2) : Calls Try.prog 14 #[.pointer (some ⟨p, 0, none⟩)] w fun e w' => e = .returned (.bool true) ∧ w' = w := by
  have hc := h.c21
  rcases hk with hk | hk
  all_goals
    rw [hk] at hc
    go_enter Try.func14, Try.ntmps14
    go_wp2
    go_ret
    exact ⟨rfl, rfl⟩
/-- Has it ended, or not yet? -/
def KindOk (s : St) : Prop := s.kind = 3 ∨ s.kind = 1 ∨ s.kind = 2
theorem ended14 (h : IsM w N p q r sl s) (hk : KindOk s) : Calls Try.prog 14 #[.pointer (some ⟨p, 0, none⟩)] w fun e w' => e = .returned (.bool (!decide (s.kind = 3))) ∧ w' = w := by
  by_cases h3 : s.kind = 3
  · rw [decide_eq_true h3]
    exact ended14_not h h3
  · rw [decide_eq_false h3]
    exact ended14_yes h (hk.resolve_left h3)
theorem pc15 (h : IsM w N p q r sl s) : Calls Try.prog 15 #[.pointer (some ⟨p, 0, none⟩)] w fun e w' => e = .returned (.int .i64 s.pc) ∧ w' = w := by
  have hc := h.c2
  go_enter Try.func15, Try.ntmps15
  go_wp2
  go_ret
  exact ⟨rfl, rfl⟩
theorem reg16_off (i : Int) (hi : i < 0 ∨ 16 ≤ i) (w : World) (p : Nat) : Calls Try.prog 16 #[.pointer (some ⟨p, 0, none⟩), .int .i64 i] w fun e w' => e = .returned (.int .u32 0) ∧ w' = w := by
  by_cases h1 : i < 0
  · clear hi
    go_enter Try.func16, Try.ntmps16
    go_wp2
    go_ret
    exact ⟨rfl, rfl⟩
  · have h2 : 16 ≤ i := by omega
    clear hi
    go_enter Try.func16, Try.ntmps16
    go_wp2
    go_ret
    exact ⟨rfl, rfl⟩

theorem doF_kind (hk : s.kind = 3) (op : Int) (d a b : Nat) (i : Int) : KindOk (doF s op d a b i) := by
  have h1 : (stF s op d a i).1.kind = 3 := by unfold stF; split <;> exact hk
  have h2 : (getS s).kind = 3 := by unfold getS; split <;> exact hk
  have h3 : (giF s op d a b i).1.kind = 3 := by
    unfold giF
    split
    · exact h2
    · split <;> exact hk
  generalize hs : stF s op d a i = ps at h1
  generalize hg : giF s op d a b i = pg at h3
  unfold doF
  rw [hs, hg]
  repeat' split
  all_goals first
    | exact .inl h1
    | exact .inl h3
    | exact .inl hk
    | exact .inr (.inr rfl)
    | exact .inr (.inl rfl)
theorem stepF_kind (h : KindOk s) : KindOk (stepF s) := by
  unfold stepF
  by_cases hk : s.kind = 3
  · rw [if_pos hk]
    split
    · exact doF_kind hk _ _ _ _ _
    · exact .inr (.inr rfl)
  · rw [if_neg hk]
    exact h
theorem stepN_kind (h : KindOk s) : ∀ n, KindOk (stepN n s)
  | 0 => h
  | n + 1 => stepF_kind (stepN_kind h n)

/-- A memory of all the bytes of another one. -/
theorem filled26_all (d : ByteArray) (hd : d.size ≤ 262144) (w : World) :
    Calls Try.prog 26 #[.string d] w fun e w' => e = .returned (.tuple #[.pointer (some ⟨w.heap.size + 1, 0, none⟩), .int .i64 0]) ∧ IsMem w' 92 (w.heap.size + 1) w.heap.size 262144 (lay (fun _ => 0) 0 d.data.toList) ∧ Below w.heap.size w w' := by
  have hN := new18_yes 262144 (by omega) (by omega) w
  have hI := newW_is w 92 262144 (by omega) (by omega)
  have hf := fill_yes (a := 0) (s := d) hI (by omega)
  go_enter Try.func26, Try.ntmps26
  go_wp2_with (first
    | (go_at_call 44; refine hN.mono ?_; rintro e w1 ⟨rfl, rfl⟩)
    | (go_at_call 45; refine hf.mono ?_; rintro e w2 ⟨rfl, hM2, hO2⟩))
  go_ret2
  refine ⟨rfl, hM2, (newW_below w 92 262144).trans ?_⟩
  exact ⟨hO2.os, hO2.tape, hO2.output, hO2.size, fun k hk => hO2.block k (by rw [newW_size]; omega) (by simp; omega)⟩

theorem bstr_data (g : Nat → UInt8) (a k : Nat) : (bstr g a k).data.toList = (List.range k).map fun i => g (a + i) := by
  unfold bstr strOfNums
  simp [Function.comp_def]
theorem bstr_size (g : Nat → UInt8) (a k : Nat) : (bstr g a k).size = k := by
  have := congrArg List.length (bstr_data g a k)
  simpa using this
theorem bstr_twin (g : Nat → UInt8) (n : Nat) : bstr (lay (fun _ => 0) 0 (bstr g 0 n).data.toList) 0 n = bstr g 0 n := by
  apply ByteArray.ext
  apply Array.ext'
  rw [bstr_data, bstr_data]
  apply List.map_congr_left
  intro i hi
  have hi' : i < n := by simpa using hi
  unfold lay
  simp [hi']

/-- The twin of the machine's memory. -/
theorem memory19 (h : IsM w N p q r sl s) : Calls Try.prog 19 #[.pointer (some ⟨p, 0, none⟩)] w fun e w' => ∃ tp tr, e = .returned (.pointer (some ⟨tp, 0, none⟩)) ∧ IsMem w' 92 tp tr 262144 (lay (fun _ => 0) 0 (bstr s.mem 0 262144).data.toList) ∧ Below w.heap.size w w' := by
  have hc := h.c19
  have hby := bytes_yes (a := 0) (k := 262144) h.mem (by omega)
  go_enter Try.func19, Try.ntmps19
  go_wp2_with (first
    | (go_at_call 20; refine hby.mono ?_; rintro e w1 ⟨rfl, hw⟩; have hv := hw.symm; clear hw; subst hv)
    | (go_at_call 26; refine (filled26_all _ (by rw [bstr_size]; omega) _).mono ?_; rintro e w2 ⟨rfl, hM2, hb2⟩))
  go_ret
  exact ⟨_, _, rfl, hM2, hb2⟩
end

/-- Both machines, in one state. -/
structure Pair (w : World) (m : Im) (N p q r p' q' r' : Nat) (s : St) : Prop where
  out : ∃ sl sl', IsM w N p q r sl s ∧ IsR w m N p' q' r' sl' s ∧ (∀ k, sl.ownBlock = some k → sl'.ownBlock ≠ some k)

/-- Their blocks are apart. -/
structure Apart (p q r p' q' r' : Nat) : Prop where
  pp : p ≠ p'
  pq : p ≠ q'
  pr : p ≠ r'
  qp : q ≠ p'
  qr : q ≠ r'
  rp : r ≠ p'
  rq : r ≠ q'
  rr : r ≠ r'

/-- The program's machine turns: the document's stays. -/
theorem stays_r {w w1 : World} {m : Im} {N p q r p' q' r' : Nat} {sl sl' sl1 : Value} {s : St} (A : Apart p q r p' q' r') (hM : IsM w N p q r sl s) (hR : IsR w m N p' q' r' sl' s) (hD : ∀ k, sl.ownBlock = some k → sl'.ownBlock ≠ some k)
    (hK : Kept (Mine p r sl) w w1) (hB : sl1.ownBlock = sl.ownBlock ∨ ∀ k, sl1.ownBlock = some k → w.heap.size ≤ k) : IsR w1 m N p' q' r' sl' s ∧ (∀ k, sl1.ownBlock = some k → sl'.ownBlock ≠ some k) := by
  have ob : ∀ k, k < N → sl.ownBlock ≠ some k := fun k hk e => by have := (hM.own.lt k e).1; omega
  refine ⟨hR.keep hK ?_ ?_ ?_ ?_, ?_⟩
  · rintro (e | e | e)
    · exact A.pp e.symm
    · exact A.rp e.symm
    · exact ob p' hR.hp e
  · rintro (e | e | e)
    · exact A.pq e.symm
    · exact A.rq e.symm
    · exact ob q' hR.hq e
  · rintro (e | e | e)
    · exact A.pr e.symm
    · exact A.rr e.symm
    · exact ob r' hR.hr e
  · rintro o ho (e | e | e)
    · have := (hR.own.lt o ho).1; have := hM.hp; omega
    · have := (hR.own.lt o ho).1; have := hM.hr; omega
    · exact hD o e ho
  · intro k hk e
    rcases hB with hB | hB
    · exact hD k (by rw [← hB]; exact hk) e
    · have := hB k hk
      have := (hR.own.lt k e).2
      omega

/-- The document's machine turns: the program's stays. -/
theorem stays_m {w w1 : World} {m : Im} {N p q r p' q' r' : Nat} {sl sl' sl1 : Value} {s s' : St} (A : Apart p q r p' q' r') (hM : IsM w N p q r sl s') (hR : IsR w m N p' q' r' sl' s) (hD : ∀ k, sl.ownBlock = some k → sl'.ownBlock ≠ some k)
    (hK : Kept (Mine p' r' sl') w w1) (hB : sl1.ownBlock = sl'.ownBlock ∨ ∀ k, sl1.ownBlock = some k → w.heap.size ≤ k) : IsM w1 N p q r sl s' ∧ (∀ k, sl.ownBlock = some k → sl1.ownBlock ≠ some k) := by
  have ob : ∀ k, k < N → sl'.ownBlock ≠ some k := fun k hk e => by have := (hR.own.lt k e).1; omega
  refine ⟨hM.keep hK ?_ ?_ ?_ ?_, ?_⟩
  · rintro (e | e | e)
    · exact A.pp e
    · exact A.pr e
    · exact ob p hM.hp e
  · rintro (e | e | e)
    · exact A.qp e
    · exact A.qr e
    · exact ob q hM.hq e
  · rintro (e | e | e)
    · exact A.rp e
    · exact A.rr e
    · exact ob r hM.hr e
  · rintro o ho (e | e | e)
    · have := (hM.own.lt o ho).1; have := hR.hp; omega
    · have := (hM.own.lt o ho).1; have := hR.hr; omega
    · exact hD o ho e
  · intro k hk e
    rcases hB with hB | hB
    · exact hD k hk (by rw [← hB]; exact e)
    · have := hB k e
      have := (hM.own.lt k hk).2
      omega
end Go.Proofs.Ytimbnlcegcmfiaa

namespace Go.Proofs.Ytimbnlcegcmfiaa
open Go.RowKit
set_option linter.unusedVariables false

/-- Where both machines lie. -/
structure Places where
  N : Nat
  p : Nat
  q : Nat
  r : Nat
  p' : Nat
  q' : Nat
  r' : Nat

/-- They lie apart, and in new memory. -/
structure Lie (B : Nat) (L : Places) : Prop where
  apart : Apart L.p L.q L.r L.p' L.q' L.r'
  hp : B ≤ L.p
  hr : B ≤ L.r
  hp' : B ≤ L.p'
  hr' : B ≤ L.r'
  hN : B ≤ L.N

/-- The program's machine in a state, the document's in another one; all that had been there is as it was. -/
def Half (w0 : World) (m : Im) (L : Places) (s s' : St) (w : World) : Prop :=
  ∃ sl sl', IsM w L.N L.p L.q L.r sl s ∧ IsR w m L.N L.p' L.q' L.r' sl' s' ∧ (∀ k, sl.ownBlock = some k → sl'.ownBlock ≠ some k) ∧ Below w0.heap.size w0 w

section
variable {w0 w w' : World} {m : Im} {L : Places} {s s' : St}
theorem Half.below (h : Half w0 m L s s' w) (hb : Below w.heap.size w w') : Half w0 m L s s' w' := by
  obtain ⟨sl, sl', hM, hR, hD, hB⟩ := h
  exact ⟨sl, sl', hM.below hb, hR.below hb, hD, hB.trans (hb.mono hB.size)⟩
theorem Half.drewN (h : Half w0 m L s s' w) (n : Nat) : Half w0 m L s s' (w.drewN n) := h.below (below_drewN w n)
theorem Half.out (h : Half w0 m L s s' w) : Below w0.heap.size w0 w := by
  obtain ⟨sl, sl', hM, hR, hD, hB⟩ := h
  exact hB
theorem Half.c23 (h : Half w0 m L s s' w) : w.cell? ⟨L.p', 23, none⟩ = some (.int .i64 s'.pc) := by
  obtain ⟨sl, sl', hM, hR, hD, hB⟩ := h
  exact hR.c23
theorem Half.c24 (h : Half w0 m L s s' w) : w.cell? ⟨L.p', 24, none⟩ = some (.bool (!decide (s'.kind = 3))) := by
  obtain ⟨sl, sl', hM, hR, hD, hB⟩ := h
  exact hR.c24
theorem Half.c6 (h : Half w0 m L s s' w) : w.cell? ⟨L.p', 6, none⟩ = some (.pointer (some ⟨L.q', 0, none⟩)) := by
  obtain ⟨sl, sl', hM, hR, hD, hB⟩ := h
  exact hR.c6
theorem Half.reg (h : Half w0 m L s s' w) (k : Nat) (hk : k < 16) : w.cell? ⟨L.p', 7 + k, none⟩ = some (.int .u32 (s'.reg k)) := by
  obtain ⟨sl, sl', hM, hR, hD, hB⟩ := h
  exact hR.reg k hk
theorem Half.plt (h : Half w0 m L s s' w) : L.p' < w.heap.size := by
  obtain ⟨sl, sl', hM, hR, hD, hB⟩ := h
  exact hR.plt
theorem Half.ended14 (h : Half w0 m L s s' w) (hk : KindOk s) : Calls Try.prog 14 #[.pointer (some ⟨L.p, 0, none⟩)] w fun e w' => e = .returned (.bool (!decide (s.kind = 3))) ∧ w' = w := by
  obtain ⟨sl, sl', hM, hR, hD, hB⟩ := h
  exact Ytimbnlcegcmfiaa.ended14 hM hk
theorem Half.pc15 (h : Half w0 m L s s' w) : Calls Try.prog 15 #[.pointer (some ⟨L.p, 0, none⟩)] w fun e w' => e = .returned (.int .i64 s.pc) ∧ w' = w := by
  obtain ⟨sl, sl', hM, hR, hD, hB⟩ := h
  exact Ytimbnlcegcmfiaa.pc15 hM
theorem Half.reg16 (h : Half w0 m L s s' w) (k : Nat) (hk : k < 16) : Calls Try.prog 16 #[.pointer (some ⟨L.p, 0, none⟩), .int .i64 (k : Int)] w fun e w' => e = .returned (.int .u32 (s.reg k)) ∧ w' = w := by
  obtain ⟨sl, sl', hM, hR, hD, hB⟩ := h
  exact reg16_in hM k hk
theorem Half.memory19 (h : Half w0 m L s s' w) : Calls Try.prog 19 #[.pointer (some ⟨L.p, 0, none⟩)] w fun e w' => ∃ tp tr, e = .returned (.pointer (some ⟨tp, 0, none⟩)) ∧ IsMem w' 92 tp tr 262144 (lay (fun _ => 0) 0 (bstr s.mem 0 262144).data.toList) ∧ Below w.heap.size w w' := by
  obtain ⟨sl, sl', hM, hR, hD, hB⟩ := h
  exact Ytimbnlcegcmfiaa.memory19 hM
theorem Half.end21 (h : Half w0 m L s s' w) : Calls Try.prog 21 #[.pointer (some ⟨L.p, 0, none⟩)] w fun e w' => e = .returned (endV s) ∧ Below w.heap.size w w' := by
  obtain ⟨sl, sl', hM, hR, hD, hB⟩ := h
  exact Ytimbnlcegcmfiaa.end21 hM
theorem Half.rend22 (h : Half w0 m L s s' w) : Calls Try.prog 22 #[.pointer (some ⟨L.p', 0, none⟩)] w fun e w' => e = .returned (endV s') ∧ Below w.heap.size w w' := by
  obtain ⟨sl, sl', hM, hR, hD, hB⟩ := h
  exact Ytimbnlcegcmfiaa.rend22 hR
theorem mine_at {B N p q r : Nat} {sl : Value} {s : St} {w : World} (h : IsM w N p q r sl s) (hp : B ≤ p) (hr : B ≤ r) (hN : B ≤ N) : ∀ k, Mine p r sl k → B ≤ k := by
  rintro k (rfl | rfl | e)
  · exact hp
  · exact hr
  · exact Nat.le_trans hN (h.own.lt k e).1
theorem rmine_at {B N p q r : Nat} {m : Im} {sl : Value} {s : St} {w : World} (h : IsR w m N p q r sl s) (hp : B ≤ p) (hr : B ≤ r) (hN : B ≤ N) : ∀ k, Mine p r sl k → B ≤ k := by
  rintro k (rfl | rfl | e)
  · exact hp
  · exact hr
  · exact Nat.le_trans hN (h.own.lt k e).1
theorem Half.step17 (h : Half w0 m L s s w) (hL : Lie w0.heap.size L) (hO : Ok s) (hl : s.out.length ≤ 1000000) :
    Calls Try.prog 17 #[.pointer (some ⟨L.p, 0, none⟩)] w fun e w' => e = .returned (.bool (decide (s.kind = 3))) ∧ Half w0 m L (stepF s) s w' := by
  obtain ⟨sl, sl', hM, hR, hD, hB⟩ := h
  refine (Ytimbnlcegcmfiaa.step17 hM hO hl).mono ?_
  rintro e w' ⟨he, sl1, hM1, hK, hO1⟩
  obtain ⟨hR1, hD1⟩ := stays_r hL.apart hM hR hD hK hO1
  exact ⟨he, sl1, sl', hM1, hR1, hD1, hB.trans (hK.below hB.size (mine_at hM hL.hp hL.hr hL.hN))⟩
theorem Half.rstep18 (h : Half w0 m L s' s w) (hL : Lie w0.heap.size L) (hO : Ok s) (hl : s.out.length ≤ 1000000) :
    Calls Try.prog 18 #[.pointer (some ⟨L.p', 0, none⟩)] w fun e w' => e = .returned (.bool (decide (s.kind = 3))) ∧ Half w0 m L s' (stepF s) w' := by
  obtain ⟨sl, sl', hM, hR, hD, hB⟩ := h
  refine (Ytimbnlcegcmfiaa.rstep18 hR hO hl).mono ?_
  rintro e w' ⟨he, sl1, hR1, hK, hO1⟩
  obtain ⟨hM1, hD1⟩ := stays_m hL.apart hM hR hD hK hO1
  exact ⟨he, sl, sl1, hM1, hR1, hD1, hB.trans (hK.below hB.size (rmine_at hR hL.hp' hL.hr' hL.hN))⟩

theorem Half.q0 (h : Half w0 m L s s' w) : w.cell? ⟨L.q', 0, none⟩ = some (.slice (some ⟨L.r', 0, none⟩) 262144 262144) := by
  obtain ⟨sl, sl', hM, hR, hD, hB⟩ := h
  exact hR.mem.cell
/-- The document's memory as a string. -/
theorem Half.conv (h : Half w0 m L s s' w) : (convert 39 9 (.slice (some ⟨L.r', 0, none⟩) 262144 262144)).run Try.prog w = .ok (.string (bstr s'.mem 0 262144)) w := by
  obtain ⟨sl, sl', hM, hR, hD, hB⟩ := h
  exact hR.mem.conv 0 262144 262144 (by omega)

theorem own_rebase {w : World} {N N' n : Nat} {xs : List Value} (h : w.ownsRow N 5 1 (.slice none 0 0) n xs) : w.ownsRow N' 5 1 (.slice none 0 0) n xs := by
  obtain ⟨hl, h' | ⟨g, cap, cur, hv, _⟩⟩ := h
  · exact ⟨hl, .inl h'⟩
  · cases hv
/-- Both machines are new. -/
theorem half_new {w1 w2 wa wb : World} {p p' : Nat} (hw : Below w.heap.size w wa) (h1 : Made wa w1 p s) (hb : Below w1.heap.size w1 wb) (h2 : RMade wb w2 m p' s) (hs : w1.heap.size ≤ wb.heap.size) :
    ∃ L : Places, L.p = p ∧ L.p' = p' ∧ Lie w.heap.size L ∧ Half w m L s s w2 := by
  obtain ⟨q, r, hM, hp, hq, hr, hb1⟩ := h1
  obtain ⟨q', r', hR, hp', hq', hr', hb2⟩ := h2
  have e := hw.size
  have e1 := hb1.size
  have e2 := hb2.size
  have l1 := hM.hp
  have l2 := hM.hq
  have l3 := hM.hr
  have A : Apart p q r p' q' r' := ⟨by omega, by omega, by omega, by omega, by omega, by omega, by omega, by omega⟩
  have g1 : w.heap.size ≤ p := by omega
  have g2 : w.heap.size ≤ r := by omega
  have g3 : w.heap.size ≤ p' := by omega
  have g4 : w.heap.size ≤ r' := by omega
  have g5 : w.heap.size ≤ w2.heap.size := by omega
  refine ⟨⟨w2.heap.size, p, q, r, p', q', r'⟩, rfl, rfl, ⟨A, g1, g2, g3, g4, g5⟩, ?_⟩
  have hM2 := (hM.below hb).below hb2
  exact ⟨_, _, ⟨hM2.row, hM2.mem, own_rebase hM2.own, by show p < w2.heap.size; omega, by show q < w2.heap.size; omega, by show r < w2.heap.size; omega, Nat.le_refl _, hM2.pq, hM2.pr⟩, hR, fun k hk => by simp [Value.ownBlock] at hk, ((hw.trans (hb1.mono e)).trans (hb.mono (by omega))).trans (hb2.mono (by omega))⟩
end
end Go.Proofs.Ytimbnlcegcmfiaa

namespace Go.Proofs.Ytimbnlcegcmfiaa
open Go Go.RowKit
set_option linter.unusedVariables false

section
variable {P : Program} {ops : Array Oper} {Q : Exit → Act → World → Prop}

/-- Some operations one behind the other, then K. -/
def wpThen (P : Program) (ops : Array Oper) (Q : Exit → Act → World → Prop) (K : Act → World → Prop) : List Oper → Act → World → Prop
  | [], a, w => K a w
  | o :: rest, a, w => if Region.wanted o (yielded ops a.tmps) then o.wp P a w (wpThen P ops Q K rest) Q else wpThen P ops Q K rest (a.put o.dst undef) w
theorem wpThen_nil {K : Act → World → Prop} {a : Act} {w : World} (h : K a w) : wpThen P ops Q K [] a w := h
theorem wpThen_step {K : Act → World → Prop} {a : Act} {w : World} {o : Oper} {rest : List Oper}
    (h : ∀ K' : Act → World → Prop, (∀ a w, wpThen P ops Q K rest a w → K' a w) → if Region.wanted o (yielded ops a.tmps) then o.wp P a w K' Q else K' (a.put o.dst undef) w) : wpThen P ops Q K (o :: rest) a w :=
  h _ (fun _ _ h => h)

/-- Each of the first operations is alone ready when it comes up; behind them the others may be taken in the order of the text. -/
def firstB (ops : Array Oper) (g : Nat) : Nat → Nat → Array Bool → Bool
  | 0, k, listed => Region.lexFrom .any ops g k listed
  | f + 1, k, listed => decide (Region.ready .any ops listed = [k]) && firstB ops g f (k + 1) (listed.setIfInBounds k true)

theorem any_of_first {g : Nat} {K : Act → World → Prop} (hK : ∀ k listed a w, k + g = ops.size → Region.lexFrom .any ops g k listed = true → K a w → wpAny P .any ops Q g listed a w) :
    ∀ (l : List Oper) (k : Nat) (listed : Array Bool) (a : Act) (w : World), (∀ j, j < l.length → l[j]? = ops[k + j]?) → k + l.length + g = ops.size →
    firstB ops g l.length k listed = true → wpThen P ops Q K l a w → wpAny P .any ops Q (l.length + g) listed a w
  | [], k, listed, a, w, _, hs, hB, h => by
    rw [List.length_nil, Nat.zero_add]
    exact hK k listed a w (by simpa using hs) (by simpa [firstB] using hB) h
  | o :: l, k, listed, a, w, hl, hs, hB, h => by
    have h0 : ops[k]? = some o := by simpa using (hl 0 (by simp)).symm
    simp only [List.length_cons, firstB, Bool.and_eq_true, decide_eq_true_eq] at hB
    simp only [List.length_cons] at hs
    have e : (o :: l).length + g = (l.length + g) + 1 := by simp only [List.length_cons]; omega
    rw [e]
    refine ⟨fun h1 => (by rw [hB.1] at h1; cases h1), fun i hi => ?_⟩
    rw [hB.1] at hi
    have hik : i = k := by simpa using hi
    subst hik
    have hw : wpOp P ops Q i (wpThen P ops Q K l) a w := by
      unfold wpOp
      simp only [h0]
      unfold wpThen at h
      by_cases hw : Region.wanted o (yielded ops a.tmps) = true
      · simp only [hw, if_true] at h ⊢
        exact .inl h
      · simp only [hw] at h ⊢
        exact h
    exact wpOp_mono (fun a' w' h' => any_of_first hK l (i + 1) _ a' w' (fun j hj => by have := hl (j + 1) (by simp; omega); simpa [Nat.add_assoc, Nat.add_comm 1 j] using this) (by omega) hB.2 h') hw

theorem region_first {id : Nat} {a : Act} {w : World} {l : List Oper} (n : Nat) (hm : P.follows .mixedOrders = true) (hsel : Region.noSelect l.toArray = true) (hn : n ≤ l.length)
    (hB : firstB l.toArray (l.length - n) n 0 (Array.replicate l.toArray.size false) = true)
    (h : wpThen P l.toArray Q (fun a' w' => ∃ C : World → Prop, C w' ∧ wpQuiet P l.toArray C (fun a'' => ∀ w'', C w'' → Q .normal a'' w'') (l.drop n) a') (l.take n) a w.drew) : (Code.region id l.toArray true).wp P Q a w := by
  have htl : (l.take n).length = n := by simp; omega
  have hdl : (l.drop n).length = l.length - n := by simp
  refine wp_region_any hm ?_
  have := any_of_first (P := P) (Q := Q) (g := l.length - n) (ops := l.toArray) (fun k listed a' w' hk hlex hC => by
    obtain ⟨C, hCw, hq⟩ := hC
    have hkn : k = n := by simp at hk; omega
    subst hkn
    refine wpAny_of_quiet (C := C) (Q := fun a'' => ∀ w'', C w'' → Q .normal a'' w'') (fun _ w'' hw'' h => h w'' hw'') _ _ _ _ hCw ?_
    have := wpAnyQ_lex (C := C) (md := .any) hsel (l.drop k) k listed a' (fun j => by simp [List.getElem?_drop]) (by rw [hdl]; exact hlex) hq
    rwa [hdl] at this) (l.take n) 0 (Array.replicate l.toArray.size false) a w.drew (fun j hj => by
      have hj' : j < n := by rw [htl] at hj; exact hj
      simp [hj']) (by simp; omega) (by rw [htl]; exact hB) h
  rw [htl, show n + (l.length - n) = l.toArray.size by simp; omega] at this
  exact this
end
end Go.Proofs.Ytimbnlcegcmfiaa

namespace Go.Proofs.Ytimbnlcegcmfiaa
open Go.RowKit
set_option linter.unusedVariables false

theorem check12_yes (m : Im) (h : m.may = true) (w : World) : Calls Try.prog 12 #[m.val] w fun e w' => e = .returned (.int .i64 0) ∧ Below w.heap.size w w' := by
  have := check12 m w
  rw [h] at this
  exact this
theorem check12_no (m : Im) (h : m.may = false) (w : World) : Calls Try.prog 12 #[m.val] w fun e w' => e = .returned (.int .i64 1) ∧ Below w.heap.size w w' := by
  have := check12 m w
  rw [h] at this
  exact this

theorem bytes20 {w : World} {tp tr : Nat} {g : Nat → UInt8} (h : IsMem w 92 tp tr 262144 (lay (fun _ => 0) 0 (bstr g 0 262144).data.toList)) :
    Calls Try.prog 20 #[.pointer (some ⟨tp, 0, none⟩), .int .u32 0, .int .i64 262144] w fun e w' => e = .returned (.tuple #[.string (bstr g 0 262144), .int .i64 0]) ∧ w' = w := by
  have := bytes_yes (a := 0) (k := 262144) h (by omega)
  rw [bstr_twin] at this
  exact this

/-- The cells of a box, in every later world. -/
theorem box_after {w w1 : World} {m : Im} (hb : Below (w.alloc (.cells #[.string m.code, .string m.data, .int .i64 m.global, .int .i64 m.entry, .int .i64 m.frame] 23)).heap.size (w.alloc (.cells #[.string m.code, .string m.data, .int .i64 m.global, .int .i64 m.entry, .int .i64 m.frame] 23)) w1) :
    ∀ t : After w1, t.1.cell? ⟨w.heap.size, 0, none⟩ = some (.string m.code) ∧ t.1.cell? ⟨w.heap.size, 1, none⟩ = some (.string m.data) ∧ t.1.cell? ⟨w.heap.size, 2, none⟩ = some (.int .i64 m.global) ∧ t.1.cell? ⟨w.heap.size, 3, none⟩ = some (.int .i64 m.entry) ∧ t.1.cell? ⟨w.heap.size, 4, none⟩ = some (.int .i64 m.frame) := by
  intro t
  have hb2 := hb.trans (t.2.mono hb.size)
  obtain ⟨hc, hf⟩ := bcell hb2
  have hl : w.heap.size < (w.alloc (.cells #[.string m.code, .string m.data, .int .i64 m.global, .int .i64 m.entry, .int .i64 m.frame] 23)).heap.size := by simp
  refine ⟨?_, ?_, ?_, ?_, ?_⟩
  all_goals (rw [hc _ _ hl]; simp [go_sem])

set_option maxRecDepth 20000 in
set_option maxHeartbeats 2000000 in
/-- Where no machine is made. -/
theorem steps3_none (m : Im) (x : ByteArray) (st : Int) (f c : Int) (hf : ¬ f = 0) (h9 : ∀ w, Calls Try.prog 9 #[m.val, .string x] w fun e w' => e = .returned (.tuple #[.pointer none, .int .i64 f]) ∧ Below w.heap.size w w')
    (h10 : ∀ w, Calls Try.prog 10 #[m.val, .string x] w fun e w' => e = .returned (.tuple #[.pointer none, .int .i64 f]) ∧ Below w.heap.size w w')
    (h11 : ∀ w, Calls Try.prog 11 #[m.val] w fun e w' => e = .returned (.int .i64 c) ∧ Below w.heap.size w w')
    (h12 : ∀ w, Calls Try.prog 12 #[m.val] w fun e w' => e = .returned (.int .i64 c) ∧ Below w.heap.size w w') (w : World) :
    Calls Try.prog 3 #[m.val, .string x, .int .u16 st] w fun e w' => e = .returned (.bool true) ∧ Below w.heap.size w w' := by
  haveI := after_some
  go_enter Try.func3, Try.ntmps3
  go_wp2_with (first
    | (go_at_call 9; refine (h9 _).mono ?_; rintro e w1 ⟨rfl, hb1⟩; obtain ⟨hc1, hf1⟩ := bcell hb1)
    | (go_at_call 10; refine (h10 _).mono ?_; rintro e w2 ⟨rfl, hb2⟩))
  have hB := hb1.trans (hb2.mono hb1.size)
  have k := box_after hB
  have k0 := fun t => (k t).1
  have k1 := fun t => (k t).2.1
  have k2 := fun t => (k t).2.2.1
  have k3 := fun t => (k t).2.2.2.1
  have k4 := fun t => (k t).2.2.2.2
  clear k
  refine region_after 16 mixed (by kernel_rfl) ?_
  simp only [List.take_succ_cons, List.take_zero, List.drop_succ_cons, List.drop_zero]
  repeat quiet_step (first
    | exact Calls.after _ (h11 _)
    | exact Calls.after _ (h12 _))
  refine wpQuiet_nil ?_
  intro w3 hb3
  go_wp2_with (first
    | (go_at_call 13; refine (awake13 _).mono ?_; rintro e w4 ⟨rfl, hb4⟩))
  go_ret
  exact ⟨rfl, below_then (below_then (below_box2 hB) hb3) hb4⟩

theorem steps3_arg (m : Im) (x : ByteArray) (st : Int) (h : m.may = false) (w : World) : Calls Try.prog 3 #[m.val, .string x, .int .u16 st] w fun e w' => e = .returned (.bool true) ∧ Below w.heap.size w w' :=
  steps3_none m x st 1 1 (by decide) (fun w => new9_arg m x h w) (fun w => rnew10_arg m x h w) (fun w => check11_no m h w) (fun w => check12_no m h w) w
theorem steps3_long (m : Im) (x : ByteArray) (st : Int) (h : m.may = true) (hi : ¬ x.size ≤ 1048576) (w : World) : Calls Try.prog 3 #[m.val, .string x, .int .u16 st] w fun e w' => e = .returned (.bool true) ∧ Below w.heap.size w w' :=
  steps3_none m x st 3 0 (by decide) (fun w => new9_long m x h hi w) (fun w => rnew10_long m x h hi w) (fun w => check11_yes m h w) (fun w => check12_yes m h w) w
end Go.Proofs.Ytimbnlcegcmfiaa
