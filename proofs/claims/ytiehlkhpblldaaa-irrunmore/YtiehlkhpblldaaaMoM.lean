/- With more fuel what has ended ends the same, and what was put goes on: in the plain. -/
import Derived.Test.YtiehlkhpblldaaaPlM
import Derived.Test.YtiehlkhpblldaaaCvM
namespace Go.Proofs.Ytiehlkhpblldaaa
set_option linter.unusedSimpArgs false
open Go.RowKit Go.Maps
set_option linter.unusedVariables false
set_option linter.unusedSimpArgs false

/-- More fuel. -/
def plus (m : Int) (s : St) : St := { s with fuel := s.fuel + m }
/-- There was too little. -/
structure Short (s s' : St) : Prop where
  kind : s'.kind = 3
  out : s'.out = s.out
  used : s'.used = s.used
section
variable {C : Cst} {m : Int} {s : St} {c : Cl} {l : List Rg}
theorem plus_sets (c : Cl) (m : Int) : ∀ (q : List (Nat × Int)) (s : St) (l : List Rg), setsF c (plus m s) l q = (plus m (setsF c s l q).1, (setsF c s l q).2)
  | [], s, l => rfl
  | y :: q, s, l => plus_sets c m q (setS s c l y.1 y.2) (l.set y.1 ⟨y.2, c.no⟩)
theorem plus_arr (hm : 0 ≤ m) (s : St) (c : Cl) (l : List Rg) (code : List In) (bk : Nat) (f : Int) : Short s (arrF s c l code bk f).1 ∨ arrF (plus m s) c l code bk f = (plus m (arrF s c l code bk f).1, (arrF s c l code bk f).2) := by
  rw [arrF_is, arrF_is]
  by_cases h0 : phN code = 0
  · rw [if_pos h0, if_pos h0]
    exact .inr rfl
  · rw [if_neg h0, if_neg h0]
    by_cases h1 : s.fuel < phN code
    · rw [if_pos h1]
      exact .inl ⟨rfl, rfl, rfl⟩
    · have h2 : ¬ (plus m s).fuel < phN code := by
        show ¬ s.fuel + m < phN code
        omega
      rw [if_neg h1, if_neg h2]
      right
      have e : ({ topS (plus m s) (arrS (plus m s) c bk code) with fuel := (plus m s).fuel - phN code, ch := chF l c.no code f (phN code) } : St) = plus m { topS s (arrS s c bk code) with fuel := s.fuel - phN code, ch := chF l c.no code f (phN code) } := by
        have e1 : (plus m s).fuel - (phN code : Int) = s.fuel - phN code + m := by
          show s.fuel + m - (phN code : Int) = _
          omega
        rw [e1]
        rfl
      rw [e]
      exact plus_sets _ _ _ _ _
theorem plus_push (s : St) (n : Nat) : pushG (plus m s) n = plus m (pushG s n) := by
  unfold pushG reachF plus
  dsimp only
  split <;> rfl
theorem plus_bank (s : St) (fn n : Nat) : bankS (plus m s) fn n = plus m (bankS s fn n) := by
  unfold bankS plus
  dsimp only
  split <;> rfl
theorem plus_beg (s : St) (fn n g : Nat) : begS (plus m s) fn n g = plus m (begS s fn n g) := by
  unfold begS
  dsimp only
  rw [plus_push, plus_bank]
  rfl
theorem plus_ent (hm : 0 ≤ m) (C : Cst) (s : St) (fn : Nat) (f : Fn) (args : List Int) : Short s (entF C s fn f args) ∨ entF C (plus m s) fn f args = plus m (entF C s fn f args) := by
  unfold entF
  have e : entOk C (plus m s) f.slots = entOk C s f.slots := rfl
  rw [e]
  cases entOk C s f.slots with
  | false => exact .inr rfl
  | true =>
    rw [if_pos rfl, if_pos rfl]
    dsimp only
    rw [plus_beg, plus_push, plus_bank]
    have e1 : newC (plus m (bankS (pushG s f.slots.toNat) fn f.regs.toNat)) fn = newC (bankS (pushG s f.slots.toNat) fn f.regs.toNat) fn := rfl
    have e2 : bankL (plus m (pushG s f.slots.toNat)) fn f.regs.toNat = bankL (pushG s f.slots.toNat) fn f.regs.toNat := rfl
    rw [e1, e2, plus_sets]
    obtain ⟨b1, b2, _, _, _, b6, _⟩ := begS_keeps s fn f.slots.toNat f.regs.toNat
    obtain ⟨r1, r2, _, _, _, r6, _⟩ := setsF_rest (newC (bankS (pushG s f.slots.toNat) fn f.regs.toNat) fn) (argsP args) (begS s fn f.slots.toNat f.regs.toNat) (bankL (pushG s f.slots.toNat) fn f.regs.toNat)
    generalize setsF (newC (bankS (pushG s f.slots.toNat) fn f.regs.toNat) fn) (begS s fn f.slots.toNat f.regs.toNat) (bankL (pushG s f.slots.toNat) fn f.regs.toNat) (argsP args) = q at *
    rcases plus_arr hm q.1 (newC (bankS (pushG s f.slots.toNat) fn f.regs.toNat) fn) q.2 (f.blocks.getD 0 ⟨undef, [], 0, 0, undef, []⟩).code 0 (-1) with h | h
    · exact .inl ⟨h.kind, h.out.trans (r1.trans b1), h.used.trans (r6.trans b6)⟩
    · right
      dsimp only
      rw [h]
theorem plus_tim (C : Cst) (s : St) (c : Cl) (i : In) : timF C (plus m s) c i = plus m (timF C s c i) := by
  unfold timF
  split <;> rfl
theorem plus_reck (C : Cst) (s : St) (c : Cl) (l : List Rg) (i : In) : reckF C (plus m s) c l i = plus m (reckF C s c l i) := by
  unfold reckF
  rw [plus_tim]
  split <;> rfl
theorem plus_acc (s : St) (c : Cl) (l : List Rg) (i : In) : accF (plus m s) c l i = plus m (accF s c l i) := by
  unfold accF
  have e : atF (plus m s) (adrF l c.no i) i.wide = atF s (adrF l c.no i) i.wide := rfl
  rw [e]
  cases atF s (adrF l c.no i) i.wide with
  | none => rfl
  | some q =>
    obtain ⟨st, o⟩ := q
    dsimp only
    split
    · rfl
    · cases st <;> rfl
theorem plus_chk (s : St) (l : List Rg) (no : Int) (a : Nat) (k : Int) : chkF2 (plus m s) l no a k = plus m (chkF2 s l no a k) := by
  unfold chkF2
  split <;> rfl
theorem plus_next (C : Cst) (s : St) : nextF C (plus m s) = plus m (nextF C s) := by
  unfold nextF
  have e : (plus m s).used = s.used := rfl
  rw [e]
  split <;> rfl
theorem or_if {p : Prop} [Decidable p] {a b a' b' : St} (h1 : Short s a ∨ a' = plus m a) (h2 : Short s b ∨ b' = plus m b) : Short s (if p then a else b) ∨ (if p then a' else b') = plus m (if p then a else b) := by
  by_cases hp : p
  · rw [if_pos hp, if_pos hp]; exact h1
  · rw [if_neg hp, if_neg hp]; exact h2
theorem plus_do (hm : 0 ≤ m) (C : Cst) (s : St) (c : Cl) (l : List Rg) (i : In) : Short s (doF C s c l i) ∨ doF C (plus m s) c l i = plus m (doF C s c l i) := by
  unfold doF
  refine or_if (.inr rfl) (or_if (.inr rfl) (or_if (.inr (plus_reck _ _ _ _ _)) (or_if (.inr rfl) (or_if (.inr rfl) (or_if (.inr (plus_acc _ _ _ _)) (or_if (.inr (plus_acc _ _ _ _)) (or_if (.inr (plus_chk _ _ _ _ _)) (or_if (plus_ent hm _ _ _ _ _) (or_if (.inr ?_) (or_if (.inr rfl) (.inr rfl)))))))))))
  have e : nextV C (plus m s) = nextV C s := rfl
  rw [plus_next, e]
  rfl
theorem plus_undo1 (s : St) : undo1 (plus m s) = plus m (undo1 s) := by
  unfold undo1
  have e : (plus m s).hidden = s.hidden := rfl
  rw [e]
  cases s.hidden.getLast? <;> rfl
theorem plus_undo (s : St) : ∀ n, undoN n (plus m s) = plus m (undoN n s)
  | 0 => rfl
  | n + 1 => by
    show undo1 (undoN n (plus m s)) = plus m (undo1 (undoN n s))
    rw [plus_undo s n, plus_undo1]
theorem plus_left (s : St) (c : Cl) (n : Int) : leftS (plus m s) c n = plus m (leftS s c n) := by
  unfold leftS
  have e : (plus m s).hidden = s.hidden := rfl
  rw [e, plus_undo]
  rfl
theorem plus_lev (C : Cst) (s : St) (c : Cl) (told : Int) : levF C (plus m s) c told = plus m (levF C s c told) := by
  unfold levF
  dsimp only
  rw [plus_left]
  have e : (plus m (leftS s c (fnOf C c.fn).slots)).calls = (leftS s c (fnOf C c.fn).slots).calls := rfl
  rw [e]
  generalize leftS s c (fnOf C c.fn).slots = q
  cases q.calls.getLast? with
  | none => rfl
  | some c' =>
    dsimp only
    unfold backF
    split <;> rfl
theorem plus_fin (hm : 0 ≤ m) (C : Cst) (s : St) (c : Cl) (l : List Rg) (b : Bl) : Short s (finF C s c l b) ∨ finF C (plus m s) c l b = plus m (finF C s c l b) := by
  unfold finF
  refine or_if (.inr (plus_lev _ _ _ _)) ?_
  rcases plus_arr hm s c l (blOf C c.fn (wayF l c b)).code (wayF l c b) c.bk with h | h
  · exact .inl h
  · right
    rw [h]
theorem plus_step (hm : 0 ≤ m) (C : Cst) (s : St) : Short s (stepF C s) ∨ stepF C (plus m s) = plus m (stepF C s) := by
  unfold stepF
  by_cases hf : s.fuel < 1
  · rw [if_pos hf]
    exact .inl ⟨rfl, rfl, rfl⟩
  · have hf2 : ¬ (plus m s).fuel < 1 := by
      show ¬ s.fuel + m < 1
      omega
    rw [if_neg hf, if_neg hf2]
    have e : (plus m s).calls = s.calls := rfl
    rw [e]
    cases hl : s.calls.getLast? with
    | none => exact .inr rfl
    | some c =>
      dsimp only
      have e1 : ({ plus m s with fuel := (plus m s).fuel - 1 } : St) = plus m { s with fuel := s.fuel - 1 } := by
        have e2 : (plus m s).fuel - 1 = s.fuel - 1 + m := by
          show s.fuel + m - 1 = _
          omega
        rw [e2]
        rfl
      have e3 : regsOf (plus m s) c.fn = regsOf s c.fn := rfl
      dsimp only at e1
      rw [e] at e1
      rw [e1, e3]
      refine or_if ?_ ?_
      · rcases plus_fin hm C { s with fuel := s.fuel - 1 } c (regsOf s c.fn) (blOf C c.fn c.bk) with h | h
        · exact .inl ⟨h.kind, h.out, h.used⟩
        · exact .inr h
      · rcases plus_do hm C (topS { s with fuel := s.fuel - 1 } (nextC c)) (nextC c) (regsOf s c.fn) ((blOf C c.fn c.bk).code.getD c.nx in0) with h | h
        · exact .inl ⟨h.kind, h.out, h.used⟩
        · exact .inr h
end
end Go.Proofs.Ytiehlkhpblldaaa

namespace Go.Proofs.Ytiehlkhpblldaaa
set_option linter.unusedSimpArgs false
open Go.RowKit Go.Maps
set_option linter.unusedVariables false
set_option linter.unusedSimpArgs false
section
variable {C : Cst} {m : Int}
/-- A run ends. -/
theorem run_ends (P : PgOk C.p) : ∀ (n : Nat) (s : St), Kpt C s → (s.kind = 0 → s.fuel.toNat < n) → (runN C n s).kind ≠ 0
  | 0, s, h, hf => fun h0 => by have := hf h0; omega
  | n + 1, s, h, hf => by
    by_cases hk : s.kind = 0
    · rw [runN_step C hk]
      have hG := h.2 hk
      refine run_ends P n _ (step_kpt hG P) (fun h0 => ?_)
      obtain ⟨_, m2, m3⟩ := mono_step C s
      have h1 := hf hk
      have h2 : 1 ≤ s.fuel := by
        by_cases h3 : s.fuel < 1
        · have := m3 h3
          omega
        · omega
      obtain ⟨c, hc, _⟩ := hG.top
      have := m2 h2 (fun e => by rw [e] at hc; cases hc)
      omega
    · rw [runN_end C hk]
      exact hk
theorem runF_ends (P : PgOk C.p) {fuel : Int} (hf : fuel ≤ 32768) : (runF C fuel).kind ≠ 0 := by
  refine run_ends P _ _ (st1_kpt P hf) (fun _ => ?_)
  have : (st1 C fuel).fuel ≤ fuel := (mono_ent C (st0 C.p fuel) C.p.main.toNat (fnOf C C.p.main.toNat) []).fuel
  omega
/-- What follows where more fuel was given. -/
structure Goes (a b : St) : Prop where
  same : a.kind ≠ 3 → b = plus m a
  on : a.kind = 3 → (∃ k, b.out = a.out ++ k) ∧ a.used ≤ b.used
theorem run_plus (hm : 0 ≤ m) : ∀ (n n' : Nat) (s : St), (runN C n s).kind ≠ 0 → (runN C n' (plus m s)).kind ≠ 0 → Goes (m := m) (runN C n s) (runN C n' (plus m s))
  | n, n', s, h1, h2 => by
    by_cases hk : s.kind = 0
    · match n, n', h1, h2 with
      | 0, _, h1, _ => exact absurd hk h1
      | _ + 1, 0, _, h2 => exact absurd hk h2
      | n + 1, n' + 1, h1, h2 =>
        have hk2 : (plus m s).kind = 0 := hk
        have hmo := runN_mono C (n' + 1) (plus m s)
        rw [runN_step C hk] at h1 ⊢
        rcases plus_step hm C s with hs | hs
        · have hne : (stepF C s).kind ≠ 0 := by rw [hs.kind]; decide
          rw [runN_end C hne]
          refine ⟨fun h => absurd hs.kind h, fun _ => ?_⟩
          rw [hs.out, hs.used]
          exact ⟨hmo.out, hmo.used⟩
        · rw [runN_step C hk2, hs] at h2 ⊢
          exact run_plus hm n n' (stepF C s) h1 h2
    · have hk2 : (plus m s).kind ≠ 0 := hk
      rw [runN_end C hk, runN_end C hk2]
      exact ⟨fun _ => rfl, fun _ => ⟨⟨[], by simp [plus]⟩, Nat.le_refl _⟩⟩
theorem runF_more (P : PgOk C.p) {f : Int} (hm : 0 ≤ m) (h : f + m ≤ 32768) : Goes (m := m) (runF C f) (runF C (f + m)) := by
  have e1 := runF_ends P (show f ≤ 32768 by omega)
  have e2 := runF_ends P h
  unfold runF at *
  have hs : st1 C (f + m) = entF C (plus m (st0 C.p f)) C.p.main.toNat (fnOf C C.p.main.toNat) [] := rfl
  rcases plus_ent hm C (st0 C.p f) C.p.main.toNat (fnOf C C.p.main.toNat) [] with hh | hh
  · have hmo := (mono_ent C (st0 C.p (f + m)) C.p.main.toNat (fnOf C C.p.main.toNat) []).trans (runN_mono C ((f + m).toNat + 1) (st1 C (f + m)))
    have hsh : Short (st0 C.p f) (st1 C f) := hh
    have hne : (st1 C f).kind ≠ 0 := by rw [hsh.kind]; decide
    rw [runN_end C hne]
    refine ⟨fun h => absurd hsh.kind h, fun _ => ?_⟩
    rw [hsh.out, hsh.used]
    exact ⟨hmo.out, hmo.used⟩
  · have hh2 : st1 C (f + m) = plus m (st1 C f) := hs.trans hh
    rw [hh2] at e2 ⊢
    exact run_plus hm _ _ _ e1 e2
end
theorem str_pre (a k : List Int) : (strOfNums (a ++ k)).extract 0 (strOfNums a).size = strOfNums a ∧ (strOfNums a).size ≤ (strOfNums (a ++ k)).size ∧ (strOfNums a).size = a.length := by
  have hs : ∀ l : List Int, (strOfNums l).size = l.length := fun l => by simp [strOfNums, ByteArray.size]
  refine ⟨?_, by rw [hs, hs]; simp, hs a⟩
  rw [hs]
  apply ByteArray.ext
  simp [strOfNums, ByteArray.data_extract]
/-- What the law asks. -/
theorem runE_more (p : Pg) (x : ByteArray) {f m : Int} (deep : Int) (hm : 0 ≤ m) (h : f + m ≤ 32768) : ((runE p x f deep).kind ≠ 3 → runE p x (f + m) deep = runE p x f deep) ∧ ((runE p x f deep).kind = 3 → (runE p x f deep).out.size ≤ (runE p x (f + m) deep).out.size ∧ (runE p x (f + m) deep).out.extract 0 (runE p x f deep).out.size = (runE p x f deep).out ∧ (runE p x f deep).used ≤ (runE p x (f + m) deep).used ∧ (runE p x (f + m) deep).out.size ≤ 40000) := by
  unfold runE cntE
  cases hp : pgF p with
  | false => exact ⟨fun _ => rfl, fun h => absurd (show (2 : Int) = 3 from h) (by decide)⟩
  | true =>
    rw [if_pos rfl, if_pos rfl]
    have P : PgOk (cstOf p x deep (-1) 0 (.slice none 0 0) []).p := pg_ok hp
    obtain ⟨g1, g2⟩ := runF_more P hm h
    have hN := (runF_kpt P h).1.no
    generalize runF (cstOf p x deep (-1) 0 (.slice none 0 0) []) f = A at *
    generalize runF (cstOf p x deep (-1) 0 (.slice none 0 0) []) (f + m) = B at *
    refine ⟨fun hk => ?_, fun hk => ?_⟩
    · rw [g1 hk]
      rfl
    · obtain ⟨⟨k, hk1⟩, hk2⟩ := g2 hk
      obtain ⟨s1, s2, s3⟩ := str_pre A.out k
      have hb := (str_pre B.out []).2.2
      unfold enOf
      dsimp only
      refine ⟨by rw [hk1]; exact s2, by rw [hk1]; exact s1, by omega, ?_⟩
      rw [hb]
      omega
end Go.Proofs.Ytiehlkhpblldaaa
