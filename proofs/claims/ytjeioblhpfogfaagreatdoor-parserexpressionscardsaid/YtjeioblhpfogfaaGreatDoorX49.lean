/- The grammar as a plain program: every piece comes to an end. -/
import Derived.Test.YtjeioblhpfogfaaGreatDoorX29
set_option linter.unusedVariables false
set_option linter.unusedSimpArgs false
set_option maxRecDepth 20000
set_option maxHeartbeats 8000000
namespace Go.Proofs.YtjeioblhpfogfaaGreatDoor
open Go.RowKit

/-- A program comes to something. -/
def Tm (toks : List Tk) (g : Pg) : Prop := ∃ n r, runP toks n g = some r
theorem Tm.ret {toks : List Tk} {r : Rs} : Tm toks (.ret r) := ⟨0, r, runP_ret⟩
theorem Tm.back {toks : List Tk} {ts : List Tr} {k : Nat} : Tm toks (.back ts k) := Tm.ret
theorem Tm.wrong {toks : List Tk} {k : Nat} : Tm toks (.wrong toks k) := Tm.ret
theorem Tm.ite {toks : List Tk} {c : Prop} [Decidable c] {a b : Pg} (ha : c → Tm toks a) (hb : ¬ c → Tm toks b) : Tm toks (if c then a else b) := by
  by_cases h : c
  · rw [if_pos h]; exact ha h
  · rw [if_neg h]; exact hb h
theorem Tm.eat {toks : List Tk} {k : Nat} {c : ByteArray} {f : Nat → Pg} (hT : TokOk toks) (hc : ¬ c = ⟨#[]⟩) (h : k + 1 < toks.length → Tm toks (f (k + 1))) : Tm toks (eat toks c k f) := by
  unfold Go.Proofs.YtjeioblhpfogfaaGreatDoor.eat
  exact Tm.ite (fun e => h (hT.sign e hc)) (fun _ => Tm.wrong)
theorem Tm.nam {toks : List Tk} {k : Nat} {f : ByteArray → Nat → Pg} (hT : TokOk toks) (h : k + 1 < toks.length → Tm toks (f (tk toks k).text (k + 1))) : Tm toks (nam toks k f) := by
  unfold Go.Proofs.YtjeioblhpfogfaaGreatDoor.nam
  refine Tm.ite (fun e => h ?_) (fun _ => Tm.wrong)
  have hk : ¬ (tk toks k).kind = 1 := by rw [e]; decide
  exact hT.next _ (tk_end hk) hk
theorem Tm.typ {toks : List Tk} {k : Nat} {f : ByteArray → Nat → Pg} (hT : TokOk toks) (h : ∀ t k1, k < k1 → k1 < toks.length → Tm toks (f t k1)) : Tm toks (typ toks k f) := by
  unfold Go.Proofs.YtjeioblhpfogfaaGreatDoor.typ
  refine Tm.ite (fun e => ?_) (fun _ => Tm.wrong)
  refine Tm.ite (fun e1 => ?_) (fun _ => ?_)
  · exact Tm.nam hT fun hk => h _ _ (by omega) hk
  · refine h _ _ (by omega) (sign_on hT fun e1 => ?_)
    rw [e1] at e
    simp [tyWord, toList_data] at e
theorem Tm.call {toks : List Tk} {k : Nat} {c : Pc} {f : List Tr → Nat → Pg} (hT : TokOk toks) (hc : okP c) (hk : k < toks.length) (hb : Tm toks (body toks c k)) (h : ∀ ts k1, k + loP c ≤ k1 → k1 < toks.length → Tm toks (f ts k1)) : Tm toks (.call c k f) := by
  obtain ⟨n, r, e⟩ := hb
  cases r with
  | error q =>
    refine ⟨n + 1, .error q, ?_⟩
    rw [runP, e]
  | ok p =>
    obtain ⟨ts, k1⟩ := p
    obtain ⟨h1, h2, _⟩ := adv hT n c k hc hk ts k1 e
    obtain ⟨m, r, e2⟩ := h ts k1 h1 h2
    refine ⟨max n m + 1, r, ?_⟩
    rw [runP, runP_more toks n _ _ e _ (by omega)]
    exact runP_more toks m _ _ e2 _ (by omega)
/-- The pieces' ranks: at one place a piece reads pieces of a lesser one. -/
def rkP : Pc → Nat
  | .inl () => 5
  | .inr (.inr (.inl ())) => 4
  | .inr (.inr (.inr (.inr (.inl _)))) => 3
  | .inr (.inr (.inr (.inr (.inr (.inr (.inl ())))))) => 2
  | .inr (.inr (.inr (.inr (.inr (.inr (.inr (.inl ()))))))) => 1
  | .inr (.inr (.inr (.inr (.inr (.inr (.inr (.inr (.inr (.inr (.inl (_, _))))))))))) => 6
  | .inr (.inr (.inr (.inr (.inr (.inr (.inr (.inr (.inr (.inr (.inr (.inl _))))))))))) => 6
  | .inr (.inr (.inr (.inr (.inr (.inr (.inr (.inr (.inr (.inr (.inr (.inr (.inr (.inl (_, _, _)))))))))))))) => 7
  | .inr (.inr (.inr (.inr (.inr (.inr (.inr (.inr (.inr (.inr (.inr (.inr (.inr (.inr (.inr (.inl _))))))))))))))) => 1
  | .inr (.inr (.inr (.inr (.inr (.inr (.inr (.inr (.inr (.inr (.inr (.inr (.inr (.inr (.inr (.inr (.inl ())))))))))))))))) => 7
  | .inr (.inr (.inr (.inr (.inr (.inr (.inr (.inr (.inr (.inr (.inr (.inr (.inr (.inr (.inr (.inr (.inr (.inl ()))))))))))))))))) => 6
  | .inr (.inr (.inr (.inr (.inr (.inr (.inr (.inr (.inr (.inr (.inr (.inr (.inr (.inr (.inr (.inr (.inr (.inr (.inl (_, _))))))))))))))))))) => 8
  | .inr (.inr (.inr (.inr (.inr (.inr (.inr (.inr (.inr (.inr (.inr (.inr (.inr (.inr (.inr (.inr (.inr (.inr (.inr (.inr (.inl ())))))))))))))))))))) => 9
  | .inr (.inr (.inr (.inr (.inr (.inr (.inr (.inr (.inr (.inr (.inr (.inr (.inr (.inr (.inr (.inr (.inr (.inr (.inr (.inr (.inr (_))))))))))))))))))))) => 10
  | _ => 0
theorem low {L k j M r r' : Nat} (hM : (L - k) * 16 + r < M + 1) (hj : k < j) (hk : j < L) (hr : r' ≤ 15) : (L - j) * 16 + r' < M := by
  have h : L - j + 1 ≤ L - k := by omega
  have := Nat.mul_le_mul_right 16 h
  omega
theorem low0 {L k j M r r' : Nat} (hM : (L - k) * 16 + r < M + 1) (hj : k < j) (hr : r' ≤ 15) (hk : k < L := by omega) : (L - j) * 16 + r' < M := by
  by_cases h : j < L
  · exact low hM hj h hr
  · have h1 : L - j = 0 := by omega
    have h2 : 1 ≤ L - k := by omega
    have := Nat.mul_le_mul_right 16 h2
    rw [h1]
    omega
def TmH (toks : List Tk) (M : Nat) : Prop := ∀ c k, okP c → k < toks.length → (toks.length - k) * 16 + rkP c < M → Tm toks (body toks c k)
theorem Tm.tst {toks : List Tk} {M k : Nat} {f : List Tr → Nat → Pg} (hT : TokOk toks) (ih : TmH toks M) (hM : (toks.length - (k + 1)) * 16 + 5 < M) (h : ∀ ts k1, k < k1 → k1 < toks.length → Tm toks (f ts k1)) : Tm toks (tst toks k f) := by
  unfold Go.Proofs.YtjeioblhpfogfaaGreatDoor.tst
  refine Tm.eat hT (by simp) fun h1 => Tm.call hT trivial h1 (ih .expr _ trivial h1 (by dsimp only [rkP]; omega)) fun ts k1 h2 h3 => Tm.eat hT (by simp) fun h4 => h ts _ ?_ h4
  dsimp only [loP] at h2
  omega
theorem Tm.prt {toks : List Tk} {M k : Nat} {en : ByteArray} {f : List Tr → Nat → Pg} (hT : TokOk toks) (he : ¬ en = ⟨#[]⟩) (hk : k < toks.length) (ih : TmH toks M) (hM : (toks.length - k) * 16 + 5 < M) (h : ∀ ts k1, k < k1 → k1 < toks.length → Tm toks (f ts k1)) : Tm toks (prt toks en k f) := by
  unfold Go.Proofs.YtjeioblhpfogfaaGreatDoor.prt
  refine Tm.ite (fun e => h _ _ (by omega) (hT.sign e he)) (fun _ => Tm.call hT trivial hk (ih .expr _ trivial hk (by dsimp only [rkP]; omega)) fun ts k1 h2 h3 => Tm.eat hT he fun h4 => h ts _ ?_ h4)
  dsimp only [loP] at h2
  omega
theorem Tm.iteS {toks : List Tk} {k : Nat} {c : ByteArray} {a b : Pg} (hT : TokOk toks) (hc : ¬ c = ⟨#[]⟩) (ha : k + 1 < toks.length → Tm toks a) (hb : Tm toks b) : Tm toks (if signAt toks k = c then a else b) := Tm.ite (fun e => ha (hT.sign e hc)) (fun _ => hb)
theorem Tm.iteC {toks : List Tk} {k : Nat} {c : ByteArray} {q : Prop} [Decidable q] {a b : Pg} (hT : TokOk toks) (hc : ¬ c = ⟨#[]⟩) (ha : k + 1 < toks.length → Tm toks a) (hb : Tm toks b) : Tm toks (if signAt toks k = c ∧ q then a else b) := Tm.ite (fun e => ha (hT.sign e.1 hc)) (fun _ => hb)
theorem Tm.iteD {toks : List Tk} {k : Nat} {c : ByteArray} {q : Prop} [Decidable q] {a b : Pg} (hT : TokOk toks) (hc : ¬ c = ⟨#[]⟩) (ha : k + 1 < toks.length → Tm toks a) (hb : Tm toks b) : Tm toks (if q ∧ signAt toks k = c then a else b) := Tm.ite (fun e => ha (hT.sign e.2 hc)) (fun _ => hb)
theorem Tm.iteA {toks : List Tk} {k : Nat} {a b : Pg} (hT : TokOk toks) (ha : k + 1 < toks.length → Tm toks a) (hb : Tm toks b) : Tm toks (if asgW (signAt toks k) = true then a else b) := Tm.ite (fun e => ha (sign_on hT (fun e1 => by rw [e1] at e; simp [asgW, toList_data] at e))) (fun _ => hb)
theorem Tm.iteL {toks : List Tk} {k : Nat} {lv : Int} {a b : Pg} (hT : TokOk toks) (ha : Tm toks a) (hb : k + 1 < toks.length → Tm toks b) : Tm toks (if levF (signAt toks k) < lv ∨ levF (signAt toks k) = 0 then a else b) := Tm.ite (fun _ => ha) (fun e => hb (sign_on hT (fun e1 => e (.inr (by rw [e1]; exact lev_none)))))
theorem Tm.iteU {toks : List Tk} {k : Nat} {a b : Pg} (hT : TokOk toks) (ha : k + 1 < toks.length → Tm toks a) (hb : Tm toks b) : Tm toks (if signAt toks k = ⟨#[45]⟩ ∨ signAt toks k = ⟨#[126]⟩ ∨ signAt toks k = ⟨#[33]⟩ ∨ signAt toks k = ⟨#[38]⟩ then a else b) := Tm.ite (fun e => ha (by rcases e with e | e | e | e <;> exact hT.sign e (by simp))) (fun _ => hb)
theorem Tm.iteI {toks : List Tk} {k : Nat} {q : Prop} [Decidable q] {a b : Pg} (hT : TokOk toks) (ha : Tm toks a) (hb : k + 1 < toks.length → Tm toks b) : Tm toks (if q ∨ ¬ signAt toks k = ⟨#[61]⟩ then a else b) := Tm.ite (fun _ => ha) (fun e => hb (hT.sign (Classical.not_not.1 fun h => e (.inr h)) (by simp)))
theorem Tm.iteK {toks : List Tk} {k : Nat} {j : Int} {a b : Pg} (hT : TokOk toks) (hj : ¬ j = 1) (ha : k + 1 < toks.length → Tm toks a) (hb : Tm toks b) : Tm toks (if (tk toks k).kind = j then a else b) := Tm.ite (fun e => ha (by
  have hk : ¬ (tk toks k).kind = 1 := by rw [e]; exact hj
  exact hT.next _ (tk_end hk) hk)) (fun _ => hb)
theorem term {toks : List Tk} (hT : TokOk toks) (M : Nat) : TmH toks M := by
  induction M with
  | zero => intro c k _ _ h; omega
  | succ M ih =>
    intro c k hc hk hM
    rcases c with ⟨⟩ | ⟨fr, nt⟩ | ⟨⟩ | ⟨fr, nt⟩ | lv | ⟨lv, fr, nt⟩ | ⟨⟩ | ⟨⟩ | ⟨fr, nt⟩ | ⟨⟩ | ⟨en, acc⟩ | bare | ⟨bare, x, ks⟩ | ⟨bare, fr, acc⟩ | ⟨⟩ | acc | ⟨⟩ | ⟨⟩ | ⟨fr, acc⟩ | ⟨fr, nm, acc⟩ | ⟨⟩ | acc <;> unfold body <;> dsimp only [rkP, calP, okP] at hc hM ⊢
    all_goals
      repeat' first
        | with_reducible exact Tm.wrong
        | with_reducible exact Tm.back
        | with_reducible refine Tm.eat hT (by first | (rcases hc with rfl | rfl <;> simp) | simp) fun _ => ?_
        | with_reducible refine Tm.nam hT fun _ => ?_
        | with_reducible refine Tm.typ hT fun _ _ _ _ => ?_
        | (with_reducible refine Tm.tst hT ih ?hm fun _ _ _ _ => ?_
           case hm => (first | exact low hM (by omega) (by omega) (by decide) | exact low0 hM (by omega) (by decide) | omega))
        | (with_reducible refine Tm.prt hT ?he ?hk ih ?hm fun _ _ _ _ => ?_
           case he => simp
           case hk => omega
           case hm => (first | exact low hM (by omega) (by omega) (by decide) | exact low0 hM (by omega) (by decide) | omega))
        | (with_reducible refine Tm.call hT ?oc ?hk ?ob fun ts1 k1 hl1 hb1 => ?_
           case hk => omega
           case oc => first | trivial | exact hc | (simp [okP])
           case ob => exact ih _ _ (by first | trivial | exact hc | (simp [okP])) (by omega) (by dsimp only [rkP]; first | exact low hM (by omega) (by omega) (by decide) | omega)
           dsimp only [loP] at hl1)
        | with_reducible refine Tm.iteS hT (by simp) (fun _ => ?_) ?_
        | with_reducible refine Tm.iteD hT (by simp) (fun _ => ?_) ?_
        | with_reducible refine Tm.iteC hT (by simp) (fun _ => ?_) ?_
        | with_reducible refine Tm.iteA hT (fun _ => ?_) ?_
        | with_reducible refine Tm.iteL hT ?_ (fun _ => ?_)
        | with_reducible refine Tm.iteU hT (fun _ => ?_) ?_
        | with_reducible refine Tm.iteI hT ?_ (fun _ => ?_)
        | with_reducible refine Tm.iteK hT (by decide) (fun _ => ?_) ?_
        | with_reducible refine Tm.ite (fun _ => ?_) (fun _ => ?_)
/-- Every piece comes to something. -/
theorem tm_all {toks : List Tk} (hT : TokOk toks) {c : Pc} {k : Nat} (hc : okP c) (hk : k < toks.length) : Tm toks (body toks c k) := term hT _ c k hc hk (Nat.lt_succ_self _)
end Go.Proofs.YtjeioblhpfogfaaGreatDoor
namespace Go.Proofs.YtjeioblhpfogfaaGreatDoor
open Go.RowKit

def Nq (ts : List Tr) : Prop := ∃ x ks, ts = [Tr.node x ks]
/-- Which pieces come to one node. -/
def nqP : Pc → Prop
  | .inl () => True
  | .inr (.inl (_, _)) => True
  | .inr (.inr (.inl ())) => True
  | .inr (.inr (.inr (.inl (_, _)))) => True
  | .inr (.inr (.inr (.inr (.inl _)))) => True
  | .inr (.inr (.inr (.inr (.inr (.inl (_, _, _)))))) => True
  | .inr (.inr (.inr (.inr (.inr (.inr (.inl ())))))) => True
  | .inr (.inr (.inr (.inr (.inr (.inr (.inr (.inl ()))))))) => True
  | .inr (.inr (.inr (.inr (.inr (.inr (.inr (.inr (.inl (_, _))))))))) => True
  | .inr (.inr (.inr (.inr (.inr (.inr (.inr (.inr (.inr (.inl ()))))))))) => True
  | .inr (.inr (.inr (.inr (.inr (.inr (.inr (.inr (.inr (.inr (.inr (.inr (.inr (.inr (.inr (.inr (.inr (.inr (.inr (.inr (.inr (_))))))))))))))))))))) => True
  | _ => False
/-- What they ask of what they have at their beginning. -/
def nqA : Pc → Prop
  | .inr (.inl (_, n)) => Nq n
  | .inr (.inr (.inr (.inl (_, n)))) => Nq n
  | .inr (.inr (.inr (.inr (.inr (.inl (_, _, n)))))) => Nq n
  | .inr (.inr (.inr (.inr (.inr (.inr (.inr (.inr (.inl (_, n))))))))) => Nq n
  | _ => True
def Nd (toks : List Tk) (n : Nat) (g : Pg) : Prop := ∀ ts k', runP toks n g = some (.ok (ts, k')) → Nq ts
theorem Nd.back {toks : List Tk} {n k : Nat} {ts : List Tr} (h : Nq ts) : Nd toks n (.back ts k) := by
  intro ts' k' e
  unfold Pg.back at e
  rw [runP] at e
  injection e with e
  injection e with e
  injection e with e1 e2
  subst e1
  exact h
theorem Nd.wrong {toks : List Tk} {n k : Nat} : Nd toks n (.wrong toks k) := by
  intro ts' k' e
  unfold Pg.wrong at e
  rw [runP] at e
  injection e with e
  cases e
theorem Nd.ite {toks : List Tk} {n : Nat} {c : Prop} [Decidable c] {a b : Pg} (ha : Nd toks n a) (hb : Nd toks n b) : Nd toks n (if c then a else b) := by
  by_cases h : c
  · rw [if_pos h]; exact ha
  · rw [if_neg h]; exact hb
theorem Nd.eat {toks : List Tk} {n k : Nat} {c : ByteArray} {f : Nat → Pg} (h : Nd toks n (f (k + 1))) : Nd toks n (eat toks c k f) := by
  unfold Go.Proofs.YtjeioblhpfogfaaGreatDoor.eat
  exact Nd.ite h Nd.wrong
theorem Nd.nam {toks : List Tk} {n k : Nat} {f : ByteArray → Nat → Pg} (h : Nd toks n (f (tk toks k).text (k + 1))) : Nd toks n (nam toks k f) := by
  unfold Go.Proofs.YtjeioblhpfogfaaGreatDoor.nam
  exact Nd.ite h Nd.wrong
theorem Nd.typ {toks : List Tk} {n k : Nat} {f : ByteArray → Nat → Pg} (h : ∀ t k1, Nd toks n (f t k1)) : Nd toks n (typ toks k f) := by
  unfold Go.Proofs.YtjeioblhpfogfaaGreatDoor.typ
  exact Nd.ite (Nd.ite (Nd.nam (h _ _)) (h _ _)) Nd.wrong
theorem Nd.call {toks : List Tk} {n k : Nat} {c : Pc} {f : List Tr → Nat → Pg} (ih : ∀ m, m < n → ∀ c k, nqP c → nqA c → Nd toks m (body toks c k)) (hc : nqP c → nqA c) (h : ∀ m ts k1, m < n → (nqP c → Nq ts) → Nd toks m (f ts k1)) : Nd toks n (.call c k f) := by
  intro ts' k' e
  cases n with
  | zero => rw [runP] at e; cases e
  | succ n =>
    rw [runP] at e
    cases e1 : runP toks n (body toks c k) with
    | none => rw [e1] at e; cases e
    | some q =>
      rw [e1] at e
      cases q with
      | error q => injection e with e; cases e
      | ok q =>
        obtain ⟨ts1, k1⟩ := q
        exact h n ts1 k1 (by omega) (fun hp => ih n (by omega) c k hp (hc hp) ts1 k1 e1) ts' k' e
theorem nd_all {toks : List Tk} (n : Nat) : ∀ c k, nqP c → nqA c → Nd toks n (body toks c k) := by
  induction n using Nat.strongRecOn with
  | ind n ih =>
    intro c k hp hc
    rcases c with ⟨⟩ | ⟨fr, nt⟩ | ⟨⟩ | ⟨fr, nt⟩ | lv | ⟨lv, fr, nt⟩ | ⟨⟩ | ⟨⟩ | ⟨fr, nt⟩ | ⟨⟩ | ⟨en, acc⟩ | bare | ⟨bare, x, ks⟩ | ⟨bare, fr, acc⟩ | ⟨⟩ | acc | ⟨⟩ | ⟨⟩ | ⟨fr, acc⟩ | ⟨fr, nm, acc⟩ | ⟨⟩ | acc
    all_goals first | exact hp.elim | skip
    all_goals unfold body
    all_goals dsimp only [calP, nqA] at hc ⊢
    all_goals
      repeat' first
        | exact Nd.wrong
        | exact Nd.back ⟨_, _, rfl⟩
        | exact Nd.back hc
        | exact Nd.back (hq trivial)
        | refine Nd.eat ?_
        | refine Nd.nam ?_
        | refine Nd.typ fun _ _ => ?_
        | (refine Nd.call (fun m hm => ih m (by omega)) (fun _ => trivial) fun m1 ts1 k1 hm1 hq => ?_)
        | (refine Nd.call (fun m hm => ih m (by omega)) (fun _ => ⟨_, _, rfl⟩) fun m1 ts1 k1 hm1 hq => ?_)
        | (refine Nd.call (fun m hm => ih m (by omega)) (fun _ => hq trivial) fun m1 ts1 k1 hm1 hq => ?_)
        | refine Nd.ite ?_ ?_
end Go.Proofs.YtjeioblhpfogfaaGreatDoor
