/- The program's steps do what the grammar says: the frame. -/
import Derived.Test.YtjeioblhpfogfaaGreatDoorX28
set_option linter.unusedVariables false
set_option linter.unusedSimpArgs false
set_option maxRecDepth 20000
set_option maxHeartbeats 8000000
namespace Go.Proofs.YtjeioblhpfogfaaGreatDoor
open Go.RowKit

/-- What operator86 comes to, from the state alone. -/
def op86 (toks : List Tk) (s : St) : Except Int St :=
  if levF (signAt toks s.pl) = 0 then .ok (finDown 1 s.begun.length s)
  else match (finDown (levF (signAt toks s.pl)) s.begun.length s).done.reverse with
    | d :: l => st86F toks s l.reverse d
    | [] => .error 0
/-- A step; operator86 is told what it comes to. -/
def GoesD (toks : List Tk) (k : Nat) (s : St) (q : Except Int St) : Prop := Goes toks k s q ∧ (k = 86 → q = op86 toks s)
def RunDN (toks : List Tk) : Nat → St → Except Int St → Prop
  | 0, s, r => s.todo = [] ∧ r = .ok s
  | n + 1, s, r => (s.todo = [] ∧ r = .ok s) ∨ ∃ k rest q, s.todo = k :: rest ∧ GoesD toks k { s with todo := rest } q ∧ (match q with
    | .error e => r = .error e
    | .ok s' => RunDN toks n s' r)
/-- What all that is to be done comes to; operator86 is told what it comes to. -/
def RunD (toks : List Tk) (s : St) (r : Except Int St) : Prop := ∃ n, RunDN toks n s r
theorem RunDN.plain {toks : List Tk} : ∀ {n : Nat} {s : St} {r : Except Int St}, RunDN toks n s r → RunsN toks n s r
  | 0, s, r, h => h
  | n + 1, s, r, h => by
    rw [RunDN] at h
    rw [RunsN]
    rcases h with h | ⟨k, rest, q, ht, hg, h⟩
    · exact .inl h
    · refine .inr ⟨k, rest, q, ht, hg.1, ?_⟩
      cases q with
      | error e => exact h
      | ok s' => exact RunDN.plain h
theorem RunD.done {toks : List Tk} {s : St} (h : s.todo = []) : RunD toks s (.ok s) := ⟨0, h, rfl⟩
theorem RunD.ok {toks : List Tk} {s s' : St} {k : Nat} {rest : List Nat} {q : Except Int St} {r : Except Int St} (ht : s.todo = k :: rest) (hg : Goes toks k { s with todo := rest } q) (hq : q = .ok s') (h : RunD toks s' r) (hn : ¬ k = 86 := by decide) : RunD toks s r := by
  obtain ⟨n, h⟩ := h
  subst hq
  exact ⟨n + 1, Or.inr ⟨k, rest, _, ht, ⟨hg, fun e => absurd e hn⟩, h⟩⟩
theorem RunD.wrong {toks : List Tk} {s : St} {k : Nat} {rest : List Nat} {q : Except Int St} {e : Int} (ht : s.todo = k :: rest) (hg : Goes toks k { s with todo := rest } q) (hq : q = .error e) (hn : ¬ k = 86 := by decide) : RunD toks s (.error e) := by
  subst hq
  exact ⟨1, Or.inr ⟨k, rest, _, ht, ⟨hg, fun e => absurd e hn⟩, rfl⟩⟩
theorem RunD.op {toks : List Tk} {s s' : St} {rest : List Nat} {r : Except Int St} (ht : s.todo = 86 :: rest) (hg : Goes toks 86 { s with todo := rest } (op86 toks { s with todo := rest })) (hq : op86 toks { s with todo := rest } = .ok s') (h : RunD toks s' r) : RunD toks s r := by
  obtain ⟨n, h⟩ := h
  refine ⟨n + 1, Or.inr ⟨86, rest, _, ht, ⟨hg, fun _ => rfl⟩, ?_⟩⟩
  rw [hq]
  exact h
/-- Two states from which operator86 comes to the same. -/
theorem RunD.swap {toks : List Tk} {s s1 : St} {rest : List Nat} {r : Except Int St} (h : RunD toks s r) (ht : s.todo = 86 :: rest) (ht1 : s1.todo = 86 :: rest) (hg : Goes toks 86 { s1 with todo := rest } (op86 toks { s1 with todo := rest })) (he : op86 toks { s1 with todo := rest } = op86 toks { s with todo := rest }) : RunD toks s1 r := by
  obtain ⟨n, h⟩ := h
  cases n with
  | zero => exact absurd h.1 (by rw [ht]; simp)
  | succ n =>
    rw [RunDN] at h
    rcases h with h | ⟨k, rest', q, h1, hg', h⟩
    · exact absurd h.1 (by rw [ht]; simp)
    rw [ht] at h1
    injection h1 with h1 h2
    subst h1 h2
    refine ⟨n + 1, Or.inr ⟨86, rest, op86 toks { s1 with todo := rest }, ht1, ⟨hg, fun _ => rfl⟩, ?_⟩⟩
    rw [he, ← hg'.2 rfl]
    exact h
theorem goesOp {toks : List Tk} {s : St} (hf : Fine toks s) (hw : WfB s.done.length s.begun) (hd : ¬ levF (signAt toks s.pl) = 0 → ∃ l d, (finDown (levF (signAt toks s.pl)) s.begun.length s).done = l ++ [d]) : Goes toks 86 s (op86 toks s) := by
  unfold op86
  by_cases h0 : levF (signAt toks s.pl) = 0
  · have h := goes86 hf hw (l := []) (d := ⟨⟨0, ⟨#[]⟩, 0, false, 0⟩, [], 0⟩) (fun h => absurd h0 h)
    unfold st86F at h
    rw [if_pos h0] at h ⊢
    exact h
  · obtain ⟨l, d, e⟩ := hd h0
    rw [if_neg h0, e, List.reverse_append, List.reverse_singleton, List.singleton_append]
    dsimp only
    rw [List.reverse_reverse]
    exact goes86 hf hw (fun _ => e)
theorem finDown_stay {lv : Int} {f : Nat} {s : St} (h : ∀ b l, s.begun = b :: l → b.level < lv) : finDown lv f s = s := by
  cases f with
  | zero => rfl
  | succ f =>
    rw [finDown]
    cases e : s.begun with
    | nil => rfl
    | cons b l =>
      dsimp only
      rw [if_neg (by have := h b l e; omega)]
/-- Where what a piece reads begins, if that is told. -/
def stP (toks : List Tk) : Pc → Nat → Option Int
  | .inl (), k => some (tk toks k).pos
  | .inr (.inr (.inl ())), k => some (tk toks k).pos
  | .inr (.inr (.inr (.inr (.inl _)))), k => some (tk toks k).pos
  | .inr (.inr (.inr (.inr (.inr (.inr (.inl ())))))), k => some (tk toks k).pos
  | .inr (.inr (.inr (.inr (.inr (.inr (.inr (.inl ()))))))), k => some (tk toks k).pos
  | .inr (.inr (.inr (.inr (.inr (.inr (.inr (.inr (.inr (.inl ()))))))))), k => some (tk toks k).pos
  | .inr (.inl (fr, _)), _ => some fr
  | .inr (.inr (.inr (.inl (fr, _)))), _ => some fr
  | .inr (.inr (.inr (.inr (.inr (.inl (_, fr, _)))))), _ => some fr
  | .inr (.inr (.inr (.inr (.inr (.inr (.inr (.inr (.inl (fr, _))))))))), _ => some fr
  | .inr (.inr (.inr (.inr (.inr (.inr (.inr (.inr (.inr (.inr (.inr (.inr (.inr (.inr (.inr (.inr (.inr (.inr (.inr (.inr (.inr (_))))))))))))))))))))), _ => some 0
  | _, _ => none
/-- Where what a piece has at its beginning begins. -/
def stR : Pc → Option Int
  | .inr (.inl (fr, _)) => some fr
  | .inr (.inr (.inr (.inl (fr, _)))) => some fr
  | .inr (.inr (.inr (.inr (.inr (.inl (_, fr, _)))))) => some fr
  | .inr (.inr (.inr (.inr (.inr (.inr (.inr (.inr (.inl (fr, _))))))))) => some fr
  | _ => none
def StOk (o : Option Int) (ds : List Dn) : Prop := ∀ p, o = some p → ∃ d, ds = [d] ∧ d.start = p
/-- The trees that a piece has at its beginning. -/
def acP : Pc → List Tr
  | .inr (.inl (_, n)) => n
  | .inr (.inr (.inr (.inl (_, n)))) => n
  | .inr (.inr (.inr (.inr (.inr (.inl (_, _, n)))))) => n
  | .inr (.inr (.inr (.inr (.inr (.inr (.inr (.inr (.inl (_, n))))))))) => n
  | .inr (.inr (.inr (.inr (.inr (.inr (.inr (.inr (.inr (.inr (.inl (_, n))))))))))) => n
  | .inr (.inr (.inr (.inr (.inr (.inr (.inr (.inr (.inr (.inr (.inr (.inr (.inr (.inl (_, _, n)))))))))))))) => n
  | .inr (.inr (.inr (.inr (.inr (.inr (.inr (.inr (.inr (.inr (.inr (.inr (.inr (.inr (.inr (.inl n))))))))))))))) => n
  | .inr (.inr (.inr (.inr (.inr (.inr (.inr (.inr (.inr (.inr (.inr (.inr (.inr (.inr (.inr (.inr (.inr (.inr (.inl (_, n))))))))))))))))))) => n
  | .inr (.inr (.inr (.inr (.inr (.inr (.inr (.inr (.inr (.inr (.inr (.inr (.inr (.inr (.inr (.inr (.inr (.inr (.inr (.inl (_, _, n)))))))))))))))))))) => n
  | .inr (.inr (.inr (.inr (.inr (.inr (.inr (.inr (.inr (.inr (.inr (.inr (.inr (.inr (.inr (.inr (.inr (.inr (.inr (.inr (.inr (n))))))))))))))))))))) => n
  | .inr (.inr (.inr (.inr (.inr (.inr (.inr (.inr (.inr (.inr (.inr (.inr (.inl (_, _, n))))))))))))) => n
  | _ => []
/-- The node that a piece fills. -/
def beP : Pc → Nat → List Bg
  | .inr (.inr (.inr (.inr (.inr (.inr (.inr (.inr (.inr (.inr (.inr (.inr (.inr (.inl (_, fr, _)))))))))))))), f => [⟨⟨42, ⟨#[]⟩, 0, false, fr⟩, 0, f⟩]
  | .inr (.inr (.inr (.inr (.inr (.inr (.inr (.inr (.inr (.inr (.inr (.inr (.inr (.inr (.inr (.inr (.inr (.inr (.inl (fr, _))))))))))))))))))), f => [⟨⟨47, ⟨#[]⟩, 0, false, fr⟩, 0, f⟩]
  | .inr (.inr (.inr (.inr (.inr (.inr (.inr (.inr (.inr (.inr (.inr (.inr (.inr (.inr (.inr (.inr (.inr (.inr (.inr (.inl (fr, nm, _)))))))))))))))))))), f => [⟨⟨41, nm, 0, false, fr⟩, 0, f⟩]
  | .inr (.inr (.inr (.inr (.inr (.inr (.inr (.inr (.inr (.inr (.inr (.inr (.inl (_, x, _))))))))))))), f => [⟨x, 0, f⟩]
  | .inr (.inr (.inr (.inr (.inr (.inr (.inr (.inr (.inr (.inr (.inr (.inr (.inr (.inr (.inr (.inr (.inr (.inr (.inr (.inr (.inr (_))))))))))))))))))))), f => [⟨⟨40, ⟨#[]⟩, 0, false, 0⟩, 0, f⟩]
  | _, _ => []
def primN (toks : List Tk) (k : Nat) : Nat := if signAt toks k = ⟨#[40]⟩ then 133 else 135
def clN (en : ByteArray) : Nat := if en = ⟨#[41]⟩ then 184 else 265
/-- The steps of a piece. -/
def enP (toks : List Tk) : Pc → Nat → List Nat
  | .inl (), _ => [24]
  | .inr (.inl (_, _)), _ => [49]
  | .inr (.inr (.inl ())), _ => [48]
  | .inr (.inr (.inr (.inl (_, _)))), _ => [87]
  | .inr (.inr (.inr (.inr (.inl _)))), _ => [85, 86]
  | .inr (.inr (.inr (.inr (.inr (.inl (_, _, _)))))), _ => [86]
  | .inr (.inr (.inr (.inr (.inr (.inr (.inl ())))))), _ => [85]
  | .inr (.inr (.inr (.inr (.inr (.inr (.inr (.inl ()))))))), k => [primN toks k, 134]
  | .inr (.inr (.inr (.inr (.inr (.inr (.inr (.inr (.inl (_, _))))))))), _ => [134]
  | .inr (.inr (.inr (.inr (.inr (.inr (.inr (.inr (.inr (.inl ()))))))))), k => [primN toks k]
  | .inr (.inr (.inr (.inr (.inr (.inr (.inr (.inr (.inr (.inr (.inl (en, _))))))))))), _ => [24, 231, clN en]
  | .inr (.inr (.inr (.inr (.inr (.inr (.inr (.inr (.inr (.inr (.inr (.inl false))))))))))), _ => [226, 227, 40]
  | .inr (.inr (.inr (.inr (.inr (.inr (.inr (.inr (.inr (.inr (.inr (.inl true))))))))))), _ => [226, 40]
  | .inr (.inr (.inr (.inr (.inr (.inr (.inr (.inr (.inr (.inr (.inr (.inr (.inl (false, _, _))))))))))))), _ => [227, 40]
  | .inr (.inr (.inr (.inr (.inr (.inr (.inr (.inr (.inr (.inr (.inr (.inr (.inl (true, _, _))))))))))))), _ => [40]
  | .inr (.inr (.inr (.inr (.inr (.inr (.inr (.inr (.inr (.inr (.inr (.inr (.inr (.inl (false, _, _)))))))))))))), _ => [188, 189, 182, 40]
  | .inr (.inr (.inr (.inr (.inr (.inr (.inr (.inr (.inr (.inr (.inr (.inr (.inr (.inl (true, _, _)))))))))))))), _ => [221, 222, 182, 40]
  | .inr (.inr (.inr (.inr (.inr (.inr (.inr (.inr (.inr (.inr (.inr (.inr (.inr (.inr (.inl ())))))))))))))), _ => [186]
  | .inr (.inr (.inr (.inr (.inr (.inr (.inr (.inr (.inr (.inr (.inr (.inr (.inr (.inr (.inr (.inl _))))))))))))))), _ => [186, 187]
  | .inr (.inr (.inr (.inr (.inr (.inr (.inr (.inr (.inr (.inr (.inr (.inr (.inr (.inr (.inr (.inr (.inl ())))))))))))))))), _ => [251]
  | .inr (.inr (.inr (.inr (.inr (.inr (.inr (.inr (.inr (.inr (.inr (.inr (.inr (.inr (.inr (.inr (.inr (.inl ()))))))))))))))))), _ => [185]
  | .inr (.inr (.inr (.inr (.inr (.inr (.inr (.inr (.inr (.inr (.inr (.inr (.inr (.inr (.inr (.inr (.inr (.inr (.inl (_, _))))))))))))))))))), _ => [223, 40]
  | .inr (.inr (.inr (.inr (.inr (.inr (.inr (.inr (.inr (.inr (.inr (.inr (.inr (.inr (.inr (.inr (.inr (.inr (.inr (.inl (_, _, _)))))))))))))))))))), _ => [181, 182, 40]
  | .inr (.inr (.inr (.inr (.inr (.inr (.inr (.inr (.inr (.inr (.inr (.inr (.inr (.inr (.inr (.inr (.inr (.inr (.inr (.inr (.inl ())))))))))))))))))))), k => [declF toks ⟨k, [], [], []⟩]
  | .inr (.inr (.inr (.inr (.inr (.inr (.inr (.inr (.inr (.inr (.inr (.inr (.inr (.inr (.inr (.inr (.inr (.inr (.inr (.inr (.inr (_))))))))))))))))))))), _ => [39, 40]
/-- What is still to be done behind a piece. -/
def exP : Pc → List Nat
  | .inr (.inr (.inr (.inr (.inl _)))) => [86]
  | .inr (.inr (.inr (.inr (.inr (.inl (_, _, _)))))) => [86]
  | _ => []
def topL : List Bg → Int
  | b :: _ => b.level
  | [] => 0
/-- What a piece asks of the node that was begun last. -/
def LvOk : Pc → List Bg → Prop
  | .inl (), b => topL b = 0
  | .inr (.inr (.inl ())), b => topL b = 0
  | .inr (.inr (.inr (.inr (.inr (.inr (.inr (.inr (.inr (.inr (.inl (_, _))))))))))), b => topL b = 0
  | .inr (.inr (.inr (.inr (.inl lv)))), b => 1 ≤ lv ∧ topL b < lv
  | .inr (.inr (.inr (.inr (.inr (.inl (lv, _, _)))))), b => 1 ≤ lv ∧ topL b < lv
  | _, _ => True
def LvEnd (toks : List Tk) : Pc → Nat → Prop
  | .inr (.inr (.inr (.inr (.inl lv)))), k => levF (signAt toks k) < lv ∨ levF (signAt toks k) = 0
  | .inr (.inr (.inr (.inr (.inr (.inl (lv, _, _)))))), k => levF (signAt toks k) < lv ∨ levF (signAt toks k) = 0
  | _, _ => True
/-- How much room a piece leaves. -/
def roomP : Pc → Nat
  | .inr (.inr (.inr (.inr (.inr (.inr (.inr (.inr (.inr (.inr (.inr (.inr (.inr (.inr (.inr (.inr (.inr (.inr (.inr (.inr (.inr (_))))))))))))))))))))) => 1
  | .inr (.inr (.inr (.inr (.inr (.inr (.inr (.inr (.inr (.inr (.inr (.inr (.inr (.inr (.inr (.inr (.inr (.inr (.inr (.inr (.inl ())))))))))))))))))))) => 4
  | .inr (.inr (.inr (.inr (.inr (.inr (.inr (.inr (.inr (.inr (.inr (.inr (.inr (.inr (.inr (.inr (.inr (.inr (.inl (_, _))))))))))))))))))) => 2
  | .inr (.inr (.inr (.inr (.inr (.inr (.inr (.inr (.inr (.inr (.inr (.inr (.inr (.inr (.inr (.inr (.inl ())))))))))))))))) => 5
  | .inr (.inr (.inr (.inr (.inr (.inr (.inr (.inr (.inr (.inr (.inr (.inr (.inr (.inr (.inr (.inr (.inr (.inl ()))))))))))))))))) => 5
  | .inr (.inr (.inr (.inr (.inr (.inr (.inr (.inr (.inr (.inr (.inl (_, _))))))))))) => 6
  | .inr (.inr (.inr (.inr (.inr (.inr (.inr (.inr (.inr (.inr (.inr (.inr (.inr (.inl (_, _, _)))))))))))))) => 3
  | .inr (.inr (.inr (.inr (.inr (.inr (.inr (.inr (.inr (.inr (.inr (.inr (.inr (.inr (.inr (.inl _))))))))))))))) => 6
  | .inl () => 8
  | .inr (.inr (.inl ())) => 9
  | .inr (.inr (.inr (.inl (_, _)))) => 9
  | .inr (.inr (.inr (.inr (.inl _)))) => 10
  | .inr (.inr (.inr (.inr (.inr (.inl (_, _, _)))))) => 10
  | .inr (.inr (.inr (.inr (.inr (.inr (.inl ())))))) => 11
  | .inr (.inr (.inr (.inr (.inr (.inr (.inr (.inl ()))))))) => 11
  | .inr (.inr (.inr (.inr (.inr (.inr (.inr (.inr (.inr (.inl ()))))))))) => 12
  | _ => 7
structure Bnd (toks : List Tk) (c : Pc) (k : Nat) (rest : List Nat) (begun : List Bg) (done : List Dn) : Prop where
  at_ : k < toks.length
  few : toks.length ≤ 1000000
  room : rest.length + begun.length ≤ 12 * k + roomP c
  done : done.length ≤ k + 2
theorem Bnd.fine {toks : List Tk} {c : Pc} {k : Nat} {rest todo : List Nat} {begun bg : List Bg} {done dn : List Dn} (h : Bnd toks c k rest begun done) (ht : todo.length ≤ rest.length + 20) (hb : bg.length ≤ begun.length + 20) (hd : dn.length ≤ done.length + 20) : Fine toks ⟨k, todo, bg, dn⟩ := by
  have h1 := h.at_
  have h2 := h.few
  have h3 := h.room
  have h4 := h.done
  have h5 : roomP c ≤ 12 := by rcases c with ⟨⟩ | ⟨fr, nt⟩ | ⟨⟩ | ⟨fr, nt⟩ | lv | ⟨lv, fr, nt⟩ | ⟨⟩ | ⟨⟩ | ⟨fr, nt⟩ | ⟨⟩ | ⟨en, acc⟩ | bare | ⟨bare, x, ks⟩ | ⟨bare, fr, acc⟩ | ⟨⟩ | acc | ⟨⟩ | ⟨⟩ | ⟨fr, acc⟩ | ⟨fr, nm, acc⟩ | ⟨⟩ | acc <;> dsimp only [roomP] <;> omega
  refine ⟨h1, h2, ?_, ?_, ?_⟩ <;> dsimp only <;> omega
/-- What is known of the answer. -/
def Kt (rr : Except Int St) (C : List Tr → Nat → Prop) : Rs → Prop
  | .error e => rr = .error e
  | .ok (ts, k) => C ts k
/-- A piece and its steps. -/
def Sim (toks : List Tk) (c : Pc) (k : Nat) (r : Rs) : Prop := ∀ (rest : List Nat) (begun : List Bg) (done0 pre : List Dn) (rr : Except Int St), pre.map dnT = acP c → StOk (stR c) pre → Bnd toks c k rest begun (done0 ++ pre) → LvOk c begun → WfB done0.length begun →
  Kt rr (fun ts k' => ∀ ds, ds.map dnT = ts → StOk (stP toks c k) ds → LvEnd toks c k' → RunD toks ⟨k', exP c ++ rest, begun, done0 ++ ds⟩ rr) r →
  RunD toks ⟨k, enP toks c k ++ rest, beP c done0.length ++ begun, done0 ++ pre⟩ rr
/-- A plain program and a state of the machine. -/
def Sm (toks : List Tk) (n : Nat) (g : Pg) (K : Rs → Prop) (G : Prop) : Prop := ∀ r, runP toks n g = some r → K r → G
theorem Sm.back {toks : List Tk} {n k : Nat} {ts : List Tr} {K : Rs → Prop} {G : Prop} (h : K (.ok (ts, k)) → G) : Sm toks n (.back ts k) K G := by
  intro r e hk
  unfold Pg.back at e
  rw [runP] at e
  injection e with e
  subst e
  exact h hk
theorem Sm.wrong {toks : List Tk} {n k : Nat} {K : Rs → Prop} {G : Prop} (h : K (.error (tk toks k).pos) → G) : Sm toks n (.wrong toks k) K G := by
  intro r e hk
  unfold Pg.wrong at e
  rw [runP] at e
  injection e with e
  subst e
  exact h hk
theorem Sm.ite {toks : List Tk} {n : Nat} {c : Prop} [Decidable c] {a b : Pg} {K : Rs → Prop} {G : Prop} (ha : c → Sm toks n a K G) (hb : ¬ c → Sm toks n b K G) : Sm toks n (if c then a else b) K G := by
  by_cases h : c
  · rw [if_pos h]; exact ha h
  · rw [if_neg h]; exact hb h
theorem Sm.eat {toks : List Tk} {n k : Nat} {c : ByteArray} {f : Nat → Pg} {K : Rs → Prop} {G : Prop} (ha : signAt toks k = c → Sm toks n (f (k + 1)) K G) (hb : ¬ signAt toks k = c → K (.error (tk toks k).pos) → G) : Sm toks n (eat toks c k f) K G := by
  unfold Go.Proofs.YtjeioblhpfogfaaGreatDoor.eat
  exact Sm.ite ha (fun h => Sm.wrong (hb h))
theorem Sm.nam {toks : List Tk} {n k : Nat} {f : ByteArray → Nat → Pg} {K : Rs → Prop} {G : Prop} (ha : (tk toks k).kind = 2 → Sm toks n (f (tk toks k).text (k + 1)) K G) (hb : ¬ (tk toks k).kind = 2 → K (.error (tk toks k).pos) → G) : Sm toks n (nam toks k f) K G := by
  unfold Go.Proofs.YtjeioblhpfogfaaGreatDoor.nam
  exact Sm.ite ha (fun h => Sm.wrong (hb h))
theorem Sm.step {toks : List Tk} {n : Nat} {g : Pg} {K : Rs → Prop} {G G' : Prop} (h : G' → G) (hs : Sm toks n g K G') : Sm toks n g K G := fun r e hk => h (hs r e hk)
theorem Sm.call {toks : List Tk} {n k : Nat} {c : Pc} {f : List Tr → Nat → Pg} {rr : Except Int St} {C : List Tr → Nat → Prop} (hT : TokOk toks) (ih : ∀ m, m < n → ∀ c k r, okP c → k < toks.length → runP toks m (body toks c k) = some r → Sim toks c k r) (hc : okP c)
    {rest : List Nat} {begun : List Bg} {done0 pre : List Dn} (hp : pre.map dnT = acP c) (hs : StOk (stR c) pre) (hB : Bnd toks c k rest begun (done0 ++ pre)) (hl : LvOk c begun) (hw : WfB done0.length begun)
    (h : ∀ m ts k1 ds, m < n → k + loP c ≤ k1 → k1 < toks.length → ds.length + k ≤ k1 + baP c → ds.map dnT = ts → StOk (stP toks c k) ds → LvEnd toks c k1 → Sm toks m (f ts k1) (Kt rr C) (RunD toks ⟨k1, exP c ++ rest, begun, done0 ++ ds⟩ rr)) :
    Sm toks n (.call c k f) (Kt rr C) (RunD toks ⟨k, enP toks c k ++ rest, beP c done0.length ++ begun, done0 ++ pre⟩ rr) := by
  intro r e hk
  cases n with
  | zero => rw [runP] at e; cases e
  | succ n =>
    rw [runP] at e
    cases e1 : runP toks n (body toks c k) with
    | none => rw [e1] at e; cases e
    | some q =>
      have hS := ih n (by omega) c k q hc hB.at_ e1
      rw [e1] at e
      refine hS rest begun done0 pre rr hp hs hB hl hw ?_
      cases q with
      | error q =>
        injection e with e
        subst e
        exact hk
      | ok q =>
        obtain ⟨ts1, k1⟩ := q
        obtain ⟨h1, h2, h3⟩ := adv hT n c k hc hB.at_ ts1 k1 e1
        intro ds hd hst hle
        have hlen : ds.length = ts1.length := by rw [← hd, List.length_map]
        exact h n ts1 k1 ds (by omega) h1 h2 (by omega) hd hst hle r e hk
end Go.Proofs.YtjeioblhpfogfaaGreatDoor
namespace Go.Proofs.YtjeioblhpfogfaaGreatDoor
open Go.RowKit

def SimAll (toks : List Tk) (n : Nat) : Prop := ∀ m, m < n → ∀ c k r, okP c → k < toks.length → runP toks m (body toks c k) = some r → Sim toks c k r
theorem SimAll.less {toks : List Tk} {n m : Nat} (h : SimAll toks n) (hm : m < n) : SimAll toks m := fun j hj => h j (by omega)
theorem stOk_none (ds : List Dn) : StOk none ds := fun p h => by cases h
theorem sim_expr {toks : List Tk} (hT : TokOk toks) {n k : Nat} {r : Rs} (ih : SimAll toks n) (e : runP toks n (body toks .expr k) = some r) : Sim toks .expr k r := by
  intro rest begun done0 pre rr hp hs hB hl hw hk
  obtain rfl : pre = [] := List.map_eq_nil_iff.1 hp
  refine (?_ : Sm toks n (body toks .expr k) (Kt rr _) _) r e hk
  unfold body
  refine Sm.step (G' := RunD toks ⟨k, 48 :: 49 :: rest, begun, done0 ++ []⟩ rr) (fun h => RunD.ok rfl (goes24 (hB.fine (by simp) (by simp [beP]) (by simp))) rfl h) ?_
  have h1 := hB.room
  have h2 := hB.done
  dsimp only [roomP] at h1
  refine Sm.call (c := .cond) (rest := 49 :: rest) (begun := begun) (done0 := done0) (pre := []) hT ih trivial rfl (stOk_none _) ⟨hB.at_, hB.few, ?_, hB.done⟩ hl hw ?_
  · dsimp only [roomP]
    rw [List.length_cons]
    omega
  intro m ts k1 ds hm hl1 hb1 hn1 hd hst hle
  dsimp only [loP, baP] at hl1 hn1
  have h3 : ds.length + done0.length ≤ k1 + 2 := by
    simp at h2
    omega
  refine Sm.call (c := .exprR (tk toks k).pos ts) (rest := rest) (begun := begun) (done0 := done0) (pre := ds) hT (ih.less hm) trivial hd hst ⟨hb1, hB.few, ?_, ?_⟩ trivial hw ?_
  · dsimp only [roomP]
    omega
  · rw [List.length_append]
    omega
  intro m2 ts2 k2 ds2 hm2 hl2 hb2 hn2 hd2 hst2 hle2
  exact Sm.back fun hK => hK ds2 hd2 hst2 trivial
theorem run_fin {toks : List Tk} {k : Nat} {rest : List Nat} {b : Bg} {begun : List Bg} {done0 m : List Dn} {rr : Except Int St} (hf : Fine toks ⟨k, rest, b :: begun, done0 ++ m⟩) (hb : b.first = done0.length) (h : RunD toks ⟨k, rest, begun, done0 ++ [⟨b.x, m.map dnT, b.x.pos⟩]⟩ rr) : RunD toks ⟨k, 40 :: rest, b :: begun, done0 ++ m⟩ rr := by
  refine RunD.ok rfl (goes40 hf (b := b) (lb := begun) rfl (by rw [hb, List.length_append]; omega)) ?_ h
  unfold st40F finS
  dsimp only
  rw [hb, List.take_left, List.drop_left]
theorem sim_exprR {toks : List Tk} (hT : TokOk toks) {n k : Nat} {fr : Int} {nt : List Tr} {r : Rs} (ih : SimAll toks n) (e : runP toks n (body toks (.exprR fr nt) k) = some r) : Sim toks (.exprR fr nt) k r := by
  intro rest begun done0 pre rr hp hs hB hl hw hk
  obtain ⟨d, rfl, hfr⟩ := hs fr rfl
  have h1 := hB.room
  have h2 := hB.done
  dsimp only [roomP] at h1
  rw [List.length_append, List.length_singleton] at h2
  have hn : nt = [dnT d] := hp.symm
  have hkd : kindOf nt = d.x.kind := by rw [hn]; rfl
  have hf : Fine toks ⟨k, rest, begun, done0 ++ [d]⟩ := hB.fine (by simp) (by simp) (by simp)
  refine (?_ : Sm toks n (body toks (.exprR fr nt) k) (Kt rr _) _) r e hk
  unfold body
  refine Sm.ite (fun a1 => Sm.ite (fun a2 => ?_) (fun a2 => Sm.wrong fun hK => ?_)) (fun a1 => Sm.back fun hK => ?_)
  · have hs1 : k + 1 < toks.length := sign_on hT (fun e1 => by rw [e1] at a1; simp [asgW, toList_data] at a1)
    refine Sm.step (G' := RunD toks ⟨k + 1, 24 :: 40 :: rest, ⟨⟨13, signAt toks k, 0, false, fr⟩, 0, done0.length⟩ :: begun, (done0 ++ [d]) ++ []⟩ rr) (fun h => RunD.ok rfl (goes49 hf (l := done0) (d := d) rfl) (by
      unfold st49F
      rw [if_pos a1, if_pos (by rw [← hkd]; exact a2), List.append_nil, hfr]) h) ?_
    refine Sm.call (c := .expr) (rest := 40 :: rest) (begun := ⟨⟨13, signAt toks k, 0, false, fr⟩, 0, done0.length⟩ :: begun) (done0 := done0 ++ [d]) (pre := []) hT ih trivial rfl (stOk_none _) ⟨hs1, hB.few, ?_, ?_⟩ rfl ⟨by simp, hw⟩ ?_
    · dsimp only [roomP]
      rw [List.length_cons, List.length_cons]
      omega
    · simp
      omega
    intro m ts k1 ds hm hl1 hb1 hn1 hd hst hle
    dsimp only [loP, baP] at hl1 hn1
    obtain ⟨d2, rfl, _⟩ := hst _ rfl
    refine Sm.back fun hK => ?_
    rw [List.append_assoc]
    refine run_fin (Bnd.fine (c := .expr) (rest := rest) (begun := begun) (done := done0 ++ [d]) ⟨hb1, hB.few, ?_, ?_⟩ (by simp) (by simp) (by simp)) rfl (hK _ ?_ ?_ trivial)
    · dsimp only [roomP]
      omega
    · simp
      omega
    · rw [hn, ← hd]
      rfl
    · intro p hpp
      exact ⟨_, rfl, by injection hpp⟩
  · refine (show rr = _ from hK) ▸ RunD.wrong rfl (goes49 hf (l := done0) (d := d) rfl) ?_
    unfold st49F
    rw [if_pos a1, if_neg (by rw [← hkd]; exact a2)]
  · refine RunD.ok rfl (goes49 hf (l := done0) (d := d) rfl) (s' := ⟨k, rest, begun, done0 ++ [d]⟩) ?_ (hK [d] hp (fun p hpp => ⟨_, rfl, by injection hpp with hpp; rw [← hpp]; exact hfr⟩) trivial)
    unfold st49F
    rw [if_neg a1]
end Go.Proofs.YtjeioblhpfogfaaGreatDoor
namespace Go.Proofs.YtjeioblhpfogfaaGreatDoor
open Go.RowKit

theorem levFrom_two (sx : ByteArray) : ∀ (t : List (ByteArray × Int)), (∀ p ∈ t, 2 ≤ p.2) → ¬ levFrom sx t = 0 → 2 ≤ levFrom sx t
  | [], _, h => absurd rfl h
  | e :: r, hp, h => by
    rw [levFrom] at h ⊢
    split
    · exact hp e (List.mem_cons_self ..)
    · rename_i hn
      rw [if_neg hn] at h
      exact levFrom_two sx r (fun p hm => hp p (List.mem_cons_of_mem _ hm)) h
theorem lev_two {sx : ByteArray} (h : ¬ levF sx = 0) : 2 ≤ levF sx := levFrom_two sx opTab (by
  intro p hp
  simp only [opTab, List.mem_cons, List.not_mem_nil, or_false] at hp
  rcases hp with h | h | h | h | h | h | h | h | h | h | h | h | h | h | h | h | h | h <;> subst h <;> decide) h
theorem topL_lt {b : List Bg} {lv : Int} (h : topL b < lv) : ∀ x l, b = x :: l → x.level < lv := fun x l e => by
  subst e
  exact h
/-- No operator follows: the nodes that were begun stay. -/
theorem run_noop {toks : List Tk} {k : Nat} {rest : List Nat} {begun : List Bg} {done : List Dn} {rr : Except Int St} (hf : Fine toks ⟨k, rest, begun, done⟩) (hw : WfB done.length begun) (h0 : levF (signAt toks k) = 0) (ht : topL begun < 1) (h : RunD toks ⟨k, rest, begun, done⟩ rr) : RunD toks ⟨k, 86 :: rest, begun, done⟩ rr := by
  refine RunD.op rfl (goesOp hf hw fun h => absurd h0 h) ?_ h
  unfold op86
  dsimp only
  rw [if_pos h0, finDown_stay (topL_lt ht)]
theorem sim_cond {toks : List Tk} (hT : TokOk toks) {n k : Nat} {r : Rs} (ih : SimAll toks n) (e : runP toks n (body toks .cond k) = some r) : Sim toks .cond k r := by
  intro rest begun done0 pre rr hp hs hB hl hw hk
  obtain rfl : pre = [] := List.map_eq_nil_iff.1 hp
  refine (?_ : Sm toks n (body toks .cond k) (Kt rr _) _) r e hk
  unfold body
  refine Sm.step (G' := RunD toks ⟨k, 85 :: 86 :: 87 :: rest, begun, done0 ++ []⟩ rr) (fun h => RunD.ok rfl (goes48 (hB.fine (by simp) (by simp [beP]) (by simp))) rfl h) ?_
  have h1 := hB.room
  have h2 := hB.done
  have hl0 : topL begun = 0 := hl
  dsimp only [roomP] at h1
  refine Sm.call (c := .bin 2) (rest := 87 :: rest) (begun := begun) (done0 := done0) (pre := []) hT ih trivial rfl (stOk_none _) ⟨hB.at_, hB.few, ?_, hB.done⟩ ⟨by decide, by omega⟩ hw ?_
  · dsimp only [roomP]
    rw [List.length_cons]
    omega
  intro m ts k1 ds hm hl1 hb1 hn1 hd hst hle
  dsimp only [loP, baP, LvEnd] at hl1 hn1 hle
  have h3 : ds.length + done0.length ≤ k1 + 2 := by
    simp at h2
    omega
  have hB1 : Bnd toks (.condR (tk toks k).pos ts) k1 rest begun (done0 ++ ds) := ⟨hb1, hB.few, by dsimp only [roomP]; omega, by rw [List.length_append]; omega⟩
  have h0 : levF (signAt toks k1) = 0 := by
    apply Classical.byContradiction
    intro hn
    have := lev_two hn
    omega
  refine Sm.step (G' := RunD toks ⟨k1, 87 :: rest, begun, done0 ++ ds⟩ rr) (fun h => run_noop (hB1.fine (by simp) (by simp) (by simp)) (hw.mono (by rw [List.length_append]; omega)) h0 (by omega) h) ?_
  refine Sm.call (c := .condR (tk toks k).pos ts) (rest := rest) (begun := begun) (done0 := done0) (pre := ds) hT (ih.less hm) trivial hd hst hB1 trivial hw ?_
  intro m2 ts2 k2 ds2 hm2 hl2 hb2 hn2 hd2 hst2 hle2
  exact Sm.back fun hK => hK ds2 hd2 hst2 trivial
theorem sim_bin {toks : List Tk} (hT : TokOk toks) {n k : Nat} {lv : Int} {r : Rs} (ih : SimAll toks n) (e : runP toks n (body toks (.bin lv) k) = some r) : Sim toks (.bin lv) k r := by
  intro rest begun done0 pre rr hp hs hB hl hw hk
  obtain rfl : pre = [] := List.map_eq_nil_iff.1 hp
  refine (?_ : Sm toks n (body toks (.bin lv) k) (Kt rr _) _) r e hk
  unfold body
  have h1 := hB.room
  have h2 := hB.done
  dsimp only [roomP] at h1
  refine Sm.call (c := .un) (rest := 86 :: rest) (begun := begun) (done0 := done0) (pre := []) hT ih trivial rfl (stOk_none _) ⟨hB.at_, hB.few, ?_, hB.done⟩ trivial hw ?_
  · dsimp only [roomP]
    rw [List.length_cons]
    omega
  intro m ts k1 ds hm hl1 hb1 hn1 hd hst hle
  dsimp only [loP, baP] at hl1 hn1
  have h3 : ds.length + done0.length ≤ k1 + 2 := by
    simp at h2
    omega
  refine Sm.call (c := .binR lv (tk toks k).pos ts) (rest := rest) (begun := begun) (done0 := done0) (pre := ds) hT (ih.less hm) trivial hd hst ⟨hb1, hB.few, ?_, ?_⟩ hl hw ?_
  · dsimp only [roomP]
    omega
  · rw [List.length_append]
    omega
  intro m2 ts2 k2 ds2 hm2 hl2 hb2 hn2 hd2 hst2 hle2
  exact Sm.back fun hK => hK ds2 hd2 hst2 hle2
theorem sim_condR {toks : List Tk} (hT : TokOk toks) {n k : Nat} {fr : Int} {nt : List Tr} {r : Rs} (ih : SimAll toks n) (e : runP toks n (body toks (.condR fr nt) k) = some r) : Sim toks (.condR fr nt) k r := by
  intro rest begun done0 pre rr hp hs hB hl hw hk
  obtain ⟨d, rfl, hfr⟩ := hs fr rfl
  have h1 := hB.room
  have h2 := hB.done
  dsimp only [roomP] at h1
  rw [List.length_append, List.length_singleton] at h2
  have hn : nt = [dnT d] := hp.symm
  have hf : Fine toks ⟨k, rest, begun, done0 ++ [d]⟩ := hB.fine (by simp) (by simp) (by simp)
  refine (?_ : Sm toks n (body toks (.condR fr nt) k) (Kt rr _) _) r e hk
  unfold body
  refine Sm.ite (fun a1 => ?_) (fun a1 => Sm.back fun hK => ?_)
  · have hs1 : k + 1 < toks.length := hT.sign a1 (by simp)
    refine Sm.step (G' := RunD toks ⟨k + 1, 24 :: 138 :: 48 :: 40 :: rest, ⟨⟨12, ⟨#[]⟩, 0, false, fr⟩, 0, done0.length⟩ :: begun, (done0 ++ [d]) ++ []⟩ rr) (fun h => RunD.ok rfl (goes87 hf (l := done0) (d := d) rfl) (by
      unfold st87F
      rw [if_pos a1, List.append_nil, hfr]) h) ?_
    refine Sm.call (c := .expr) (rest := 138 :: 48 :: 40 :: rest) (begun := ⟨⟨12, ⟨#[]⟩, 0, false, fr⟩, 0, done0.length⟩ :: begun) (done0 := done0 ++ [d]) (pre := []) hT ih trivial rfl (stOk_none _) ⟨hs1, hB.few, ?_, ?_⟩ rfl ⟨by simp, hw⟩ ?_
    · dsimp only [roomP]
      simp only [List.length_cons]
      omega
    · simp
      omega
    intro m ts k1 ds hm hl1 hb1 hn1 hd hst hle
    dsimp only [loP, baP] at hl1 hn1
    obtain ⟨d2, rfl, _⟩ := hst _ rfl
    have hf1 : Fine toks ⟨k1, 48 :: 40 :: rest, ⟨⟨12, ⟨#[]⟩, 0, false, fr⟩, 0, done0.length⟩ :: begun, (done0 ++ [d]) ++ [d2]⟩ := Bnd.fine (c := .expr) (rest := rest) (begun := begun) (done := done0 ++ [d]) ⟨hb1, hB.few, by dsimp only [roomP]; omega, by simp; omega⟩ (by simp) (by simp) (by simp)
    refine Sm.eat (fun a2 => ?_) (fun a2 hK => ?_)
    · have hs2 : k1 + 1 < toks.length := hT.sign a2 (by simp)
      refine Sm.step (G' := RunD toks ⟨k1 + 1, 48 :: 40 :: rest, ⟨⟨12, ⟨#[]⟩, 0, false, fr⟩, 0, done0.length⟩ :: begun, ((done0 ++ [d]) ++ [d2]) ++ []⟩ rr) (fun h => RunD.ok rfl (goes138 hf1) (by
        unfold st138F
        rw [if_pos a2, List.append_nil]) h) ?_
      refine Sm.call (c := .cond) (rest := 40 :: rest) (begun := ⟨⟨12, ⟨#[]⟩, 0, false, fr⟩, 0, done0.length⟩ :: begun) (done0 := (done0 ++ [d]) ++ [d2]) (pre := []) hT (ih.less hm) trivial rfl (stOk_none _) ⟨hs2, hB.few, ?_, ?_⟩ rfl ⟨by simp, hw⟩ ?_
      · dsimp only [roomP]
        simp only [List.length_cons]
        omega
      · simp
        omega
      intro m3 ts3 k3 ds3 hm3 hl3 hb3 hn3 hd3 hst3 hle3
      dsimp only [loP, baP] at hl3 hn3
      obtain ⟨d3, rfl, _⟩ := hst3 _ rfl
      refine Sm.back fun hK => ?_
      rw [List.append_assoc, List.append_assoc]
      refine run_fin (Bnd.fine (c := .expr) (rest := rest) (begun := begun) (done := done0 ++ [d]) ⟨hb3, hB.few, ?_, ?_⟩ (by simp) (by simp) (by simp)) rfl (hK _ ?_ ?_ trivial)
      · dsimp only [roomP]
        omega
      · simp
        omega
      · rw [hn, ← hd, ← hd3]
        rfl
      · intro p hpp
        exact ⟨_, rfl, by injection hpp⟩
    · refine (show rr = _ from hK) ▸ RunD.wrong rfl (goes138 hf1) ?_
      unfold st138F
      rw [if_neg a2]
  · refine RunD.ok rfl (goes87 hf (l := done0) (d := d) rfl) (s' := ⟨k, rest, begun, done0 ++ [d]⟩) ?_ (hK [d] hp (fun p hpp => ⟨_, rfl, by injection hpp with hpp; rw [← hpp]; exact hfr⟩) trivial)
    unfold st87F
    rw [if_neg a1]
end Go.Proofs.YtjeioblhpfogfaaGreatDoor
namespace Go.Proofs.YtjeioblhpfogfaaGreatDoor
open Go.RowKit

theorem finDown_last {lv : Int} : ∀ (f : Nat) (s : St), (∃ l d, s.done = l ++ [d]) → ∃ l d, (finDown lv f s).done = l ++ [d]
  | 0, s, h => h
  | f + 1, s, h => by
    rw [finDown]
    cases e : s.begun with
    | nil => exact h
    | cons b l =>
      dsimp only
      split
      · exact finDown_last f _ ⟨_, _, rfl⟩
      · exact h
/-- A node whose level is not below is finished first. -/
theorem finDown_first {lv : Int} {f k : Nat} {rest : List Nat} {b : Bg} {begun : List Bg} {done0 m : List Dn} (hb : b.first = done0.length) (hl : lv ≤ b.level) :
    finDown lv (f + 1) ⟨k, rest, b :: begun, done0 ++ m⟩ = finDown lv f ⟨k, rest, begun, done0 ++ [⟨b.x, m.map dnT, b.x.pos⟩]⟩ := by
  rw [finDown]
  dsimp only
  rw [if_pos hl]
  unfold finS
  dsimp only
  rw [hb, List.take_left, List.drop_left]
theorem op86_first {toks : List Tk} {k : Nat} {rest : List Nat} {b : Bg} {begun : List Bg} {done0 m : List Dn} (hb : b.first = done0.length) (h1 : 1 ≤ b.level) (hl : levF (signAt toks k) ≤ b.level) :
    op86 toks ⟨k, rest, b :: begun, done0 ++ m⟩ = op86 toks ⟨k, rest, begun, done0 ++ [⟨b.x, m.map dnT, b.x.pos⟩]⟩ := by
  unfold op86 st86F
  dsimp only
  rw [List.length_cons, finDown_first hb h1, finDown_first hb hl]
theorem sim_binR {toks : List Tk} (hT : TokOk toks) {n k : Nat} {lv fr : Int} {nt : List Tr} {r : Rs} (ih : SimAll toks n) (e : runP toks n (body toks (.binR lv fr nt) k) = some r) : Sim toks (.binR lv fr nt) k r := by
  intro rest begun done0 pre rr hp hs hB hl hw hk
  obtain ⟨d, rfl, hfr⟩ := hs fr rfl
  have h1 := hB.room
  have h2 := hB.done
  obtain ⟨hlv1, hlv2⟩ := hl
  dsimp only [roomP] at h1
  rw [List.length_append, List.length_singleton] at h2
  have hn : nt = [dnT d] := hp.symm
  have hf : Fine toks ⟨k, rest, begun, done0 ++ [d]⟩ := hB.fine (by simp) (by simp) (by simp)
  refine (?_ : Sm toks n (body toks (.binR lv fr nt) k) (Kt rr _) _) r e hk
  unfold body
  refine Sm.ite (fun a1 => Sm.back fun hK => ?_) (fun a1 => ?_)
  · exact hK [d] hp (fun p hpp => ⟨_, rfl, by injection hpp with hpp; rw [← hpp]; exact hfr⟩) a1
  have a2 : ¬ levF (signAt toks k) = 0 := fun h => a1 (.inr h)
  have a3 : lv ≤ levF (signAt toks k) := by
    apply Classical.byContradiction
    intro h
    exact a1 (.inl (by omega))
  have hs1 : k + 1 < toks.length := sign_on hT (fun e1 => a2 (by rw [e1]; exact lev_none))
  have hst : finDown (levF (signAt toks k)) begun.length ⟨k, rest, begun, done0 ++ [d]⟩ = ⟨k, rest, begun, done0 ++ [d]⟩ := finDown_stay (topL_lt (Int.lt_of_lt_of_le hlv2 a3))
  have hw1 : WfB (done0 ++ [d]).length begun := hw.mono (by rw [List.length_append]; omega)
  obtain ⟨L, hL⟩ : ∃ L, L = levF (signAt toks k) := ⟨_, rfl⟩
  obtain ⟨kd, hkd⟩ : ∃ kd : Int, kd = if L ≤ 3 then 11 else 10 := ⟨_, rfl⟩
  have hop : op86 toks ⟨k, rest, begun, done0 ++ [d]⟩ = .ok ⟨k + 1, 85 :: 86 :: rest, ⟨⟨kd, signAt toks k, 0, false, fr⟩, L, done0.length⟩ :: begun, (done0 ++ [d]) ++ []⟩ := by
    unfold op86
    dsimp only
    rw [if_neg a2, hst]
    dsimp only
    rw [List.reverse_append, List.reverse_singleton, List.singleton_append]
    dsimp only
    rw [List.reverse_reverse]
    unfold st86F
    dsimp only
    rw [if_neg a2, hst, List.append_nil, hkd, hL, hfr]
  have hstep : RunD toks ⟨k + 1, 85 :: 86 :: rest, ⟨⟨kd, signAt toks k, 0, false, fr⟩, L, done0.length⟩ :: begun, (done0 ++ [d]) ++ []⟩ rr → RunD toks ⟨k, 86 :: rest, begun, done0 ++ [d]⟩ rr := fun h => RunD.op (rest := rest) rfl (goesOp hf hw1 fun _ => ⟨done0, d, by dsimp only; rw [hst]⟩) hop h
  refine Sm.step hstep ?_
  rw [← hL]
  refine Sm.call (c := .bin (L + 1)) (rest := rest) (begun := ⟨⟨kd, signAt toks k, 0, false, fr⟩, L, done0.length⟩ :: begun) (done0 := done0 ++ [d]) (pre := []) hT ih trivial rfl (stOk_none _) ⟨hs1, hB.few, ?_, ?_⟩ ⟨by omega, by dsimp only [topL]; omega⟩ ⟨by simp, hw⟩ ?_
  · dsimp only [roomP]
    rw [List.length_cons]
    omega
  · simp
    omega
  intro m ts k1 ds hm hl1 hb1 hn1 hd hst1 hle
  dsimp only [loP, baP, LvEnd] at hl1 hn1 hle
  obtain ⟨d2, rfl, _⟩ := hst1 _ rfl
  have hle2 : levF (signAt toks k1) ≤ L := by omega
  have hd' : ts = [dnT d2] := hd.symm
  have hf1 : Fine toks ⟨k1, rest, ⟨⟨kd, signAt toks k, 0, false, fr⟩, L, done0.length⟩ :: begun, done0 ++ [d, d2]⟩ := Bnd.fine (c := .binR lv fr nt) (rest := rest) (begun := begun) (done := done0 ++ [d]) ⟨hb1, hB.few, by dsimp only [roomP]; omega, by simp; omega⟩ (by simp) (by simp) (by simp)
  refine Sm.step (G' := RunD toks ⟨k1, 86 :: rest, begun, done0 ++ [⟨⟨kd, signAt toks k, 0, false, fr⟩, [dnT d, dnT d2], fr⟩]⟩ rr) (fun h => ?_) ?_
  · rw [List.append_assoc]
    refine RunD.swap h rfl rfl (goesOp hf1 ⟨by simp, hw⟩ fun _ => ?_) (op86_first rfl (by dsimp only; omega) hle2)
    exact finDown_last _ _ ⟨done0 ++ [d], d2, by simp⟩
  refine Sm.call (c := .binR lv fr [Tr.node ⟨if L ≤ 3 then 11 else 10, signAt toks k, 0, false, fr⟩ (nt ++ ts)]) (rest := rest) (begun := begun) (done0 := done0) (pre := [⟨⟨kd, signAt toks k, 0, false, fr⟩, [dnT d, dnT d2], fr⟩]) hT (ih.less hm) trivial ?_ ?_ ⟨hb1, hB.few, ?_, ?_⟩ ⟨hlv1, hlv2⟩ hw ?_
  · rw [hn, hd', hkd]
    rfl
  · intro p hpp
    exact ⟨_, rfl, by injection hpp⟩
  · dsimp only [roomP]
    omega
  · simp
    omega
  intro m2 ts2 k2 ds2 hm2 hl2 hb2 hn2 hd2 hst2 hle3
  exact Sm.back fun hK => hK ds2 hd2 hst2 hle3
end Go.Proofs.YtjeioblhpfogfaaGreatDoor
namespace Go.Proofs.YtjeioblhpfogfaaGreatDoor
open Go.RowKit

theorem sim_post {toks : List Tk} (hT : TokOk toks) {n k : Nat} {r : Rs} (ih : SimAll toks n) (e : runP toks n (body toks .post k) = some r) : Sim toks .post k r := by
  intro rest begun done0 pre rr hp hs hB hl hw hk
  obtain rfl : pre = [] := List.map_eq_nil_iff.1 hp
  refine (?_ : Sm toks n (body toks .post k) (Kt rr _) _) r e hk
  unfold body
  have h1 := hB.room
  have h2 := hB.done
  dsimp only [roomP] at h1
  refine Sm.call (c := .prim) (rest := 134 :: rest) (begun := begun) (done0 := done0) (pre := []) hT ih trivial rfl (stOk_none _) ⟨hB.at_, hB.few, ?_, hB.done⟩ trivial hw ?_
  · dsimp only [roomP]
    rw [List.length_cons]
    omega
  intro m ts k1 ds hm hl1 hb1 hn1 hd hst hle
  dsimp only [loP, baP] at hl1 hn1
  have h3 : ds.length + done0.length ≤ k1 + 2 := by
    simp at h2
    omega
  refine Sm.call (c := .postR (tk toks k).pos ts) (rest := rest) (begun := begun) (done0 := done0) (pre := ds) hT (ih.less hm) trivial hd hst ⟨hb1, hB.few, ?_, ?_⟩ trivial hw ?_
  · dsimp only [roomP]
    omega
  · rw [List.length_append]
    omega
  intro m2 ts2 k2 ds2 hm2 hl2 hb2 hn2 hd2 hst2 hle2
  exact Sm.back fun hK => hK ds2 hd2 hst2 trivial
theorem sim_postR {toks : List Tk} (hT : TokOk toks) {n k : Nat} {fr : Int} {nt : List Tr} {r : Rs} (ih : SimAll toks n) (e : runP toks n (body toks (.postR fr nt) k) = some r) : Sim toks (.postR fr nt) k r := by
  intro rest begun done0 pre rr hp hs hB hl hw hk
  obtain ⟨d, rfl, hfr⟩ := hs fr rfl
  have h1 := hB.room
  have h2 := hB.done
  dsimp only [roomP] at h1
  rw [List.length_append, List.length_singleton] at h2
  have hn : nt = [dnT d] := hp.symm
  have hf : Fine toks ⟨k, rest, begun, done0 ++ [d]⟩ := hB.fine (by simp) (by simp) (by simp)
  have hG := goes134 hf hT (l := done0) (d := d) rfl
  refine (?_ : Sm toks n (body toks (.postR fr nt) k) (Kt rr _) _) r e hk
  unfold body
  have hfs : ∀ (x : NdH), finS ⟨k + 2, rest, ⟨x, 0, done0.length⟩ :: begun, done0 ++ [d]⟩ ⟨x, 0, done0.length⟩ begun = ⟨k + 2, rest, begun, done0 ++ [⟨x, [dnT d], x.pos⟩]⟩ := fun x => by
    unfold finS
    dsimp only
    rw [List.take_left, List.drop_left]
    rfl
  refine Sm.ite (fun a1 => ?_) (fun a1 => Sm.ite (fun a2 => Sm.nam (fun hkk => ?_) (fun hkk hK => ?_)) (fun a2 => Sm.ite (fun a3 => Sm.nam (fun hkk => ?_) (fun hkk hK => ?_)) (fun a3 => Sm.back fun hK => ?_)))
  · have hs1 : k + 1 < toks.length := hT.sign a1 (by simp)
    refine Sm.step (G' := RunD toks ⟨k + 1, 24 :: 192 :: 40 :: 134 :: rest, ⟨⟨5, ⟨#[]⟩, 0, false, fr⟩, 0, done0.length⟩ :: begun, (done0 ++ [d]) ++ []⟩ rr) (fun h => RunD.ok rfl hG (by
      unfold st134F
      rw [if_pos a1, List.append_nil, hfr]) h) ?_
    refine Sm.call (c := .expr) (rest := 192 :: 40 :: 134 :: rest) (begun := ⟨⟨5, ⟨#[]⟩, 0, false, fr⟩, 0, done0.length⟩ :: begun) (done0 := done0 ++ [d]) (pre := []) hT ih trivial rfl (stOk_none _) ⟨hs1, hB.few, ?_, ?_⟩ rfl ⟨by simp, hw⟩ ?_
    · dsimp only [roomP]
      simp only [List.length_cons]
      omega
    · simp
      omega
    intro m ts k1 ds hm hl1 hb1 hn1 hd hst hle
    dsimp only [loP, baP] at hl1 hn1
    obtain ⟨d2, rfl, _⟩ := hst _ rfl
    have hf1 : Fine toks ⟨k1, 40 :: 134 :: rest, ⟨⟨5, ⟨#[]⟩, 0, false, fr⟩, 0, done0.length⟩ :: begun, (done0 ++ [d]) ++ [d2]⟩ := Bnd.fine (c := .expr) (rest := rest) (begun := begun) (done := done0 ++ [d]) ⟨hb1, hB.few, by dsimp only [roomP]; omega, by simp; omega⟩ (by simp) (by simp) (by simp)
    refine Sm.eat (fun a2 => ?_) (fun a2 hK => ?_)
    · have hs2 : k1 + 1 < toks.length := hT.sign a2 (by simp)
      have hf2 : Fine toks ⟨k1 + 1, 134 :: rest, ⟨⟨5, ⟨#[]⟩, 0, false, fr⟩, 0, done0.length⟩ :: begun, done0 ++ [d, d2]⟩ := Bnd.fine (c := .expr) (rest := rest) (begun := begun) (done := done0 ++ [d]) ⟨hs2, hB.few, by dsimp only [roomP]; omega, by simp; omega⟩ (by simp) (by simp) (by simp)
      refine Sm.step (G' := RunD toks ⟨k1 + 1, 134 :: rest, begun, done0 ++ [⟨⟨5, ⟨#[]⟩, 0, false, fr⟩, [dnT d, dnT d2], fr⟩]⟩ rr) (fun h => RunD.ok rfl (goes192 hf1) (s' := ⟨k1 + 1, 40 :: 134 :: rest, ⟨⟨5, ⟨#[]⟩, 0, false, fr⟩, 0, done0.length⟩ :: begun, done0 ++ [d, d2]⟩) (by
        unfold st192F
        rw [if_pos a2, List.append_assoc]
        rfl) (run_fin hf2 rfl h)) ?_
      refine Sm.call (c := .postR fr [Tr.node ⟨5, ⟨#[]⟩, 0, false, fr⟩ (nt ++ ts)]) (rest := rest) (begun := begun) (done0 := done0) (pre := [⟨⟨5, ⟨#[]⟩, 0, false, fr⟩, [dnT d, dnT d2], fr⟩]) hT (ih.less hm) trivial ?_ ?_ ⟨hs2, hB.few, ?_, ?_⟩ trivial hw ?_
      · rw [hn, ← hd]
        rfl
      · intro p hpp
        exact ⟨_, rfl, by injection hpp⟩
      · dsimp only [roomP]
        omega
      · simp
        omega
      intro m2 ts2 k2 ds2 hm2 hl2 hb2 hn2 hd2 hst2 hle3
      exact Sm.back fun hK => hK ds2 hd2 hst2 trivial
    · refine (show rr = _ from hK) ▸ RunD.wrong rfl (goes192 hf1) ?_
      unfold st192F
      rw [if_neg a2]
  · have hs2 : k + 2 < toks.length := by
      have hk1 : ¬ (tk toks (k + 1)).kind = 1 := by rw [hkk]; decide
      exact hT.next _ (tk_end hk1) hk1
    refine Sm.step (G' := RunD toks ⟨k + 2, 134 :: rest, begun, done0 ++ [⟨⟨6, (tk toks (k + 1)).text, 0, false, fr⟩, [dnT d], fr⟩]⟩ rr) (fun h => RunD.ok rfl hG (by
      unfold st134F
      dsimp only
      rw [if_neg a1, if_pos a2, if_pos hkk, hfs, hfr]) h) ?_
    refine Sm.call (c := .postR fr [Tr.node ⟨6, (tk toks (k + 1)).text, 0, false, fr⟩ nt]) (rest := rest) (begun := begun) (done0 := done0) (pre := [⟨⟨6, (tk toks (k + 1)).text, 0, false, fr⟩, [dnT d], fr⟩]) hT ih trivial ?_ ?_ ⟨hs2, hB.few, ?_, ?_⟩ trivial hw ?_
    · rw [hn]
      rfl
    · intro p hpp
      exact ⟨_, rfl, by injection hpp⟩
    · dsimp only [roomP]
      omega
    · simp
      omega
    intro m2 ts2 k2 ds2 hm2 hl2 hb2 hn2 hd2 hst2 hle3
    exact Sm.back fun hK => hK ds2 hd2 hst2 trivial
  · refine (show rr = _ from hK) ▸ RunD.wrong rfl hG ?_
    unfold st134F
    rw [if_neg a1, if_pos a2, if_neg hkk]
  · have hs2 : k + 2 < toks.length := by
      have hk1 : ¬ (tk toks (k + 1)).kind = 1 := by rw [hkk]; decide
      exact hT.next _ (tk_end hk1) hk1
    refine Sm.step (G' := RunD toks ⟨k + 2, 134 :: rest, begun, done0 ++ [⟨⟨7, (tk toks (k + 1)).text, 0, false, fr⟩, [dnT d], fr⟩]⟩ rr) (fun h => RunD.ok rfl hG (by
      unfold st134F
      dsimp only
      rw [if_neg a1, if_neg a2, if_pos a3, if_pos hkk, hfs, hfr]) h) ?_
    refine Sm.call (c := .postR fr [Tr.node ⟨7, (tk toks (k + 1)).text, 0, false, fr⟩ nt]) (rest := rest) (begun := begun) (done0 := done0) (pre := [⟨⟨7, (tk toks (k + 1)).text, 0, false, fr⟩, [dnT d], fr⟩]) hT ih trivial ?_ ?_ ⟨hs2, hB.few, ?_, ?_⟩ trivial hw ?_
    · rw [hn]
      rfl
    · intro p hpp
      exact ⟨_, rfl, by injection hpp⟩
    · dsimp only [roomP]
      omega
    · simp
      omega
    intro m2 ts2 k2 ds2 hm2 hl2 hb2 hn2 hd2 hst2 hle3
    exact Sm.back fun hK => hK ds2 hd2 hst2 trivial
  · refine (show rr = _ from hK) ▸ RunD.wrong rfl hG ?_
    unfold st134F
    rw [if_neg a1, if_neg a2, if_pos a3, if_neg hkk]
  · refine RunD.ok rfl hG (s' := ⟨k, rest, begun, done0 ++ [d]⟩) ?_ (hK [d] hp (fun p hpp => ⟨_, rfl, by injection hpp with hpp; rw [← hpp]; exact hfr⟩) trivial)
    unfold st134F
    rw [if_neg a1, if_neg a2, if_neg a3]
end Go.Proofs.YtjeioblhpfogfaaGreatDoor
namespace Go.Proofs.YtjeioblhpfogfaaGreatDoor
open Go.RowKit

theorem run_cl {toks : List Tk} {en : ByteArray} {k : Nat} {rest : List Nat} {begun : List Bg} {done : List Dn} {rr : Except Int St} (hc : en = ⟨#[41]⟩ ∨ en = ⟨#[125]⟩) (hf : Fine toks ⟨k, rest, begun, done⟩) (h1 : signAt toks k = en) (h : RunD toks ⟨k + 1, rest, begun, done⟩ rr) : RunD toks ⟨k, clN en :: rest, begun, done⟩ rr := by
  rcases hc with rfl | rfl
  · rw [show clN ⟨#[41]⟩ = 184 by simp [clN]]
    refine RunD.ok rfl (goes184 hf) ?_ h
    unfold st184F
    rw [if_pos h1]
  · rw [show clN ⟨#[125]⟩ = 265 by simp [clN]]
    refine RunD.ok rfl (goes265 hf) ?_ h
    unfold st265F
    rw [if_pos h1]
theorem run_cl_no {toks : List Tk} {en : ByteArray} {k : Nat} {rest : List Nat} {begun : List Bg} {done : List Dn} (hc : en = ⟨#[41]⟩ ∨ en = ⟨#[125]⟩) (hf : Fine toks ⟨k, rest, begun, done⟩) (h1 : ¬ signAt toks k = en) : RunD toks ⟨k, clN en :: rest, begun, done⟩ (.error (tk toks k).pos) := by
  rcases hc with rfl | rfl
  · rw [show clN ⟨#[41]⟩ = 184 by simp [clN]]
    refine RunD.wrong rfl (goes184 hf) ?_
    unfold st184F
    rw [if_neg h1]
  · rw [show clN ⟨#[125]⟩ = 265 by simp [clN]]
    refine RunD.wrong rfl (goes265 hf) ?_
    unfold st265F
    rw [if_neg h1]
theorem sim_items {toks : List Tk} (hT : TokOk toks) {n k : Nat} {en : ByteArray} {acc : List Tr} {r : Rs} (hc : en = ⟨#[41]⟩ ∨ en = ⟨#[125]⟩) (ih : SimAll toks n) (e : runP toks n (body toks (.items en acc) k) = some r) : Sim toks (.items en acc) k r := by
  intro rest begun done0 pre rr hp hs hB hl hw hk
  have hp' : pre.map dnT = acc := hp
  have h1 := hB.room
  have h2 := hB.done
  have hl0 : topL begun = 0 := hl
  dsimp only [roomP] at h1
  rw [List.length_append] at h2
  refine (?_ : Sm toks n (body toks (.items en acc) k) (Kt rr _) (RunD toks ⟨k, 24 :: 231 :: clN en :: rest, begun, done0 ++ pre⟩ rr)) r e hk
  unfold body
  refine Sm.step (G' := RunD toks ⟨k, 24 :: 231 :: clN en :: rest, begun, (done0 ++ pre) ++ []⟩ rr) (fun h => by rwa [List.append_nil] at h) ?_
  refine Sm.call (c := .expr) (rest := 231 :: clN en :: rest) (begun := begun) (done0 := done0 ++ pre) (pre := []) hT ih trivial rfl (stOk_none _) ⟨hB.at_, hB.few, ?_, ?_⟩ hl0 (hw.mono (by rw [List.length_append]; omega)) ?_
  · dsimp only [roomP]
    simp only [List.length_cons]
    omega
  · simp
    omega
  intro m ts k1 ds hm hl1 hb1 hn1 hd hst hle
  dsimp only [loP, baP] at hl1 hn1
  obtain ⟨d2, rfl, _⟩ := hst _ rfl
  have hB1 : Bnd toks (.expr) k1 rest begun (done0 ++ pre) := ⟨hb1, hB.few, by dsimp only [roomP]; omega, by simp; omega⟩
  have hf1 : Fine toks ⟨k1, clN en :: rest, begun, done0 ++ (pre ++ [d2])⟩ := hB1.fine (by simp) (by simp) (by simp; omega)
  have hf2 : Fine toks ⟨k1, rest, begun, done0 ++ (pre ++ [d2])⟩ := hB1.fine (by simp) (by simp) (by simp; omega)
  refine Sm.step (G' := RunD toks ⟨k1, 231 :: clN en :: rest, begun, done0 ++ (pre ++ [d2])⟩ rr) (fun h => by rw [← List.append_assoc] at h; exact h) ?_
  refine Sm.ite (fun a1 => ?_) (fun a1 => ?_)
  · have hs2 : k1 + 1 < toks.length := hT.sign a1 (by simp)
    refine Sm.step (G' := RunD toks ⟨k1 + 1, 24 :: 231 :: clN en :: rest, begun, done0 ++ (pre ++ [d2])⟩ rr) (fun h => RunD.ok rfl (goes231 hf1) (by
      unfold st231F
      rw [if_pos a1]) h) ?_
    refine Sm.call (c := .items en (acc ++ ts)) (rest := rest) (begun := begun) (done0 := done0) (pre := pre ++ [d2]) hT (ih.less hm) hc ?_ (stOk_none _) ⟨hs2, hB.few, ?_, ?_⟩ hl0 hw ?_
    · rw [List.map_append, hp', hd]
      rfl
    · dsimp only [roomP]
      omega
    · simp
      omega
    intro m2 ts2 k2 ds2 hm2 hl2 hb2 hn2 hd2 hst2 hle3
    exact Sm.back fun hK => hK ds2 hd2 (stOk_none _) trivial
  · refine Sm.step (G' := RunD toks ⟨k1, clN en :: rest, begun, done0 ++ (pre ++ [d2])⟩ rr) (fun h => RunD.ok rfl (goes231 hf1) (by
      unfold st231F
      rw [if_neg a1]) h) ?_
    refine Sm.eat (fun a2 => Sm.back fun hK => run_cl hc hf2 a2 (hK _ ?_ (stOk_none _) trivial)) (fun a2 hK => (show rr = _ from hK) ▸ run_cl_no hc hf2 a2)
    rw [List.map_append, hp', hd]
end Go.Proofs.YtjeioblhpfogfaaGreatDoor
namespace Go.Proofs.YtjeioblhpfogfaaGreatDoor
open Go.RowKit

theorem sm_call {toks : List Tk} (hT : TokOk toks) (hE : ∀ k, (tk toks k).kind = 1 → (tk toks k).text = ⟨#[]⟩) {n k : Nat} {rest : List Nat} {begun : List Bg} {done0 : List Dn} {rr : Except Int St} (ih : SimAll toks n) (hB : Bnd toks .prim k rest begun done0) (hw : WfB done0.length begun) (hq : st135F toks ⟨k, rest, begun, done0⟩ = callF toks ⟨k, rest, begun, done0⟩) :
    Sm toks n (calP toks k) (Kt rr fun ts k' => ∀ ds, ds.map dnT = ts → StOk (stP toks .prim k) ds → LvEnd toks .prim k' → RunD toks ⟨k', rest, begun, done0 ++ ds⟩ rr) (RunD toks ⟨k, 135 :: rest, begun, done0⟩ rr) := by
  have h1 := hB.room
  have h2 := hB.done
  dsimp only [roomP] at h1
  have hf : Fine toks ⟨k, rest, begun, done0⟩ := hB.fine (by simp) (by simp) (by simp)
  have hG := goes135 hf hT (hE k)
  unfold calP
  refine Sm.eat (fun a1 => ?_) (fun a1 hK => ?_)
  · have hs1 : k + 1 + 1 < toks.length := hT.sign a1 (by simp)
    have hfB : ∀ (j : Nat) (todo : List Nat) (ds : List Dn), j < toks.length → k ≤ j → todo.length ≤ rest.length + 4 → ds.length ≤ 3 + j → Fine toks ⟨j, todo, ⟨⟨8, (tk toks k).text, 0, false, (tk toks k).pos⟩, 0, done0.length⟩ :: begun, done0 ++ ds⟩ := fun j todo ds h3 h4 h5 h6 => by
      have h7 := hB.few
      refine ⟨h3, h7, ?_, ?_, ?_⟩ <;> simp <;> omega
    refine Sm.ite (fun a2 => Sm.back fun hK => ?_) (fun a2 => ?_)
    · refine RunD.ok (s' := ⟨k + 2, 184 :: 40 :: rest, ⟨⟨8, (tk toks k).text, 0, false, (tk toks k).pos⟩, 0, done0.length⟩ :: begun, done0⟩) rfl hG (by
        rw [hq]
        unfold callF
        rw [if_pos a1, if_pos a2]) ?_
      have hs2 : k + 1 + 1 + 1 < toks.length := hT.sign a2 (by simp)
      have hx := hfB (k + 2) (40 :: rest) [] hs1 (by omega) (by simp) (by simp)
      rw [List.append_nil] at hx
      refine RunD.ok (s' := ⟨k + 3, 40 :: rest, ⟨⟨8, (tk toks k).text, 0, false, (tk toks k).pos⟩, 0, done0.length⟩ :: begun, done0⟩) rfl (goes184 hx) (by
        unfold st184F
        rw [if_pos a2]) ?_
      rw [← List.append_nil done0]
      refine run_fin (m := []) ?_ (by simp) ?_
      · have := hfB (k + 3) rest [] hs2 (by omega) (by simp) (by simp)
        simpa using this
      · simpa using hK [⟨⟨8, (tk toks k).text, 0, false, (tk toks k).pos⟩, [], (tk toks k).pos⟩] rfl (fun p hpp => ⟨_, rfl, by injection hpp⟩) trivial
    · refine Sm.step (G' := RunD toks ⟨k + 1 + 1, 24 :: 231 :: clN ⟨#[41]⟩ :: 40 :: rest, ⟨⟨8, (tk toks k).text, 0, false, (tk toks k).pos⟩, 0, done0.length⟩ :: begun, done0 ++ []⟩ rr) (fun h => ?_) ?_
      · rw [List.append_nil, show clN ⟨#[41]⟩ = 184 by simp [clN]] at h
        refine RunD.ok rfl hG ?_ h
        rw [hq]
        unfold callF
        rw [if_pos a1, if_neg a2]
      refine Sm.call (c := .items ⟨#[41]⟩ []) (rest := 40 :: rest) (begun := ⟨⟨8, (tk toks k).text, 0, false, (tk toks k).pos⟩, 0, done0.length⟩ :: begun) (done0 := done0) (pre := []) hT ih (.inl rfl) rfl (stOk_none _) ⟨hs1, hB.few, ?_, ?_⟩ rfl ⟨by simp, hw⟩ ?_
      · dsimp only [roomP]
        simp only [List.length_cons]
        omega
      · simp
        omega
      intro m ts k1 ds hm hl1 hb1 hn1 hd hst hle
      dsimp only [loP, baP] at hl1 hn1
      rw [List.length_nil] at hn1
      refine Sm.back fun hK => run_fin (hfB k1 rest ds hb1 (by omega) (by simp) (by omega)) rfl (hK _ ?_ (fun p hpp => ⟨_, rfl, by injection hpp⟩) trivial)
      rw [List.map_singleton, ← hd]
      rfl
  · refine (show rr = _ from hK) ▸ RunD.wrong rfl hG ?_
    rw [hq]
    unfold callF
    rw [if_neg a1]
theorem sim_prim {toks : List Tk} (hT : TokOk toks) (hE : ∀ k, (tk toks k).kind = 1 → (tk toks k).text = ⟨#[]⟩) {n k : Nat} {r : Rs} (ih : SimAll toks n) (e : runP toks n (body toks .prim k) = some r) : Sim toks .prim k r := by
  intro rest begun done0 pre rr hp hs hB hl hw hk
  obtain rfl : pre = [] := List.map_eq_nil_iff.1 hp
  have hB' : Bnd toks .prim k rest begun done0 := by rw [List.append_nil] at hB; exact hB
  have h1 := hB'.room
  have h2 := hB'.done
  dsimp only [roomP] at h1
  have hf : Fine toks ⟨k, rest, begun, done0⟩ := hB'.fine (by simp) (by simp) (by simp)
  show RunD toks ⟨k, primN toks k :: rest, begun, done0 ++ []⟩ rr
  rw [List.append_nil]
  refine (?_ : Sm toks n (body toks .prim k) (Kt rr fun ts k' => ∀ ds, ds.map dnT = ts → StOk (stP toks .prim k) ds → LvEnd toks .prim k' → RunD toks ⟨k', rest, begun, done0 ++ ds⟩ rr) _) r e hk
  unfold body primN
  refine Sm.ite (fun a1 => ?_) (fun a1 => ?_)
  · have hs1 : k + 1 < toks.length := hT.sign a1 (by simp)
    rw [if_pos a1]
    refine Sm.step (G' := RunD toks ⟨k + 1, 24 :: 184 :: 191 :: rest, ⟨⟨0, ⟨#[]⟩, 0, false, (tk toks k).pos⟩, 0, done0.length⟩ :: begun, done0 ++ []⟩ rr) (fun h => by
      rw [List.append_nil] at h
      exact RunD.ok rfl (goes133 hf) rfl h) ?_
    refine Sm.call (c := .expr) (rest := 184 :: 191 :: rest) (begun := ⟨⟨0, ⟨#[]⟩, 0, false, (tk toks k).pos⟩, 0, done0.length⟩ :: begun) (done0 := done0) (pre := []) hT ih trivial rfl (stOk_none _) ⟨hs1, hB.few, ?_, ?_⟩ rfl ⟨by simp, hw⟩ ?_
    · dsimp only [roomP]
      simp only [List.length_cons]
      omega
    · simp
      omega
    intro m ts k1 ds hm hl1 hb1 hn1 hd hst hle
    dsimp only [loP, baP] at hl1 hn1
    obtain ⟨d2, rfl, _⟩ := hst _ rfl
    have hfB : ∀ (j : Nat) (todo : List Nat), j < toks.length → k ≤ j → todo.length ≤ rest.length + 4 → Fine toks ⟨j, todo, ⟨⟨0, ⟨#[]⟩, 0, false, (tk toks k).pos⟩, 0, done0.length⟩ :: begun, done0 ++ [d2]⟩ := fun j todo h3 h4 h5 => by
      have h7 := hB.few
      refine ⟨h3, h7, ?_, ?_, ?_⟩ <;> simp <;> omega
    refine Sm.eat (fun a2 => Sm.back fun hK => ?_) (fun a2 hK => ?_)
    · have hs2 : k1 + 1 < toks.length := hT.sign a2 (by simp)
      refine RunD.ok (s' := ⟨k1 + 1, 191 :: rest, ⟨⟨0, ⟨#[]⟩, 0, false, (tk toks k).pos⟩, 0, done0.length⟩ :: begun, done0 ++ [d2]⟩) rfl (goes184 (hfB k1 (191 :: rest) hb1 (by omega) (by simp))) (by
        unfold st184F
        rw [if_pos a2]) ?_
      refine RunD.ok rfl (goes191 (hfB (k1 + 1) rest hs2 (by omega) (by simp)) rfl rfl) rfl (hK [{ d2 with start := (tk toks k).pos }] ?_ (fun p hpp => ⟨_, rfl, by injection hpp⟩) trivial)
      rw [← hd]
      rfl
    · refine (show rr = _ from hK) ▸ RunD.wrong rfl (goes184 (hfB k1 (191 :: rest) hb1 (by omega) (by simp))) ?_
      unfold st184F
      rw [if_neg a2]
  rw [if_neg a1]
  have hG := goes135 hf hT (hE k)
  refine Sm.ite (fun k5 => Sm.back fun hK => ?_) (fun k5 => Sm.ite (fun k6 => Sm.back fun hK => ?_) (fun k6 => Sm.ite (fun k7 => Sm.back fun hK => ?_) (fun k7 => Sm.ite (fun k2 => Sm.ite (fun a2 => ?_) (fun a2 => Sm.back fun hK => ?_)) (fun k2 => Sm.ite (fun g => ?_) (fun g => Sm.wrong fun hK => ?_)))))
  · refine RunD.ok rfl hG ?_ (hK [⟨⟨1, ⟨#[]⟩, (tk toks k).num, (tk toks k).uns, (tk toks k).pos⟩, [], (tk toks k).pos⟩] rfl (fun p hpp => ⟨_, rfl, by injection hpp⟩) trivial)
    unfold st135F
    rw [if_pos k5]
  · refine RunD.ok rfl hG ?_ (hK [⟨⟨2, ⟨#[]⟩, (tk toks k).num, false, (tk toks k).pos⟩, [], (tk toks k).pos⟩] rfl (fun p hpp => ⟨_, rfl, by injection hpp⟩) trivial)
    unfold st135F
    rw [if_neg k5, if_pos k6]
  · refine RunD.ok rfl hG ?_ (hK [⟨⟨3, (tk toks k).text, 0, false, (tk toks k).pos⟩, [], (tk toks k).pos⟩] rfl (fun p hpp => ⟨_, rfl, by injection hpp⟩) trivial)
    unfold st135F
    rw [if_neg k5, if_neg k6, if_pos k7]
  · refine sm_call hT hE ih hB' hw ?_
    unfold st135F
    rw [if_neg k5, if_neg k6, if_neg k7, if_pos k2, if_pos a2]
  · refine RunD.ok rfl hG ?_ (hK [⟨⟨4, (tk toks k).text, 0, false, (tk toks k).pos⟩, [], (tk toks k).pos⟩] rfl (fun p hpp => ⟨_, rfl, by injection hpp⟩) trivial)
    unfold st135F
    rw [if_neg k5, if_neg k6, if_neg k7, if_pos k2, if_neg a2]
  · refine sm_call hT hE ih hB' hw ?_
    unfold st135F
    rw [if_neg k5, if_neg k6, if_neg k7, if_neg k2]
    by_cases g0 : (tk toks k).text = ⟨#[103, 101, 116, 98, 121, 116, 101]⟩
    · rw [if_pos g0]
    · rw [if_neg g0, if_pos (g.resolve_left g0)]
  · refine (show rr = _ from hK) ▸ RunD.wrong rfl hG ?_
    unfold st135F
    rw [if_neg k5, if_neg k6, if_neg k7, if_neg k2, if_neg (fun h => g (.inl h)), if_neg (fun h => g (.inr h))]
end Go.Proofs.YtjeioblhpfogfaaGreatDoor
namespace Go.Proofs.YtjeioblhpfogfaaGreatDoor
open Go.RowKit

/-- A type, as the program reads it. -/
theorem Sm.typ {toks : List Tk} {n k : Nat} {f : ByteArray → Nat → Pg} {K : Rs → Prop} {G : Prop} (hT : TokOk toks) (s : St) (hk : s.pl = k)
    (ha : ∀ t k1, typedF toks s = .ok { s with pl := k1, done := s.done ++ [⟨⟨16, t, 0, false, (tk toks k).pos⟩, [], (tk toks k).pos⟩] } → k < k1 → k1 < toks.length → Sm toks n (f t k1) K G)
    (hb : ∀ q, typedF toks s = .error q → K (.error q) → G) : Sm toks n (typ toks k f) K G := by
  subst hk
  unfold Go.Proofs.YtjeioblhpfogfaaGreatDoor.typ
  refine Sm.ite (fun a1 => Sm.ite (fun a2 => Sm.nam (fun a3 => ha _ _ ?_ (by omega) ?_) (fun a3 hK => hb _ ?_ hK)) (fun a2 => ha _ _ ?_ (by omega) ?_)) (fun a1 => Sm.wrong fun hK => hb _ ?_ hK)
  · unfold typedF
    rw [if_pos a1, if_pos (by rw [a2, toList_data]; rfl), if_pos a3]
  · have hk1 : ¬ (tk toks (s.pl + 1)).kind = 1 := by rw [a3]; decide
    exact hT.next _ (tk_end hk1) hk1
  · unfold typedF
    rw [if_pos a1, if_pos (by rw [a2, toList_data]; rfl), if_neg a3]
  · unfold typedF
    rw [if_pos a1, if_neg (by rw [toList_ne' a2]; decide)]
  · refine sign_on hT fun e1 => ?_
    rw [e1] at a1
    simp [tyWord, toList_data] at a1
  · unfold typedF
    rw [if_neg a1]
end Go.Proofs.YtjeioblhpfogfaaGreatDoor
namespace Go.Proofs.YtjeioblhpfogfaaGreatDoor
open Go.RowKit

theorem st85_sign {toks : List Tk} {s : St} (a1 : signAt toks s.pl = ⟨#[45]⟩ ∨ signAt toks s.pl = ⟨#[126]⟩ ∨ signAt toks s.pl = ⟨#[33]⟩ ∨ signAt toks s.pl = ⟨#[38]⟩) :
    st85F toks s = .ok { s with pl := s.pl + 1, todo := 85 :: 40 :: s.todo, begun := ⟨⟨9, signAt toks s.pl, 0, false, (tk toks s.pl).pos⟩, 0, s.done.length⟩ :: s.begun } := by
  unfold st85F
  rcases a1 with h | h | h | h
  · rw [if_pos h, h]
  · rw [if_neg (by rw [h]; simp), if_pos h, h]
  · rw [if_neg (by rw [h]; simp), if_neg (by rw [h]; simp), if_pos h, h]
  · rw [if_neg (by rw [h]; simp), if_neg (by rw [h]; simp), if_neg (by rw [h]; simp), if_pos h, h]
theorem st85_else {toks : List Tk} {s : St} (a1 : ¬ (signAt toks s.pl = ⟨#[45]⟩ ∨ signAt toks s.pl = ⟨#[126]⟩ ∨ signAt toks s.pl = ⟨#[33]⟩ ∨ signAt toks s.pl = ⟨#[38]⟩)) :
    ¬ signAt toks s.pl = ⟨#[45]⟩ ∧ ¬ signAt toks s.pl = ⟨#[126]⟩ ∧ ¬ signAt toks s.pl = ⟨#[33]⟩ ∧ ¬ signAt toks s.pl = ⟨#[38]⟩ :=
  ⟨fun h => a1 (.inl h), fun h => a1 (.inr (.inl h)), fun h => a1 (.inr (.inr (.inl h))), fun h => a1 (.inr (.inr (.inr h)))⟩
theorem sim_un {toks : List Tk} (hT : TokOk toks) {n k : Nat} {r : Rs} (ih : SimAll toks n) (e : runP toks n (body toks .un k) = some r) : Sim toks .un k r := by
  intro rest begun done0 pre rr hp hs hB hl hw hk
  obtain rfl : pre = [] := List.map_eq_nil_iff.1 hp
  have hB' : Bnd toks .un k rest begun done0 := by rw [List.append_nil] at hB; exact hB
  have h1 := hB'.room
  have h2 := hB'.done
  have h7 := hB'.few
  have h8 := hB'.at_
  dsimp only [roomP] at h1
  have hf : Fine toks ⟨k, rest, begun, done0⟩ := hB'.fine (by simp) (by simp) (by simp)
  have hG := goes85 hf hT
  show RunD toks ⟨k, 85 :: rest, begun, done0 ++ []⟩ rr
  rw [List.append_nil]
  refine (?_ : Sm toks n (body toks .un k) (Kt rr fun ts k' => ∀ ds, ds.map dnT = ts → StOk (stP toks .un k) ds → LvEnd toks .un k' → RunD toks ⟨k', rest, begun, done0 ++ ds⟩ rr) _) r e hk
  unfold body
  have hfB : ∀ (b : Bg) (j : Nat) (todo : List Nat) (ds : List Dn), j < toks.length → todo.length ≤ rest.length + 4 → ds.length ≤ 3 → Fine toks ⟨j, todo, b :: begun, done0 ++ ds⟩ := fun b j todo ds h3 h5 h6 => by
    refine ⟨h3, h7, ?_, ?_, ?_⟩ <;> simp <;> omega
  -- one operand behind what was read
  have hone : ∀ (x : NdH) (m1 j : Nat) (ms : List Dn), m1 ≤ n → k < j → j < toks.length → ms.length ≤ 1 → x.pos = (tk toks k).pos → (ms.length + done0.length ≤ j + 2) →
      Sm toks m1 (.call .un j fun ts k1 => .back [Tr.node x (ms.map dnT ++ ts)] k1) (Kt rr fun ts k' => ∀ ds, ds.map dnT = ts → StOk (stP toks .un k) ds → LvEnd toks .un k' → RunD toks ⟨k', rest, begun, done0 ++ ds⟩ rr) (RunD toks ⟨j, 85 :: 40 :: rest, ⟨x, 0, done0.length⟩ :: begun, done0 ++ ms⟩ rr) := by
    intro x m1 j ms hm1 hkj hj hms hx hdl
    refine Sm.step (G' := RunD toks ⟨j, 85 :: 40 :: rest, ⟨x, 0, done0.length⟩ :: begun, (done0 ++ ms) ++ []⟩ rr) (fun h => by rwa [List.append_nil] at h) ?_
    refine Sm.call (c := .un) (rest := 40 :: rest) (begun := ⟨x, 0, done0.length⟩ :: begun) (done0 := done0 ++ ms) (pre := []) hT (fun m hm => ih m (by omega)) trivial rfl (stOk_none _) ⟨hj, h7, ?_, ?_⟩ trivial ⟨by simp, hw⟩ ?_
    · dsimp only [roomP]
      simp only [List.length_cons]
      omega
    · simp
      omega
    intro m ts k1 ds hm hl1 hb1 hn1 hd hst hle
    dsimp only [loP, baP] at hl1 hn1
    obtain ⟨d2, rfl, _⟩ := hst _ rfl
    refine Sm.back fun hK => ?_
    rw [List.append_assoc]
    refine run_fin (hfB _ k1 rest (ms ++ [d2]) hb1 (by simp) (by simp; omega)) rfl (hK _ ?_ (fun p hpp => ⟨_, rfl, by injection hpp with hpp; rw [← hpp]; exact hx⟩) trivial)
    rw [List.map_singleton, ← hd, List.map_append]
    rfl
  refine Sm.ite (fun a1 => ?_) (fun a1 => ?_)
  · have hs1 : k + 1 < toks.length := by rcases a1 with h | h | h | h <;> exact hT.sign h (by simp)
    refine Sm.step (fun h => RunD.ok rfl hG (st85_sign (s := ⟨k, rest, begun, done0⟩) a1) h) ?_
    have := hone ⟨9, signAt toks k, 0, false, (tk toks k).pos⟩ n (k + 1) [] (Nat.le_refl _) (by omega) hs1 (by simp) rfl (by simp; omega)
    rw [List.append_nil] at this
    exact this
  obtain ⟨c1, c2, c3, c4⟩ := st85_else (s := ⟨k, rest, begun, done0⟩) a1
  refine Sm.ite (fun a2 => ?_) (fun a2 => Sm.ite (fun a3 => ?_) (fun a3 => ?_))
  · have hs1 : k + 1 < toks.length := hT.sign a2 (by simp)
    have hx0 := hfB ⟨⟨15, ⟨#[]⟩, 0, false, (tk toks k).pos⟩, 0, done0.length⟩ (k + 1) (40 :: rest) [] hs1 (by simp) (by simp)
    rw [List.append_nil] at hx0
    refine Sm.step (G' := RunD toks ⟨k + 1, 130 :: 40 :: rest, ⟨⟨15, ⟨#[]⟩, 0, false, (tk toks k).pos⟩, 0, done0.length⟩ :: begun, done0⟩ rr) (fun h => RunD.ok rfl hG (by
      unfold st85F
      rw [if_neg c1, if_neg c2, if_neg c3, if_neg c4, if_pos a2]) h) ?_
    refine Sm.ite (fun a3 => ?_) (fun a3 => ?_)
    · refine Sm.typ hT ⟨k + 2, 40 :: rest, ⟨⟨15, ⟨#[]⟩, 0, false, (tk toks k).pos⟩, 0, done0.length⟩ :: begun, done0⟩ rfl (fun t k1 ht hk1 hl1 => ?_) (fun q hq hK => ?_)
      · refine Sm.eat (fun a4 => Sm.back fun hK => ?_) (fun a4 hK => ?_)
        · refine RunD.ok (s' := ⟨k1 + 1, 40 :: rest, ⟨⟨15, ⟨#[]⟩, 0, false, (tk toks k).pos⟩, 0, done0.length⟩ :: begun, done0 ++ [⟨⟨16, t, 0, false, (tk toks (k + 2)).pos⟩, [], (tk toks (k + 2)).pos⟩]⟩) rfl (goes130 hx0 hT) (by
            unfold st130F
            dsimp only
            rw [if_pos a3.1, if_pos a3.2, ht]
            dsimp only
            rw [if_pos a4]) ?_
          exact run_fin (hfB _ _ _ _ (hT.sign a4 (by simp)) (by simp) (by simp)) rfl (hK [⟨⟨15, ⟨#[]⟩, 0, false, (tk toks k).pos⟩, [tyT toks (k + 2) t], (tk toks k).pos⟩] rfl (fun p hpp => ⟨_, rfl, by injection hpp⟩) trivial)
        · refine (show rr = _ from hK) ▸ RunD.wrong rfl (goes130 hx0 hT) ?_
          unfold st130F
          dsimp only
          rw [if_pos a3.1, if_pos a3.2, ht]
          dsimp only
          rw [if_neg a4]
      · refine (show rr = _ from hK) ▸ RunD.wrong rfl (goes130 hx0 hT) ?_
        unfold st130F
        dsimp only
        rw [if_pos a3.1, if_pos a3.2, hq]
    · refine Sm.step (G' := RunD toks ⟨k + 1, 85 :: 40 :: rest, ⟨⟨15, ⟨#[]⟩, 0, false, (tk toks k).pos⟩, 0, done0.length⟩ :: begun, done0⟩ rr) (fun h => RunD.ok rfl (goes130 hx0 hT) (by
        unfold st130F
        dsimp only
        by_cases b1 : signAt toks (k + 1) = ⟨#[40]⟩
        · rw [if_pos b1, if_neg (fun b2 => a3 ⟨b1, b2⟩)]
        · rw [if_neg b1]) h) ?_
      have := hone ⟨15, ⟨#[]⟩, 0, false, (tk toks k).pos⟩ n (k + 1) [] (Nat.le_refl _) (by omega) hs1 (by simp) rfl (by simp; omega)
      rw [List.append_nil] at this
      exact this
  · refine Sm.typ hT ⟨k + 1, rest, ⟨⟨14, ⟨#[]⟩, 0, false, (tk toks k).pos⟩, 0, done0.length⟩ :: begun, done0⟩ rfl (fun t k1 ht hk1 hl1 => ?_) (fun q hq hK => ?_)
    · refine Sm.eat (fun a4 => ?_) (fun a4 hK => ?_)
      · have hs4 : k1 + 1 < toks.length := hT.sign a4 (by simp)
        refine Sm.step (G' := RunD toks ⟨k1 + 1, 85 :: 40 :: rest, ⟨⟨14, ⟨#[]⟩, 0, false, (tk toks k).pos⟩, 0, done0.length⟩ :: begun, done0 ++ [⟨⟨16, t, 0, false, (tk toks (k + 1)).pos⟩, [], (tk toks (k + 1)).pos⟩]⟩ rr) (fun h => RunD.ok rfl hG (by
          unfold st85F
          dsimp only
          rw [if_neg c1, if_neg c2, if_neg c3, if_neg c4, if_neg a2, if_pos a3.1, if_pos a3.2, ht]
          dsimp only
          rw [if_pos a4]) h) ?_
        exact hone ⟨14, ⟨#[]⟩, 0, false, (tk toks k).pos⟩ n (k1 + 1) [⟨⟨16, t, 0, false, (tk toks (k + 1)).pos⟩, [], (tk toks (k + 1)).pos⟩] (Nat.le_refl _) (by omega) hs4 (by simp) rfl (by simp; omega)
      · refine (show rr = _ from hK) ▸ RunD.wrong rfl hG ?_
        unfold st85F
        dsimp only
        rw [if_neg c1, if_neg c2, if_neg c3, if_neg c4, if_neg a2, if_pos a3.1, if_pos a3.2, ht]
        dsimp only
        rw [if_neg a4]
    · refine (show rr = _ from hK) ▸ RunD.wrong rfl hG ?_
      unfold st85F
      dsimp only
      rw [if_neg c1, if_neg c2, if_neg c3, if_neg c4, if_neg a2, if_pos a3.1, if_pos a3.2, hq]
  · refine Sm.step (G' := RunD toks ⟨k, primN toks k :: 134 :: rest, begun, done0 ++ []⟩ rr) (fun h => by
      rw [List.append_nil] at h
      refine RunD.ok rfl hG ?_ h
      unfold st85F primN
      dsimp only
      rw [if_neg c1, if_neg c2, if_neg c3, if_neg c4, if_neg a2]
      by_cases b1 : signAt toks k = ⟨#[40]⟩
      · rw [if_pos b1, if_neg (fun b2 => a3 ⟨b1, b2⟩), if_pos b1]
      · rw [if_neg b1, if_neg b1]) ?_
    refine Sm.call (c := .post) (rest := rest) (begun := begun) (done0 := done0) (pre := []) hT ih trivial rfl (stOk_none _) ⟨hB.at_, hB.few, ?_, hB.done⟩ trivial hw ?_
    · dsimp only [roomP]
      omega
    intro m2 ts2 k2 ds2 hm2 hl2 hb2 hn2 hd2 hst2 hle3
    exact Sm.back fun hK => hK ds2 hd2 hst2 trivial
end Go.Proofs.YtjeioblhpfogfaaGreatDoor
namespace Go.Proofs.YtjeioblhpfogfaaGreatDoor
open Go.RowKit

theorem sim_blk {toks : List Tk} (hT : TokOk toks) {n k : Nat} {r : Rs} (ih : SimAll toks n) (e : runP toks n (body toks .blk k) = some r) : Sim toks .blk k r := by
  intro rest begun done0 pre rr hp hs hB hl hw hk
  obtain rfl : pre = [] := List.map_eq_nil_iff.1 hp
  have hB' : Bnd toks .blk k rest begun done0 := by rw [List.append_nil] at hB; exact hB
  have h1 := hB'.room
  have h2 := hB'.done
  dsimp only [roomP] at h1
  have hf : Fine toks ⟨k, rest, begun, done0⟩ := hB'.fine (by simp) (by simp) (by simp)
  show RunD toks ⟨k, 185 :: rest, begun, done0 ++ []⟩ rr
  rw [List.append_nil]
  refine (?_ : Sm toks n (body toks .blk k) (Kt rr fun ts k' => ∀ ds, ds.map dnT = ts → StOk none ds → True → RunD toks ⟨k', rest, begun, done0 ++ ds⟩ rr) _) r e hk
  unfold body
  refine Sm.eat (fun a1 => ?_) (fun a1 hK => ?_)
  · have hs1 : k + 1 < toks.length := hT.sign a1 (by simp)
    refine Sm.step (G' := RunD toks ⟨k + 1, 223 :: 40 :: rest, ⟨⟨47, ⟨#[]⟩, 0, false, (tk toks k).pos⟩, 0, done0.length⟩ :: begun, done0 ++ []⟩ rr) (fun h => by
      rw [List.append_nil] at h
      refine RunD.ok rfl (goes185 hf) ?_ h
      unfold st185F
      rw [if_pos a1]) ?_
    refine Sm.call (c := .blkR (tk toks k).pos []) (rest := rest) (begun := begun) (done0 := done0) (pre := []) hT ih trivial rfl (stOk_none _) ⟨hs1, hB.few, ?_, ?_⟩ trivial hw ?_
    · dsimp only [roomP]
      omega
    · simp
      omega
    intro m2 ts2 k2 ds2 hm2 hl2 hb2 hn2 hd2 hst2 hle3
    exact Sm.back fun hK => hK ds2 hd2 (stOk_none _) trivial
  · refine (show rr = _ from hK) ▸ RunD.wrong rfl (goes185 hf) ?_
    unfold st185F
    rw [if_neg a1]
theorem sim_blkR {toks : List Tk} (hT : TokOk toks) {n k : Nat} {fr : Int} {acc : List Tr} {r : Rs} (ih : SimAll toks n) (e : runP toks n (body toks (.blkR fr acc) k) = some r) : Sim toks (.blkR fr acc) k r := by
  intro rest begun done0 pre rr hp hs hB hl hw hk
  have hp' : pre.map dnT = acc := hp
  have h1 := hB.room
  have h2 := hB.done
  have h7 := hB.few
  have h8 := hB.at_
  dsimp only [roomP] at h1
  rw [List.length_append] at h2
  have hfB : ∀ (todo : List Nat) (j : Nat), j < toks.length → todo.length ≤ rest.length + 4 → Fine toks ⟨j, todo, ⟨⟨47, ⟨#[]⟩, 0, false, fr⟩, 0, done0.length⟩ :: begun, done0 ++ pre⟩ := fun todo j h3 h5 => by
    refine ⟨h3, h7, ?_, ?_, ?_⟩ <;> simp <;> omega
  have hw1 : WfB (done0 ++ pre).length (⟨⟨47, ⟨#[]⟩, 0, false, fr⟩, 0, done0.length⟩ :: begun) := ⟨by simp, hw⟩
  refine (?_ : Sm toks n (body toks (.blkR fr acc) k) (Kt rr fun ts k' => ∀ ds, ds.map dnT = ts → StOk none ds → True → RunD toks ⟨k', rest, begun, done0 ++ ds⟩ rr) (RunD toks ⟨k, 223 :: 40 :: rest, ⟨⟨47, ⟨#[]⟩, 0, false, fr⟩, 0, done0.length⟩ :: begun, done0 ++ pre⟩ rr)) r e hk
  unfold body
  have hG := goes223 (hfB (40 :: rest) k h8 (by simp))
  -- the rest of the block
  have hgo : ∀ (m k1 : Nat) (ts : List Tr) (ds : List Dn), m < n → k < k1 → k1 < toks.length → ds.length + k ≤ k1 → ds.map dnT = ts →
      Sm toks m (.call (.blkR fr (acc ++ ts)) k1 .back) (Kt rr fun ts k' => ∀ ds, ds.map dnT = ts → StOk none ds → True → RunD toks ⟨k', rest, begun, done0 ++ ds⟩ rr) (RunD toks ⟨k1, 223 :: 40 :: rest, ⟨⟨47, ⟨#[]⟩, 0, false, fr⟩, 0, done0.length⟩ :: begun, (done0 ++ pre) ++ ds⟩ rr) := by
    intro m k1 ts ds hm hk1 hl1 hn1 hd
    rw [List.append_assoc]
    refine Sm.call (c := .blkR fr (acc ++ ts)) (rest := rest) (begun := begun) (done0 := done0) (pre := pre ++ ds) hT (ih.less hm) trivial ?_ (stOk_none _) ⟨hl1, h7, ?_, ?_⟩ trivial hw ?_
    · rw [List.map_append, hp', hd]
      rfl
    · dsimp only [roomP]
      omega
    · simp
      omega
    intro m2 ts2 k2 ds2 hm2 hl2 hb2 hn2 hd2 hst2 hle3
    exact Sm.back fun hK => hK ds2 hd2 (stOk_none _) trivial
  refine Sm.ite (fun a1 => Sm.back fun hK => ?_) (fun a1 => Sm.ite (fun a2 => ?_) (fun a2 => ?_))
  · have hs1 : k + 1 < toks.length := hT.sign a1 (by simp)
    refine RunD.ok (s' := ⟨k + 1, 40 :: rest, ⟨⟨47, ⟨#[]⟩, 0, false, fr⟩, 0, done0.length⟩ :: begun, done0 ++ pre⟩) rfl hG (by
      unfold st223F
      rw [if_pos a1]) (run_fin (hfB rest (k + 1) hs1 (by simp)) rfl (hK _ ?_ (stOk_none _) trivial))
    rw [List.map_singleton, ← hp']
    rfl
  · have hf2 := hfB (223 :: 40 :: rest) k h8 (by simp)
    refine Sm.step (G' := RunD toks ⟨k, 124 :: 223 :: 40 :: rest, ⟨⟨47, ⟨#[]⟩, 0, false, fr⟩, 0, done0.length⟩ :: begun, done0 ++ pre⟩ rr) (fun h => RunD.ok rfl hG (by
      unfold st223F
      rw [if_neg a1, if_pos a2]) h) ?_
    refine Sm.typ hT ⟨k, 223 :: 40 :: rest, ⟨⟨42, ⟨#[]⟩, 0, false, (tk toks k).pos⟩, 0, (done0 ++ pre).length⟩ :: ⟨⟨47, ⟨#[]⟩, 0, false, fr⟩, 0, done0.length⟩ :: begun, done0 ++ pre⟩ rfl (fun t k1 ht hk1 hl1 => ?_) (fun q hq hK => ?_)
    · refine Sm.step (G' := RunD toks ⟨k1, 188 :: 189 :: 182 :: 40 :: 223 :: 40 :: rest, ⟨⟨42, ⟨#[]⟩, 0, false, (tk toks k).pos⟩, 0, (done0 ++ pre).length⟩ :: ⟨⟨47, ⟨#[]⟩, 0, false, fr⟩, 0, done0.length⟩ :: begun, (done0 ++ pre) ++ [⟨⟨16, t, 0, false, (tk toks k).pos⟩, [], (tk toks k).pos⟩]⟩ rr) (fun h => RunD.ok rfl (goes124 hf2 hT) (by
        unfold st124F
        dsimp only
        rw [ht]) h) ?_
      refine Sm.call (c := .varsR false (tk toks k).pos [tyT toks k t]) (rest := 223 :: 40 :: rest) (begun := ⟨⟨47, ⟨#[]⟩, 0, false, fr⟩, 0, done0.length⟩ :: begun) (done0 := done0 ++ pre) (pre := [⟨⟨16, t, 0, false, (tk toks k).pos⟩, [], (tk toks k).pos⟩]) hT ih trivial rfl (stOk_none _) ⟨hl1, h7, ?_, ?_⟩ trivial hw1 ?_
      · dsimp only [roomP]
        simp only [List.length_cons]
        omega
      · simp
        omega
      intro m ts k2 ds hm hl2 hb2 hn2 hd hst hle
      dsimp only [loP, baP] at hl2 hn2
      exact hgo m k2 ts ds hm (by omega) hb2 (by omega) hd
    · refine (show rr = _ from hK) ▸ RunD.wrong rfl (goes124 hf2 hT) ?_
      unfold st124F
      dsimp only
      rw [hq]
  · refine Sm.step (G' := RunD toks ⟨k, 251 :: 223 :: 40 :: rest, ⟨⟨47, ⟨#[]⟩, 0, false, fr⟩, 0, done0.length⟩ :: begun, (done0 ++ pre) ++ []⟩ rr) (fun h => by
      rw [List.append_nil] at h
      refine RunD.ok rfl hG ?_ h
      unfold st223F
      rw [if_neg a1, if_neg a2]) ?_
    refine Sm.call (c := .stmt) (rest := 223 :: 40 :: rest) (begun := ⟨⟨47, ⟨#[]⟩, 0, false, fr⟩, 0, done0.length⟩ :: begun) (done0 := done0 ++ pre) (pre := []) hT ih trivial rfl (stOk_none _) ⟨h8, h7, ?_, ?_⟩ trivial hw1 ?_
    · dsimp only [roomP]
      simp only [List.length_cons]
      omega
    · simp
      omega
    intro m ts k2 ds hm hl2 hb2 hn2 hd hst hle
    dsimp only [loP, baP] at hl2 hn2
    exact hgo m k2 ts ds hm (by omega) hb2 (by omega) hd
end Go.Proofs.YtjeioblhpfogfaaGreatDoor
namespace Go.Proofs.YtjeioblhpfogfaaGreatDoor
open Go.RowKit

/-- A piece that can't be read. -/
def Bad (toks : List Tk) (g : Pg) (q : Int) : Prop := ∀ n r, runP toks n g = some r → r = .error q
theorem Bad.wrong {toks : List Tk} {k : Nat} : Bad toks (.wrong toks k) (tk toks k).pos := by
  intro n r e
  unfold Pg.wrong at e
  rw [runP] at e
  injection e with e
  exact e.symm
theorem Bad.call {toks : List Tk} {c : Pc} {k : Nat} {q : Int} {f : List Tr → Nat → Pg} (h : Bad toks (body toks c k) q) : Bad toks (.call c k f) q := by
  intro n r e
  cases n with
  | zero => rw [runP] at e; cases e
  | succ n =>
    rw [runP] at e
    cases e1 : runP toks n (body toks c k) with
    | none => rw [e1] at e; cases e
    | some q1 =>
      rw [e1, h n q1 e1] at e
      injection e with e
      exact e.symm
theorem mark_kind {toks : List Tk} {k : Nat} {sx : ByteArray} (h : signAt toks k = sx) (hs : ¬ sx = ⟨#[]⟩) : ((tk toks k).kind = 4 ∨ (tk toks k).kind = 3) ∧ (tk toks k).text = sx := by
  unfold signAt at h
  unfold tk
  cases e : toks[k]? with
  | none => rw [e] at h; exact absurd h.symm hs
  | some t =>
    rw [e] at h
    simp only at h
    split at h
    · rename_i hk
      exact ⟨hk, h⟩
    · exact absurd h.symm hs
/-- No expression begins with one of these marks. -/
theorem expr_bad {toks : List Tk} {k : Nat} (h : signAt toks k = ⟨#[59]⟩ ∨ signAt toks k = ⟨#[41]⟩ ∨ signAt toks k = ⟨#[93]⟩ ∨ signAt toks k = ⟨#[125]⟩) : Bad toks (body toks .expr k) (tk toks k).pos := by
  obtain ⟨sx, hsx, h0, hx⟩ : ∃ sx, signAt toks k = sx ∧ ¬ sx = ⟨#[]⟩ ∧ (sx = ⟨#[59]⟩ ∨ sx = ⟨#[41]⟩ ∨ sx = ⟨#[93]⟩ ∨ sx = ⟨#[125]⟩) := ⟨_, rfl, by rcases h with h | h | h | h <;> rw [h] <;> simp, h⟩
  obtain ⟨hk, ht⟩ := mark_kind hsx h0
  refine Bad.call (c := .cond) (Bad.call (c := .bin 2) (Bad.call (c := .un) ?_))
  have hu : body toks .un k = .call .post k .back := by
    unfold body
    dsimp only
    rw [hsx, if_neg (by rcases hx with rfl | rfl | rfl | rfl <;> simp), if_neg (by rcases hx with rfl | rfl | rfl | rfl <;> simp), if_neg (by rcases hx with rfl | rfl | rfl | rfl <;> simp)]
  rw [hu]
  refine Bad.call (c := .post) (Bad.call (c := .prim) ?_)
  have hpm : body toks .prim k = .wrong toks k := by
    unfold body
    dsimp only
    rw [hsx, ht, if_neg (by rcases hx with rfl | rfl | rfl | rfl <;> simp), if_neg (by omega), if_neg (by omega), if_neg (by omega), if_neg (by omega), if_neg (by rcases hx with rfl | rfl | rfl | rfl <;> simp)]
  rw [hpm]
  exact Bad.wrong
theorem Sm.bad {toks : List Tk} {n : Nat} {g : Pg} {q : Int} {K : Rs → Prop} {G : Prop} (hb : Bad toks g q) (h : K (.error q) → G) : Sm toks n g K G := fun r e hk => h (by rw [← hb n r e]; exact hk)
/-- An expression, or nothing ahead of a mark; then the mark: the program's two steps. -/
theorem sm_prt {toks : List Tk} (hT : TokOk toks) {n k cl : Nat} {en : ByteArray} {f : List Tr → Nat → Pg} {rest : List Nat} {begun : List Bg} {done : List Dn} {rr : Except Int St} {C : List Tr → Nat → Prop} (ih : SimAll toks n)
    (hen : en = ⟨#[59]⟩ ∨ en = ⟨#[41]⟩ ∨ en = ⟨#[93]⟩) (h86 : ¬ cl = 86) (hcl : ∀ s, Fine toks s → Goes toks cl s (if signAt toks s.pl = en then .ok { s with pl := s.pl + 1 } else .error (tk toks s.pl).pos))
    (hB : Bnd toks .expr k (cl :: rest) begun done) (hl : topL begun = 0) (hw : WfB done.length begun)
    (h : ∀ m ts k1 d, m ≤ n → k < k1 → k1 < toks.length → [dnT d] = ts → Sm toks m (f ts k1) (Kt rr C) (RunD toks ⟨k1, rest, begun, done ++ [d]⟩ rr)) :
    Sm toks n (prt toks en k f) (Kt rr C) (RunD toks ⟨k, 252 :: cl :: rest, begun, done⟩ rr) := by
  have h0 : ¬ en = ⟨#[]⟩ := by rcases hen with rfl | rfl | rfl <;> simp
  have hf : Fine toks ⟨k, cl :: rest, begun, done⟩ := hB.fine (by simp) (by simp) (by simp)
  have hfn : ∀ d, Fine toks ⟨k, rest, begun, done ++ [d]⟩ := fun d => hB.fine (by simp; omega) (by simp) (by simp)
  have hG := goes252 hf
  have hnone : (signAt toks k = ⟨#[59]⟩ ∨ signAt toks k = ⟨#[41]⟩ ∨ signAt toks k = ⟨#[93]⟩) → st252F toks ⟨k, cl :: rest, begun, done⟩ = .ok ⟨k, cl :: rest, begun, done ++ [⟨⟨56, ⟨#[]⟩, 0, false, (tk toks k).pos⟩, [], (tk toks k).pos⟩]⟩ := fun hx => by
    unfold st252F
    dsimp only
    by_cases x1 : signAt toks k = ⟨#[59]⟩
    · rw [if_pos x1]
    · rw [if_neg x1]
      by_cases x2 : signAt toks k = ⟨#[41]⟩
      · rw [if_pos x2]
      · rw [if_neg x2, if_pos ((hx.resolve_left x1).resolve_left x2)]
  unfold prt
  refine Sm.ite (fun a1 => ?_) (fun a1 => ?_)
  · have hs1 : k + 1 < toks.length := hT.sign a1 h0
    refine Sm.step (fun hh => RunD.ok rfl hG (hnone (by rw [a1]; exact hen)) (RunD.ok rfl (hcl _ (hfn _)) (if_pos a1) hh h86)) ?_
    exact h n _ _ _ (Nat.le_refl _) (by omega) hs1 rfl
  · by_cases a2 : signAt toks k = ⟨#[59]⟩ ∨ signAt toks k = ⟨#[41]⟩ ∨ signAt toks k = ⟨#[93]⟩
    · refine Sm.bad (Bad.call (c := .expr) (expr_bad (toks := toks) (k := k) (a2.elim .inl fun h => .inr (h.elim .inl fun h => .inr (.inl h))))) fun hK => ?_
      refine RunD.ok rfl hG (hnone a2) ?_
      refine (show rr = _ from hK) ▸ RunD.wrong rfl (hcl _ (hfn _)) (if_neg a1) h86
    · refine Sm.step (G' := RunD toks ⟨k, 24 :: cl :: rest, begun, done ++ []⟩ rr) (fun hh => by
        rw [List.append_nil] at hh
        refine RunD.ok rfl hG ?_ hh
        unfold st252F
        dsimp only
        rw [if_neg (fun x => a2 (.inl x)), if_neg (fun x => a2 (.inr (.inl x))), if_neg (fun x => a2 (.inr (.inr x)))]) ?_
      refine Sm.call (c := .expr) (rest := cl :: rest) (begun := begun) (done0 := done) (pre := []) hT ih trivial rfl (stOk_none _) (by rw [List.append_nil]; exact hB) hl hw ?_
      intro m ts k1 ds hm hl1 hb1 hn1 hd hst hle
      dsimp only [loP, baP] at hl1 hn1
      obtain ⟨d2, rfl, _⟩ := hst _ rfl
      have h1 := hB.room
      have h2 := hB.done
      dsimp only [roomP] at h1
      have hf1 : Fine toks ⟨k1, rest, begun, done ++ [d2]⟩ := Bnd.fine (c := .expr) (rest := cl :: rest) (begun := begun) (done := done) ⟨hb1, hB.few, by dsimp only [roomP]; omega, by omega⟩ (by simp; omega) (by simp) (by simp)
      refine Sm.eat (fun a3 => ?_) (fun a3 hK => (show rr = _ from hK) ▸ RunD.wrong rfl (hcl _ hf1) (if_neg a3) h86)
      refine Sm.step (fun hh => RunD.ok rfl (hcl _ hf1) (if_pos a3) hh h86) ?_
      exact h m ts _ d2 (by omega) (by omega) (hT.sign a3 h0) hd
end Go.Proofs.YtjeioblhpfogfaaGreatDoor
namespace Go.Proofs.YtjeioblhpfogfaaGreatDoor
open Go.RowKit

theorem sim_init {toks : List Tk} (hT : TokOk toks) {n k : Nat} {bare : Bool} {x : NdH} {ks : List Tr} {r : Rs} (ih : SimAll toks n) (e : runP toks n (body toks (.init bare x ks) k) = some r) : Sim toks (.init bare x ks) k r := by
  intro rest begun done0 pre rr hp hs hB hl hw hk
  have hp' : pre.map dnT = ks := hp
  have h1 := hB.room
  have h2 := hB.done
  have h7 := hB.few
  have h8 := hB.at_
  dsimp only [roomP] at h1
  rw [List.length_append] at h2
  have hfB : ∀ (todo : List Nat) (b : List Bg) (ds : List Dn) (j : Nat), j < toks.length → k ≤ j → todo.length ≤ rest.length + 6 → b.length ≤ 3 → ds.length ≤ j + 3 → Fine toks ⟨j, todo, b ++ begun, (done0 ++ pre) ++ ds⟩ := fun todo b ds j h3 h4 h5 h6 h9 => by
    refine ⟨h3, h7, ?_, ?_, ?_⟩ <;> simp <;> omega
  have hf0 : ∀ (todo : List Nat) (j : Nat), j < toks.length → k ≤ j → todo.length ≤ rest.length + 6 → Fine toks ⟨j, todo, ⟨x, 0, done0.length⟩ :: begun, done0 ++ pre⟩ := fun todo j h3 h4 h5 => by
    have := hfB todo [⟨x, 0, done0.length⟩] [] j h3 h4 h5 (by simp) (by simp)
    rwa [List.append_nil] at this
  have hw1 : WfB (done0 ++ pre).length (⟨x, 0, done0.length⟩ :: begun) := ⟨by simp, hw⟩
  -- the node's end
  have hend : ∀ (j : Nat), j < toks.length → k ≤ j → ∀ (ds : List Dn), ds.length ≤ j + 3 → (∀ dd, [dd].map dnT = [Tr.node x (ks ++ ds.map dnT)] → RunD toks ⟨j, rest, begun, done0 ++ [dd]⟩ rr) → RunD toks ⟨j, 40 :: rest, ⟨x, 0, done0.length⟩ :: begun, (done0 ++ pre) ++ ds⟩ rr := fun j h3 h4 ds h5 hK => by
    have hx := hfB rest [⟨x, 0, done0.length⟩] ds j h3 h4 (by omega) (by simp) h5
    rw [List.append_assoc] at hx ⊢
    refine run_fin hx rfl (hK _ ?_)
    rw [List.map_singleton, List.map_append, hp']
    rfl
  have hK0 : ∀ (j : Nat), j < toks.length → k ≤ j → (∀ dd, [dd].map dnT = [Tr.node x ks] → RunD toks ⟨j, rest, begun, done0 ++ [dd]⟩ rr) → RunD toks ⟨j, 40 :: rest, ⟨x, 0, done0.length⟩ :: begun, done0 ++ pre⟩ rr := fun j h3 h4 hK => by
    have := hend j h3 h4 [] (by simp) (by simpa using hK)
    rwa [List.append_nil] at this
  refine (?_ : Sm toks n (body toks (.init bare x ks) k) (Kt rr fun ts k' => ∀ ds, ds.map dnT = ts → StOk none ds → True → RunD toks ⟨k', rest, begun, done0 ++ ds⟩ rr) _) r e hk
  cases bare with
  | true =>
    show Sm toks n _ _ (RunD toks ⟨k, 40 :: rest, ⟨x, 0, done0.length⟩ :: begun, done0 ++ pre⟩ rr)
    unfold body
    dsimp only
    rw [if_pos (.inl rfl)]
    exact Sm.back fun hK => hK0 k h8 (Nat.le_refl _) fun dd h => hK [dd] h (stOk_none _) trivial
  | false =>
    show Sm toks n _ _ (RunD toks ⟨k, 227 :: 40 :: rest, ⟨x, 0, done0.length⟩ :: begun, done0 ++ pre⟩ rr)
    have hG := goes227 (hf0 (40 :: rest) k h8 (Nat.le_refl _) (by simp)) (b := ⟨x, 0, done0.length⟩) (lb := begun) rfl
    unfold body
    dsimp only
    refine Sm.ite (fun a1 => Sm.back fun hK => ?_) (fun a1 => ?_)
    · have a2 : ¬ signAt toks k = ⟨#[61]⟩ := a1.resolve_left (by decide)
      refine RunD.ok rfl hG (s' := ⟨k, 40 :: rest, ⟨x, 0, done0.length⟩ :: begun, done0 ++ pre⟩) ?_ (hK0 k h8 (Nat.le_refl _) fun dd h => hK [dd] h (stOk_none _) trivial)
      unfold st227F
      rw [if_neg a2]
    have a2 : signAt toks k = ⟨#[61]⟩ := Classical.not_not.1 fun h => a1 (.inr h)
    have hs1 : k + 1 < toks.length := hT.sign a2 (by simp)
    refine Sm.ite (fun a3 => ?_) (fun a3 => ?_)
    · have hs2 : k + 1 + 1 < toks.length := hT.sign a3.2 (by simp)
      refine Sm.step (G' := RunD toks ⟨k + 2, 24 :: 231 :: clN ⟨#[125]⟩ :: 40 :: 40 :: rest, ⟨⟨44, ⟨#[]⟩, 0, false, (tk toks (k + 1)).pos⟩, 0, (done0 ++ pre).length⟩ :: ⟨x, 0, done0.length⟩ :: begun, (done0 ++ pre) ++ []⟩ rr) (fun h => ?_) ?_
      · rw [List.append_nil, show clN ⟨#[125]⟩ = 265 by simp [clN]] at h
        refine RunD.ok rfl hG (s' := ⟨k + 1, 253 :: 40 :: rest, ⟨x, 0, done0.length⟩ :: begun, done0 ++ pre⟩) (by
          unfold st227F
          dsimp only
          rw [if_pos a2, if_pos a3.2, if_pos a3.1]) ?_
        refine RunD.ok rfl (goes253 (hf0 (40 :: rest) (k + 1) hs1 (by omega) (by simp))) ?_ h
        unfold st253F
        dsimp only
        rw [if_pos a3.2]
      refine Sm.call (c := .items ⟨#[125]⟩ []) (rest := 40 :: 40 :: rest) (begun := ⟨⟨44, ⟨#[]⟩, 0, false, (tk toks (k + 1)).pos⟩, 0, (done0 ++ pre).length⟩ :: ⟨x, 0, done0.length⟩ :: begun) (done0 := done0 ++ pre) (pre := []) hT ih (.inr rfl) rfl (stOk_none _) ⟨hs2, h7, ?_, ?_⟩ rfl ⟨by simp, hw1⟩ ?_
      · dsimp only [roomP]
        simp only [List.length_cons]
        omega
      · simp
        omega
      intro m ts k1 ds hm hl1 hb1 hn1 hd hst hle
      dsimp only [loP, baP] at hl1 hn1
      rw [List.length_nil] at hn1
      refine Sm.back fun hK => ?_
      refine run_fin (hfB (40 :: rest) [⟨⟨44, ⟨#[]⟩, 0, false, (tk toks (k + 1)).pos⟩, 0, (done0 ++ pre).length⟩, ⟨x, 0, done0.length⟩] ds k1 hb1 (by omega) (by simp) (by simp) (by omega)) rfl ?_
      refine hend k1 hb1 (by omega) [⟨⟨44, ⟨#[]⟩, 0, false, (tk toks (k + 1)).pos⟩, ds.map dnT, (tk toks (k + 1)).pos⟩] (by simp) fun dd h => hK [dd] (h.trans ?_) (stOk_none _) trivial
      rw [← hd]
      rfl
    · refine Sm.step (G' := RunD toks ⟨k + 1, 24 :: 40 :: rest, ⟨x, 0, done0.length⟩ :: begun, (done0 ++ pre) ++ []⟩ rr) (fun h => ?_) ?_
      · rw [List.append_nil] at h
        refine RunD.ok rfl hG ?_ h
        unfold st227F
        dsimp only
        rw [if_pos a2]
        by_cases b1 : signAt toks (k + 1) = ⟨#[123]⟩
        · rw [if_pos b1, if_neg (fun b2 => a3 ⟨b2, b1⟩)]
        · rw [if_neg b1]
      refine Sm.call (c := .expr) (rest := 40 :: rest) (begun := ⟨x, 0, done0.length⟩ :: begun) (done0 := done0 ++ pre) (pre := []) hT ih trivial rfl (stOk_none _) ⟨hs1, h7, ?_, ?_⟩ rfl hw1 ?_
      · dsimp only [roomP]
        simp only [List.length_cons]
        omega
      · simp
        omega
      intro m ts k1 ds hm hl1 hb1 hn1 hd hst hle
      dsimp only [loP, baP] at hl1 hn1
      refine Sm.back fun hK => ?_
      refine hend k1 hb1 (by omega) ds (by omega) fun dd h => hK [dd] (h.trans ?_) (stOk_none _) trivial
      rw [hd]
end Go.Proofs.YtjeioblhpfogfaaGreatDoor
namespace Go.Proofs.YtjeioblhpfogfaaGreatDoor
open Go.RowKit

def tlV (bare : Bool) : List Nat := if bare = true then [40] else [227, 40]
theorem enP_var (toks : List Tk) (bare : Bool) (k : Nat) : enP toks (.var bare) k = 226 :: tlV bare := by cases bare <;> rfl
theorem enP_init (toks : List Tk) (bare : Bool) (x : NdH) (ks : List Tr) (k : Nat) : enP toks (.init bare x ks) k = tlV bare := by cases bare <;> rfl
theorem tlV_len (bare : Bool) : (tlV bare).length ≤ 2 := by cases bare <;> simp [tlV]
theorem sim_var {toks : List Tk} (hT : TokOk toks) {n k : Nat} {bare : Bool} {r : Rs} (ih : SimAll toks n) (e : runP toks n (body toks (.var bare) k) = some r) : Sim toks (.var bare) k r := by
  intro rest begun done0 pre rr hp hs hB hl hw hk
  obtain rfl : pre = [] := List.map_eq_nil_iff.1 hp
  have hB' : Bnd toks (.var bare) k rest begun done0 := by rw [List.append_nil] at hB; exact hB
  have h1 := hB'.room
  have h2 := hB'.done
  have h7 := hB.few
  have h8 := hB.at_
  have htl := tlV_len bare
  dsimp only [roomP] at h1
  have hf : Fine toks ⟨k, tlV bare ++ rest, begun, done0⟩ := hB'.fine (by simp; omega) (by simp) (by simp)
  have hG := goes226 hf hT
  show RunD toks ⟨k, enP toks (.var bare) k ++ rest, begun, done0 ++ []⟩ rr
  rw [List.append_nil, enP_var]
  refine (?_ : Sm toks n (body toks (.var bare) k) (Kt rr fun ts k' => ∀ ds, ds.map dnT = ts → StOk none ds → True → RunD toks ⟨k', rest, begun, done0 ++ ds⟩ rr) (RunD toks ⟨k, 226 :: (tlV bare ++ rest), begun, done0⟩ rr)) r e hk
  -- the initial value
  have hin : ∀ (x : NdH) (m j : Nat) (ks : List Tr) (ds : List Dn), m ≤ n → k < j → j < toks.length → ds.map dnT = ks → ds.length ≤ 1 → x = x →
      Sm toks m (.call (.init bare x ks) j .back) (Kt rr fun ts k' => ∀ ds, ds.map dnT = ts → StOk none ds → True → RunD toks ⟨k', rest, begun, done0 ++ ds⟩ rr) (RunD toks ⟨j, tlV bare ++ rest, ⟨x, 0, done0.length⟩ :: begun, done0 ++ ds⟩ rr) := by
    intro x m j ks ds hm hkj hj hd hdl _
    rw [← enP_init toks bare x ks j]
    refine Sm.call (c := .init bare x ks) (rest := rest) (begun := begun) (done0 := done0) (pre := ds) hT (fun m' hm' => ih m' (by omega)) trivial hd (stOk_none _) ⟨hj, h7, ?_, ?_⟩ trivial hw ?_
    · dsimp only [roomP]
      omega
    · simp
      omega
    intro m2 ts2 k2 ds2 hm2 hl2 hb2 hn2 hd2 hst2 hle3
    exact Sm.back fun hK => hK ds2 hd2 (stOk_none _) trivial
  unfold body
  refine Sm.nam (fun a1 => ?_) (fun a1 hK => ?_)
  · have hk1 : ¬ (tk toks k).kind = 1 := by rw [a1]; decide
    have hs1 : k + 1 < toks.length := hT.next _ h8 hk1
    refine Sm.ite (fun a2 => ?_) (fun a2 => ?_)
    · have hs2 : k + 1 + 1 < toks.length := hT.sign a2 (by simp)
      refine Sm.step (G' := RunD toks ⟨k + 2, 252 :: 192 :: (tlV bare ++ rest), ⟨⟨43, (tk toks k).text, 0, true, (tk toks k).pos⟩, 0, done0.length⟩ :: begun, done0⟩ rr) (fun h => RunD.ok rfl hG (by
        unfold st226F
        dsimp only
        rw [if_pos a1, if_pos a2]) h) ?_
      refine sm_prt hT ih (.inr (.inr rfl)) (by decide) (fun s hs => goes192 hs) ⟨hs2, h7, ?_, ?_⟩ rfl ⟨Nat.le_refl _, hw⟩ ?_
      · dsimp only [roomP]
        simp only [List.length_cons, List.length_append]
        omega
      · omega
      intro m ts k1 d hm hk1 hl1 hd
      exact hin _ m k1 ts [d] hm (by omega) hl1 hd (by simp) rfl
    · refine Sm.step (G' := RunD toks ⟨k + 1, tlV bare ++ rest, ⟨⟨43, (tk toks k).text, 0, false, (tk toks k).pos⟩, 0, done0.length⟩ :: begun, done0 ++ []⟩ rr) (fun h => by
        rw [List.append_nil] at h
        refine RunD.ok rfl hG ?_ h
        unfold st226F
        dsimp only
        rw [if_pos a1, if_neg a2]) ?_
      exact hin _ n (k + 1) [] [] (Nat.le_refl _) (by omega) hs1 rfl (by simp) rfl
  · refine (show rr = _ from hK) ▸ RunD.wrong rfl hG ?_
    unfold st226F
    dsimp only
    rw [if_neg a1]
end Go.Proofs.YtjeioblhpfogfaaGreatDoor
namespace Go.Proofs.YtjeioblhpfogfaaGreatDoor
open Go.RowKit

def oneV (bare : Bool) : Nat := if bare = true then 221 else 188
def moreV (bare : Bool) : Nat := if bare = true then 222 else 189
theorem enP_varsR (toks : List Tk) (bare : Bool) (fr : Int) (acc : List Tr) (k : Nat) : enP toks (.varsR bare fr acc) k = [oneV bare, moreV bare, 182, 40] := by cases bare <;> rfl
theorem run_one {toks : List Tk} {bare : Bool} {k : Nat} {rest : List Nat} {begun : List Bg} {done : List Dn} {rr : Except Int St} (hf : Fine toks ⟨k, rest, begun, done⟩) (h : RunD toks ⟨k, 226 :: (tlV bare ++ rest), begun, done⟩ rr) : RunD toks ⟨k, oneV bare :: rest, begun, done⟩ rr := by
  cases bare with
  | true => exact RunD.ok rfl (goes221 hf) rfl h
  | false => exact RunD.ok rfl (goes188 hf) rfl h
theorem run_more {toks : List Tk} {bare : Bool} {k : Nat} {rest : List Nat} {begun : List Bg} {done : List Dn} {rr : Except Int St} (hf : Fine toks ⟨k, rest, begun, done⟩) (a : signAt toks k = ⟨#[44]⟩) (h : RunD toks ⟨k + 1, oneV bare :: moreV bare :: rest, begun, done⟩ rr) : RunD toks ⟨k, moreV bare :: rest, begun, done⟩ rr := by
  cases bare with
  | true => exact RunD.ok rfl (goes222 hf) (if_pos a) h
  | false => exact RunD.ok rfl (goes189 hf) (if_pos a) h
theorem run_nomore {toks : List Tk} {bare : Bool} {k : Nat} {rest : List Nat} {begun : List Bg} {done : List Dn} {rr : Except Int St} (hf : Fine toks ⟨k, rest, begun, done⟩) (a : ¬ signAt toks k = ⟨#[44]⟩) (h : RunD toks ⟨k, rest, begun, done⟩ rr) : RunD toks ⟨k, moreV bare :: rest, begun, done⟩ rr := by
  cases bare with
  | true => exact RunD.ok rfl (goes222 hf) (if_neg a) h
  | false => exact RunD.ok rfl (goes189 hf) (if_neg a) h
theorem sim_varsR {toks : List Tk} (hT : TokOk toks) {n k : Nat} {bare : Bool} {fr : Int} {acc : List Tr} {r : Rs} (ih : SimAll toks n) (e : runP toks n (body toks (.varsR bare fr acc) k) = some r) : Sim toks (.varsR bare fr acc) k r := by
  intro rest begun done0 pre rr hp hs hB hl hw hk
  have hp' : pre.map dnT = acc := hp
  have h1 := hB.room
  have h2 := hB.done
  have h7 := hB.few
  have h8 := hB.at_
  dsimp only [roomP] at h1
  rw [List.length_append] at h2
  have hfB : ∀ (todo : List Nat) (ds : List Dn) (j : Nat), j < toks.length → todo.length ≤ rest.length + 6 → ds.length ≤ j + 3 → Fine toks ⟨j, todo, ⟨⟨42, ⟨#[]⟩, 0, false, fr⟩, 0, done0.length⟩ :: begun, (done0 ++ pre) ++ ds⟩ := fun todo ds j h3 h5 h9 => by
    refine ⟨h3, h7, ?_, ?_, ?_⟩ <;> simp <;> omega
  have hw1 : WfB (done0 ++ pre).length (⟨⟨42, ⟨#[]⟩, 0, false, fr⟩, 0, done0.length⟩ :: begun) := ⟨by simp, hw⟩
  show RunD toks ⟨k, enP toks (.varsR bare fr acc) k ++ rest, ⟨⟨42, ⟨#[]⟩, 0, false, fr⟩, 0, done0.length⟩ :: begun, done0 ++ pre⟩ rr
  rw [enP_varsR]
  refine (?_ : Sm toks n (body toks (.varsR bare fr acc) k) (Kt rr fun ts k' => ∀ ds, ds.map dnT = ts → StOk none ds → True → RunD toks ⟨k', rest, begun, done0 ++ ds⟩ rr) (RunD toks ⟨k, oneV bare :: moreV bare :: 182 :: 40 :: rest, ⟨⟨42, ⟨#[]⟩, 0, false, fr⟩, 0, done0.length⟩ :: begun, done0 ++ pre⟩ rr)) r e hk
  unfold body
  refine Sm.step (G' := RunD toks ⟨k, enP toks (.var bare) k ++ (moreV bare :: 182 :: 40 :: rest), ⟨⟨42, ⟨#[]⟩, 0, false, fr⟩, 0, done0.length⟩ :: begun, (done0 ++ pre) ++ []⟩ rr) (fun h => by
    have hx := hfB (moreV bare :: 182 :: 40 :: rest) [] k h8 (by simp) (by simp)
    rw [List.append_nil] at h hx
    rw [enP_var] at h
    exact run_one hx h) ?_
  refine Sm.call (c := .var bare) (rest := moreV bare :: 182 :: 40 :: rest) (begun := ⟨⟨42, ⟨#[]⟩, 0, false, fr⟩, 0, done0.length⟩ :: begun) (done0 := done0 ++ pre) (pre := []) hT ih trivial rfl (stOk_none _) ⟨h8, h7, ?_, ?_⟩ trivial hw1 ?_
  · dsimp only [roomP]
    simp only [List.length_cons]
    omega
  · simp
    omega
  intro m ts k1 ds hm hl1 hb1 hn1 hd hst hle
  dsimp only [loP, baP] at hl1 hn1
  refine Sm.ite (fun a1 => ?_) (fun a1 => ?_)
  · have hs1 : k1 + 1 < toks.length := hT.sign a1 (by simp)
    refine Sm.step (G' := RunD toks ⟨k1 + 1, enP toks (.varsR bare fr (acc ++ ts)) (k1 + 1) ++ rest, ⟨⟨42, ⟨#[]⟩, 0, false, fr⟩, 0, done0.length⟩ :: begun, done0 ++ (pre ++ ds)⟩ rr) (fun h => by
      rw [enP_varsR, ← List.append_assoc] at h
      exact run_more (hfB _ ds k1 hb1 (by simp) (by omega)) a1 h) ?_
    refine Sm.call (c := .varsR bare fr (acc ++ ts)) (rest := rest) (begun := begun) (done0 := done0) (pre := pre ++ ds) hT (ih.less hm) trivial ?_ (stOk_none _) ⟨hs1, h7, ?_, ?_⟩ trivial hw ?_
    · rw [List.map_append, hp', hd]
      rfl
    · dsimp only [roomP]
      omega
    · simp
      omega
    intro m2 ts2 k2 ds2 hm2 hl2 hb2 hn2 hd2 hst2 hle3
    exact Sm.back fun hK => hK ds2 hd2 (stOk_none _) trivial
  · refine Sm.step (G' := RunD toks ⟨k1, 182 :: 40 :: rest, ⟨⟨42, ⟨#[]⟩, 0, false, fr⟩, 0, done0.length⟩ :: begun, (done0 ++ pre) ++ ds⟩ rr) (fun h => run_nomore (hfB _ ds k1 hb1 (by simp) (by omega)) a1 h) ?_
    have hf1 := hfB (40 :: rest) ds k1 hb1 (by simp) (by omega)
    refine Sm.eat (fun a2 => Sm.back fun hK => ?_) (fun a2 hK => (show rr = _ from hK) ▸ RunD.wrong rfl (goes182 hf1) (if_neg a2))
    have hs1 : k1 + 1 < toks.length := hT.sign a2 (by simp)
    refine RunD.ok rfl (goes182 hf1) (if_pos a2) ?_
    have hf2 := hfB rest ds (k1 + 1) hs1 (by omega) (by omega)
    dsimp only
    rw [List.append_assoc] at hf2 ⊢
    refine run_fin hf2 rfl (hK _ ?_ (stOk_none _) trivial)
    rw [List.map_singleton, ← hd, ← hp', ← List.map_append]
    rfl
end Go.Proofs.YtjeioblhpfogfaaGreatDoor
namespace Go.Proofs.YtjeioblhpfogfaaGreatDoor
open Go.RowKit

theorem fin_one {toks : List Tk} {k j : Nat} {t : ByteArray} {q : Int} {rest : List Nat} {b : Bg} {begun lb : List Bg} {done0 : List Dn} (hb : b.first = done0.length) : finS ⟨j, rest, begun, done0 ++ [⟨⟨16, t, 0, false, q⟩, [], q⟩]⟩ b lb = ⟨j, rest, lb, done0 ++ [⟨b.x, [Tr.node ⟨16, t, 0, false, q⟩ []], b.x.pos⟩]⟩ := by
  unfold finS
  dsimp only
  rw [hb, List.take_left, List.drop_left]
  rfl
theorem sim_param {toks : List Tk} (hT : TokOk toks) {n k : Nat} {r : Rs} (ih : SimAll toks n) (e : runP toks n (body toks .param k) = some r) : Sim toks .param k r := by
  intro rest begun done0 pre rr hp hs hB hl hw hk
  obtain rfl : pre = [] := List.map_eq_nil_iff.1 hp
  have hB' : Bnd toks .param k rest begun done0 := by rw [List.append_nil] at hB; exact hB
  have hf : Fine toks ⟨k, rest, begun, done0⟩ := hB'.fine (by simp) (by simp) (by simp)
  have hG := goes186 hf hT
  show RunD toks ⟨k, 186 :: rest, begun, done0 ++ []⟩ rr
  rw [List.append_nil]
  refine (?_ : Sm toks n (body toks .param k) (Kt rr fun ts k' => ∀ ds, ds.map dnT = ts → StOk none ds → True → RunD toks ⟨k', rest, begun, done0 ++ ds⟩ rr) (RunD toks ⟨k, 186 :: rest, begun, done0⟩ rr)) r e hk
  unfold body
  refine Sm.typ hT ⟨k, rest, ⟨⟨46, ⟨#[]⟩, 0, false, (tk toks k).pos⟩, 0, done0.length⟩ :: begun, done0⟩ rfl (fun t k1 ht hk1 hl1 => ?_) (fun q hq hK => ?_)
  · refine Sm.ite (fun a1 => Sm.nam (fun a2 => Sm.back fun hK => ?_) (fun a2 hK => ?_)) (fun a1 => Sm.nam (fun a2 => Sm.ite (fun a3 => Sm.eat (fun a4 => Sm.back fun hK => ?_) (fun a4 hK => ?_)) (fun a3 => Sm.back fun hK => ?_)) (fun a2 hK => ?_))
    · refine RunD.ok rfl hG ?_ (hK [⟨⟨46, (tk toks (k1 + 1)).text, 1, false, (tk toks k).pos⟩, [tyT toks k t], (tk toks k).pos⟩] rfl (stOk_none _) trivial)
      unfold st186F
      dsimp only
      rw [ht]
      dsimp only
      rw [if_pos a1, if_pos a2, fin_one (toks := toks) (k := k) rfl]
      rfl
    · refine (show rr = _ from hK) ▸ RunD.wrong rfl hG ?_
      unfold st186F
      dsimp only
      rw [ht]
      dsimp only
      rw [if_pos a1, if_neg a2]
    · refine RunD.ok rfl hG ?_ (hK [⟨⟨46, (tk toks k1).text, 0, true, (tk toks k).pos⟩, [tyT toks k t], (tk toks k).pos⟩] rfl (stOk_none _) trivial)
      unfold st186F
      dsimp only
      rw [ht]
      dsimp only
      rw [if_neg a1, if_pos a2, if_pos a3, if_pos a4, fin_one (toks := toks) (k := k) rfl]
      rfl
    · refine (show rr = _ from hK) ▸ RunD.wrong rfl hG ?_
      unfold st186F
      dsimp only
      rw [ht]
      dsimp only
      rw [if_neg a1, if_pos a2, if_pos a3, if_neg a4]
    · refine RunD.ok rfl hG ?_ (hK [⟨⟨46, (tk toks k1).text, 0, false, (tk toks k).pos⟩, [tyT toks k t], (tk toks k).pos⟩] rfl (stOk_none _) trivial)
      unfold st186F
      dsimp only
      rw [ht]
      dsimp only
      rw [if_neg a1, if_pos a2, if_neg a3, fin_one (toks := toks) (k := k) rfl]
      rfl
    · refine (show rr = _ from hK) ▸ RunD.wrong rfl hG ?_
      unfold st186F
      dsimp only
      rw [ht]
      dsimp only
      rw [if_neg a1, if_neg a2]
  · refine (show rr = _ from hK) ▸ RunD.wrong rfl hG ?_
    unfold st186F
    dsimp only
    rw [hq]
theorem sim_params {toks : List Tk} (hT : TokOk toks) {n k : Nat} {acc : List Tr} {r : Rs} (ih : SimAll toks n) (e : runP toks n (body toks (.params acc) k) = some r) : Sim toks (.params acc) k r := by
  intro rest begun done0 pre rr hp hs hB hl hw hk
  have hp' : pre.map dnT = acc := hp
  have h1 := hB.room
  have h2 := hB.done
  have h7 := hB.few
  have h8 := hB.at_
  dsimp only [roomP] at h1
  rw [List.length_append] at h2
  have hw1 : WfB (done0 ++ pre).length begun := hw.mono (by simp)
  have hal : acc.length = pre.length := by rw [← hp', List.length_map]
  show RunD toks ⟨k, 186 :: 187 :: rest, begun, done0 ++ pre⟩ rr
  refine (?_ : Sm toks n (body toks (.params acc) k) (Kt rr fun ts k' => ∀ ds, ds.map dnT = ts → StOk none ds → True → RunD toks ⟨k', rest, begun, done0 ++ ds⟩ rr) (RunD toks ⟨k, 186 :: 187 :: rest, begun, done0 ++ pre⟩ rr)) r e hk
  unfold body
  refine Sm.step (G' := RunD toks ⟨k, 186 :: 187 :: rest, begun, (done0 ++ pre) ++ []⟩ rr) (fun h => by rw [List.append_nil] at h; exact h) ?_
  refine Sm.call (c := .param) (rest := 187 :: rest) (begun := begun) (done0 := done0 ++ pre) (pre := []) hT ih trivial rfl (stOk_none _) ⟨h8, h7, ?_, ?_⟩ trivial hw1 ?_
  · dsimp only [roomP]
    simp only [List.length_cons]
    omega
  · simp
    omega
  intro m ts k1 ds hm hl1 hb1 hn1 hd hst hle
  dsimp only [loP, baP] at hl1 hn1
  have hf1 : Fine toks ⟨k1, rest, begun, (done0 ++ pre) ++ ds⟩ := by
    refine ⟨hb1, h7, ?_, ?_, ?_⟩ <;> simp <;> omega
  refine Sm.ite (fun a1 => ?_) (fun a1 => Sm.back fun hK => ?_)
  · have hs1 : k1 + 1 < toks.length := hT.sign a1 (by simp)
    refine Sm.step (G' := RunD toks ⟨k1 + 1, 186 :: 187 :: rest, begun, done0 ++ (pre ++ ds)⟩ rr) (fun h => by
      rw [← List.append_assoc] at h
      exact RunD.ok rfl (goes187 hf1) (if_pos a1) h) ?_
    refine Sm.call (c := .params (acc ++ ts)) (rest := rest) (begun := begun) (done0 := done0) (pre := pre ++ ds) hT (ih.less hm) trivial ?_ (stOk_none _) ⟨hs1, h7, ?_, ?_⟩ trivial hw ?_
    · rw [List.map_append, hp', hd]
      rfl
    · dsimp only [roomP]
      omega
    · simp
      omega
    intro m2 ts2 k2 ds2 hm2 hl2 hb2 hn2 hd2 hst2 hle3
    exact Sm.back fun hK => hK ds2 hd2 (stOk_none _) trivial
  · refine RunD.ok rfl (goes187 hf1) (if_neg a1) ?_
    dsimp only
    rw [List.append_assoc]
    exact hK _ (by rw [List.map_append, hp', hd]) (stOk_none _) trivial
end Go.Proofs.YtjeioblhpfogfaaGreatDoor
namespace Go.Proofs.YtjeioblhpfogfaaGreatDoor
open Go.RowKit

/-- An expression and the mark behind it. -/
theorem sm_ex {toks : List Tk} (hT : TokOk toks) {n k cl : Nat} {en : ByteArray} {f : List Tr → Nat → Pg} {rest : List Nat} {begun : List Bg} {done : List Dn} {rr : Except Int St} {C : List Tr → Nat → Prop} (ih : SimAll toks n)
    (h0 : ¬ en = ⟨#[]⟩) (h86 : ¬ cl = 86) (hcl : ∀ s, Fine toks s → Goes toks cl s (if signAt toks s.pl = en then .ok { s with pl := s.pl + 1 } else .error (tk toks s.pl).pos))
    (hB : Bnd toks .expr k (cl :: rest) begun done) (hl : topL begun = 0) (hw : WfB done.length begun)
    (h : ∀ m ts k1 d, m ≤ n → k < k1 → k1 < toks.length → [dnT d] = ts → Sm toks m (f ts k1) (Kt rr C) (RunD toks ⟨k1, rest, begun, done ++ [d]⟩ rr)) :
    Sm toks n (.call .expr k fun ts k1 => eat toks en k1 fun k2 => f ts k2) (Kt rr C) (RunD toks ⟨k, 24 :: cl :: rest, begun, done⟩ rr) := by
  refine Sm.step (G' := RunD toks ⟨k, 24 :: cl :: rest, begun, done ++ []⟩ rr) (fun hh => by
    rw [List.append_nil] at hh
    exact hh) ?_
  refine Sm.call (c := .expr) (rest := cl :: rest) (begun := begun) (done0 := done) (pre := []) hT ih trivial rfl (stOk_none _) (by rw [List.append_nil]; exact hB) hl hw ?_
  intro m ts k1 ds hm hl1 hb1 hn1 hd hst hle
  dsimp only [loP, baP] at hl1 hn1
  obtain ⟨d2, rfl, _⟩ := hst _ rfl
  have h1 := hB.room
  have h2 := hB.done
  dsimp only [roomP] at h1
  have hf1 : Fine toks ⟨k1, rest, begun, done ++ [d2]⟩ := Bnd.fine (c := .expr) (rest := cl :: rest) (begun := begun) (done := done) ⟨hb1, hB.few, by dsimp only [roomP]; omega, by omega⟩ (by simp; omega) (by simp) (by simp)
  refine Sm.eat (fun a3 => ?_) (fun a3 hK => (show rr = _ from hK) ▸ RunD.wrong rfl (hcl _ hf1) (if_neg a3) h86)
  refine Sm.step (fun hh => RunD.ok rfl (hcl _ hf1) (if_pos a3) hh h86) ?_
  exact h m ts _ d2 (by omega) (by omega) (hT.sign a3 h0) hd
/-- A test: an expression within parentheses. -/
theorem sm_tst {toks : List Tk} (hT : TokOk toks) {n k : Nat} {f : List Tr → Nat → Pg} {rest : List Nat} {begun : List Bg} {done : List Dn} {rr : Except Int St} {C : List Tr → Nat → Prop} (ih : SimAll toks n)
    (hB : Bnd toks .expr k rest begun done) (hl : topL begun = 0) (hw : WfB done.length begun)
    (h : ∀ m ts k1 d, m ≤ n → k < k1 → k1 < toks.length → [dnT d] = ts → Sm toks m (f ts k1) (Kt rr C) (RunD toks ⟨k1, rest, begun, done ++ [d]⟩ rr)) :
    Sm toks n (tst toks k f) (Kt rr C) (RunD toks ⟨k, 283 :: rest, begun, done⟩ rr) := by
  have hf : Fine toks ⟨k, rest, begun, done⟩ := hB.fine (by simp) (by simp) (by simp)
  unfold tst
  refine Sm.eat (fun a1 => ?_) (fun a1 hK => (show rr = _ from hK) ▸ RunD.wrong rfl (goes283 hf) (if_neg a1))
  refine Sm.step (fun hh => RunD.ok rfl (goes283 hf) (if_pos a1) hh) ?_
  have h1 := hB.room
  have h2 := hB.done
  dsimp only [roomP] at h1
  refine sm_ex hT ih (by simp) (by decide) (fun s hs => goes184 hs) ⟨hT.sign a1 (by simp), hB.few, ?_, ?_⟩ hl hw ?_
  · dsimp only [roomP]
    simp only [List.length_cons]
    omega
  · show done.length ≤ _
    omega
  intro m ts k1 d hm hk1 hl1 hd
  exact h m ts k1 d hm (by omega) hl1 hd
theorem stOf_none {sx : ByteArray} (a1 : ¬ sx = ⟨#[123]⟩) (a2 : ¬ sx = ⟨#[59]⟩) (a3 : ¬ sx = ⟨#[105, 102]⟩) (a4 : ¬ sx = ⟨#[119, 104, 105, 108, 101]⟩) (a5 : ¬ sx = ⟨#[100, 111]⟩) (a6 : ¬ sx = ⟨#[102, 111, 114]⟩) (a7 : ¬ sx = ⟨#[98, 114, 101, 97, 107]⟩) (a8 : ¬ sx = ⟨#[99, 111, 110, 116, 105, 110, 117, 101]⟩) (a9 : ¬ sx = ⟨#[114, 101, 116, 117, 114, 110]⟩) : stOf sx = 280 := by
  unfold stOf
  rw [if_neg (by rw [toList_ne' a1]; decide), if_neg (by rw [toList_ne' a2]; decide), if_neg (by rw [toList_ne' a3]; decide), if_neg (by rw [toList_ne' a4]; decide), if_neg (by rw [toList_ne' a5]; decide), if_neg (by rw [toList_ne' a6]; decide), if_neg (by rw [toList_ne' a7]; decide), if_neg (by rw [toList_ne' a8]; decide), if_neg (by rw [toList_ne' a9]; decide)]
theorem run_stmt {toks : List Tk} {k q : Nat} {rest : List Nat} {begun : List Bg} {done : List Dn} {rr : Except Int St} (hf : Fine toks ⟨k, rest, begun, done⟩) (hq : stOf (signAt toks k) = q) (h : RunD toks ⟨k, q :: rest, begun, done⟩ rr) : RunD toks ⟨k, 251 :: rest, begun, done⟩ rr := by
  refine RunD.ok rfl (goes251 hf) ?_ h
  unfold st251F
  rw [← hq]
theorem sim_stmt {toks : List Tk} (hT : TokOk toks) {n k : Nat} {r : Rs} (ih : SimAll toks n) (e : runP toks n (body toks .stmt k) = some r) : Sim toks .stmt k r := by
  intro rest begun done0 pre rr hp hs hB hl hw hk
  obtain rfl : pre = [] := List.map_eq_nil_iff.1 hp
  have hB' : Bnd toks .stmt k rest begun done0 := by rw [List.append_nil] at hB; exact hB
  have h1 := hB'.room
  have h2 := hB'.done
  have h7 := hB'.few
  have h8 := hB'.at_
  dsimp only [roomP] at h1
  have hf : Fine toks ⟨k, rest, begun, done0⟩ := hB'.fine (by simp) (by simp) (by simp)
  have hfB : ∀ (todo : List Nat) (b : Bg) (ds : List Dn) (j : Nat), j < toks.length → todo.length ≤ rest.length + 12 → ds.length ≤ j + 3 → Fine toks ⟨j, todo, b :: begun, done0 ++ ds⟩ := fun todo b ds j h3 h5 h9 => by
    refine ⟨h3, h7, ?_, ?_, ?_⟩ <;> simp <;> omega
  have hwB : ∀ (b : Bg) (ds : List Dn), b.first = done0.length → WfB (done0 ++ ds).length (b :: begun) := fun b ds hb => ⟨by rw [hb]; simp, hb ▸ hw⟩
  have hend : ∀ (x : NdH) (j : Nat) (ds : List Dn), j < toks.length → ds.length ≤ j + 3 → (∀ dd, [dd].map dnT = [Tr.node x (ds.map dnT)] → RunD toks ⟨j, rest, begun, done0 ++ [dd]⟩ rr) → RunD toks ⟨j, 40 :: rest, ⟨x, 0, done0.length⟩ :: begun, done0 ++ ds⟩ rr := fun x j ds h3 h5 hK =>
    run_fin (hfB rest _ ds j h3 (by omega) h5) rfl (hK _ rfl)
  show RunD toks ⟨k, 251 :: rest, begun, done0 ++ []⟩ rr
  rw [List.append_nil]
  refine (?_ : Sm toks n (body toks .stmt k) (Kt rr fun ts k' => ∀ ds, ds.map dnT = ts → StOk none ds → True → RunD toks ⟨k', rest, begun, done0 ++ ds⟩ rr) (RunD toks ⟨k, 251 :: rest, begun, done0⟩ rr)) r e hk
  unfold body
  refine Sm.ite (fun a1 => ?_) (fun a1 => ?_)
  · -- a block
    refine Sm.step (G' := RunD toks ⟨k, 185 :: rest, begun, done0 ++ []⟩ rr) (fun h => by
      rw [List.append_nil] at h
      exact run_stmt hf (by rw [a1]; simp [stOf, toList_data]) h) ?_
    refine Sm.call (c := .blk) (rest := rest) (begun := begun) (done0 := done0) (pre := []) hT ih trivial rfl (stOk_none _) ⟨h8, h7, ?_, ?_⟩ trivial hw ?_
    · dsimp only [roomP]
      omega
    · simp
      omega
    intro m2 ts2 k2 ds2 hm2 hl2 hb2 hn2 hd2 hst2 hle3
    exact Sm.back fun hK => hK ds2 hd2 (stOk_none _) trivial
  refine Sm.ite (fun a2 => Sm.back fun hK => ?_) (fun a2 => ?_)
  · exact run_stmt hf (q := 272) (by rw [a2]; simp [stOf, toList_data]) (RunD.ok rfl (goes272 hf) rfl (hK [_] rfl (stOk_none _) trivial))
  refine Sm.ite (fun a3 => ?_) (fun a3 => ?_)
  · -- if
    have hs1 : k + 1 < toks.length := hT.sign a3 (by simp)
    refine Sm.step (fun h => run_stmt hf (q := 273) (by rw [a3]; simp [stOf, toList_data]) (RunD.ok rfl (goes273 hf) (if_pos a3) h)) ?_
    refine sm_tst hT ih ⟨hs1, h7, ?_, ?_⟩ rfl ⟨Nat.le_refl _, hw⟩ ?_
    · dsimp only [roomP]
      simp only [List.length_cons]
      omega
    · show done0.length ≤ _
      omega
    intro m ts k1 d hm hk1 hl1 hd
    refine Sm.step (G' := RunD toks ⟨k1, 251 :: 284 :: 40 :: rest, ⟨⟨49, ⟨#[]⟩, 0, false, (tk toks k).pos⟩, 0, done0.length⟩ :: begun, (done0 ++ [d]) ++ []⟩ rr) (fun h => by rw [List.append_nil] at h; exact h) ?_
    refine Sm.call (c := .stmt) (rest := 284 :: 40 :: rest) (begun := ⟨⟨49, ⟨#[]⟩, 0, false, (tk toks k).pos⟩, 0, done0.length⟩ :: begun) (done0 := done0 ++ [d]) (pre := []) hT (fun m' hm' => ih m' (by omega)) trivial rfl (stOk_none _) ⟨hl1, h7, ?_, ?_⟩ trivial (hwB _ [d] rfl) ?_
    · dsimp only [roomP]
      simp only [List.length_cons]
      omega
    · simp
      omega
    intro m2 ts2 k2 ds2 hm2 hl2 hb2 hn2 hd2 hst2 hle2
    dsimp only [loP, baP] at hl2 hn2
    have hf2 : Fine toks ⟨k2, 40 :: rest, ⟨⟨49, ⟨#[]⟩, 0, false, (tk toks k).pos⟩, 0, done0.length⟩ :: begun, done0 ++ ([d] ++ ds2)⟩ := hfB _ _ _ _ hb2 (by simp) (by simp; omega)
    rw [← List.append_assoc] at hf2
    refine Sm.ite (fun b1 => ?_) (fun b1 => Sm.back fun hK => ?_)
    · have hs2 : k2 + 1 < toks.length := hT.sign b1 (by simp)
      refine Sm.step (G' := RunD toks ⟨k2 + 1, 251 :: 40 :: rest, ⟨⟨49, ⟨#[]⟩, 0, false, (tk toks k).pos⟩, 0, done0.length⟩ :: begun, (done0 ++ ([d] ++ ds2)) ++ []⟩ rr) (fun h => by
        rw [List.append_nil, ← List.append_assoc] at h
        exact RunD.ok rfl (goes284 hf2) (if_pos b1) h) ?_
      refine Sm.call (c := .stmt) (rest := 40 :: rest) (begun := ⟨⟨49, ⟨#[]⟩, 0, false, (tk toks k).pos⟩, 0, done0.length⟩ :: begun) (done0 := done0 ++ ([d] ++ ds2)) (pre := []) hT (fun m' hm' => ih m' (by omega)) trivial rfl (stOk_none _) ⟨hs2, h7, ?_, ?_⟩ trivial (hwB _ _ rfl) ?_
      · dsimp only [roomP]
        simp only [List.length_cons]
        omega
      · simp
        omega
      intro m3 ts3 k3 ds3 hm3 hl3 hb3 hn3 hd3 hst3 hle3
      dsimp only [loP, baP] at hl3 hn3
      refine Sm.back fun hK => ?_
      rw [List.append_assoc]
      refine hend _ k3 _ hb3 (by simp; omega) fun dd hdd => hK [dd] (hdd.trans ?_) (stOk_none _) trivial
      rw [List.map_append, List.map_append, hd2, hd3, List.map_singleton, hd]
    · refine RunD.ok rfl (goes284 hf2) (if_neg b1) ?_
      dsimp only
      rw [List.append_assoc]
      refine hend _ k2 _ hb2 (by simp; omega) fun dd hdd => hK [dd] (hdd.trans ?_) (stOk_none _) trivial
      rw [List.map_append, hd2, List.map_singleton, hd]
  refine Sm.ite (fun a4 => ?_) (fun a4 => ?_)
  · -- while
    have hs1 : k + 1 < toks.length := hT.sign a4 (by simp)
    refine Sm.step (fun h => run_stmt hf (q := 274) (by rw [a4]; simp [stOf, toList_data]) (RunD.ok rfl (goes274 hf) (if_pos a4) h)) ?_
    refine sm_tst hT ih ⟨hs1, h7, ?_, ?_⟩ rfl ⟨Nat.le_refl _, hw⟩ ?_
    · dsimp only [roomP]
      simp only [List.length_cons]
      omega
    · show done0.length ≤ _
      omega
    intro m ts k1 d hm hk1 hl1 hd
    refine Sm.step (G' := RunD toks ⟨k1, 251 :: 40 :: rest, ⟨⟨50, ⟨#[]⟩, 0, false, (tk toks k).pos⟩, 0, done0.length⟩ :: begun, (done0 ++ [d]) ++ []⟩ rr) (fun h => by rw [List.append_nil] at h; exact h) ?_
    refine Sm.call (c := .stmt) (rest := 40 :: rest) (begun := ⟨⟨50, ⟨#[]⟩, 0, false, (tk toks k).pos⟩, 0, done0.length⟩ :: begun) (done0 := done0 ++ [d]) (pre := []) hT (fun m' hm' => ih m' (by omega)) trivial rfl (stOk_none _) ⟨hl1, h7, ?_, ?_⟩ trivial (hwB _ [d] rfl) ?_
    · dsimp only [roomP]
      simp only [List.length_cons]
      omega
    · simp
      omega
    intro m2 ts2 k2 ds2 hm2 hl2 hb2 hn2 hd2 hst2 hle2
    dsimp only [loP, baP] at hl2 hn2
    refine Sm.back fun hK => ?_
    rw [List.append_assoc]
    refine hend _ k2 _ hb2 (by simp; omega) fun dd hdd => hK [dd] (hdd.trans ?_) (stOk_none _) trivial
    rw [List.map_append, hd2, List.map_singleton, hd]
  refine Sm.ite (fun a5 => ?_) (fun a5 => ?_)
  · -- do
    have hs1 : k + 1 < toks.length := hT.sign a5 (by simp)
    refine Sm.step (G' := RunD toks ⟨k + 1, 251 :: 285 :: 182 :: 40 :: rest, ⟨⟨51, ⟨#[]⟩, 0, false, (tk toks k).pos⟩, 0, done0.length⟩ :: begun, done0 ++ []⟩ rr) (fun h => by
      rw [List.append_nil] at h
      exact run_stmt hf (q := 275) (by rw [a5]; simp [stOf, toList_data]) (RunD.ok rfl (goes275 hf) (if_pos a5) h)) ?_
    refine Sm.call (c := .stmt) (rest := 285 :: 182 :: 40 :: rest) (begun := ⟨⟨51, ⟨#[]⟩, 0, false, (tk toks k).pos⟩, 0, done0.length⟩ :: begun) (done0 := done0) (pre := []) hT ih trivial rfl (stOk_none _) ⟨hs1, h7, ?_, ?_⟩ trivial ⟨Nat.le_refl _, hw⟩ ?_
    · dsimp only [roomP]
      simp only [List.length_cons]
      omega
    · simp
      omega
    intro m2 ts2 k2 ds2 hm2 hl2 hb2 hn2 hd2 hst2 hle2
    dsimp only [loP, baP] at hl2 hn2
    have hf2 : Fine toks ⟨k2, 182 :: 40 :: rest, ⟨⟨51, ⟨#[]⟩, 0, false, (tk toks k).pos⟩, 0, done0.length⟩ :: begun, done0 ++ ds2⟩ := hfB _ _ _ _ hb2 (by simp) (by omega)
    refine Sm.eat (fun b1 => ?_) (fun b1 hK => ?_)
    · have hs2 : k2 + 1 < toks.length := hT.sign b1 (by simp)
      unfold tst
      refine Sm.eat (fun b2 => ?_) (fun b2 hK => ?_)
      · refine Sm.step (G' := RunD toks ⟨k2 + 1 + 1, 24 :: 184 :: 182 :: 40 :: rest, ⟨⟨51, ⟨#[]⟩, 0, false, (tk toks k).pos⟩, 0, done0.length⟩ :: begun, done0 ++ ds2⟩ rr) (fun h => by
          refine RunD.ok rfl (goes285 hf2 hT) ?_ h
          unfold st285F
          dsimp only
          rw [if_pos b1, if_pos b2]) ?_
        refine sm_ex hT (fun m' hm' => ih m' (by omega)) (by simp) (by decide) (fun s hs => goes184 hs) ⟨hT.sign b2 (by simp), h7, ?_, ?_⟩ rfl (hwB _ _ rfl) ?_
        · dsimp only [roomP]
          simp only [List.length_cons]
          omega
        · simp
          omega
        intro m3 ts3 k3 d3 hm3 hk3 hl3 hd3
        have hf3 : Fine toks ⟨k3, 40 :: rest, ⟨⟨51, ⟨#[]⟩, 0, false, (tk toks k).pos⟩, 0, done0.length⟩ :: begun, done0 ++ (ds2 ++ [d3])⟩ := hfB _ _ _ _ hl3 (by simp) (by simp; omega)
        rw [List.append_assoc]
        refine Sm.eat (fun b3 => Sm.back fun hK => ?_) (fun b3 hK => (show rr = _ from hK) ▸ RunD.wrong rfl (goes182 hf3) (if_neg b3))
        refine RunD.ok rfl (goes182 hf3) (if_pos b3) ?_
        refine hend _ (k3 + 1) _ (hT.sign b3 (by simp)) (by simp; omega) fun dd hdd => hK [dd] (hdd.trans ?_) (stOk_none _) trivial
        rw [List.map_append, hd2, List.map_singleton, hd3]
      · refine (show rr = _ from hK) ▸ RunD.wrong rfl (goes285 hf2 hT) ?_
        unfold st285F
        dsimp only
        rw [if_pos b1, if_neg b2]
    · refine (show rr = _ from hK) ▸ RunD.wrong rfl (goes285 hf2 hT) ?_
      unfold st285F
      dsimp only
      rw [if_neg b1]
  refine Sm.ite (fun a6 => ?_) (fun a6 => ?_)
  · -- for
    have hs1 : k + 1 < toks.length := hT.sign a6 (by simp)
    refine Sm.eat (fun b1 => ?_) (fun b1 hK => ?_)
    · have hs2 : k + 1 + 1 < toks.length := hT.sign b1 (by simp)
      refine Sm.step (G' := RunD toks ⟨k + 1 + 1, 252 :: 182 :: 252 :: 182 :: 252 :: 184 :: 251 :: 40 :: rest, ⟨⟨52, ⟨#[]⟩, 0, false, (tk toks k).pos⟩, 0, done0.length⟩ :: begun, done0⟩ rr) (fun h => by
        refine run_stmt hf (q := 276) (by rw [a6]; simp [stOf, toList_data]) (RunD.ok rfl (goes276 hf hT) ?_ h)
        unfold st276F
        dsimp only
        rw [if_pos a6, if_pos b1]) ?_
      refine sm_prt hT ih (.inl rfl) (by decide) (fun s hs => goes182 hs) ⟨hs2, h7, ?_, ?_⟩ rfl ⟨Nat.le_refl _, hw⟩ ?_
      · dsimp only [roomP]
        simp only [List.length_cons]
        omega
      · omega
      intro m2 ts2 k2 d2 hm2 hk2 hl2 hd2
      refine sm_prt hT (fun m' hm' => ih m' (by omega)) (.inl rfl) (by decide) (fun s hs => goes182 hs) ⟨hl2, h7, ?_, ?_⟩ rfl (hwB _ _ rfl) ?_
      · dsimp only [roomP]
        simp only [List.length_cons]
        omega
      · simp
        omega
      intro m3 ts3 k3 d3 hm3 hk3 hl3 hd3
      rw [List.append_assoc]
      refine sm_prt hT (fun m' hm' => ih m' (by omega)) (.inr (.inl rfl)) (by decide) (fun s hs => goes184 hs) ⟨hl3, h7, ?_, ?_⟩ rfl (hwB _ _ rfl) ?_
      · dsimp only [roomP]
        simp only [List.length_cons]
        omega
      · simp
        omega
      intro m4 ts4 k4 d4 hm4 hk4 hl4 hd4
      refine Sm.step (G' := RunD toks ⟨k4, 251 :: 40 :: rest, ⟨⟨52, ⟨#[]⟩, 0, false, (tk toks k).pos⟩, 0, done0.length⟩ :: begun, (done0 ++ ([d2] ++ [d3] ++ [d4])) ++ []⟩ rr) (fun h => by rw [List.append_nil, ← List.append_assoc] at h; exact h) ?_
      refine Sm.call (c := .stmt) (rest := 40 :: rest) (begun := ⟨⟨52, ⟨#[]⟩, 0, false, (tk toks k).pos⟩, 0, done0.length⟩ :: begun) (done0 := done0 ++ ([d2] ++ [d3] ++ [d4])) (pre := []) hT (fun m' hm' => ih m' (by omega)) trivial rfl (stOk_none _) ⟨hl4, h7, ?_, ?_⟩ trivial (hwB _ _ rfl) ?_
      · dsimp only [roomP]
        simp only [List.length_cons]
        omega
      · simp
        omega
      intro m5 ts5 k5 ds5 hm5 hl5 hb5 hn5 hd5 hst5 hle5
      dsimp only [loP, baP] at hl5 hn5
      refine Sm.back fun hK => ?_
      rw [List.append_assoc]
      refine hend _ k5 _ hb5 (by simp; omega) fun dd hdd => hK [dd] (hdd.trans ?_) (stOk_none _) trivial
      rw [List.map_append, hd5, ← hd2, ← hd3, ← hd4]
      rfl
    · refine (show rr = _ from hK) ▸ run_stmt hf (q := 276) (by rw [a6]; simp [stOf, toList_data]) (RunD.wrong rfl (goes276 hf hT) ?_)
      unfold st276F
      dsimp only
      rw [if_pos a6, if_neg b1]
  refine Sm.ite (fun a7 => ?_) (fun a7 => ?_)
  · have hs1 : k + 1 < toks.length := hT.sign a7 (by simp)
    refine Sm.eat (fun b1 => Sm.back fun hK => ?_) (fun b1 hK => ?_)
    · exact run_stmt hf (q := 277) (by rw [a7]; simp [stOf, toList_data]) (RunD.ok rfl (goes277 hf hs1) (if_pos b1) (hK [_] rfl (stOk_none _) trivial))
    · exact (show rr = _ from hK) ▸ run_stmt hf (q := 277) (by rw [a7]; simp [stOf, toList_data]) (RunD.wrong rfl (goes277 hf hs1) (if_neg b1))
  refine Sm.ite (fun a8 => ?_) (fun a8 => ?_)
  · have hs1 : k + 1 < toks.length := hT.sign a8 (by simp)
    refine Sm.eat (fun b1 => Sm.back fun hK => ?_) (fun b1 hK => ?_)
    · exact run_stmt hf (q := 278) (by rw [a8]; simp [stOf, toList_data]) (RunD.ok rfl (goes278 hf hs1) (if_pos b1) (hK [_] rfl (stOk_none _) trivial))
    · exact (show rr = _ from hK) ▸ run_stmt hf (q := 278) (by rw [a8]; simp [stOf, toList_data]) (RunD.wrong rfl (goes278 hf hs1) (if_neg b1))
  refine Sm.ite (fun a9 => ?_) (fun a9 => ?_)
  · -- return
    have hs1 : k + 1 < toks.length := hT.sign a9 (by simp)
    refine Sm.ite (fun b1 => Sm.back fun hK => ?_) (fun b1 => ?_)
    · refine run_stmt hf (q := 279) (by rw [a9]; simp [stOf, toList_data]) (RunD.ok rfl (goes279 hf hT) (s' := ⟨k + 1, 182 :: 40 :: rest, ⟨⟨55, ⟨#[]⟩, 0, false, (tk toks k).pos⟩, 0, done0.length⟩ :: begun, done0 ++ []⟩) (by
        unfold st279F
        dsimp only
        rw [if_pos a9, if_pos b1, List.append_nil]) ?_)
      refine RunD.ok rfl (goes182 (hfB (40 :: rest) _ [] (k + 1) hs1 (by simp) (by simp))) (if_pos b1) ?_
      exact hend _ (k + 2) [] (hT.sign b1 (by simp)) (by simp) fun dd hdd => hK [dd] hdd (stOk_none _) trivial
    · refine Sm.step (G' := RunD toks ⟨k + 1, 24 :: 182 :: 40 :: rest, ⟨⟨55, ⟨#[]⟩, 0, false, (tk toks k).pos⟩, 0, done0.length⟩ :: begun, done0⟩ rr) (fun h => by
        refine run_stmt hf (q := 279) (by rw [a9]; simp [stOf, toList_data]) (RunD.ok rfl (goes279 hf hT) ?_ h)
        unfold st279F
        dsimp only
        rw [if_pos a9, if_neg b1]) ?_
      refine sm_ex hT ih (by simp) (by decide) (fun s hs => goes182 hs) ⟨hs1, h7, ?_, ?_⟩ rfl ⟨Nat.le_refl _, hw⟩ ?_
      · dsimp only [roomP]
        simp only [List.length_cons]
        omega
      · omega
      intro m3 ts3 k3 d3 hm3 hk3 hl3 hd3
      refine Sm.back fun hK => hend _ k3 _ hl3 (by simp) fun dd hdd => hK [dd] (hdd.trans ?_) (stOk_none _) trivial
      rw [← hd3]
      rfl
  · refine Sm.step (G' := RunD toks ⟨k, 24 :: 182 :: 40 :: rest, ⟨⟨48, ⟨#[]⟩, 0, false, (tk toks k).pos⟩, 0, done0.length⟩ :: begun, done0⟩ rr) (fun h => run_stmt hf (q := 280) (stOf_none a1 a2 a3 a4 a5 a6 a7 a8 a9) (RunD.ok rfl (goes280 hf) rfl h)) ?_
    refine sm_ex hT ih (by simp) (by decide) (fun s hs => goes182 hs) ⟨h8, h7, ?_, ?_⟩ rfl ⟨Nat.le_refl _, hw⟩ ?_
    · dsimp only [roomP]
      simp only [List.length_cons]
      omega
    · omega
    intro m3 ts3 k3 d3 hm3 hk3 hl3 hd3
    refine Sm.back fun hK => hend _ k3 _ hl3 (by simp) fun dd hdd => hK [dd] (hdd.trans ?_) (stOk_none _) trivial
    rw [← hd3]
    rfl
end Go.Proofs.YtjeioblhpfogfaaGreatDoor
namespace Go.Proofs.YtjeioblhpfogfaaGreatDoor
open Go.RowKit

theorem sim_membs {toks : List Tk} (hT : TokOk toks) {n k : Nat} {fr : Int} {nm : ByteArray} {acc : List Tr} {r : Rs} (ih : SimAll toks n) (e : runP toks n (body toks (.membs fr nm acc) k) = some r) : Sim toks (.membs fr nm acc) k r := by
  intro rest begun done0 pre rr hp hs hB hl hw hk
  have hp' : pre.map dnT = acc := hp
  have h1 := hB.room
  have h2 := hB.done
  have h7 := hB.few
  have h8 := hB.at_
  dsimp only [roomP] at h1
  rw [List.length_append] at h2
  have hfB : ∀ (todo : List Nat) (j : Nat), j < toks.length → todo.length ≤ rest.length + 4 → Fine toks ⟨j, todo, ⟨⟨41, nm, 0, false, fr⟩, 0, done0.length⟩ :: begun, done0 ++ pre⟩ := fun todo j h3 h5 => by
    refine ⟨h3, h7, ?_, ?_, ?_⟩ <;> simp <;> omega
  have hw1 : WfB (done0 ++ pre).length (⟨⟨41, nm, 0, false, fr⟩, 0, done0.length⟩ :: begun) := ⟨by simp, hw⟩
  refine (?_ : Sm toks n (body toks (.membs fr nm acc) k) (Kt rr fun ts k' => ∀ ds, ds.map dnT = ts → StOk none ds → True → RunD toks ⟨k', rest, begun, done0 ++ ds⟩ rr) (RunD toks ⟨k, 181 :: 182 :: 40 :: rest, ⟨⟨41, nm, 0, false, fr⟩, 0, done0.length⟩ :: begun, done0 ++ pre⟩ rr)) r e hk
  unfold body
  have hG := goes181 (hfB (182 :: 40 :: rest) k h8 (by simp)) hT
  refine Sm.ite (fun a1 => ?_) (fun a1 => ?_)
  · have hs1 : k + 1 < toks.length := hT.sign a1 (by simp)
    have hf1 := hfB (40 :: rest) (k + 1) hs1 (by simp)
    refine Sm.step (G' := RunD toks ⟨k + 1, 182 :: 40 :: rest, ⟨⟨41, nm, 0, false, fr⟩, 0, done0.length⟩ :: begun, done0 ++ pre⟩ rr) (fun h => RunD.ok rfl hG (by
      unfold st181F
      rw [if_pos a1]) h) ?_
    refine Sm.eat (fun a2 => Sm.back fun hK => ?_) (fun a2 hK => (show rr = _ from hK) ▸ RunD.wrong rfl (goes182 hf1) (if_neg a2))
    refine RunD.ok rfl (goes182 hf1) (if_pos a2) ?_
    refine run_fin (hfB rest (k + 1 + 1) (hT.sign a2 (by simp)) (by simp)) rfl (hK _ ?_ (stOk_none _) trivial)
    rw [List.map_singleton, ← hp']
    rfl
  · refine Sm.typ hT ⟨k, 182 :: 40 :: rest, ⟨⟨42, ⟨#[]⟩, 0, false, (tk toks k).pos⟩, 0, (done0 ++ pre).length⟩ :: ⟨⟨41, nm, 0, false, fr⟩, 0, done0.length⟩ :: begun, done0 ++ pre⟩ rfl (fun t k1 ht hk1 hl1 => ?_) (fun q hq hK => ?_)
    · refine Sm.step (G' := RunD toks ⟨k1, 221 :: 222 :: 182 :: 40 :: 181 :: 182 :: 40 :: rest, ⟨⟨42, ⟨#[]⟩, 0, false, (tk toks k).pos⟩, 0, (done0 ++ pre).length⟩ :: ⟨⟨41, nm, 0, false, fr⟩, 0, done0.length⟩ :: begun, (done0 ++ pre) ++ [⟨⟨16, t, 0, false, (tk toks k).pos⟩, [], (tk toks k).pos⟩]⟩ rr) (fun h => RunD.ok rfl hG (by
        unfold st181F
        dsimp only
        rw [if_neg a1, ht]) h) ?_
      refine Sm.call (c := .varsR true (tk toks k).pos [tyT toks k t]) (rest := 181 :: 182 :: 40 :: rest) (begun := ⟨⟨41, nm, 0, false, fr⟩, 0, done0.length⟩ :: begun) (done0 := done0 ++ pre) (pre := [⟨⟨16, t, 0, false, (tk toks k).pos⟩, [], (tk toks k).pos⟩]) hT ih trivial rfl (stOk_none _) ⟨hl1, h7, ?_, ?_⟩ trivial hw1 ?_
      · dsimp only [roomP]
        simp only [List.length_cons]
        omega
      · simp
        omega
      intro m ts k2 ds hm hl2 hb2 hn2 hd hst hle
      dsimp only [loP, baP] at hl2 hn2
      rw [List.append_assoc]
      refine Sm.call (c := .membs fr nm (acc ++ ts)) (rest := rest) (begun := begun) (done0 := done0) (pre := pre ++ ds) hT (ih.less hm) trivial ?_ (stOk_none _) ⟨hb2, h7, ?_, ?_⟩ trivial hw ?_
      · rw [List.map_append, hp', hd]
        rfl
      · dsimp only [roomP]
        omega
      · simp
        omega
      intro m2 ts2 k2 ds2 hm2 hl2 hb2 hn2 hd2 hst2 hle3
      exact Sm.back fun hK => hK ds2 hd2 (stOk_none _) trivial
    · refine (show rr = _ from hK) ▸ RunD.wrong rfl hG ?_
      unfold st181F
      dsimp only
      rw [if_neg a1, hq]
theorem sim_prog {toks : List Tk} (hT : TokOk toks) {n k : Nat} {acc : List Tr} {r : Rs} (ih : SimAll toks n) (e : runP toks n (body toks (.prog acc) k) = some r) : Sim toks (.prog acc) k r := by
  intro rest begun done0 pre rr hp hs hB hl hw hk
  have hp' : pre.map dnT = acc := hp
  have h1 := hB.room
  have h2 := hB.done
  have h7 := hB.few
  have h8 := hB.at_
  dsimp only [roomP] at h1
  rw [List.length_append] at h2
  have hfB : ∀ (todo : List Nat) (j : Nat), j < toks.length → todo.length ≤ rest.length + 4 → Fine toks ⟨j, todo, ⟨⟨40, ⟨#[]⟩, 0, false, 0⟩, 0, done0.length⟩ :: begun, done0 ++ pre⟩ := fun todo j h3 h5 => by
    refine ⟨h3, h7, ?_, ?_, ?_⟩ <;> simp <;> omega
  have hw1 : WfB (done0 ++ pre).length (⟨⟨40, ⟨#[]⟩, 0, false, 0⟩, 0, done0.length⟩ :: begun) := ⟨by simp, hw⟩
  refine (?_ : Sm toks n (body toks (.prog acc) k) (Kt rr fun ts k' => ∀ ds, ds.map dnT = ts → StOk (some 0) ds → True → RunD toks ⟨k', rest, begun, done0 ++ ds⟩ rr) (RunD toks ⟨k, 39 :: 40 :: rest, ⟨⟨40, ⟨#[]⟩, 0, false, 0⟩, 0, done0.length⟩ :: begun, done0 ++ pre⟩ rr)) r e hk
  unfold body
  have hG := goes39 (hfB (40 :: rest) k h8 (by simp))
  refine Sm.ite (fun a1 => Sm.back fun hK => ?_) (fun a1 => ?_)
  · refine RunD.ok rfl hG (if_pos a1) (run_fin (hfB rest k h8 (by simp)) rfl (hK _ ?_ (fun p hp0 => ⟨_, rfl, by injection hp0⟩) trivial))
    rw [List.map_singleton, ← hp']
    rfl
  · refine Sm.step (G' := RunD toks ⟨k, declF toks ⟨k, [], [], []⟩ :: 39 :: 40 :: rest, ⟨⟨40, ⟨#[]⟩, 0, false, 0⟩, 0, done0.length⟩ :: begun, (done0 ++ pre) ++ []⟩ rr) (fun h => by
      rw [List.append_nil] at h
      exact RunD.ok rfl hG (if_neg a1) h) ?_
    refine Sm.call (c := .outer) (rest := 39 :: 40 :: rest) (begun := ⟨⟨40, ⟨#[]⟩, 0, false, 0⟩, 0, done0.length⟩ :: begun) (done0 := done0 ++ pre) (pre := []) hT ih trivial rfl (stOk_none _) ⟨h8, h7, ?_, ?_⟩ trivial hw1 ?_
    · dsimp only [roomP]
      simp only [List.length_cons]
      omega
    · simp
      omega
    intro m ts k2 ds hm hl2 hb2 hn2 hd hst hle
    dsimp only [loP, baP] at hl2 hn2
    rw [List.append_assoc]
    refine Sm.call (c := .prog (acc ++ ts)) (rest := rest) (begun := begun) (done0 := done0) (pre := pre ++ ds) hT (ih.less hm) trivial ?_ (stOk_none _) ⟨hb2, h7, ?_, ?_⟩ trivial hw ?_
    · rw [List.map_append, hp', hd]
      rfl
    · dsimp only [roomP]
      omega
    · simp
      omega
    intro m2 ts2 k2 ds2 hm2 hl2 hb2 hn2 hd2 hst2 hle3
    exact Sm.back fun hK => hK ds2 hd2 hst2 trivial
/-- A type's end: where it is a struct, two tokens behind its beginning, else one. -/
theorem typedF_end {toks : List Tk} {s s' : St} (h : typedF toks s = .ok s') : (signAt toks s.pl = ⟨#[115, 116, 114, 117, 99, 116]⟩ ∧ s'.pl = s.pl + 2 ∧ (tk toks (s.pl + 1)).kind = 2) ∨ (¬ signAt toks s.pl = ⟨#[115, 116, 114, 117, 99, 116]⟩ ∧ s'.pl = s.pl + 1) := by
  unfold typedF at h
  split at h
  · split at h
    · rename_i hq
      split at h
      · rename_i hk
        injection h with h
        subst h
        exact .inl ⟨of_toList hq, rfl, hk⟩
      · cases h
    · rename_i hq
      injection h with h
      subst h
      refine .inr ⟨fun e => hq ?_, rfl⟩
      rw [e, toList_data]
      rfl
  · cases h
/-- A type is read alike, whatever was begun. -/
theorem typedF_bad {toks : List Tk} {s : St} {b : List Bg} {q : Int} (h : typedF toks s = .error q) : typedF toks { s with begun := b } = .error q := by
  unfold typedF at h ⊢
  dsimp only
  split at h
  · rename_i h1
    rw [if_pos h1]
    split at h
    · rename_i h2
      rw [if_pos h2]
      split at h
      · cases h
      · rename_i h3
        rw [if_neg h3]
        exact h
    · cases h
  · rename_i h1
    rw [if_neg h1]
    exact h
theorem typedF_any {toks : List Tk} {k k1 : Nat} {todo : List Nat} {b b' : List Bg} {dn dn' : List Dn} (h : typedF toks ⟨k, todo, b, dn⟩ = .ok ⟨k1, todo, b, dn'⟩) : typedF toks ⟨k, todo, b', dn⟩ = .ok ⟨k1, todo, b', dn'⟩ := by
  unfold typedF at h ⊢
  dsimp only at h ⊢
  split at h
  · rename_i h1
    rw [if_pos h1]
    split at h
    · rename_i h2
      rw [if_pos h2]
      split at h
      · rename_i h3
        rw [if_pos h3]
        injection h with h
        injection h with e1 e2 e3 e4
        rw [e1, e4]
      · cases h
    · rename_i h2
      rw [if_neg h2]
      injection h with h
      injection h with e1 e2 e3 e4
      rw [e1, e4]
  · cases h
theorem sim_outer {toks : List Tk} (hT : TokOk toks) {n k : Nat} {r : Rs} (ih : SimAll toks n) (e : runP toks n (body toks .outer k) = some r) : Sim toks .outer k r := by
  intro rest begun done0 pre rr hp hs hB hl hw hk
  obtain rfl : pre = [] := List.map_eq_nil_iff.1 hp
  have hB' : Bnd toks .outer k rest begun done0 := by rw [List.append_nil] at hB; exact hB
  have h1 := hB'.room
  have h2 := hB'.done
  have h7 := hB'.few
  have h8 := hB'.at_
  dsimp only [roomP] at h1
  have hf : Fine toks ⟨k, rest, begun, done0⟩ := hB'.fine (by simp) (by simp) (by simp)
  have hfB : ∀ (todo : List Nat) (b : Bg) (ds : List Dn) (j : Nat), j < toks.length → todo.length ≤ rest.length + 12 → ds.length ≤ j + 3 → Fine toks ⟨j, todo, b :: begun, done0 ++ ds⟩ := fun todo b ds j h3 h5 h9 => by
    refine ⟨h3, h7, ?_, ?_, ?_⟩ <;> simp <;> omega
  have hwB : ∀ (b : Bg) (ds : List Dn), b.first = done0.length → WfB (done0 ++ ds).length (b :: begun) := fun b ds hb => ⟨by rw [hb]; simp, hb ▸ hw⟩
  have hend : ∀ (x : NdH) (j : Nat) (ds : List Dn), j < toks.length → ds.length ≤ j + 3 → (∀ dd, [dd].map dnT = [Tr.node x (ds.map dnT)] → RunD toks ⟨j, rest, begun, done0 ++ [dd]⟩ rr) → RunD toks ⟨j, 40 :: rest, ⟨x, 0, done0.length⟩ :: begun, done0 ++ ds⟩ rr := fun x j ds h3 h5 hK =>
    run_fin (hfB rest _ ds j h3 (by omega) h5) rfl (hK _ rfl)
  show RunD toks ⟨k, declF toks ⟨k, [], [], []⟩ :: rest, begun, done0 ++ []⟩ rr
  rw [List.append_nil]
  obtain ⟨q, hq⟩ : ∃ q, declF toks ⟨k, [], [], []⟩ = q := ⟨_, rfl⟩
  rw [hq]
  refine (?_ : Sm toks n (body toks .outer k) (Kt rr fun ts k' => ∀ ds, ds.map dnT = ts → StOk none ds → True → RunD toks ⟨k', rest, begun, done0 ++ ds⟩ rr) (RunD toks ⟨k, q :: rest, begun, done0⟩ rr)) r e hk
  unfold body
  refine Sm.typ hT ⟨k, rest, ⟨⟨45, ⟨#[]⟩, 0, false, (tk toks k).pos⟩, 0, done0.length⟩ :: begun, done0⟩ rfl (fun t k1 ht hk1 hl1 => ?_) (fun p hp2 hK => ?_)
  · have htv : typedF toks ⟨k, rest, ⟨⟨42, ⟨#[]⟩, 0, false, (tk toks k).pos⟩, 0, done0.length⟩ :: begun, done0⟩ = .ok ⟨k1, rest, ⟨⟨42, ⟨#[]⟩, 0, false, (tk toks k).pos⟩, 0, done0.length⟩ :: begun, done0 ++ [⟨⟨16, t, 0, false, (tk toks k).pos⟩, [], (tk toks k).pos⟩]⟩ := typedF_any ht
    have hE := typedF_end ht
    dsimp only at hE
    refine Sm.ite (fun a1 => ?_) (fun a1 => ?_)
    · -- a struct
      obtain ⟨a1, a2⟩ := a1
      rcases hE with ⟨_, e1, hkn⟩ | ⟨hn, _⟩
      · subst e1
        obtain rfl : q = 122 := by rw [← hq]; unfold declF; dsimp only; rw [if_pos a1, if_pos a2]
        refine Sm.step (G' := RunD toks ⟨k + 2 + 1, 181 :: 182 :: 40 :: rest, ⟨⟨41, (tk toks (k + 1)).text, 0, false, (tk toks k).pos⟩, 0, done0.length⟩ :: begun, done0 ++ []⟩ rr) (fun h => by
          rw [List.append_nil] at h
          refine RunD.ok rfl (goes122 hf hT) ?_ h
          unfold st122F
          dsimp only
          rw [if_pos a1, if_pos hkn, if_pos a2]) ?_
        refine Sm.call (c := .membs (tk toks k).pos (tk toks (k + 1)).text []) (rest := rest) (begun := begun) (done0 := done0) (pre := []) hT ih trivial rfl (stOk_none _) ⟨hT.sign a2 (by simp), h7, ?_, ?_⟩ trivial hw ?_
        · dsimp only [roomP]
          omega
        · simp
          omega
        intro m2 ts2 k2 ds2 hm2 hl2 hb2 hn2 hd2 hst2 hle3
        exact Sm.back fun hK => hK ds2 hd2 (stOk_none _) trivial
      · exact absurd a1 hn
    -- neither a struct: which comes
    have hq2 : q = if signAt toks (k1 + 1) = ⟨#[40]⟩ then 123 else 124 := by
      rw [← hq]
      unfold declF
      dsimp only
      rcases hE with ⟨hs0, rfl, hkn⟩ | ⟨hn, rfl⟩
      · rw [if_pos hs0, if_neg (fun h => a1 ⟨hs0, h⟩)]
      · rw [if_neg hn]
    have hvars : q = 124 → ∀ G : Prop, (RunD toks ⟨k1, 188 :: 189 :: 182 :: 40 :: rest, ⟨⟨42, ⟨#[]⟩, 0, false, (tk toks k).pos⟩, 0, done0.length⟩ :: begun, done0 ++ [⟨⟨16, t, 0, false, (tk toks k).pos⟩, [], (tk toks k).pos⟩]⟩ rr) → RunD toks ⟨k, q :: rest, begun, done0⟩ rr := fun hq G h => by
      subst hq
      refine RunD.ok rfl (goes124 hf hT) ?_ h
      unfold st124F
      dsimp only
      rw [htv]
    refine Sm.nam (fun a2 => ?_) (fun a2 hK => ?_)
    · have hk2 : ¬ (tk toks k1).kind = 1 := by rw [a2]; decide
      have hs2 : k1 + 1 < toks.length := hT.next _ hl1 hk2
      refine Sm.ite (fun a3 => ?_) (fun a3 => ?_)
      · -- a function
        obtain rfl : q = 123 := by rw [hq2, if_pos a3]
        have hs3 : k1 + 1 + 1 < toks.length := hT.sign a3 (by simp)
        refine Sm.ite (fun a4 => ?_) (fun a4 => ?_)
        · refine Sm.step (G' := RunD toks ⟨k1 + 1 + 2, 185 :: 40 :: rest, ⟨⟨45, (tk toks k1).text, 0, false, (tk toks k).pos⟩, 0, done0.length⟩ :: begun, (done0 ++ [⟨⟨16, t, 0, false, (tk toks k).pos⟩, [], (tk toks k).pos⟩]) ++ []⟩ rr) (fun h => by
            rw [List.append_nil] at h
            refine RunD.ok rfl (goes123 hf hT) (s' := ⟨k1 + 2, 184 :: 185 :: 40 :: rest, ⟨⟨45, (tk toks k1).text, 0, false, (tk toks k).pos⟩, 0, done0.length⟩ :: begun, done0 ++ [⟨⟨16, t, 0, false, (tk toks k).pos⟩, [], (tk toks k).pos⟩]⟩) ?_ (RunD.ok rfl (goes184 (hfB (185 :: 40 :: rest) _ [⟨⟨16, t, 0, false, (tk toks k).pos⟩, [], (tk toks k).pos⟩] (k1 + 2) hs3 (by simp) (by simp))) (if_pos a4) h)
            unfold st123F
            dsimp only
            rw [ht]
            dsimp only
            rw [if_pos a2, if_pos a3, if_pos a4]) ?_
          refine Sm.call (c := .blk) (rest := 40 :: rest) (begun := ⟨⟨45, (tk toks k1).text, 0, false, (tk toks k).pos⟩, 0, done0.length⟩ :: begun) (done0 := done0 ++ [⟨⟨16, t, 0, false, (tk toks k).pos⟩, [], (tk toks k).pos⟩]) (pre := []) hT ih trivial rfl (stOk_none _) ⟨hT.sign a4 (by simp), h7, ?_, ?_⟩ trivial (hwB _ _ rfl) ?_
          · dsimp only [roomP]
            simp only [List.length_cons]
            omega
          · simp
            omega
          intro m2 ts2 k2 ds2 hm2 hl2 hb2 hn2 hd2 hst2 hle3
          dsimp only [loP, baP] at hl2 hn2
          refine Sm.back fun hK => ?_
          rw [List.append_assoc]
          refine hend _ k2 _ hb2 (by simp; omega) fun dd hdd => hK [dd] (hdd.trans ?_) (stOk_none _) trivial
          rw [List.map_append, hd2]
          rfl
        · refine Sm.step (G' := RunD toks ⟨k1 + 1 + 1, 186 :: 187 :: 184 :: 185 :: 40 :: rest, ⟨⟨45, (tk toks k1).text, 0, false, (tk toks k).pos⟩, 0, done0.length⟩ :: begun, (done0 ++ [⟨⟨16, t, 0, false, (tk toks k).pos⟩, [], (tk toks k).pos⟩]) ++ []⟩ rr) (fun h => by
            rw [List.append_nil] at h
            refine RunD.ok rfl (goes123 hf hT) ?_ h
            unfold st123F
            dsimp only
            rw [ht]
            dsimp only
            rw [if_pos a2, if_pos a3, if_neg a4]) ?_
          refine Sm.call (c := .params []) (rest := 184 :: 185 :: 40 :: rest) (begun := ⟨⟨45, (tk toks k1).text, 0, false, (tk toks k).pos⟩, 0, done0.length⟩ :: begun) (done0 := done0 ++ [⟨⟨16, t, 0, false, (tk toks k).pos⟩, [], (tk toks k).pos⟩]) (pre := []) hT ih trivial rfl (stOk_none _) ⟨hs3, h7, ?_, ?_⟩ trivial (hwB _ _ rfl) ?_
          · dsimp only [roomP]
            simp only [List.length_cons]
            omega
          · simp
            omega
          intro m2 ts2 k2 ds2 hm2 hl2 hb2 hn2 hd2 hst2 hle3
          dsimp only [loP, baP] at hl2 hn2
          rw [List.length_nil] at hn2
          have hf3 : Fine toks ⟨k2, 185 :: 40 :: rest, ⟨⟨45, (tk toks k1).text, 0, false, (tk toks k).pos⟩, 0, done0.length⟩ :: begun, done0 ++ ([⟨⟨16, t, 0, false, (tk toks k).pos⟩, [], (tk toks k).pos⟩] ++ ds2)⟩ := hfB _ _ _ _ hb2 (by simp) (by simp; omega)
          rw [List.append_assoc]
          refine Sm.eat (fun a5 => ?_) (fun a5 hK => (show rr = _ from hK) ▸ RunD.wrong rfl (goes184 hf3) (if_neg a5))
          refine Sm.step (G' := RunD toks ⟨k2 + 1, 185 :: 40 :: rest, ⟨⟨45, (tk toks k1).text, 0, false, (tk toks k).pos⟩, 0, done0.length⟩ :: begun, (done0 ++ ([⟨⟨16, t, 0, false, (tk toks k).pos⟩, [], (tk toks k).pos⟩] ++ ds2)) ++ []⟩ rr) (fun h => by
            rw [List.append_nil] at h
            exact RunD.ok rfl (goes184 hf3) (if_pos a5) h) ?_
          refine Sm.call (c := .blk) (rest := 40 :: rest) (begun := ⟨⟨45, (tk toks k1).text, 0, false, (tk toks k).pos⟩, 0, done0.length⟩ :: begun) (done0 := done0 ++ ([⟨⟨16, t, 0, false, (tk toks k).pos⟩, [], (tk toks k).pos⟩] ++ ds2)) (pre := []) hT (ih.less hm2) trivial rfl (stOk_none _) ⟨hT.sign a5 (by simp), h7, ?_, ?_⟩ trivial (hwB _ _ rfl) ?_
          · dsimp only [roomP]
            simp only [List.length_cons]
            omega
          · simp
            omega
          intro m3 ts3 k3 ds3 hm3 hl3 hb3 hn3 hd3 hst3 hle4
          dsimp only [loP, baP] at hl3 hn3
          refine Sm.back fun hK => ?_
          rw [List.append_assoc]
          refine hend _ k3 _ hb3 (by simp; omega) fun dd hdd => hK [dd] (hdd.trans ?_) (stOk_none _) trivial
          rw [List.map_append, List.map_append, hd2, hd3]
          rfl
      · -- variables
        refine Sm.step (hvars (by rw [hq2, if_neg a3]) True) ?_
        refine Sm.call (c := .varsR false (tk toks k).pos [tyT toks k t]) (rest := rest) (begun := begun) (done0 := done0) (pre := [⟨⟨16, t, 0, false, (tk toks k).pos⟩, [], (tk toks k).pos⟩]) hT ih trivial rfl (stOk_none _) ⟨hl1, h7, ?_, ?_⟩ trivial hw ?_
        · dsimp only [roomP]
          omega
        · simp
          omega
        intro m2 ts2 k2 ds2 hm2 hl2 hb2 hn2 hd2 hst2 hle3
        exact Sm.back fun hK => hK ds2 hd2 (stOk_none _) trivial
    · -- no name behind the type
      refine (show rr = _ from hK) ▸ ?_
      have hrr : rr = .error (tk toks k1).pos := hK
      by_cases a3 : signAt toks (k1 + 1) = ⟨#[40]⟩
      · obtain rfl : q = 123 := by rw [hq2, if_pos a3]
        refine RunD.wrong rfl (goes123 hf hT) ?_
        unfold st123F
        dsimp only
        rw [ht]
        dsimp only
        rw [if_neg a2]
      · have := hvars (by rw [hq2, if_neg a3]) True
        rw [hrr] at this
        refine this ?_
        have hf4 := hfB (189 :: 182 :: 40 :: rest) ⟨⟨42, ⟨#[]⟩, 0, false, (tk toks k).pos⟩, 0, done0.length⟩ [⟨⟨16, t, 0, false, (tk toks k).pos⟩, [], (tk toks k).pos⟩] k1 hl1 (by simp) (by simp)
        refine RunD.ok rfl (goes188 hf4) rfl (RunD.wrong rfl (goes226 (hfB (227 :: 40 :: 189 :: 182 :: 40 :: rest) ⟨⟨42, ⟨#[]⟩, 0, false, (tk toks k).pos⟩, 0, done0.length⟩ [⟨⟨16, t, 0, false, (tk toks k).pos⟩, [], (tk toks k).pos⟩] k1 hl1 (by simp) (by simp)) hT) ?_)
        unfold st226F
        dsimp only
        rw [if_neg a2]
  · -- no type
    have hrr : rr = .error p := hK
    rw [hrr]
    have hq3 : q = 122 ∨ q = 123 ∨ q = 124 := by
      rw [← hq]
      unfold declF
      split
      · split
        · exact .inl rfl
        · split
          · exact .inr (.inl rfl)
          · exact .inr (.inr rfl)
      · split
        · exact .inr (.inl rfl)
        · exact .inr (.inr rfl)
    rcases hq3 with rfl | rfl | rfl
    · refine RunD.wrong rfl (goes122 hf hT) ?_
      have hst : signAt toks k = ⟨#[115, 116, 114, 117, 99, 116]⟩ := Classical.byContradiction fun hn => by
        unfold declF at hq
        dsimp only at hq
        rw [if_neg hn] at hq
        split at hq <;> cases hq
      unfold typedF at hp2
      dsimp only at hp2
      rw [if_pos (by rw [hst]; simp [tyWord, toList_data]), if_pos (by rw [hst, toList_data]; rfl)] at hp2
      unfold st122F
      dsimp only
      rw [if_pos hst]
      split at hp2
      · cases hp2
      · rename_i hkn
        rw [if_neg hkn]
        exact hp2
    · refine RunD.wrong rfl (goes123 hf hT) ?_
      unfold st123F
      dsimp only
      rw [hp2]
    · refine RunD.wrong rfl (goes124 hf hT) ?_
      have := typedF_bad (b := ⟨⟨42, ⟨#[]⟩, 0, false, (tk toks k).pos⟩, 0, done0.length⟩ :: begun) hp2
      unfold st124F
      dsimp only
      dsimp only at this
      rw [this]
end Go.Proofs.YtjeioblhpfogfaaGreatDoor
namespace Go.Proofs.YtjeioblhpfogfaaGreatDoor
open Go.RowKit

theorem simAll {toks : List Tk} (hT : TokOk toks) (hE : ∀ k, (tk toks k).kind = 1 → (tk toks k).text = ⟨#[]⟩) (n : Nat) : SimAll toks n := by
  induction n with
  | zero => intro m hm; omega
  | succ n ihn =>
    intro m hm c k r hc hk e
    have ih : SimAll toks m := fun j hj => ihn j (by omega)
    rcases c with ⟨⟩ | ⟨fr, nt⟩ | ⟨⟩ | ⟨fr, nt⟩ | lv | ⟨lv, fr, nt⟩ | ⟨⟩ | ⟨⟩ | ⟨fr, nt⟩ | ⟨⟩ | ⟨en, acc⟩ | bare | ⟨bare, x, ks⟩ | ⟨bare, fr, acc⟩ | ⟨⟩ | acc | ⟨⟩ | ⟨⟩ | ⟨fr, acc⟩ | ⟨fr, nm, acc⟩ | ⟨⟩ | acc
    · exact sim_expr hT ih e
    · exact sim_exprR hT ih e
    · exact sim_cond hT ih e
    · exact sim_condR hT ih e
    · exact sim_bin hT ih e
    · exact sim_binR hT ih e
    · exact sim_un hT ih e
    · exact sim_post hT ih e
    · exact sim_postR hT ih e
    · exact sim_prim hT hE ih e
    · exact sim_items hT hc ih e
    · exact sim_var hT ih e
    · exact sim_init hT ih e
    · exact sim_varsR hT ih e
    · exact sim_param hT ih e
    · exact sim_params hT ih e
    · exact sim_stmt hT ih e
    · exact sim_blk hT ih e
    · exact sim_blkR hT ih e
    · exact sim_membs hT ih e
    · exact sim_outer hT ih e
    · exact sim_prog hT ih e
end Go.Proofs.YtjeioblhpfogfaaGreatDoor
