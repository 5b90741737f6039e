/- The plain machine: a step; and what it keeps. -/
import Derived.Test.YtiehlkhpblldaaaH23
import Derived.Test.YtiehlkhpblldaaaH24
import Derived.Test.YtiehlkhpblldaaaH25
import Derived.Test.YtiehlkhpblldaaaH31
import Derived.Laws.Closers25b
set_option linter.unusedVariables false
set_option linter.unusedSimpArgs false
set_option maxRecDepth 20000
set_option maxHeartbeats 8000000
namespace Go.Proofs.Ytiehlkhpblldaaa
open Go.RowKit Go.Maps

def fn0 : Fn := ⟨⟨#[]⟩, 0, 0, 0, undef, []⟩
def bl0 : Bl := ⟨undef, [], 0, 0, undef, []⟩
def fnOf (C : Cst) (n : Nat) : Fn := C.p.funcs.getD n fn0
def blOf (C : Cst) (n k : Nat) : Bl := (fnOf C n).blocks.getD k bl0
def regsOf (s : St) (n : Nat) : List Rg := (s.banks.getD n none).getD []
def argsOf (l : List Rg) (no : Int) (i : In) : List Int := i.args.map (fun a => getR l a.toNat no)
/-- An instruction. -/
def doF (C : Cst) (s : St) (c : Cl) (l : List Rg) (i : In) : St :=
  if i.op = 1 then setS s c l i.dst.toNat (i.imm % 4294967296)
  else if i.op = 2 then setS s c l i.dst.toNat (getR l (arg i 0) c.no)
  else if i.op = 3 then reckF C s c l i
  else if i.op = 4 then setS s c l i.dst.toNat ((16777216 + i.imm % 4294967296) % 4294967296)
  else if i.op = 5 then setS s c l i.dst.toNat ((c.sl + i.imm % 4294967296) % 4294967296)
  else if i.op = 6 then accF s c l i
  else if i.op = 7 then accF s c l i
  else if i.op = 8 then chkF2 s l c.no (arg i 0) i.imm
  else if i.op = 9 then entF C s i.imm.toNat (fnOf C i.imm.toNat) (argsOf l c.no i)
  else if i.op = 10 then setS (nextF C s) c l i.dst.toNat (nextV C s)
  else if i.op = 11 then { s with out := s.out ++ [getR l (arg i 0) c.no % 256] }
  else s
/-- A call's end. -/
def levF (C : Cst) (s : St) (c : Cl) (told : Int) : St :=
  let s3 := leftS s c (fnOf C c.fn).slots
  match s3.calls.getLast? with
  | none => exitS s3 told
  | some c' => backF s3 c' (regsOf s3 c'.fn) ((blOf C c'.fn c'.bk).code.getD (c'.nx - 1) in0) told
/-- A block's end. -/
def wayF (l : List Rg) (c : Cl) (b : Bl) : Nat := (b.to.getD (if b.en = 1 then 0 else if getR l b.arg.toNat c.no = 0 then 1 else 0) 0).toNat
def finF (C : Cst) (s : St) (c : Cl) (l : List Rg) (b : Bl) : St :=
  if b.en = 3 then levF C s c (toldR l b.arg c.no)
  else (arrF s c l (blOf C c.fn (wayF l c b)).code (wayF l c b) c.bk).1
/-- A step. -/
def stepF (C : Cst) (s : St) : St :=
  if s.fuel < 1 then { s with kind := 3 } else
  match s.calls.getLast? with
  | none => s
  | some c =>
    let s1 := { s with fuel := s.fuel - 1 }
    if c.nx = (blOf C c.fn c.bk).code.length then finF C s1 c (regsOf s c.fn) (blOf C c.fn c.bk)
    else doF C (topS s1 (nextC c)) (nextC c) (regsOf s c.fn) ((blOf C c.fn c.bk).code.getD c.nx in0)

/-- What of a program is used. -/
structure FnOk (p : Pg) (f : Fn) : Prop where
  nb : 1 ≤ f.blocks.length
  pa : 0 ≤ f.params ∧ f.params ≤ 12
  rg : f.params ≤ f.regs ∧ f.regs ≤ 65536
  sl : 0 ≤ f.slots ∧ f.slots ≤ 65536
  sum : sumF f.blocks ≤ 65536
  en : ∀ b ∈ f.blocks, endF f.blocks.length f.regs b = true
  co : ∀ k, k < f.blocks.length → codF p f.regs f.slots ((predsF f.blocks).getD k []) false (f.blocks.getD k bl0).code = true
structure PgOk (p : Pg) : Prop where
  fn : ∀ n, n < p.funcs.length → FnOk p (p.funcs.getD n fn0)
  main : 0 ≤ p.main ∧ p.main < p.funcs.length
  pm : (p.funcs.getD p.main.toNat fn0).params = 0
  gl : 0 ≤ p.global ∧ p.global ≤ 65536
  data : datF p.global 0 p.data = true
theorem sum_ge : ∀ (l : List Bl) (k : Nat), k < l.length → (l.getD k bl0).code.length ≤ sumF l
  | b :: l, 0, _ => by simp [sumF]
  | b :: l, k + 1, h => by
    have := sum_ge l k (by simpa using h)
    simp [sumF] at this ⊢
    omega
theorem pg_ok {p : Pg} (h : pgF p = true) : PgOk p := by
  unfold pgF mayF at h
  simp only [Bool.and_eq_true, winF, decide_eq_true_eq, List.all_eq_true] at h
  obtain ⟨⟨h1, h2, h3, h4, h5⟩, h6⟩ := h
  have hm : 0 ≤ p.main ∧ p.main < p.funcs.length := by omega
  refine ⟨fun n hn => ?_, hm, ?_, h2, h3⟩
  · have e : p.funcs.getD n fn0 = p.funcs[n] := by simp [List.getD, hn]
    rw [e]
    have hf := h6 _ (List.getElem_mem hn)
    generalize p.funcs[n] = f at *
    unfold fnF sizF at hf
    simp only [Bool.and_eq_true, winF, decide_eq_true_eq] at hf
    obtain ⟨⟨⟨⟨⟨⟨a1, a2⟩, a3⟩, a4⟩, a5⟩, a6⟩, b1, b2, b3⟩ := hf
    refine ⟨a1.1, a3, a4, a5, a2, ?_, ?_⟩
    · unfold endsF at b1
      simpa only [List.all_eq_true] using b1
    · intro k hk
      unfold codesF at b3
      simp only [List.all_eq_true, List.mem_range] at b3
      have := b3 k hk
      unfold blkOK at this
      rw [List.getElem?_eq_getElem hk] at this
      dsimp only at this
      have e2 : f.blocks.getD k bl0 = f.blocks[k] := by simp [List.getD, hk]
      rw [e2]
      exact this
  · unfold pms at h5
    have e : p.funcs.getD p.main.toNat fn0 = p.funcs[p.main.toNat]'(by omega) := by simp [List.getD, show p.main.toNat < p.funcs.length by omega]
    rw [e]
    rw [List.getElem?_eq_getElem (by omega)] at h5
    simpa using h5

/-- Predecessors rise. -/
def Rise (l : List Int) : Prop := l.Pairwise (· < ·)
theorem Rise.sorted {l : List Int} (h : Rise l) : SortedL l := fun a b ha hb hab => List.pairwise_iff_getElem.1 h a b ha hb hab
theorem rise_addP {L : List (List Int)} {b to : Int} (h : ∀ l ∈ L, Rise l ∧ ∀ x ∈ l, x ≤ b) : ∀ l ∈ addP L b to, Rise l ∧ ∀ x ∈ l, x ≤ b := by
  intro l hl
  unfold addP at hl
  split at hl
  · rename_i hto
    split at hl
    · exact h l hl
    · rename_i hn
      rcases List.mem_or_eq_of_mem_set hl with hl | rfl
      · exact h l hl
      · have hlt : to.toNat < L.length := by omega
        have e : L.getD to.toNat [] = L[to.toNat] := by simp [List.getD, hlt]
        rw [e] at hn ⊢
        obtain ⟨r, le⟩ := h _ (List.getElem_mem hlt)
        refine ⟨?_, ?_⟩
        · unfold Rise
          rw [List.pairwise_append]
          refine ⟨r, by simp, fun x hx y hy => ?_⟩
          simp at hy
          subst hy
          have := le x hx
          have : x ≠ y := fun e => hn (e ▸ hx)
          omega
        · intro x hx
          rcases List.mem_append.1 hx with hx | hx
          · exact le x hx
          · simp at hx
            omega
  · exact h l hl
theorem rise_addB : ∀ (tos : List Int) {L : List (List Int)} {b : Int}, (∀ l ∈ L, Rise l ∧ ∀ x ∈ l, x ≤ b) → ∀ l ∈ addB L b tos, Rise l ∧ ∀ x ∈ l, x ≤ b
  | [], L, b, h => h
  | t :: tos, L, b, h => by
    have := rise_addB tos (rise_addP (to := t) h)
    unfold addB at *
    rw [List.foldl_cons]
    exact this
theorem rise_preds (bl : List Bl) : ∀ k, ∀ l ∈ predsN bl k, Rise l ∧ ∀ x ∈ l, x ≤ k
  | 0 => fun l hl => by
    have := List.eq_of_mem_replicate hl
    subst this
    exact ⟨List.Pairwise.nil, by simp⟩
  | k + 1 => fun l hl => by
    rw [predsN] at hl
    obtain ⟨a, b⟩ := rise_addB _ (rise_preds bl k) l hl
    exact ⟨a, fun x hx => by have := b x hx; omega⟩
theorem preds_sorted (bl : List Bl) (k : Nat) : SortedL ((predsF bl).getD k []) := by
  by_cases h : k < (predsF bl).length
  · have e : (predsF bl).getD k [] = (predsF bl)[k] := by simp [List.getD, h]
    rw [e]
    exact (rise_preds bl _ _ (List.getElem_mem h)).1.sorted
  · have e : (predsF bl).getD k [] = [] := by simp [List.getD, h]
    rw [e]
    intro a b ha
    simp at ha

/-- Code that fits: each instruction does, and OpPhis stand first. -/
theorem cod_fit {p : Pg} {regs slots : Int} {preds : List Int} : ∀ (l : List In) (o : Bool), codF p regs slots preds o l = true → ∀ k, k < l.length → fitF p regs slots preds (l.getD k in0) = true ∧ ((o = true ∨ phN l ≤ k) → (l.getD k in0).op ≠ 12)
  | x :: l, o, h, 0, _ => by
    unfold codF at h
    split at h
    · rename_i h12
      simp only [Bool.and_eq_true, Bool.not_eq_true'] at h
      refine ⟨by simpa using h.2.1, fun hp => ?_⟩
      rcases hp with hp | hp
      · rw [h.1] at hp; cases hp
      · unfold phN at hp
        rw [if_pos h12] at hp
        omega
    · simp only [Bool.and_eq_true] at h
      exact ⟨by simpa using h.1, fun _ => by simpa⟩
  | x :: l, o, h, k + 1, hk => by
    have hk' : k < l.length := by simpa using hk
    unfold codF at h
    have e : (x :: l).getD (k + 1) in0 = l.getD k in0 := by simp [List.getD]
    rw [e]
    split at h
    · rename_i h12
      simp only [Bool.and_eq_true, Bool.not_eq_true'] at h
      obtain ⟨h1, h2⟩ := cod_fit l o h.2.2 k hk'
      refine ⟨h1, fun hp => h2 ?_⟩
      rcases hp with hp | hp
      · exact .inl hp
      · right
        unfold phN at hp
        rw [if_pos h12] at hp
        omega
    · simp only [Bool.and_eq_true] at h
      obtain ⟨h1, h2⟩ := cod_fit l true h.2 k hk'
      exact ⟨h1, fun _ => h2 (.inl rfl)⟩
end Go.Proofs.Ytiehlkhpblldaaa

namespace Go.Proofs.Ytiehlkhpblldaaa
open Go.RowKit Go.Maps

/-- A call stands where it may. -/
structure AtOk (C : Cst) (c : Cl) : Prop where
  bk : c.bk < (fnOf C c.fn).blocks.length
  lo : phN (blOf C c.fn c.bk).code ≤ c.nx
  hi : c.nx ≤ (blOf C c.fn c.bk).code.length
def slOf (C : Cst) (c : Cl) : Int := (fnOf C c.fn).slots
structure Core (C : Cst) (s : St) : Prop where
  bl : s.banks.length = C.p.funcs.length
  bk : ∀ i l, s.banks[i]? = some (some l) → (l.length : Int) = (fnOf C i).regs ∧ RegsOk l
  hid : HidOk s
  was : ∀ e ∈ s.hidden, 0 ≤ e.was.v ∧ e.was.v < 4294967296
  cs : ∀ c ∈ s.calls, c.fn < C.p.funcs.length ∧ (∃ l, s.banks[c.fn]? = some (some l)) ∧ c.hd ≤ s.hidden.length
  pos : ∀ c ∈ s.calls.dropLast, AtOk C c ∧ 0 < c.nx
  hd : s.calls.Pairwise (fun a b => a.hd ≤ b.hd)
  mem : MemOk s
  low : s.low = 8388608 - (s.calls.map (slOf C)).sum
theorem Core.congr {C : Cst} {s s' : St} (h : Core C s) (e : (s'.banks, s'.hidden, s'.calls, s'.low, s'.sk, s'.gl) = (s.banks, s.hidden, s.calls, s.low, s.sk, s.gl)) : Core C s' := by
  simp only [Prod.mk.injEq] at e
  obtain ⟨e1, e2, e3, e4, e5, e6⟩ := e
  obtain ⟨a1, a2, a3, a4, a5, a6, a7, a8, a9⟩ := h
  refine ⟨by rw [e1]; exact a1, by rw [e1]; exact a2, ?_, by rw [e2]; exact a4, by rw [e1, e2, e3]; exact a5, by rw [e3]; exact a6, by rw [e3]; exact a7, ?_, by rw [e3, e4]; exact a9⟩
  · unfold HidOk at *
    rw [e1, e2]
    exact a3
  · obtain ⟨b1, b2, b3, b4, b5, b6⟩ := a8
    exact ⟨by rw [e4]; exact b1, by rw [e5]; exact b2, by rw [e4, e5]; exact b3, by rw [e6]; exact b4, by rw [e5]; exact b5, by rw [e6]; exact b6⟩
theorem regs_set {l : List Rg} (h : RegsOk l) (i : Nat) {y : Rg} (hy : 0 ≤ y.v ∧ y.v < 4294967296) : RegsOk (l.set i y) := by
  intro k hk
  rw [List.getElem_set]
  split
  · exact hy
  · exact h k (by simpa using hk)
theorem set_look {bs : List (Option (List Rg))} {fn : Nat} {l m : List Rg} (h : bs[fn]? = some (some l)) (hm : m.length = l.length) {k : Nat} {q : List Rg} (hk : bs[k]? = some (some q)) : ∃ q', (bs.set fn (some m))[k]? = some (some q') ∧ q'.length = q.length := by
  by_cases e : k = fn
  · subst e
    rw [h] at hk
    injection hk with hk
    injection hk with hk
    subst hk
    refine ⟨m, ?_, hm⟩
    rw [List.getElem?_set_self (by obtain ⟨hlt, _⟩ := List.getElem?_eq_some_iff.1 h; exact hlt)]
  · exact ⟨q, by rw [List.getElem?_set_ne (by omega)]; exact hk, rfl⟩
/-- A bank's register turns. -/
theorem Core.bankTurn {C : Cst} {s : St} (h : Core C s) {fn : Nat} {l : List Rg} (hb : s.banks[fn]? = some (some l)) (i : Nat) {y : Rg} (hy : 0 ≤ y.v ∧ y.v < 4294967296) : Core C { s with banks := s.banks.set fn (some (l.set i y)) } := by
  obtain ⟨a1, a2, a3, a4, a5, a6, a7, a8, a9⟩ := h
  refine ⟨by simpa using a1, ?_, ?_, a4, ?_, a6, a7, ⟨a8.l1, a8.l2, a8.l3, a8.g, a8.kb, a8.gb⟩, a9⟩
  · intro k q hk
    rcases set_some hb hk with ⟨rfl, rfl⟩ | ⟨_, hk⟩
    · have := a2 _ _ hb
      exact ⟨by rw [List.length_set]; exact this.1, regs_set this.2 i hy⟩
    · exact a2 k q hk
  · intro e he
    obtain ⟨q, hq, hi⟩ := a3 e he
    obtain ⟨q', hq', hl⟩ := set_look (m := l.set i y) hb (by simp) hq
    exact ⟨q', hq', by omega⟩
  · intro c hc
    obtain ⟨b1, ⟨q, hq⟩, b3⟩ := a5 c hc
    obtain ⟨q', hq', _⟩ := set_look (m := l.set i y) hb (by simp) hq
    exact ⟨b1, ⟨q', hq'⟩, b3⟩
theorem Core.hide {C : Cst} {s : St} (h : Core C s) {fn i : Nat} {l : List Rg} (hb : s.banks[fn]? = some (some l)) (hi : i < l.length) : Core C { s with hidden := s.hidden ++ [⟨fn, i, l.getD i ⟨0, 0⟩⟩] } := by
  obtain ⟨a1, a2, a3, a4, a5, a6, a7, a8, a9⟩ := h
  have e : l.getD i ⟨0, 0⟩ = l[i] := by simp [List.getD, hi]
  refine ⟨a1, a2, ?_, ?_, ?_, a6, a7, ⟨a8.l1, a8.l2, a8.l3, a8.g, a8.kb, a8.gb⟩, a9⟩
  · intro q hq
    rcases List.mem_append.1 hq with hq | hq
    · exact a3 q hq
    · simp at hq
      subst hq
      exact ⟨l, hb, hi⟩
  · intro q hq
    rcases List.mem_append.1 hq with hq | hq
    · exact a4 q hq
    · simp only [List.mem_singleton] at hq
      subst hq
      dsimp only
      rw [e]
      exact (a2 _ _ hb).2 i hi
  · intro c hc
    obtain ⟨b1, b2, b3⟩ := a5 c hc
    exact ⟨b1, b2, by simp; omega⟩
/-- A register is set. -/
theorem Core.set_ {C : Cst} {s : St} {c : Cl} (h : Core C s) {i : Nat} {l : List Rg} (hb : s.banks[c.fn]? = some (some l)) (hi : i < l.length) {v : Int} (hv : 0 ≤ v ∧ v < 4294967296) : Core C (setS s c l i v) := by
  unfold setS
  by_cases g : (l.getD i ⟨0, 0⟩).o = c.no
  · rw [if_pos g]
    exact h.bankTurn hb i hv
  · rw [if_neg g]
    exact Core.bankTurn (s := { s with hidden := s.hidden ++ [⟨c.fn, i, l.getD i ⟨0, 0⟩⟩] }) (h.hide hb hi) hb i hv
theorem setS_bank {s : St} {c : Cl} {i : Nat} {l : List Rg} (hb : s.banks[c.fn]? = some (some l)) (v : Int) : (setS s c l i v).banks[c.fn]? = some (some (l.set i ⟨v, c.no⟩)) := by
  unfold setS
  dsimp only
  rw [List.getElem?_set_self (by obtain ⟨hlt, _⟩ := List.getElem?_eq_some_iff.1 hb; exact hlt)]
theorem setS_hid (s : St) (c : Cl) (l : List Rg) (i : Nat) (v : Int) : (setS s c l i v).hidden.length ≤ s.hidden.length + 1 := by
  unfold setS
  dsimp only
  split
  · omega
  · simp
theorem Core.sets_ {C : Cst} {c : Cl} : ∀ (q : List (Nat × Int)) {s : St} {l : List Rg}, Core C s → s.banks[c.fn]? = some (some l) → (∀ y ∈ q, y.1 < l.length ∧ 0 ≤ y.2 ∧ y.2 < 4294967296) → Core C (setsF c s l q).1 ∧ (setsF c s l q).1.banks[c.fn]? = some (some (setsF c s l q).2)
  | [], s, l, h, hb, _ => ⟨h, hb⟩
  | y :: q, s, l, h, hb, hq => by
    have h1 := hq y (by simp)
    exact Core.sets_ q (s := setS s c l y.1 y.2) (l := l.set y.1 ⟨y.2, c.no⟩) (h.set_ hb h1.1 h1.2) (setS_bank hb y.2) (fun z hz => by rw [List.length_set]; exact hq z (by simp [hz]))
/-- What the sets leave alone. -/
def Rest (s s' : St) : Prop := s'.out = s.out ∧ s'.fuel = s.fuel ∧ s'.times = s.times ∧ s'.kind = s.kind ∧ s'.begun = s.begun ∧ s'.used = s.used ∧ s'.calls = s.calls
theorem setS_rest (s : St) (c : Cl) (l : List Rg) (i : Nat) (v : Int) : Rest s (setS s c l i v) := ⟨rfl, rfl, rfl, rfl, rfl, rfl, rfl⟩
theorem Rest.trans {a b c : St} (h : Rest a b) (k : Rest b c) : Rest a c := by
  obtain ⟨h1, h2, h3, h4, h5, h6, h7⟩ := h
  obtain ⟨k1, k2, k3, k4, k5, k6, k7⟩ := k
  exact ⟨k1.trans h1, k2.trans h2, k3.trans h3, k4.trans h4, k5.trans h5, k6.trans h6, k7.trans h7⟩
theorem setsF_rest (c : Cl) : ∀ (q : List (Nat × Int)) (s : St) (l : List Rg), Rest s (setsF c s l q).1
  | [], s, l => ⟨rfl, rfl, rfl, rfl, rfl, rfl, rfl⟩
  | y :: q, s, l => (setS_rest s c l y.1 y.2).trans (setsF_rest c q (setS s c l y.1 y.2) (l.set y.1 ⟨y.2, c.no⟩))
theorem last_split {α : Type} {l : List α} {c : α} (h : l.getLast? = some c) : ∃ m, l = m ++ [c] ∧ l.dropLast = m := by
  cases l with
  | nil => cases h
  | cons a l =>
    refine ⟨(a :: l).dropLast, ?_, rfl⟩
    have := List.dropLast_concat_getLast (l := a :: l) (by simp)
    rw [List.getLast?_eq_some_getLast (by simp)] at h
    injection h with h
    rw [h] at this
    exact this.symm
/-- The innermost call turns. -/
theorem Core.top_ {C : Cst} {s : St} {c c' : Cl} (h : Core C s) (hl : s.calls.getLast? = some c) (hf : c'.fn = c.fn) (hh : c'.hd = c.hd) : Core C (topS s c') := by
  obtain ⟨m, e, em⟩ := last_split hl
  obtain ⟨a1, a2, a3, a4, a5, a6, a7, a8, a9⟩ := h
  unfold topS
  rw [em] at *
  refine ⟨a1, a2, a3, a4, ?_, ?_, ?_, ⟨a8.l1, a8.l2, a8.l3, a8.g, a8.kb, a8.gb⟩, ?_⟩
  · intro q hq
    rcases List.mem_append.1 hq with hq | hq
    · exact a5 q (by rw [e]; simp [hq])
    · simp only [List.mem_singleton] at hq
      subst hq
      have := a5 c (by rw [e]; simp)
      rw [hf, hh]
      exact this
  · simpa using a6
  · rw [e, List.pairwise_append] at a7
    dsimp only
    rw [List.pairwise_append]
    refine ⟨a7.1, by simp, fun a ha b hb => ?_⟩
    simp only [List.mem_singleton] at hb
    subst hb
    rw [hh]
    exact a7.2.2 a ha c (by simp)
  · dsimp only
    rw [e] at a9
    rw [a9]
    simp [slOf, hf]
end Go.Proofs.Ytiehlkhpblldaaa

namespace Go.Proofs.Ytiehlkhpblldaaa
open Go.RowKit Go.Maps

structure Num (C : Cst) (j d : Nat) (s : St) : Prop where
  nh : s.hidden.length + 16 * s.fuel.toNat + j ≤ 700000
  nc : s.calls.length + s.fuel.toNat + d ≤ 40000
  nb : 0 ≤ s.begun ∧ s.begun + s.fuel.toNat + d ≤ 40000
  nt : 0 ≤ s.times ∧ s.times + s.fuel.toNat + d ≤ 40000
  no : s.out.length + s.fuel.toNat + d ≤ 40000
  ob : BytesOk s.out
  us : s.used ≤ C.input.size
theorem Num.less {C : Cst} {j d j' d' : Nat} {s : St} (h : Num C j d s) (hj : j' ≤ j) (hd : d' ≤ d) : Num C j' d' s :=
  ⟨by have := h.nh; omega, by have := h.nc; omega, by have := h.nb; omega, by have := h.nt; omega, by have := h.no; omega, h.ob, h.us⟩
theorem Num.of {C : Cst} {j d k : Nat} {s s' : St} (h : Num C (j + k) d s) (e : Rest s s') (hh : s'.hidden.length ≤ s.hidden.length + k) : Num C j d s' := by
  obtain ⟨e1, e2, e3, e4, e5, e6, e7⟩ := e
  obtain ⟨h1, h2, h3, h4, h5, h6, h7⟩ := h
  exact ⟨by rw [e2]; omega, by rw [e2, e7]; omega, by rw [e2, e5]; omega, by rw [e2, e3]; omega, by rw [e2, e1]; omega, by rw [e1]; exact h6, by rw [e6]; exact h7⟩
theorem Num.set_ {C : Cst} {j d : Nat} {s : St} (h : Num C (j + 1) d s) (c : Cl) (l : List Rg) (i : Nat) (v : Int) : Num C j d (setS s c l i v) := h.of (setS_rest s c l i v) (setS_hid s c l i v)

/-- What fits has. -/
structure FitR (regs : Int) (sh : Sh) (x : In) : Prop where
  has : sh.dst ≠ 0
  no : x.dst = -1 → sh.dst ≠ 2
  yes : x.dst ≠ -1 → sh.dst ≠ 1 ∧ 0 ≤ x.dst ∧ x.dst < regs
  n : (x.args.length : Int) = sh.args
  a : ∀ a ∈ x.args, 0 ≤ a ∧ a < regs
  imm : sh.low ≤ x.imm ∧ x.imm ≤ sh.high
  alu : aluF x.alu sh.alu = true
  wide : wideF x.wide sh.wide = true
  pred : x.pred = sh.pred
theorem fit_is {p : Pg} {regs slots : Int} {preds : List Int} {x : In} (h : fitF p regs slots preds x = true) : FitR regs (shF p slots preds x.op x.imm) x := by
  unfold fitF fitS at h
  generalize shF p slots preds x.op x.imm = sh at *
  simp only [Bool.and_eq_true, decide_eq_true_eq, winF, allF, eqL] at h
  obtain ⟨h1, h2, h3, h4, h5, h6, h7, h8⟩ := h
  refine ⟨h1, ?_, ?_, h3, h4, h5, h6, h7, h8⟩
  · intro e
    unfold dstF at h2
    rw [if_pos e] at h2
    simpa using h2
  · intro e
    unfold dstF winF at h2
    rw [if_neg e] at h2
    simp at h2
    exact ⟨h2.1, h2.2.1, by omega⟩
theorem FitR.dst2 {regs : Int} {sh : Sh} {x : In} (h : FitR regs sh x) (h2 : sh.dst = 2) : 0 ≤ x.dst ∧ x.dst < regs := by
  by_cases e : x.dst = -1
  · exact absurd h2 (h.no e)
  · exact (h.yes e).2
theorem FitR.arg {regs : Int} {sh : Sh} {x : In} (h : FitR regs sh x) {k : Nat} (hk : k < x.args.length) : 0 ≤ x.args.getD k 0 ∧ x.args.getD k 0 < regs := by
  have e : x.args.getD k 0 = x.args[k] := by simp [List.getD, hk]
  rw [e]
  exact h.a _ (List.getElem_mem hk)

/-- The code of a block that may be. -/
theorem code_ok {C : Cst} (P : PgOk C.p) {fn bk : Nat} (hf : fn < C.p.funcs.length) (hb : bk < (fnOf C fn).blocks.length) : codF C.p (fnOf C fn).regs (fnOf C fn).slots ((predsF (fnOf C fn).blocks).getD bk []) false (blOf C fn bk).code = true := (P.fn fn hf).co bk hb
theorem code_len {C : Cst} (P : PgOk C.p) {fn bk : Nat} (hf : fn < C.p.funcs.length) (hb : bk < (fnOf C fn).blocks.length) : (blOf C fn bk).code.length ≤ 65536 := Nat.le_trans (sum_ge _ bk hb) (P.fn fn hf).sum
/-- An OpPhi of it. -/
theorem phi_ok {C : Cst} (P : PgOk C.p) {fn bk : Nat} (hf : fn < C.p.funcs.length) (hb : bk < (fnOf C fn).blocks.length) {l : List Rg} (hl : (l.length : Int) = (fnOf C fn).regs) {i : Nat} (hi : i < phN (blOf C fn bk).code) :
    PhiOk l (blOf C fn bk).code ((blOf C fn bk).code.getD i in0) ∧ SortedL ((blOf C fn bk).code.getD 0 in0).pred := by
  have hle := phN_le (blOf C fn bk).code
  have hc := code_ok P hf hb
  have key : ∀ k, k < phN (blOf C fn bk).code → FitR (fnOf C fn).regs ⟨2, (((predsF (fnOf C fn).blocks).getD bk []).length : Nat), 0, 0, false, false, (predsF (fnOf C fn).blocks).getD bk []⟩ ((blOf C fn bk).code.getD k in0) := fun k hk => by
    have h1 := fit_is (cod_fit _ _ hc k (by omega)).1
    have h2 := phN_yes (blOf C fn bk).code k (by omega) hk
    have e : (blOf C fn bk).code.getD k in0 = (blOf C fn bk).code[k]'(by omega) := by simp [List.getD, show k < (blOf C fn bk).code.length by omega]
    rw [← e] at h2
    unfold shF at h1
    rw [h2] at h1
    exact h1
  have k0 := key 0 (by omega)
  have ki := key i hi
  have e0 : ((blOf C fn bk).code.getD 0 in0).pred = (predsF (fnOf C fn).blocks).getD bk [] := k0.pred
  refine ⟨⟨?_, ?_, ?_⟩, ?_⟩
  · have := ki.dst2 rfl
    omega
  · rw [e0]
    have := ki.n
    dsimp only at this
    omega
  · intro k hk
    have := ki.arg hk
    omega
  · rw [e0]
    exact preds_sorted _ _
theorem getR_ok {l : List Rg} (h : RegsOk l) (i : Nat) (no : Int) : 0 ≤ getR l i no ∧ getR l i no < 4294967296 := by
  by_cases hi : i < l.length
  · exact h.get hi no
  · unfold getR
    have e : l.getD i ⟨0, 0⟩ = ⟨0, 0⟩ := by simp [List.getD, hi]
    rw [e]
    dsimp only
    split <;> omega

section
variable {C : Cst} {s : St} {c : Cl} {l : List Rg}
/-- The moves of a block's OpPhis. -/
def phP (l : List Rg) (no : Int) (code : List In) (from_ : Int) : List (Nat × Int) := (List.range (phN code)).map (fun i => ((code.getD i in0).dst.toNat, (chF l no code from_ (phN code)).getD i 0))
theorem arrF_is (s : St) (c : Cl) (l : List Rg) (code : List In) (bk : Nat) (f : Int) : arrF s c l code bk f = if phN code = 0 then (topS s (arrS s c bk code), l) else if s.fuel < phN code then ({ topS s (arrS s c bk code) with kind := 3 }, l) else setsF (arrS s c bk code) { topS s (arrS s c bk code) with fuel := s.fuel - phN code, ch := chF l c.no code f (phN code) } l (phP l c.no code f) := by
  unfold arrF
  dsimp only
  by_cases h0 : phN code = 0
  · rw [if_pos h0, if_pos h0]
  · rw [if_neg h0, if_neg h0]
    have e : (topS s (arrS s c bk code)).fuel = s.fuel := rfl
    rw [e]
    unfold spendF
    rw [e]
    by_cases h1 : s.fuel < phN code
    · rw [if_pos h1, if_pos h1, if_pos h1]
    · rw [if_neg h1, if_neg h1, if_neg h1]
      rfl
theorem phP_ok (hR : RegsOk l) (P : PgOk C.p) {fn bk : Nat} (hf : fn < C.p.funcs.length) (hb : bk < (fnOf C fn).blocks.length) (hl : (l.length : Int) = (fnOf C fn).regs) (no f : Int) : ∀ y ∈ phP l no (blOf C fn bk).code f, y.1 < l.length ∧ 0 ≤ y.2 ∧ y.2 < 4294967296 := by
  intro y hy
  obtain ⟨i, hi, rfl⟩ := List.mem_map.1 hy
  have hi' := List.mem_range.1 hi
  have hp := (phi_ok P hf hb hl hi').1
  dsimp only
  refine ⟨by have := hp.d; omega, ?_⟩
  have hlen := chF_len l no (blOf C fn bk).code f (phN (blOf C fn bk).code)
  have e : (chF l no (blOf C fn bk).code f (phN (blOf C fn bk).code)).getD i 0 = if fndF ((blOf C fn bk).code.getD 0 in0).pred f then getR l (((blOf C fn bk).code.getD i in0).args.getD (posF ((blOf C fn bk).code.getD 0 in0).pred f) 0).toNat no else 0 := by
    unfold chF
    simp [hi']
  rw [e]
  split
  · exact getR_ok hR _ _
  · omega
/-- A block is come to. -/
theorem Core.arr_ (h : Core C s) (P : PgOk C.p) (hl : s.calls.getLast? = some c) (hb : s.banks[c.fn]? = some (some l)) {bk : Nat} (hbk : bk < (fnOf C c.fn).blocks.length) (f : Int) :
    Core C (arrF s c l (blOf C c.fn bk).code bk f).1 ∧ (arrF s c l (blOf C c.fn bk).code bk f).1.calls.getLast? = some (arrS s c bk (blOf C c.fn bk).code) ∧ AtOk C (arrS s c bk (blOf C c.fn bk).code) := by
  have hm : c ∈ s.calls := by
    obtain ⟨m, e, _⟩ := last_split hl
    rw [e]
    simp
  have hf := (h.cs c hm).1
  have hbk2 := h.bk _ _ hb
  have ht : Core C (topS s (arrS s c bk (blOf C c.fn bk).code)) := h.top_ hl rfl rfl
  have hlast : ∀ q : Cl, (topS s q).calls.getLast? = some q := fun q => by simp [topS]
  have hat : AtOk C (arrS s c bk (blOf C c.fn bk).code) := ⟨hbk, Nat.le_refl _, phN_le _⟩
  refine ⟨?_, ?_, hat⟩
  · rw [arrF_is]
    split
    · exact ht
    · split
      · exact ht.congr rfl
      · exact (Core.sets_ (C := C) _ (s := { topS s (arrS s c bk (blOf C c.fn bk).code) with fuel := s.fuel - phN (blOf C c.fn bk).code, ch := _ }) (ht.congr rfl) hb (phP_ok hbk2.2 P hf hbk hbk2.1 _ _)).1
  · rw [arrF_is]
    split
    · exact hlast _
    · split
      · exact hlast _
      · rw [(setsF_rest _ _ _ _).2.2.2.2.2.2]
        exact hlast _
theorem Num.top_ {j d : Nat} (h : Num C j d s) (hl : s.calls.getLast? = some c) (q : Cl) : Num C j d (topS s q) := by
  obtain ⟨m, e, em⟩ := last_split hl
  have : (topS s q).calls.length = s.calls.length := by
    unfold topS
    rw [em, e]
    simp
  exact ⟨h.nh, by rw [this]; exact h.nc, h.nb, h.nt, h.no, h.ob, h.us⟩
theorem Num.arr_ {j d : Nat} (h : Num C j d s) (hl : s.calls.getLast? = some c) (code : List In) (bk : Nat) (f : Int) : Num C j d (arrF s c l code bk f).1 := by
  have ht := h.top_ hl (arrS s c bk code)
  rw [arrF_is]
  split
  · exact ht
  · split
    · exact ⟨ht.nh, ht.nc, ht.nb, ht.nt, ht.no, ht.ob, ht.us⟩
    · rename_i h0 h1
      have hn := setsF_len (arrS s c bk code) (phP l c.no code f) { topS s (arrS s c bk code) with fuel := s.fuel - phN code, ch := chF l c.no code f (phN code) } l
      have hp : (phP l c.no code f).length = phN code := by simp [phP]
      rw [hp] at hn
      refine Num.of (k := phN code) (s := { topS s (arrS s c bk code) with fuel := s.fuel - phN code, ch := chF l c.no code f (phN code) }) ?_ (setsF_rest _ _ _ _) hn.2.1
      have hfu : (s.fuel - (phN code : Int)).toNat + phN code = s.fuel.toNat := by omega
      have g2 : (topS s (arrS s c bk code)).calls.length + s.fuel.toNat + d ≤ 40000 := ht.nc
      obtain ⟨g1, _, g3, g4, g5, g6, g7⟩ := h
      refine ⟨?_, ?_, ?_, ?_, ?_, g6, g7⟩
      · show s.hidden.length + 16 * (s.fuel - (phN code : Int)).toNat + (j + phN code) ≤ 700000
        omega
      · show (topS s (arrS s c bk code)).calls.length + (s.fuel - (phN code : Int)).toNat + d ≤ 40000
        omega
      · show 0 ≤ s.begun ∧ s.begun + (s.fuel - (phN code : Int)).toNat + d ≤ 40000
        omega
      · show 0 ≤ s.times ∧ s.times + (s.fuel - (phN code : Int)).toNat + d ≤ 40000
        omega
      · show s.out.length + (s.fuel - (phN code : Int)).toNat + d ≤ 40000
        omega
theorem arrF_keeps (s : St) (c : Cl) (l : List Rg) (code : List In) (bk : Nat) (f : Int) : (arrF s c l code bk f).1.out = s.out ∧ (arrF s c l code bk f).1.used = s.used ∧ (arrF s c l code bk f).1.times = s.times ∧ ((arrF s c l code bk f).1.kind = s.kind ∨ (arrF s c l code bk f).1.kind = 3) ∧ (arrF s c l code bk f).1.fuel ≤ s.fuel := by
  rw [arrF_is]
  split
  · exact ⟨rfl, rfl, rfl, .inl rfl, Int.le_refl _⟩
  · split
    · exact ⟨rfl, rfl, rfl, .inr rfl, Int.le_refl _⟩
    · have q := setsF_rest (arrS s c bk code) (phP l c.no code f) { topS s (arrS s c bk code) with fuel := s.fuel - phN code, ch := chF l c.no code f (phN code) } l
      obtain ⟨q1, q2, q3, q4, q5, q6, q7⟩ := q
      refine ⟨q1, q6, q3, .inl q4, ?_⟩
      rw [q2]
      dsimp only
      omega
end
end Go.Proofs.Ytiehlkhpblldaaa

namespace Go.Proofs.Ytiehlkhpblldaaa
open Go.RowKit Go.Maps

theorem bytes_set {l : List Int} (h : BytesOk l) (o : Nat) {v : Int} (hv : 0 ≤ v ∧ v < 256) : BytesOk (l.set o v) := by
  intro k hk
  rw [List.getElem_set]
  split
  · exact hv
  · exact h k (by simpa using hk)
theorem bytes_put : ∀ (vs : List Int) (l : List Int) (o : Nat), BytesOk l → BytesOk vs → BytesOk (putL l o vs)
  | [], l, o, h, _ => h
  | v :: vs, l, o, h, hv => bytes_put vs (l.set o v) (o + 1) (bytes_set h o (hv 0 (by simp))) (fun k hk => by have := hv (k + 1) (by simp; omega); simpa using this)
theorem bytes_rep (n : Nat) : BytesOk (List.replicate n 0) := fun k hk => by simp
theorem bytes_app {a b : List Int} (ha : BytesOk a) (hb : BytesOk b) : BytesOk (a ++ b) := fun k hk => by
  rw [List.getElem_append]
  split
  · exact ha k _
  · exact hb _ _
section
variable {C : Cst} {s : St} {c : Cl} {l : List Rg}
theorem mem_push (h : MemOk s) {n : Nat} (hn : n ≤ 65536) (hp : pushOk s n = true) : MemOk (pushG s n) ∧ (pushG s n).gl = s.gl := by
  unfold pushOk at hp
  simp only [decide_eq_true_eq] at hp
  obtain ⟨l1, l2, l3, g, kb, gb⟩ := h
  have hr := reachF_len { s with low := s.low - n } (8388608 - (s.low - n)).toNat l2
  have hR : (reachF { s with low := s.low - (n : Int) } (8388608 - (s.low - n)).toNat).sk.length ≤ 524288 ∧ BytesOk (reachF { s with low := s.low - (n : Int) } (8388608 - (s.low - n)).toNat).sk ∧ (reachF { s with low := s.low - (n : Int) } (8388608 - (s.low - n)).toNat).gl = s.gl ∧ (reachF { s with low := s.low - (n : Int) } (8388608 - (s.low - n)).toNat).low = s.low - n := by
    unfold reachF
    split
    · exact ⟨l2, kb, rfl, rfl⟩
    · rename_i hh
      refine ⟨?_, bytes_app (bytes_rep _) kb, rfl, rfl⟩
      dsimp only at hh ⊢
      rw [List.length_append, List.length_replicate]
      omega
  obtain ⟨r1, r2, r3, r4⟩ := hR
  unfold pushG
  dsimp only
  generalize reachF { s with low := s.low - (n : Int) } (8388608 - (s.low - n)).toNat = u at *
  refine ⟨⟨?_, ?_, ?_, ?_, ?_, ?_⟩, r3⟩
  · dsimp only; omega
  · dsimp only; rw [putL_length]; exact r1
  · dsimp only; rw [putL_length]; omega
  · dsimp only; rw [r3]; exact g
  · exact bytes_put _ _ _ r2 (bytes_rep _)
  · dsimp only; rw [r3]; exact gb
theorem pushG_rest (s : St) (n : Nat) : (pushG s n).out = s.out ∧ (pushG s n).fuel = s.fuel ∧ (pushG s n).times = s.times ∧ (pushG s n).kind = s.kind ∧ (pushG s n).used = s.used := by
  unfold pushG reachF
  dsimp only
  split <;> exact ⟨rfl, rfl, rfl, rfl, rfl⟩
theorem bankS_rest (s : St) (fn n : Nat) : Rest s (bankS s fn n) ∧ (bankS s fn n).hidden = s.hidden ∧ (bankS s fn n).low = s.low ∧ (bankS s fn n).sk = s.sk ∧ (bankS s fn n).gl = s.gl := by
  unfold bankS
  split <;> exact ⟨⟨rfl, rfl, rfl, rfl, rfl, rfl, rfl⟩, rfl, rfl, rfl, rfl⟩
/-- A function has its registers. -/
theorem bank_got (s : St) {fn n : Nat} (hf : fn < s.banks.length) : (bankS s fn n).banks[fn]? = some (some (bankL s fn n)) ∧ (bankS s fn n).banks.length = s.banks.length ∧ (∀ (k : Nat) (q : List Rg), s.banks[k]? = some (some q) → (bankS s fn n).banks[k]? = some (some q)) ∧ (∀ (k : Nat) (q : List Rg), (bankS s fn n).banks[k]? = some (some q) → s.banks[k]? = some (some q) ∨ (k = fn ∧ q = List.replicate n ⟨0, 0⟩)) := by
  unfold bankS bankL
  have e : s.banks.getD fn none = s.banks[fn] := by simp [List.getD, hf]
  rw [e]
  cases hb : s.banks[fn] with
  | none =>
    rw [if_pos rfl]
    dsimp only
    refine ⟨by rw [List.getElem?_set_self hf]; rfl, by simp, fun k q hk => ?_, fun k q hk => ?_⟩
    · by_cases ek : k = fn
      · subst ek
        rw [List.getElem?_eq_getElem hf, hb] at hk
        cases hk
      · rw [List.getElem?_set_ne (by omega)]; exact hk
    · by_cases ek : k = fn
      · subst ek
        rw [List.getElem?_set_self hf] at hk
        injection hk with hk
        injection hk with hk
        exact .inr ⟨rfl, hk.symm⟩
      · rw [List.getElem?_set_ne (by omega)] at hk; exact .inl hk
  | some lb =>
    rw [if_neg (by simp)]
    exact ⟨by rw [List.getElem?_eq_getElem hf, hb]; rfl, rfl, fun k q hk => hk, fun k q hk => .inl hk⟩
/-- A call has begun. -/
theorem Core.beg_ (h : Core C s) (P : PgOk C.p) {fn : Nat} (hf : fn < C.p.funcs.length) (hp : pushOk s (fnOf C fn).slots = true) (hall : ∀ c ∈ s.calls, AtOk C c ∧ 0 < c.nx) :
    Core C (begS s fn (fnOf C fn).slots.toNat (fnOf C fn).regs.toNat) ∧ (begS s fn (fnOf C fn).slots.toNat (fnOf C fn).regs.toNat).calls.getLast? = some (newC (bankS (pushG s (fnOf C fn).slots.toNat) fn (fnOf C fn).regs.toNat) fn) ∧ (begS s fn (fnOf C fn).slots.toNat (fnOf C fn).regs.toNat).banks[fn]? = some (some (bankL (pushG s (fnOf C fn).slots.toNat) fn (fnOf C fn).regs.toNat)) := by
  have hF := P.fn fn hf
  have hsl := hF.sl
  have hrg := hF.rg
  have hpa := hF.pa
  have eF : C.p.funcs.getD fn fn0 = fnOf C fn := rfl
  rw [eF] at hsl hrg hpa
  obtain ⟨n, hn⟩ : ∃ n : Nat, (fnOf C fn).slots = n := ⟨(fnOf C fn).slots.toNat, by omega⟩
  obtain ⟨g, hg⟩ : ∃ g : Nat, (fnOf C fn).regs = g := ⟨(fnOf C fn).regs.toNat, by omega⟩
  have hlow := h.low
  obtain ⟨a1, a2, a3, a4, a5, a6, a7, a8, a9⟩ := h
  rw [hn] at hp
  have hm := mem_push a8 (by omega) hp
  have hs := pushG_same s n
  rw [hn, hg]
  simp only [Int.toNat_natCast]
  have hbk := bank_got (pushG s n) (fn := fn) (n := g) (by rw [hs.1, a1]; exact hf)
  have hbr := bankS_rest (pushG s n) fn g
  obtain ⟨b1, b2, b3, b4⟩ := hbk
  obtain ⟨r1, r2, r3, r4, r5⟩ := hbr
  rw [hs.1] at b2 b3 b4
  obtain ⟨s1, s2, s3, s4, s5⟩ := hs
  have ec : (bankS (pushG s n) fn g).calls = s.calls := r1.2.2.2.2.2.2.trans s3
  have eh : (bankS (pushG s n) fn g).hidden = s.hidden := r2.trans s2
  refine ⟨⟨?_, ?_, ?_, ?_, ?_, ?_, ?_, ?_, ?_⟩, ?_, b1⟩
  · exact b2.trans a1
  · intro k q hk
    rcases b4 k q hk with hk | ⟨rfl, rfl⟩
    · exact a2 k q hk
    · refine ⟨by rw [List.length_replicate, hg], fun i hi => ?_⟩
      simp
  · intro e he
    have he' : e ∈ s.hidden := by rw [← eh]; exact he
    obtain ⟨q, hq, hi⟩ := a3 e he'
    exact ⟨q, b3 _ _ hq, hi⟩
  · intro e he
    have he' : e ∈ s.hidden := by rw [← eh]; exact he
    exact a4 e he'
  · intro c hc
    have hc' : c ∈ (bankS (pushG s n) fn g).calls ++ [newC (bankS (pushG s n) fn g) fn] := hc
    rw [ec] at hc'
    show _ ∧ _ ∧ c.hd ≤ (bankS (pushG s n) fn g).hidden.length
    rcases List.mem_append.1 hc' with hc' | hc'
    · obtain ⟨x1, ⟨q, hq⟩, x3⟩ := a5 c hc'
      exact ⟨x1, ⟨q, b3 _ _ hq⟩, by rw [eh]; exact x3⟩
    · simp only [List.mem_singleton] at hc'
      subst hc'
      exact ⟨hf, ⟨_, b1⟩, Nat.le_refl _⟩
  · intro c hc
    have hc' : c ∈ ((bankS (pushG s n) fn g).calls ++ [newC (bankS (pushG s n) fn g) fn]).dropLast := hc
    rw [List.dropLast_concat, ec] at hc'
    exact hall c hc'
  · show ((bankS (pushG s n) fn g).calls ++ [newC (bankS (pushG s n) fn g) fn]).Pairwise _
    rw [ec, List.pairwise_append]
    refine ⟨a7, by simp, fun a ha b hb => ?_⟩
    simp only [List.mem_singleton] at hb
    subst hb
    show a.hd ≤ (bankS (pushG s n) fn g).hidden.length
    rw [eh]
    exact (a5 a ha).2.2
  · obtain ⟨m1, m2, m3, m4, m5, m6⟩ := hm.1
    exact ⟨by show _ ≤ (bankS (pushG s n) fn g).low ∧ (bankS (pushG s n) fn g).low ≤ _; rw [r3]; exact m1, by show (bankS (pushG s n) fn g).sk.length ≤ _; rw [r4]; exact m2, by show 8388608 - (bankS (pushG s n) fn g).low ≤ ((bankS (pushG s n) fn g).sk.length : Int); rw [r3, r4]; exact m3, by show (bankS (pushG s n) fn g).gl.length ≤ _; rw [r5]; exact m4, by show BytesOk (bankS (pushG s n) fn g).sk; rw [r4]; exact m5, by show BytesOk (bankS (pushG s n) fn g).gl; rw [r5]; exact m6⟩
  · show (bankS (pushG s n) fn g).low = 8388608 - (((bankS (pushG s n) fn g).calls ++ [newC (bankS (pushG s n) fn g) fn]).map (slOf C)).sum
    rw [r3, s5, a9, ec, List.map_append, List.sum_append]
    simp [slOf, newC, hn]
    omega
  · show ((bankS (pushG s n) fn g).calls ++ [newC (bankS (pushG s n) fn g) fn]).getLast? = _
    simp
theorem begS_keeps (s : St) (fn n g : Nat) : (begS s fn n g).out = s.out ∧ (begS s fn n g).fuel = s.fuel ∧ (begS s fn n g).times = s.times ∧ (begS s fn n g).kind = s.kind ∧ (begS s fn n g).begun = s.begun + 1 ∧ (begS s fn n g).used = s.used ∧ (begS s fn n g).hidden = s.hidden ∧ (begS s fn n g).calls.length = s.calls.length + 1 := by
  obtain ⟨p1, p2, p3, p4, p5⟩ := pushG_rest s n
  obtain ⟨s1, s2, s3, s4, s5⟩ := pushG_same s n
  obtain ⟨⟨r1, r2, r3, r4, r5, r6, r7⟩, q2, q3, q4, q5⟩ := bankS_rest (pushG s n) fn g
  refine ⟨r1.trans p1, r2.trans p2, r3.trans p3, r4.trans p4, ?_, r6.trans p5, q2.trans s2, ?_⟩
  · show (bankS (pushG s n) fn g).begun + 1 = _
    rw [r5, s4]
  · show ((bankS (pushG s n) fn g).calls ++ [newC (bankS (pushG s n) fn g) fn]).length = _
    rw [r7, s3]
    simp
theorem Num.beg_ {j d : Nat} (h : Num C j (d + 1) s) (fn n g : Nat) : Num C j d (begS s fn n g) := by
  obtain ⟨b1, b2, b3, b4, b5, b6, b7, b8⟩ := begS_keeps s fn n g
  obtain ⟨h1, h2, h3, h4, h5, h6, h7⟩ := h
  exact ⟨by rw [b7, b2]; omega, by rw [b8, b2]; omega, by rw [b5, b2]; omega, by rw [b3, b2]; omega, by rw [b1, b2]; omega, by rw [b1]; exact h6, by rw [b6]; exact h7⟩

/-- What is hidden is shown again. -/
structure Und (C : Cst) (s : St) : Prop where
  bl : s.banks.length = C.p.funcs.length
  bk : ∀ i l, s.banks[i]? = some (some l) → (l.length : Int) = (fnOf C i).regs ∧ RegsOk l
  hid : HidOk s
  was : ∀ e ∈ s.hidden, 0 ≤ e.was.v ∧ e.was.v < 4294967296
  cs : ∀ c ∈ s.calls, c.fn < C.p.funcs.length ∧ (∃ l, s.banks[c.fn]? = some (some l))
theorem Core.und (h : Core C s) : Und C s := ⟨h.bl, h.bk, h.hid, h.was, fun c hc => ⟨(h.cs c hc).1, (h.cs c hc).2.1⟩⟩
theorem Und.one (h : Und C s) : Und C (undo1 s) := by
  have ho := undo1_ok h.hid
  cases hq : s.hidden.getLast? with
  | none =>
    have e : undo1 s = s := by unfold undo1; rw [hq]
    rw [e]
    exact h
  | some e =>
    have hm : e ∈ s.hidden := List.mem_of_getLast? hq
    obtain ⟨q, hb, hi⟩ := h.hid e hm
    have hu := undo1_is hq hb
    obtain ⟨a1, a2, a3, a4, a5⟩ := h
    rw [hu] at ho ⊢
    refine ⟨by simpa using a1, ?_, ho, fun y hy => a4 y (List.mem_of_mem_take hy), ?_⟩
    · intro k m hk
      rcases set_some hb hk with ⟨rfl, rfl⟩ | ⟨_, hk⟩
      · have := a2 _ _ hb
        exact ⟨by rw [List.length_set]; exact this.1, regs_set this.2 _ (a4 e hm)⟩
      · exact a2 k m hk
    · intro y hy
      obtain ⟨b1, q', hq'⟩ := a5 y hy
      obtain ⟨z, hz, _⟩ := set_look (m := q.set e.ix e.was) hb (by simp) hq'
      exact ⟨b1, z, hz⟩
theorem Und.many (h : Und C s) : ∀ n, Und C (undoN n s)
  | 0 => h
  | n + 1 => (Und.many h n).one
theorem undo1_keeps (s : St) : (undo1 s).out = s.out ∧ (undo1 s).fuel = s.fuel ∧ (undo1 s).times = s.times ∧ (undo1 s).kind = s.kind ∧ (undo1 s).begun = s.begun ∧ (undo1 s).used = s.used ∧ (undo1 s).calls = s.calls ∧ (undo1 s).low = s.low ∧ (undo1 s).sk = s.sk ∧ (undo1 s).gl = s.gl := by
  unfold undo1
  split <;> exact ⟨rfl, rfl, rfl, rfl, rfl, rfl, rfl, rfl, rfl, rfl⟩
theorem undoN_keeps (s : St) : ∀ n, (undoN n s).out = s.out ∧ (undoN n s).fuel = s.fuel ∧ (undoN n s).times = s.times ∧ (undoN n s).kind = s.kind ∧ (undoN n s).begun = s.begun ∧ (undoN n s).used = s.used ∧ (undoN n s).calls = s.calls ∧ (undoN n s).low = s.low ∧ (undoN n s).sk = s.sk ∧ (undoN n s).gl = s.gl
  | 0 => ⟨rfl, rfl, rfl, rfl, rfl, rfl, rfl, rfl, rfl, rfl⟩
  | n + 1 => by
    obtain ⟨a1, a2, a3, a4, a5, a6, a7, a8, a9, a10⟩ := undoN_keeps s n
    obtain ⟨b1, b2, b3, b4, b5, b6, b7, b8, b9, b10⟩ := undo1_keeps (undoN n s)
    exact ⟨b1.trans a1, b2.trans a2, b3.trans a3, b4.trans a4, b5.trans a5, b6.trans a6, b7.trans a7, b8.trans a8, b9.trans a9, b10.trans a10⟩
theorem leftS_keeps (s : St) (c : Cl) (n : Int) : (leftS s c n).out = s.out ∧ (leftS s c n).fuel = s.fuel ∧ (leftS s c n).times = s.times ∧ (leftS s c n).kind = s.kind ∧ (leftS s c n).begun = s.begun ∧ (leftS s c n).used = s.used ∧ (leftS s c n).calls = s.calls.take (s.calls.length - 1) ∧ (leftS s c n).low = s.low + n ∧ (leftS s c n).sk = s.sk ∧ (leftS s c n).gl = s.gl ∧ (leftS s c n).hidden.length = s.hidden.length - (s.hidden.length - c.hd) := by
  obtain ⟨a1, a2, a3, a4, a5, a6, a7, a8, a9, a10⟩ := undoN_keeps s (s.hidden.length - c.hd)
  have hh := (undoN_same s (s.hidden.length - c.hd)).2.1
  unfold leftS popF
  dsimp only
  exact ⟨a1, a2, a3, a4, a5, a6, by rw [a7], by rw [a8], a9, a10, hh⟩
/-- A call has ended. -/
theorem Core.left_ (h : Core C s) (P : PgOk C.p) (hl : s.calls.getLast? = some c) : Core C (leftS s c (fnOf C c.fn).slots) ∧ (leftS s c (fnOf C c.fn).slots).calls = s.calls.dropLast := by
  obtain ⟨m, em, ed⟩ := last_split hl
  have hmem : c ∈ s.calls := by rw [em]; simp
  have hsl := (P.fn c.fn (h.cs c hmem).1).sl
  have eF : C.p.funcs.getD c.fn fn0 = fnOf C c.fn := rfl
  rw [eF] at hsl
  have hU : Und C (undoN (s.hidden.length - c.hd) s) := h.und.many _
  obtain ⟨k1, k2, k3, k4, k5, k6, k7, k8, k9, k10, k11⟩ := leftS_keeps s c (fnOf C c.fn).slots
  have hkc := (undoN_keeps s (s.hidden.length - c.hd)).2.2.2.2.2.2.1
  obtain ⟨a1, a2, a3, a4, a5, a6, a7, a8, a9⟩ := h
  have hc := a5 c hmem
  have edl : (leftS s c (fnOf C c.fn).slots).calls = m := by rw [k7, em]; simp
  have hlow : 0 ≤ (m.map (slOf C)).sum := by
    have : ∀ q : List Cl, (∀ y ∈ q, y ∈ s.calls) → 0 ≤ (q.map (slOf C)).sum := by
      intro q
      induction q with
      | nil => intro _; simp
      | cons y q ih =>
        intro hq
        have := ih (fun z hz => hq z (by simp [hz]))
        have h1 := (P.fn y.fn (a5 y (hq y (by simp))).1).sl
        have e1 : C.p.funcs.getD y.fn fn0 = fnOf C y.fn := rfl
        rw [e1] at h1
        simp only [List.map_cons, List.sum_cons, slOf]
        omega
    exact this m (fun y hy => by rw [em]; simp [hy])
  have hlw : (leftS s c (fnOf C c.fn).slots).low = 8388608 - (m.map (slOf C)).sum := by
    rw [k8, a9, em]
    simp only [List.map_append, List.sum_append, List.map_cons, List.map_nil, List.sum_cons, List.sum_nil, slOf]
    omega
  refine ⟨⟨hU.bl, hU.bk, hU.hid, hU.was, ?_, ?_, ?_, ?_, ?_⟩, by rw [edl, ed]⟩
  · intro y hy
    rw [edl] at hy
    have hy2 : y ∈ s.calls := by rw [em]; simp [hy]
    obtain ⟨x1, x2⟩ := hU.cs y (by rw [hkc]; exact hy2)
    refine ⟨x1, x2, ?_⟩
    rw [k11]
    rw [em, List.pairwise_append] at a7
    have := a7.2.2 y hy c (by simp)
    have := hc.2.2
    omega
  · intro y hy
    rw [edl] at hy
    rw [ed] at a6
    exact a6 y ((List.dropLast_sublist _).subset hy)
  · rw [edl]
    rw [em, List.pairwise_append] at a7
    exact a7.1
  · obtain ⟨m1, m2, m3, m4, m5, m6⟩ := a8
    exact ⟨by omega, by rw [k9]; exact m2, by rw [k9]; omega, by rw [k10]; exact m4, by rw [k9]; exact m5, by rw [k10]; exact m6⟩
  · rw [edl]
    exact hlw
theorem Num.left_ {j d : Nat} (h : Num C j d s) (n : Int) : Num C j d (leftS s c n) := by
  obtain ⟨k1, k2, k3, k4, k5, k6, k7, k8, k9, k10, k11⟩ := leftS_keeps s c n
  obtain ⟨h1, h2, h3, h4, h5, h6, h7⟩ := h
  have : (leftS s c n).calls.length ≤ s.calls.length := by rw [k7]; simp
  exact ⟨by rw [k11, k2]; omega, by rw [k2]; omega, by rw [k5, k2]; omega, by rw [k3, k2]; omega, by rw [k1, k2]; omega, by rw [k1]; exact h6, by rw [k6]; exact h7⟩
end
end Go.Proofs.Ytiehlkhpblldaaa

namespace Go.Proofs.Ytiehlkhpblldaaa
open Go.RowKit Go.Maps

theorem bits_u32 (op : BinOp) (x y : Int) : 0 ≤ bits op .u32 x y ∧ bits op .u32 x y < 4294967296 := by
  have := bits_lo_u32 op x y
  have := bits_hi_u32 op x y
  omega
theorem div_u32 (a b : Int) (a0 : 0 ≤ a) (a1 : a < 4294967296) (b0 : 0 < b) : 0 ≤ a / b ∧ a / b < 4294967296 := by
  have h1 := Int.ediv_nonneg a0 (Int.le_of_lt b0)
  have h2 := Int.ediv_le_self b a0
  omega
def U32 (x : Int) : Prop := 0 ≤ x ∧ x < 4294967296
theorem ite_u32 {c : Prop} [Decidable c] {x y : Int} (h : c → U32 x) (g : ¬ c → U32 y) : U32 (if c then x else y) := by
  by_cases hc : c
  · rw [if_pos hc]; exact h hc
  · rw [if_neg hc]; exact g hc
theorem aluV_bound (op a b : Int) (a0 : 0 ≤ a) (a1 : a < 4294967296) (b0 : 0 ≤ b) (b1 : b < 4294967296) : 0 ≤ aluV op a b ∧ aluV op a b < 4294967296 := by
  have h8 := bits_u32 .and a b
  have h9 := bits_u32 .or a b
  have h10 := bits_u32 .xor a b
  have h12 := div_u32 a (2 ^ (b % 32).toNat) a0 a1 (Int.pow_pos (by omega))
  have hm : ∀ x : Int, 0 ≤ x % 4294967296 ∧ x % 4294967296 < 4294967296 := fun x => by omega
  have h7 : ¬ b = 0 → 0 ≤ a % b ∧ a % b < 4294967296 := fun h => by
    have h1 := Int.emod_nonneg a h
    have h2 := Int.emod_lt_of_pos a (show 0 < b by omega)
    omega
  have h5 : ¬ b = 0 → 0 ≤ a / b ∧ a / b < 4294967296 := fun h => div_u32 a b a0 a1 (by omega)
  show U32 (aluV op a b)
  unfold aluV
  repeat' refine ite_u32 (fun _ => ?_) (fun _ => ?_)
  all_goals (show _ ∧ _)
  all_goals first
    | exact hm _
    | assumption
    | exact h7 (by assumption)
    | exact h5 (by assumption)
    | decide
theorem wordK_bound (l : List Int) : ∀ k, 0 ≤ wordK l k ∧ wordK l k < 4294967296
  | 0 => by unfold wordK; omega
  | k + 1 => by unfold wordK; exact bits_u32 _ _ _
theorem layL_bytes (w : Int) (n : Nat) : BytesOk (layL w n) := fun k hk => by
  have e : (layL w n)[k] = w / 2 ^ (8 * k) % 256 := by simp [layL]
  rw [e]
  generalize w / 2 ^ (8 * k) = z
  omega
theorem nextV_bound (C : Cst) (s : St) : 0 ≤ nextV C s ∧ nextV C s < 4294967296 := by
  unfold nextV
  split
  · rename_i h
    have := (C.input[s.used]'h).toNat_lt
    omega
  · omega

/-- What a run of fuel left, a call on top, and all that is kept. -/
structure Good (C : Cst) (s : St) : Prop where
  core : Core C s
  num : Num C 0 0 s
  top : ∃ c, s.calls.getLast? = some c ∧ AtOk C c
/-- What is left behind a part of a step. -/
def Kpt (C : Cst) (s : St) : Prop := Num C 0 0 s ∧ (s.kind = 0 → Good C s)
section
variable {C : Cst} {s : St} {c : Cl} {l : List Rg}
theorem kpt_of (hC : Core C s) (hN : Num C 0 0 s) (hl : s.calls.getLast? = some c) (ha : AtOk C c) : Kpt C s := ⟨hN, fun _ => ⟨hC, hN, c, hl, ha⟩⟩
theorem kpt_trap (hN : Num C 0 0 s) {k : Int} : Kpt C (trapF s k) := ⟨⟨hN.nh, hN.nc, hN.nb, hN.nt, hN.no, hN.ob, hN.us⟩, fun h => by cases h⟩
/-- An instruction's surroundings. -/
structure Mid (C : Cst) (s : St) (c : Cl) (l : List Rg) (i : In) : Prop where
  core : Core C s
  num : Num C 16 1 s
  last : s.calls.getLast? = some c
  at_ : AtOk C c
  nx : 0 < c.nx
  bank : s.banks[c.fn]? = some (some l)
  fit : FitR (fnOf C c.fn).regs (shF C.p (fnOf C c.fn).slots ((predsF (fnOf C c.fn).blocks).getD c.bk []) i.op i.imm) i
  n12 : i.op ≠ 12
theorem Mid.regs {i : In} (M : Mid C s c l i) : (l.length : Int) = (fnOf C c.fn).regs ∧ RegsOk l := M.core.bk _ _ M.bank
theorem kpt_set {i : In} (M : Mid C s c l i) (h2 : (shF C.p (fnOf C c.fn).slots ((predsF (fnOf C c.fn).blocks).getD c.bk []) i.op i.imm).dst = 2) {v : Int} (hv : 0 ≤ v ∧ v < 4294967296) : Kpt C (setS s c l i.dst.toNat v) := by
  have hd := M.fit.dst2 h2
  have hr := M.regs
  exact kpt_of (c := c) (M.core.set_ M.bank (by omega) hv) ((M.num.less (j' := 0 + 1) (d' := 0) (by omega) (by omega)).set_ c l _ _) ((setS_rest s c l _ _).2.2.2.2.2.2.symm ▸ M.last) M.at_
theorem timF_is (C : Cst) (s : St) (c : Cl) (i : In) : ∃ n, timF C s c i = { s with times := n } ∧ s.times ≤ n ∧ n ≤ s.times + 1 := by
  unfold timF
  split
  · exact ⟨s.times + 1, rfl, by omega, Int.le_refl _⟩
  · exact ⟨s.times, rfl, Int.le_refl _, by omega⟩
theorem Mid.tim {i : In} (M : Mid C s c l i) {n : Int} (h1 : s.times ≤ n) (h2 : n ≤ s.times + 1) : Core C { s with times := n } ∧ Num C 1 0 { s with times := n } := by
  obtain ⟨n1, n2, n3, n4, n5, n6, n7⟩ := M.num
  exact ⟨M.core.congr rfl, ⟨by dsimp only; omega, by dsimp only; omega, by dsimp only; omega, by dsimp only; omega, by dsimp only; omega, n6, n7⟩⟩
theorem kpt_reck {i : In} (M : Mid C s c l i) (hop : i.op = 3) : Kpt C (reckF C s c l i) := by
  have hr := M.regs
  have hf := M.fit
  unfold shF at hf
  rw [hop] at hf
  have hd := hf.dst2 rfl
  obtain ⟨n, e, h1, h2⟩ := timF_is C s c i
  obtain ⟨hC, hN⟩ := M.tim h1 h2
  unfold reckF
  rw [e]
  split
  · exact kpt_of (c := c) (hC.set_ M.bank (by omega) (aluV_bound _ _ _ (getR_ok hr.2 _ _).1 (getR_ok hr.2 _ _).2 (getR_ok hr.2 _ _).1 (getR_ok hr.2 _ _).2)) (Num.set_ (j := 0) hN c l _ _) M.last M.at_
  · exact kpt_trap (hN.less (by omega) (by omega))
theorem kpt_acc {i : In} (M : Mid C s c l i) (hop : i.op = 6 ∨ i.op = 7) : Kpt C (accF s c l i) := by
  have hN : Num C 0 0 s := M.num.less (by omega) (by omega)
  unfold accF
  cases h : atF s (adrF l c.no i) i.wide with
  | none => exact kpt_trap hN
  | some q =>
    obtain ⟨st, o⟩ := q
    dsimp only
    by_cases h6 : i.op = 6
    · rw [if_pos h6]
      exact kpt_set M (by unfold shF; rw [h6]; rfl) (wordK_bound _ _)
    · rw [if_neg h6]
      obtain ⟨a1, a2, a3, a4, a5, a6, a7, a8, a9⟩ := M.core
      obtain ⟨m1, m2, m3, m4, m5, m6⟩ := a8
      cases st with
      | true =>
        rw [if_pos rfl]
        exact kpt_of (c := c) ⟨a1, a2, a3, a4, a5, a6, a7, ⟨m1, by dsimp only; rw [putL_length]; exact m2, by dsimp only; rw [putL_length]; exact m3, m4, bytes_put _ _ _ m5 (layL_bytes _ _), m6⟩, a9⟩ ⟨hN.nh, hN.nc, hN.nb, hN.nt, hN.no, hN.ob, hN.us⟩ M.last M.at_
      | false =>
        rw [if_neg (by decide)]
        exact kpt_of (c := c) ⟨a1, a2, a3, a4, a5, a6, a7, ⟨m1, m2, m3, by dsimp only; rw [putL_length]; exact m4, m5, bytes_put _ _ _ m6 (layL_bytes _ _)⟩, a9⟩ ⟨hN.nh, hN.nc, hN.nb, hN.nt, hN.no, hN.ob, hN.us⟩ M.last M.at_
/-- Arguments are laid. -/
theorem args_ok {args : List Int} {m : List Rg} (hn : args.length ≤ m.length) (ha : ∀ a ∈ args, 0 ≤ a ∧ a < 4294967296) : ∀ y ∈ argsP args, y.1 < m.length ∧ 0 ≤ y.2 ∧ y.2 < 4294967296 := by
  intro y hy
  obtain ⟨k, hk, rfl⟩ := List.mem_map.1 hy
  have hk' := List.mem_range.1 hk
  dsimp only
  refine ⟨by omega, ?_⟩
  have e : args.getD k 0 = args[k] := by simp [List.getD, hk']
  rw [e]
  exact ha _ (List.getElem_mem hk')
/-- A call begins, or is trapped. -/
theorem kpt_enter (hC : Core C s) (hN : Num C 12 1 s) (P : PgOk C.p) {fn : Nat} (hf : fn < C.p.funcs.length) (hall : ∀ c ∈ s.calls, AtOk C c ∧ 0 < c.nx) {args : List Int} (hn : (args.length : Int) = (fnOf C fn).params) (ha : ∀ a ∈ args, 0 ≤ a ∧ a < 4294967296) : Kpt C (entF C s fn (fnOf C fn) args) := by
  have hF := P.fn fn hf
  have eF : C.p.funcs.getD fn fn0 = fnOf C fn := rfl
  rw [eF] at hF
  unfold entF
  cases hok : entOk C s (fnOf C fn).slots with
  | false => exact kpt_trap (hN.less (by omega) (by omega))
  | true =>
    rw [if_pos rfl]
    dsimp only
    unfold entOk at hok
    simp only [Bool.and_eq_true, decide_eq_true_eq] at hok
    obtain ⟨c1, c2, c3⟩ := hC.beg_ P hf hok.2 hall
    have n1 := Num.beg_ (d := 0) hN fn (fnOf C fn).slots.toNat (fnOf C fn).regs.toNat
    generalize hb : begS s fn (fnOf C fn).slots.toNat (fnOf C fn).regs.toNat = B at *
    generalize hnc : newC (bankS (pushG s (fnOf C fn).slots.toNat) fn (fnOf C fn).regs.toNat) fn = q at *
    have hq : q.fn = fn := by rw [← hnc]; rfl
    generalize bankL (pushG s (fnOf C fn).slots.toNat) fn (fnOf C fn).regs.toNat = m at *
    have hm := c1.bk _ _ c3
    have hpl : (argsP args).length = args.length := by simp [argsP]
    have hpa := hF.pa
    have hrg := hF.rg
    obtain ⟨d1, d2⟩ := Core.sets_ (c := q) (argsP args) c1 (by rw [hq]; exact c3) (args_ok (by omega) ha)
    have hr := setsF_rest q (argsP args) B m
    have hl := setsF_len q (argsP args) B m
    have n2 : Num C 0 0 (setsF q B m (argsP args)).1 := Num.of (k := 12) n1 hr (by have := hl.2.1; omega)
    have hlast : (setsF q B m (argsP args)).1.calls.getLast? = some q := by rw [hl.2.2.2]; exact c2
    generalize setsF q B m (argsP args) = z at *
    have hb0 : 0 < (fnOf C q.fn).blocks.length := by rw [hq]; exact hF.nb
    have eb : (fnOf C fn).blocks.getD 0 ⟨undef, [], 0, 0, undef, []⟩ = blOf C q.fn 0 := by rw [hq]; rfl
    rw [eb]
    obtain ⟨e1, e2, e3⟩ := d1.arr_ P hlast d2 hb0 (-1)
    exact kpt_of e1 (n2.arr_ hlast _ _ _) e2 e3
theorem kpt_do {i : In} (M : Mid C s c l i) (P : PgOk C.p) : Kpt C (doF C s c l i) := by
  have hr := M.regs
  have hN : Num C 0 0 s := M.num.less (by omega) (by omega)
  have hfit := M.fit
  unfold doF
  by_cases h1 : i.op = 1
  · rw [if_pos h1]; exact kpt_set M (by unfold shF; rw [h1]; rfl) (by omega)
  rw [if_neg h1]
  by_cases h2 : i.op = 2
  · rw [if_pos h2]; exact kpt_set M (by unfold shF; rw [h2]; rfl) (getR_ok hr.2 _ _)
  rw [if_neg h2]
  by_cases h3 : i.op = 3
  · rw [if_pos h3]; exact kpt_reck M h3
  rw [if_neg h3]
  by_cases h4 : i.op = 4
  · rw [if_pos h4]; exact kpt_set M (by unfold shF; rw [h4]; rfl) (by omega)
  rw [if_neg h4]
  by_cases h5 : i.op = 5
  · rw [if_pos h5]; exact kpt_set M (by unfold shF; rw [h5]; rfl) (by omega)
  rw [if_neg h5]
  by_cases h6 : i.op = 6
  · rw [if_pos h6]; exact kpt_acc M (.inl h6)
  rw [if_neg h6]
  by_cases h7 : i.op = 7
  · rw [if_pos h7]; exact kpt_acc M (.inr h7)
  rw [if_neg h7]
  by_cases h8 : i.op = 8
  · rw [if_pos h8]
    unfold chkF2
    split
    · exact kpt_trap hN
    · exact kpt_of M.core hN M.last M.at_
  rw [if_neg h8]
  by_cases h9 : i.op = 9
  · rw [if_pos h9]
    have hf := hfit
    unfold shF at hf
    rw [h9] at hf
    have hf : FitR (fnOf C c.fn).regs (shC C.p i.imm) i := hf
    by_cases hw : winF i.imm 0 ((C.p.funcs.length : Nat) - 1) = true
    · unfold shC at hf
      rw [if_pos hw] at hf
      unfold winF at hw
      simp only [decide_eq_true_eq] at hw
      have hlt : i.imm.toNat < C.p.funcs.length := by omega
      have hn := hf.n
      dsimp only at hn
      rw [List.getElem?_eq_getElem hlt] at hn
      have e : fnOf C i.imm.toNat = C.p.funcs[i.imm.toNat] := by unfold fnOf; simp [List.getD, hlt]
      refine kpt_enter M.core (M.num.less (by omega) (by omega)) P hlt ?_ ?_ ?_
      · obtain ⟨m, em, ed⟩ := last_split M.last
        intro y hy
        rw [em] at hy
        rcases List.mem_append.1 hy with hy | hy
        · exact M.core.pos y (by rw [ed]; exact hy)
        · simp only [List.mem_singleton] at hy
          subst hy
          exact ⟨M.at_, M.nx⟩
      · rw [e]
        simpa [argsOf] using hn
      · intro a ha
        obtain ⟨b, _, rfl⟩ := List.mem_map.1 ha
        exact getR_ok hr.2 _ _
    · unfold shC at hf
      rw [if_neg hw] at hf
      exact absurd rfl hf.has
  rw [if_neg h9]
  by_cases h10 : i.op = 10
  · rw [if_pos h10]
    have hd := hfit.dst2 (by unfold shF; rw [h10]; rfl)
    have key : Core C (nextF C s) ∧ Num C (0 + 1) 0 (nextF C s) ∧ (nextF C s).calls = s.calls ∧ (nextF C s).banks = s.banks := by
      obtain ⟨n1, n2, n3, n4, n5, n6, n7⟩ := M.num
      unfold nextF
      split
      · exact ⟨M.core.congr rfl, ⟨by dsimp only; omega, by dsimp only; omega, by dsimp only; omega, by dsimp only; omega, by dsimp only; omega, n6, by dsimp only; omega⟩, rfl, rfl⟩
      · exact ⟨M.core, M.num.less (by omega) (by omega), rfl, rfl⟩
    obtain ⟨k1, k2, k3, k4⟩ := key
    exact kpt_of (c := c) (k1.set_ (by rw [k4]; exact M.bank) (by omega) (nextV_bound C s)) (k2.set_ c l _ _) (by rw [(setS_rest _ c l _ _).2.2.2.2.2.2, k3]; exact M.last) M.at_
  rw [if_neg h10]
  by_cases h11 : i.op = 11
  · rw [if_pos h11]
    obtain ⟨n1, n2, n3, n4, n5, n6, n7⟩ := M.num
    have hg := getR_ok hr.2 (arg i 0) c.no
    refine kpt_of (c := c) (M.core.congr rfl) ⟨by dsimp only; omega, by dsimp only; omega, by dsimp only; omega, by dsimp only; omega, by dsimp only; rw [List.length_append]; simp; omega, ?_, n7⟩ M.last M.at_
    refine bytes_app n6 (fun k hk => ?_)
    simp at hk
    subst hk
    simp
    omega
  rw [if_neg h11]
  exact kpt_of M.core hN M.last M.at_
theorem toldR_ok (h : RegsOk l) (i no : Int) : 0 ≤ toldR l i no ∧ toldR l i no < 4294967296 := by
  unfold toldR
  split
  · omega
  · exact getR_ok h _ _
/-- The instruction at which a call waits. -/
theorem fit_at (P : PgOk C.p) (hf : c.fn < C.p.funcs.length) (hb : c.bk < (fnOf C c.fn).blocks.length) {k : Nat} (hk : k < (blOf C c.fn c.bk).code.length) : FitR (fnOf C c.fn).regs (shF C.p (fnOf C c.fn).slots ((predsF (fnOf C c.fn).blocks).getD c.bk []) ((blOf C c.fn c.bk).code.getD k in0).op ((blOf C c.fn c.bk).code.getD k in0).imm) ((blOf C c.fn c.bk).code.getD k in0) := fit_is (cod_fit _ _ (code_ok P hf hb) k hk).1
theorem kpt_leave (hC : Core C s) (hN : Num C 1 0 s) (P : PgOk C.p) (hl : s.calls.getLast? = some c) {told : Int} (ht : 0 ≤ told ∧ told < 4294967296) : Kpt C (levF C s c told) := by
  obtain ⟨k1, k2⟩ := hC.left_ P hl
  have n1 := hN.left_ (c := c) (fnOf C c.fn).slots
  unfold levF
  dsimp only
  generalize hq : leftS s c (fnOf C c.fn).slots = q at *
  cases hg : q.calls.getLast? with
  | none =>
    dsimp only
    exact ⟨⟨by have := n1.nh; exact Nat.le_trans (by simp [exitS]) this, n1.nc, n1.nb, n1.nt, n1.no, n1.ob, n1.us⟩, fun h => by cases h⟩
  | some c' =>
    dsimp only
    have hm : c' ∈ q.calls := List.mem_of_getLast? hg
    rw [k2] at hm
    obtain ⟨hat, hnx⟩ := hC.pos c' hm
    obtain ⟨hf, ⟨m, hm2⟩, _⟩ := k1.cs c' (List.mem_of_getLast? hg)
    have er : regsOf q c'.fn = m := by
      unfold regsOf
      simp [List.getD, hm2]
    have hr := k1.bk _ _ hm2
    have hfit := fit_at P hf hat.bk (k := c'.nx - 1) (by have := hat.hi; omega)
    rw [er]
    generalize (blOf C c'.fn c'.bk).code.getD (c'.nx - 1) in0 = i at *
    unfold backF
    split
    · exact kpt_of k1 (n1.less (by omega) (by omega)) hg hat
    · rename_i hd
      have := hfit.yes hd
      exact kpt_of (c := c') (k1.set_ hm2 (by omega) ht) (Num.set_ (j := 0) n1 c' m _ _) (by rw [(setS_rest q c' m _ _).2.2.2.2.2.2]; exact hg) hat
/-- Where a block's end leads to. -/
theorem way_ok (P : PgOk C.p) {fn : Nat} (hf : fn < C.p.funcs.length) {bk : Nat} (hb : bk < (fnOf C fn).blocks.length) (he : (blOf C fn bk).en ≠ 3) (c : Cl) (l : List Rg) : ((blOf C fn bk).en = 1 ∨ (blOf C fn bk).en = 2) ∧ wayF l c (blOf C fn bk) < (fnOf C fn).blocks.length ∧ ((blOf C fn bk).en = 1 → (blOf C fn bk).to.length = 1) ∧ ((blOf C fn bk).en = 2 → (blOf C fn bk).to.length = 2 ∧ 0 ≤ (blOf C fn bk).arg ∧ (blOf C fn bk).arg < (fnOf C fn).regs) ∧ ∀ k, k < (blOf C fn bk).to.length → 0 ≤ (blOf C fn bk).to.getD k 0 := by
  have hm : blOf C fn bk ∈ (fnOf C fn).blocks := by
    have e : blOf C fn bk = (fnOf C fn).blocks[bk] := by unfold blOf; simp [List.getD, hb]
    rw [e]
    exact List.getElem_mem hb
  have h := (P.fn fn hf).en _ hm
  have eF : C.p.funcs.getD fn fn0 = fnOf C fn := rfl
  rw [eF] at h
  generalize blOf C fn bk = b at *
  unfold endF at h
  have key : ∀ k, k < b.to.length → allF b.to (fnOf C fn).blocks.length = true → (b.to.getD k 0).toNat < (fnOf C fn).blocks.length ∧ 0 ≤ b.to.getD k 0 := fun k hk ha => by
    have e : b.to.getD k 0 = b.to[k] := by simp [List.getD, hk]
    unfold allF at ha
    simp only [decide_eq_true_eq] at ha
    have := ha _ (List.getElem_mem hk)
    rw [e]
    omega
  by_cases h1 : b.en = 1
  · rw [if_pos h1] at h
    simp only [Bool.and_eq_true, decide_eq_true_eq] at h
    refine ⟨.inl h1, ?_, fun _ => h.1.2, fun e => by omega, fun k hk => (key k hk h.2).2⟩
    unfold wayF
    rw [if_pos h1]
    exact (key 0 (by omega) h.2).1
  · rw [if_neg h1] at h
    by_cases h2 : b.en = 2
    · rw [if_pos h2] at h
      simp only [Bool.and_eq_true, decide_eq_true_eq, winF] at h
      refine ⟨.inr h2, ?_, fun e => absurd e h1, fun _ => ⟨h.1.2, h.1.1.1, by omega⟩, fun k hk => (key k hk h.2).2⟩
      unfold wayF
      rw [if_neg h1]
      split
      · exact (key 1 (by omega) h.2).1
      · exact (key 0 (by omega) h.2).1
    · rw [if_neg h2, if_neg he] at h
      cases h
theorem kpt_fin (hC : Core C s) (hN : Num C 1 0 s) (P : PgOk C.p) (hl : s.calls.getLast? = some c) (ha : AtOk C c) (hb : s.banks[c.fn]? = some (some l)) : Kpt C (finF C s c l (blOf C c.fn c.bk)) := by
  have hm : c ∈ s.calls := List.mem_of_getLast? hl
  have hf := (hC.cs c hm).1
  unfold finF
  by_cases he : (blOf C c.fn c.bk).en = 3
  · rw [if_pos he]
    exact kpt_leave hC hN P hl (toldR_ok (hC.bk _ _ hb).2 _ _)
  · rw [if_neg he]
    obtain ⟨e1, e2, e3⟩ := hC.arr_ P hl hb (way_ok P hf ha.bk he c l).2.1 c.bk
    exact kpt_of e1 ((hN.less (j' := 0) (d' := 0) (by omega) (by omega)).arr_ hl _ _ _) e2 e3
/-- Fuel is spent. -/
theorem Num.spent (h : Num C 0 0 s) (hf : 1 ≤ s.fuel) : Num C 16 1 { s with fuel := s.fuel - 1 } := by
  obtain ⟨h1, h2, h3, h4, h5, h6, h7⟩ := h
  exact ⟨by dsimp only; omega, by dsimp only; omega, by dsimp only; omega, by dsimp only; omega, by dsimp only; omega, h6, h7⟩
theorem Good.mid (h : Good C s) (P : PgOk C.p) (hf : 1 ≤ s.fuel) (hl : s.calls.getLast? = some c) (ha : AtOk C c) (hb : s.banks[c.fn]? = some (some l)) (hn : c.nx ≠ (blOf C c.fn c.bk).code.length) : Mid C (topS { s with fuel := s.fuel - 1 } (nextC c)) (nextC c) l ((blOf C c.fn c.bk).code.getD c.nx in0) := by
  have hm : c ∈ s.calls := List.mem_of_getLast? hl
  have hfn := (h.core.cs c hm).1
  have hlt : c.nx < (blOf C c.fn c.bk).code.length := by have := ha.hi; omega
  have hc := cod_fit _ _ (code_ok P hfn ha.bk) c.nx hlt
  exact ⟨(h.core.congr (s' := { s with fuel := s.fuel - 1 }) rfl).top_ hl rfl rfl, (h.num.spent hf).top_ hl _, by simp [topS], ⟨ha.bk, by have := ha.lo; show _ ≤ c.nx + 1; exact Nat.le_succ_of_le this, hlt⟩, Nat.succ_pos _, hb, fit_is hc.1, hc.2 (.inr ha.lo)⟩
/-- A step keeps all that is kept. -/
theorem step_kpt (h : Good C s) (P : PgOk C.p) : Kpt C (stepF C s) := by
  obtain ⟨c, hl, ha⟩ := h.top
  have hm : c ∈ s.calls := List.mem_of_getLast? hl
  obtain ⟨hfn, ⟨l, hb⟩, _⟩ := h.core.cs c hm
  have er : regsOf s c.fn = l := by unfold regsOf; simp [List.getD, hb]
  unfold stepF
  by_cases hf : s.fuel < 1
  · rw [if_pos hf]
    have := h.num
    exact ⟨⟨this.nh, this.nc, this.nb, this.nt, this.no, this.ob, this.us⟩, fun h => by cases h⟩
  · rw [if_neg hf, hl]
    dsimp only
    rw [er]
    by_cases hn : c.nx = (blOf C c.fn c.bk).code.length
    · rw [if_pos hn]
      exact kpt_fin (s := { s with fuel := s.fuel - 1 }) (h.core.congr rfl) ((h.num.spent (by omega)).less (by omega) (by omega)) P hl ha hb
    · rw [if_neg hn]
      exact kpt_do (h.mid P (by omega) hl ha hb hn) P
end
end Go.Proofs.Ytiehlkhpblldaaa

namespace Go.Proofs.Ytiehlkhpblldaaa
open Go.RowKit Go.Maps

structure Mono (s s' : St) : Prop where
  fuel : s'.fuel ≤ s.fuel
  used : s.used ≤ s'.used
  out : ∃ m, s'.out = s.out ++ m
theorem Mono.rfl_ (s : St) : Mono s s := ⟨Int.le_refl _, Nat.le_refl _, [], by simp⟩
theorem Mono.of {s s' : St} (h1 : s'.fuel ≤ s.fuel) (h2 : s'.used = s.used) (h3 : s'.out = s.out) : Mono s s' := ⟨h1, by omega, [], by simp [h3]⟩
theorem Mono.trans {a b c : St} (h : Mono a b) (k : Mono b c) : Mono a c := by
  obtain ⟨m, hm⟩ := h.out
  obtain ⟨n, hn⟩ := k.out
  exact ⟨Int.le_trans k.fuel h.fuel, Nat.le_trans h.used k.used, m ++ n, by rw [hn, hm, List.append_assoc]⟩
theorem mono_set (s : St) (c : Cl) (l : List Rg) (i : Nat) (v : Int) : Mono s (setS s c l i v) := .of (Int.le_refl _) rfl rfl
theorem mono_trap (s : St) (k : Int) : Mono s (trapF s k) := .of (Int.le_refl _) rfl rfl
theorem mono_arr (s : St) (c : Cl) (l : List Rg) (code : List In) (bk : Nat) (f : Int) : Mono s (arrF s c l code bk f).1 := by
  obtain ⟨h1, h2, _, _, h5⟩ := arrF_keeps s c l code bk f
  exact .of h5 h2 h1
theorem mono_ent (C : Cst) (s : St) (fn : Nat) (f : Fn) (args : List Int) : Mono s (entF C s fn f args) := by
  unfold entF
  split
  · dsimp only
    refine Mono.trans ?_ (mono_arr _ _ _ _ _ _)
    obtain ⟨b1, b2, _, _, _, b6, _⟩ := begS_keeps s fn f.slots.toNat f.regs.toNat
    obtain ⟨r1, r2, _, _, _, r6, _⟩ := setsF_rest (newC (bankS (pushG s f.slots.toNat) fn f.regs.toNat) fn) (argsP args) (begS s fn f.slots.toNat f.regs.toNat) (bankL (pushG s f.slots.toNat) fn f.regs.toNat)
    exact .of (by rw [r2, b2]; exact Int.le_refl _) (r6.trans b6) (r1.trans b1)
  · exact mono_trap _ _
theorem mono_acc (s : St) (c : Cl) (l : List Rg) (i : In) : Mono s (accF s c l i) := by
  unfold accF
  split
  · exact mono_trap _ _
  · split
    · exact mono_set _ _ _ _ _
    · split
      · exact Mono.of (Int.le_refl _) rfl rfl
      · exact Mono.of (Int.le_refl _) rfl rfl
theorem mono_reck (C : Cst) (s : St) (c : Cl) (l : List Rg) (i : In) : Mono s (reckF C s c l i) := by
  unfold reckF
  obtain ⟨n, e, _, _⟩ := timF_is C s c i
  rw [e]
  split
  · exact Mono.of (Int.le_refl _) rfl rfl
  · exact Mono.of (Int.le_refl _) rfl rfl
theorem mono_next (C : Cst) (s : St) (c : Cl) (l : List Rg) (d : Nat) (v : Int) : Mono s (setS (nextF C s) c l d v) := by
  refine Mono.trans ?_ (mono_set _ _ _ _ _)
  unfold nextF
  split
  · exact ⟨Int.le_refl _, Nat.le_succ _, [], by simp⟩
  · exact .rfl_ _
theorem mono_chk (s : St) (l : List Rg) (no : Int) (a : Nat) (k : Int) : Mono s (chkF2 s l no a k) := by
  unfold chkF2
  split
  · exact mono_trap _ _
  · exact .rfl_ _
theorem mono_if {c : Prop} [Decidable c] {s a b : St} (h : Mono s a) (k : Mono s b) : Mono s (if c then a else b) := by
  by_cases hc : c
  · rw [if_pos hc]; exact h
  · rw [if_neg hc]; exact k
theorem mono_do (C : Cst) (s : St) (c : Cl) (l : List Rg) (i : In) : Mono s (doF C s c l i) := by
  unfold doF
  refine mono_if (mono_set _ _ _ _ _) (mono_if (mono_set _ _ _ _ _) (mono_if (mono_reck _ _ _ _ _) (mono_if (mono_set _ _ _ _ _) (mono_if (mono_set _ _ _ _ _) (mono_if (mono_acc _ _ _ _) (mono_if (mono_acc _ _ _ _) (mono_if (mono_chk _ _ _ _ _) (mono_if (mono_ent _ _ _ _ _) (mono_if (mono_next _ _ _ _ _ _) (mono_if ?_ (.rfl_ _)))))))))))
  exact ⟨Int.le_refl _, Nat.le_refl _, _, rfl⟩
theorem mono_fin (C : Cst) (s : St) (c : Cl) (l : List Rg) (b : Bl) : Mono s (finF C s c l b) := by
  unfold finF
  split
  · unfold levF
    dsimp only
    obtain ⟨k1, k2, _, _, _, k6, _⟩ := leftS_keeps s c (fnOf C c.fn).slots
    have h : Mono s (leftS s c (fnOf C c.fn).slots) := .of (by rw [k2]; exact Int.le_refl _) k6 k1
    split
    · exact h.trans (.of (Int.le_refl _) rfl rfl)
    · refine h.trans ?_
      unfold backF
      split
      · exact .rfl_ _
      · exact mono_set _ _ _ _ _
  · exact mono_arr _ _ _ _ _ _
theorem mono_step (C : Cst) (s : St) : Mono s (stepF C s) ∧ (1 ≤ s.fuel → s.calls ≠ [] → (stepF C s).fuel ≤ s.fuel - 1) ∧ (s.fuel < 1 → (stepF C s).kind = 3) := by
  unfold stepF
  by_cases hf : s.fuel < 1
  · rw [if_pos hf]
    exact ⟨.of (Int.le_refl _) rfl rfl, fun h => by omega, fun _ => rfl⟩
  · rw [if_neg hf]
    cases hl : s.calls.getLast? with
    | none => exact ⟨.rfl_ _, fun _ h => absurd (List.getLast?_eq_none_iff.1 hl) h, fun h => absurd h hf⟩
    | some c =>
      dsimp only
      have key : ∀ S : St, Mono { s with fuel := s.fuel - 1 } S → Mono s S ∧ (1 ≤ s.fuel → s.calls ≠ [] → S.fuel ≤ s.fuel - 1) ∧ (s.fuel < 1 → S.kind = 3) := fun S h => by
        refine ⟨⟨?_, h.used, h.out⟩, fun _ _ => h.fuel, fun h => absurd h hf⟩
        have : S.fuel ≤ s.fuel - 1 := h.fuel
        omega
      split
      · exact key _ (mono_fin _ _ _ _ _)
      · exact key _ (Mono.trans (b := topS { s with fuel := s.fuel - 1 } (nextC c)) (.of (Int.le_refl _) rfl rfl) (mono_do _ _ _ _ _))
end Go.Proofs.Ytiehlkhpblldaaa
