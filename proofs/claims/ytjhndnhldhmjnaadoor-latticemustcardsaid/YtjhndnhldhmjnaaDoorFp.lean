/- The two lattices of words, and the problem. -/
import Derived.Test.YtjhndnhldhmjnaaDoorFx
import Derived.Test.YtjhndnhldhmjnaaDoorCl
import Derived.Test.YtjhndnhldhmjnaaDoorEd
namespace Go.Proofs.YtjhndnhldhmjnaaDoor
open Go.RowKit Go.Maps
set_option linter.unusedVariables false
set_option linter.unusedSimpArgs false
theorem bit_ext {a b : Wd} (h : ∀ i, i < 64 → a.getLsbD i = b.getLsbD i) : a = b := BitVec.eq_of_getLsbD_eq fun i hi => h i hi
theorem bit_of {a b : Wd} (h : a = b) (i : Nat) : a.getLsbD i = b.getLsbD i := by rw [h]
theorem bit_ne {a b : Wd} (h : a ≠ b) : ∃ i, i < 64 ∧ a.getLsbD i ≠ b.getLsbD i := by
  apply Classical.byContradiction
  intro hn
  exact h (bit_ext fun i hi => Classical.byContradiction fun hc => hn ⟨i, hi, hc⟩)
/-- Sets joined by what either has. -/
def latOr : Lat Wd where
  join a b := a ||| b
  idem a := BitVec.or_self
  comm a b := BitVec.or_comm a b
  assoc a b c := BitVec.or_assoc a b c
  hgt a := sumTo (fun i => if a.getLsbD i then 1 else 0) 64
  top := 64
  hgt_le a := by
    have := sum_le (f := fun i => if a.getLsbD i then 1 else 0) (g := fun _ => 1) 64 (fun i _ => by split <;> omega)
    rw [sum_const] at this
    exact this
  rise a b h hn := by
    have le : ∀ i, a.getLsbD i = true → b.getLsbD i = true := fun i hi => by
      rw [← h, BitVec.getLsbD_or, hi, Bool.true_or]
    obtain ⟨i, hi, hd⟩ := bit_ne hn
    refine sum_lt 64 (fun k _ => ?_) i hi ?_
    · by_cases c : a.getLsbD k = true
      · rw [if_pos c, if_pos (le k c)]; exact Nat.le_refl _
      · rw [if_neg c]; exact Nat.zero_le _
    · by_cases c : a.getLsbD i = true
      · exact absurd (c.trans (le i c).symm) hd
      · rw [if_neg c, if_pos (by cases e : b.getLsbD i <;> simp_all)]; omega
/-- .. by what both have. -/
def latAnd : Lat Wd where
  join a b := a &&& b
  idem a := BitVec.and_self
  comm a b := BitVec.and_comm a b
  assoc a b c := BitVec.and_assoc a b c
  hgt a := sumTo (fun i => if a.getLsbD i then 0 else 1) 64
  top := 64
  hgt_le a := by
    have := sum_le (f := fun i => if a.getLsbD i then 0 else 1) (g := fun _ => 1) 64 (fun i _ => by split <;> omega)
    rw [sum_const] at this
    exact this
  rise a b h hn := by
    have le : ∀ i, b.getLsbD i = true → a.getLsbD i = true := fun i hi => by
      rw [← h, BitVec.getLsbD_and] at hi
      exact (Bool.and_eq_true_iff.1 hi).1
    obtain ⟨i, hi, hd⟩ := bit_ne hn
    refine sum_lt 64 (fun k _ => ?_) i hi ?_
    · by_cases c : b.getLsbD k = true
      · rw [if_pos c, if_pos (le k c)]; exact Nat.le_refl _
      · rw [if_neg c]; split <;> omega
    · by_cases c : b.getLsbD i = true
      · exact absurd ((le i c).trans c.symm) hd
      · rw [if_neg c, if_pos (by cases e : a.getLsbD i <;> simp_all)]; omega
def nth (ns : List Nd) (k : Nat) : Nd := ns.getD k ⟨0, 0, 0⟩
theorem nth_at {ns : List Nd} {k : Nat} (h : k < ns.length) : nth ns k = ns[k] := by
  simp [nth, h]
def flowN (ns : List Nd) (k : Nat) (x : Wd) : Wd := x &&& ~~~(nth ns k).kill ||| (nth ns k).gen
def natE (l : List (Int × Int)) : List (Nat × Nat) := l.map fun e => (e.1.toNat, e.2.toNat)
theorem natE_in {l : List (Int × Int)} {n : Nat} (h : edgesF l n = true) : ∀ e ∈ natE l, e.1 < n ∧ e.2 < n := fun e he => by
  obtain ⟨x, hx, rfl⟩ := List.mem_map.1 he
  have := of_decide_eq_true h x hx
  show x.1.toNat < n ∧ x.2.toNat < n
  omega
/-- The problem joined by union. -/
def orP (ns : List Nd) (l : List (Int × Int)) (h : edgesF l ns.length = true) : Prb Wd where
  L := latOr
  n := ns.length
  edges := natE l
  start k := (nth ns k).start
  bot := 0
  flow := flowN ns
  mono k a b h := by
    show flowN ns k a ||| flowN ns k b = flowN ns k b
    have e : a ||| b = b := h
    refine bit_ext fun i hi => ?_
    have := bit_of e i
    simp only [flowN, BitVec.getLsbD_or, BitVec.getLsbD_and, BitVec.getLsbD_not] at this ⊢
    cases ha : a.getLsbD i <;> cases hb : b.getLsbD i <;> simp_all
  neutral v := by
    show (0 : Wd) ||| v = v
    simp
  inn := natE_in h
/-- .. by what both have: what comes from outside is turned about. -/
def andP (ns : List Nd) (l : List (Int × Int)) (h : edgesF l ns.length = true) : Prb Wd where
  L := latAnd
  n := ns.length
  edges := natE l
  start k := ~~~(nth ns k).start
  bot := BitVec.allOnes 64
  flow := flowN ns
  mono k a b h := by
    show flowN ns k a &&& flowN ns k b = flowN ns k b
    have e : a &&& b = b := h
    refine bit_ext fun i hi => ?_
    have := bit_of e i
    simp only [flowN, BitVec.getLsbD_or, BitVec.getLsbD_and, BitVec.getLsbD_not] at this ⊢
    cases ha : a.getLsbD i <;> cases hb : b.getLsbD i <;> simp_all
  neutral v := by
    show BitVec.allOnes 64 &&& v = v
    refine bit_ext fun i hi => ?_
    rw [BitVec.getLsbD_and, BitVec.getLsbD_allOnes, decide_eq_true hi, Bool.true_and]
  inn := natE_in h
/-- The law's fold over the edges as they stand in memory. -/
def foldE (J : Wd → Wd → Wd) (o : Nat → Wd) (k : Nat) (l : List (Int × Int)) (v : Wd) : Wd := l.foldl (fun v e => if e.2 = (k : Int) then J v (o e.1.toNat) else v) v
theorem foldE_snoc (J : Wd → Wd → Wd) (o : Nat → Wd) (k : Nat) (l : List (Int × Int)) (v : Wd) (j : Nat) (hj : j < l.length) :
    foldE J o k (l.take (j + 1)) v = if l[j].2 = (k : Int) then J (foldE J o k (l.take j) v) (o l[j].1.toNat) else foldE J o k (l.take j) v := by
  rw [take_snoc l j hj]
  unfold foldE
  rw [List.foldl_append]
  rfl
theorem foldE_nat (J : Wd → Wd → Wd) (o : Nat → Wd) (k : Nat) : ∀ (l : List (Int × Int)) (v : Wd), (∀ e ∈ l, 0 ≤ e.2) → foldE J o k l v = (natE l).foldl (fun v e => if e.2 = k then J v (o e.1) else v) v
  | [], v, _ => rfl
  | e :: l, v, h => by
    have h0 := h e List.mem_cons_self
    have ih := fun v => foldE_nat J o k l v (fun x hx => h x (List.mem_cons_of_mem _ hx))
    unfold foldE natE at *
    rw [List.foldl_cons, List.map_cons, List.foldl_cons, ih]
    have : (e.2 = (k : Int)) ↔ (e.2.toNat = k) := by omega
    simp only [this]
theorem edges_at {l : List (Int × Int)} {n : Int} (h : edgesF l n = true) {j : Nat} (hj : j < l.length) : 0 ≤ l[j].1 ∧ l[j].1 < n ∧ 0 ≤ l[j].2 ∧ l[j].2 < n := of_decide_eq_true h _ (List.getElem_mem hj)
theorem foldE_or {ns : List Nd} {l : List (Int × Int)} (h : edgesF l ns.length = true) (o : Nat → Wd) (k : Nat) : foldE (· ||| ·) o k l (nth ns k).start = (orP ns l h).inOf o k :=
  foldE_nat _ o k l _ fun e he => (of_decide_eq_true h e he).2.2.1
theorem foldE_and {ns : List Nd} {l : List (Int × Int)} (h : edgesF l ns.length = true) (o : Nat → Wd) (k : Nat) : foldE (· &&& ·) o k l (~~~(nth ns k).start) = (andP ns l h).inOf o k :=
  foldE_nat _ o k l _ fun e he => (of_decide_eq_true h e he).2.2.1
end Go.Proofs.YtjhndnhldhmjnaaDoor
