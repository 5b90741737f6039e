/- What a scope of the program and one of the document are in a world; the plain readings of both. -/
import Derived.Test.YthdphldagfeepaaBase
namespace Go.Proofs.Ythdphldagfeepaa
open Go.RowKit Go.Maps
set_option linter.unusedVariables false
set_option linter.unusedSimpArgs false

/-- A name as a key. -/
abbrev key (s : ByteArray) : Lit := .string s.data.toList
theorem key_inj {s t : ByteArray} (h : key s = key t) : s = t := by
  cases s; cases t
  simp [key] at h
  rw [h]
theorem key_ne {s t : ByteArray} (h : ¬ s = t) : key s ≠ key t := fun e => h (key_inj e)
theorem key_ok (s : ByteArray) : WideAt.IsKeyLit (key s) := trivial

/-- What a map knows a name for. -/
def numOf : DataW Unit → Int
  | .lit (.int .i64 c) => c
  | _ => 0
def look (D : DataW Unit) (s : ByteArray) : Option Int := if Maps.has D (key s) then some (numOf (D.atKey (key s) (.lit (.int .i64 0)))) else none

theorem look_put {D : DataW Unit} (hD : IsMap D) (s : ByteArray) (x : Int) (t : ByteArray) : look (D.put (key s) (.lit (.int .i64 x))) t = if t = s then some x else look D t := by
  unfold look
  by_cases h : t = s
  · subst h
    rw [has_put_same hD (key_ok _), atKey_put_same hD (key_ok _)]
    simp [numOf]
  · rw [has_put_other (key_ne h), atKey_put_other (key_ne h), if_neg h]
theorem look_made (t : ByteArray) : look (.map []) t = none := by simp [look, Maps.has]
theorem look_at {D : DataW Unit} {s : ByteArray} {c : Int} (h : D.atKey (key s) (.lit (.int .i64 0)) = .lit (.int .i64 c)) : look D s = if Maps.has D (key s) then some c else none := by
  unfold look
  rw [h]
  rfl

/-- Names of block i, i from 0. -/
abbrev Blocks := Nat → ByteArray → Option Int
def enterG (g : Blocks) (n : Nat) : Blocks := fun i t => if i = n then none else g i t
def putG (g : Blocks) (n : Nat) (s : ByteArray) (x : Int) : Blocks := fun i t => if i = n ∧ t = s then some x else g i t
def findG (g : Blocks) : Nat → ByteArray → Option Int
  | 0, _ => none
  | n + 1, s => match g n s with | some x => some x | none => findG g n s
theorem findG_congr {g h : Blocks} {n : Nat} {s : ByteArray} (e : ∀ i, i < n → g i s = h i s) : findG g n s = findG h n s := by
  induction n with
  | zero => rfl
  | succ n ih =>
    unfold findG
    rw [e n (by omega), ih (fun i hi => e i (by omega))]

/-- What may be turned by the program: its structs, its rows, its maps. -/
def SP (B : Nat) (w : World) (b : Nat) : Prop := B ≤ b ∧ ((∃ cs f, w.heap[b]? = some (.cells cs 44 f)) ∨ (∃ cs f, w.heap[b]? = some (.cells cs 50 f)) ∨ (∃ es c, w.heap[b]? = some (.map es c)))
/-- .. and by the document. -/
def SR (B : Nat) (w : World) (b : Nat) : Prop := B ≤ b ∧ ((∃ cs f, w.heap[b]? = some (.cells cs 33 f)) ∨ (∃ cs f, w.heap[b]? = some (.cells cs 52 f)))
def KP (B : Nat) (w w' : World) : Prop := Kept (SP B w) w w'
def KR (B : Nat) (w w' : World) : Prop := Kept (SR B w) w w'
theorem KP.rfl (B : Nat) (w : World) : KP B w w := Kept.rfl _ _
theorem KR.rfl (B : Nat) (w : World) : KR B w w := Kept.rfl _ _
theorem KP.trans {B : Nat} {a b c : World} (h : KP B a b) (k : KP B b c) : KP B a c := by
  refine Kept.ahead h k (fun i hi hs => Classical.byContradiction fun hn => hn ?_)
  have e := h.block i hi hn
  unfold SP at *
  rw [e] at hs
  exact hs
theorem KR.trans {B : Nat} {a b c : World} (h : KR B a b) (k : KR B b c) : KR B a c := by
  refine Kept.ahead h k (fun i hi hs => Classical.byContradiction fun hn => hn ?_)
  have e := h.block i hi hn
  unfold SR at *
  rw [e] at hs
  exact hs
theorem KP.below {B : Nat} {w w' : World} (h : KP B w w') (hB : B ≤ w.heap.size) : Below B w w' := Kept.below h hB (fun _ hk => hk.1)
theorem KR.below {B : Nat} {w w' : World} (h : KR B w w') (hB : B ≤ w.heap.size) : Below B w w' := Kept.below h hB (fun _ hk => hk.1)
theorem KP.of_below {B : Nat} {w w' : World} (h : Below w.heap.size w w') : KP B w w' := Kept.of_below h
theorem KR.of_below {B : Nat} {w w' : World} (h : Below w.heap.size w w') : KR B w w' := Kept.of_below h

/-- What may be turned by both. -/
def KB (B C : Nat) (w w' : World) : Prop := Kept (fun b => SP B w b ∨ SR C w b) w w'
theorem KB.trans {B C : Nat} {a b c : World} (h : KB B C a b) (k : KB B C b c) : KB B C a c := by
  refine Kept.ahead h k (fun i hi hs => Classical.byContradiction fun hn => hn ?_)
  have e := h.block i hi hn
  unfold SP SR at *
  rw [e] at hs
  exact hs
theorem KP.both {B C : Nat} {w w' : World} (h : KP B w w') : KB B C w w' := Kept.mono h (fun _ _ e => .inl e)
theorem KR.both {B C : Nat} {w w' : World} (h : KR C w w') : KB B C w w' := Kept.mono h (fun _ _ e => .inr e)
theorem KB.of_below {B C : Nat} {w w' : World} (h : Below w.heap.size w w') : KB B C w w' := Kept.of_below h
theorem KB.below {B C : Nat} {w w' : World} (h : KB B C w w') (hB : B ≤ w.heap.size) (hC : B ≤ C) : Below B w w' := Kept.below h hB (fun _ hk => by rcases hk with hk | hk; exact hk.1; exact Nat.le_trans hC hk.1)
/-- What both did behind a world, the document in new memory alone, is the program's. -/
theorem KB.new {B : Nat} {a b c : World} (h : Below a.heap.size a b) (k : KB B a.heap.size b c) : KP B a c := by
  refine Kept.ahead (Kept.of_below h) k (fun i hi hs => ?_)
  rcases hs with hs | hs
  · unfold SP at *
    rw [h.block i hi] at hs
    exact hs
  · have := hs.1
    omega

/-- Block p is a scope of the program, of n blocks; block i's map is mb i. -/
structure IsS (w : World) (B p M n r cap : Nat) (mb : Nat → Option Nat) (g : Blocks) : Prop where
  head : w.heap[p]? = some (.cells #[.slice (some ⟨r, 0, none⟩) n cap] 44 (0, 0))
  own : w.ownsRow B 50 1 (.slice (some ⟨r, 0, none⟩) n cap) n ((List.range n).map fun i => Value.map (mb i))
  bp : B ≤ p
  lo : 1 ≤ n
  hi : n ≤ M
  nil : ∀ i, i < n → mb i = none → ∀ s, g i s = none
  map : ∀ i b, i < n → mb i = some b → B ≤ b ∧ ∃ D : DataW Unit, w.ownsMap Try.prog 9 (plainElem Try.prog 3) b M D ∧ ∀ s, g i s = look D s
  inj : ∀ i j b, i < n → j < n → mb i = some b → mb j = some b → i = j

section
variable {w w' : World} {B p M n r cap : Nat} {mb : Nat → Option Nat} {g : Blocks}
theorem IsS.row (h : IsS w B p M n r cap mb g) : ∃ cur, B ≤ r ∧ w.heap[r]? = some (.cells cur 50 (0, 0)) ∧ n ≤ cap ∧ cap ≤ maxLen := by
  rcases h.own.2 with ⟨e, _⟩ | ⟨k, cap', cur, e, hb, hh, hn, hm, hs, _⟩
  · cases e
  · injection e with e1 e2 e3
    injection e1 with e1
    injection e1 with e1
    subst e1 e3
    exact ⟨cur, hb, hh, hn, hm⟩
theorem IsS.plt (h : IsS w B p M n r cap mb g) : p < w.heap.size := (Array.getElem?_eq_some_iff.1 h.head).1
theorem IsS.size (h : IsS w B p M n r cap mb g) : B ≤ w.heap.size := Nat.le_trans h.bp (Nat.le_of_lt h.plt)
theorem IsS.rlt (h : IsS w B p M n r cap mb g) : r < w.heap.size := by
  obtain ⟨cur, _, hh, _⟩ := h.row
  exact (Array.getElem?_eq_some_iff.1 hh).1
theorem IsS.pr (h : IsS w B p M n r cap mb g) : p ≠ r := fun e => by
  obtain ⟨cur, _, hh, _⟩ := h.row
  have := h.head
  rw [e, hh] at this
  injection this with this
  injection this with _ this
  cases this
theorem IsS.cellp (h : IsS w B p M n r cap mb g) : w.cell? ⟨p, 0, none⟩ = some (.slice (some ⟨r, 0, none⟩) n cap) := by simp [World.cell?, h.head]
theorem IsS.freep (h : IsS w B p M n r cap mb g) (i : Nat) : w.frozen? ⟨p, i, none⟩ = false := by simp [World.frozen?, h.head]
theorem IsS.freer (h : IsS w B p M n r cap mb g) (i : Nat) : w.frozen? ⟨r, i, none⟩ = false := by
  obtain ⟨cur, _, hh, _⟩ := h.row
  simp [World.frozen?, hh]
theorem IsS.cellr (h : IsS w B p M n r cap mb g) {i : Nat} (hi : i < n) : w.cell? ⟨r, i, none⟩ = some (.map (mb i)) := by
  have := World.ownsRow.cellAt h.own i (by simpa using hi)
  rw [this]
  simp [hi]
theorem mapB (h : IsS w B p M n r cap mb g) {i b : Nat} (hi : i < n) (hb : mb i = some b) : ∃ es c, w.heap[b]? = some (.map es c) := by
  obtain ⟨_, D, hD, _⟩ := h.map i b hi hb
  obtain ⟨es, c, hh, _⟩ := hD
  exact ⟨es, c, hh⟩
theorem IsS.bne (h : IsS w B p M n r cap mb g) {i b : Nat} (hi : i < n) (hb : mb i = some b) : b ≠ p ∧ b ≠ r := by
  obtain ⟨es, c, hh⟩ := mapB h hi hb
  obtain ⟨cur, _, hr, _⟩ := h.row
  have hp := h.head
  exact ⟨fun e => (by rw [← e, hh] at hp; cases hp), fun e => (by rw [← e, hh] at hr; cases hr)⟩
/-- While what the program owns is as it was. -/
theorem IsS.keep {S : Nat → Prop} (h : IsS w B p M n r cap mb g) (hk : Kept S w w') (hs : ∀ b, SP B w b → ¬ S b) : IsS w' B p M n r cap mb g := by
  obtain ⟨cur, hbr, hh, _⟩ := h.row
  have sp : ¬ S p := hs p ⟨h.bp, .inl ⟨_, _, h.head⟩⟩
  have sr : ¬ S r := hs r ⟨hbr, .inr (.inl ⟨_, _, hh⟩)⟩
  refine ⟨(hk.block p h.plt sp).trans h.head, ?_, h.bp, h.lo, h.hi, h.nil, fun i b hi hb => ?_, h.inj⟩
  · refine hk.owns h.own (fun b hb => ?_)
    simp [Value.ownBlock] at hb
    subst hb
    exact sr
  · obtain ⟨hB, D, hD, hg⟩ := h.map i b hi hb
    obtain ⟨es, c, hm⟩ := mapB h hi hb
    have sb : ¬ S b := hs b ⟨hB, .inr (.inr ⟨_, _, hm⟩)⟩
    have e := hk.block b hD.lt sb
    refine ⟨hB, D, ?_, hg⟩
    unfold World.ownsMap at *
    rw [e]
    exact hD
theorem SP_SR {b C : Nat} (h : SP B w b) : ¬ SR C w b := by
  rintro ⟨_, h2⟩
  obtain ⟨_, h1⟩ := h
  rcases h1 with ⟨_, _, e⟩ | ⟨_, _, e⟩ | ⟨_, _, e⟩ <;> rcases h2 with ⟨_, _, f⟩ | ⟨_, _, f⟩ <;> (rw [e] at f; cases f)
theorem IsS.keepR {C : Nat} (h : IsS w B p M n r cap mb g) (hk : KR C w w') : IsS w' B p M n r cap mb g := h.keep hk (fun b hb => SP_SR hb)
theorem IsS.below (h : IsS w B p M n r cap mb g) (hk : Below w.heap.size w w') : IsS w' B p M n r cap mb g := h.keep (S := fun _ => False) (Kept.of_below hk) (fun _ _ e => e)
theorem IsS.more (h : IsS w B p M n r cap mb g) {M' : Nat} (hm : M ≤ M') : IsS w B p M' n r cap mb g :=
  ⟨h.head, h.own, h.bp, h.lo, Nat.le_trans h.hi hm, h.nil, fun i b hi hb => by obtain ⟨hB, D, hD, hg⟩ := h.map i b hi hb; exact ⟨hB, D, hD.mono hm, hg⟩, h.inj⟩
theorem IsS.congr {g' : Blocks} (h : IsS w B p M n r cap mb g) (e : ∀ i, i < n → ∀ s, g' i s = g i s) : IsS w B p M n r cap mb g' :=
  ⟨h.head, h.own, h.bp, h.lo, h.hi, fun i hi hn s => (e i hi s).trans (h.nil i hi hn s), fun i b hi hb => by
    obtain ⟨hB, D, hD, hg⟩ := h.map i b hi hb
    exact ⟨hB, D, hD, fun s => (e i hi s).trans (hg s)⟩, h.inj⟩
end

/-- A scope of the program, whatever lies where. -/
def Sc (w : World) (B p M n : Nat) (g : Blocks) : Prop := ∃ r cap mb, IsS w B p M n r cap mb g
theorem Sc.keepR {w w' : World} {B C p M n : Nat} {g : Blocks} (h : Sc w B p M n g) (hk : KR C w w') : Sc w' B p M n g := by
  obtain ⟨r, cap, mb, h⟩ := h
  exact ⟨r, cap, mb, h.keepR hk⟩
theorem Sc.below {w w' : World} {B p M n : Nat} {g : Blocks} (h : Sc w B p M n g) (hk : Below w.heap.size w w') : Sc w' B p M n g := by
  obtain ⟨r, cap, mb, h⟩ := h
  exact ⟨r, cap, mb, h.below hk⟩
theorem Sc.more {w : World} {B p M n : Nat} {g : Blocks} (h : Sc w B p M n g) {M' : Nat} (hm : M ≤ M') : Sc w B p M' n g := by
  obtain ⟨r, cap, mb, h⟩ := h
  exact ⟨r, cap, mb, h.more hm⟩
theorem Sc.size {w : World} {B p M n : Nat} {g : Blocks} (h : Sc w B p M n g) : B ≤ w.heap.size := by
  obtain ⟨r, cap, mb, h⟩ := h
  exact h.size
theorem Sc.hi {w : World} {B p M n : Nat} {g : Blocks} (h : Sc w B p M n g) : 1 ≤ n ∧ n ≤ M := by
  obtain ⟨r, cap, mb, h⟩ := h
  exact ⟨h.lo, h.hi⟩
theorem Sc.congr {w : World} {B p M n : Nat} {g g' : Blocks} (h : Sc w B p M n g) (e : ∀ i, i < n → ∀ s, g' i s = g i s) : Sc w B p M n g' := by
  obtain ⟨r, cap, mb, h⟩ := h
  exact ⟨r, cap, mb, h.congr e⟩

/-- A name of the document's scope. -/
structure Ent where
  bl : Int
  nm : ByteArray
  id : Int
def Ent.cells (e : Ent) : List Value := [.int .i64 e.bl, .string e.nm, .int .i64 e.id]
theorem ent3 (e : Ent) : (Ent.cells e).length = 3 := rfl
theorem ent1 (e : Ent) : ∀ u ∈ Ent.cells e, u.oneCell' = true := by
  intro u hu
  simp [Ent.cells] at hu
  rcases hu with rfl | rfl | rfl <;> rfl
def ez : Value := .agg #[.int .i64 0, .string ⟨#[]⟩, .int .i64 0]
theorem info52 : (Try.prog.info? 52).map (fun i => (i.zero, i.size, i.bytes)) = some (some ez, 3, 32) := by kernel_rfl
theorem info50 : (Try.prog.info? 50).map (fun i => (i.zero, i.size, i.bytes)) = some (some (.map none), 1, 8) := by kernel_rfl

/-- Block q is a scope of the document. -/
structure IsR (w : World) (B q : Nat) (v : Value) (L : List Ent) (N : Int) : Prop where
  head : w.heap[q]? = some (.cells #[v, .int .i64 N] 33 (0, 0))
  own : Own 52 3 Ent.cells w B v L
  bq : B ≤ q
section
variable {w w' : World} {B q : Nat} {v : Value} {L : List Ent} {N : Int}
theorem IsR.qlt (h : IsR w B q v L N) : q < w.heap.size := (Array.getElem?_eq_some_iff.1 h.head).1
theorem IsR.size (h : IsR w B q v L N) : B ≤ w.heap.size := Nat.le_trans h.bq (Nat.le_of_lt h.qlt)
theorem IsR.c0 (h : IsR w B q v L N) : w.cell? ⟨q, 0, none⟩ = some v := by simp [World.cell?, h.head]
theorem IsR.c1 (h : IsR w B q v L N) : w.cell? ⟨q, 1, none⟩ = some (.int .i64 N) := by simp [World.cell?, h.head]
theorem IsR.free (h : IsR w B q v L N) (i : Nat) : w.frozen? ⟨q, i, none⟩ = false := by simp [World.frozen?, h.head]
theorem IsR.keep {S : Nat → Prop} (h : IsR w B q v L N) (hk : Kept S w w') (hs : ∀ b, SR B w b → ¬ S b) : IsR w' B q v L N := by
  refine ⟨(hk.block q h.qlt (hs q ⟨h.bq, .inl ⟨_, _, h.head⟩⟩)).trans h.head, ?_, h.bq⟩
  refine hk.owns h.own (fun b hb => hs b ?_)
  rcases h.own.2 with ⟨e, _⟩ | ⟨k, cap', cur, e, hb', hh, _⟩
  · subst e; simp [Value.ownBlock] at hb
  · subst e
    simp [Value.ownBlock] at hb
    subst hb
    exact ⟨hb', .inr ⟨_, _, hh⟩⟩
theorem IsR.keepP {A : Nat} (h : IsR w B q v L N) (hk : KP A w w') : IsR w' B q v L N := h.keep hk (fun b hb hp => SP_SR hp hb)
theorem IsR.below (h : IsR w B q v L N) (hk : Below w.heap.size w w') : IsR w' B q v L N := h.keep (S := fun _ => False) (Kept.of_below hk) (fun _ _ e => e)
end
def Rc (w : World) (B q : Nat) (L : List Ent) (N : Int) : Prop := ∃ v, IsR w B q v L N
theorem Rc.keepP {w w' : World} {A B q : Nat} {L : List Ent} {N : Int} (h : Rc w B q L N) (hk : KP A w w') : Rc w' B q L N := by
  obtain ⟨v, h⟩ := h
  exact ⟨v, h.keepP hk⟩
theorem Rc.below {w w' : World} {B q : Nat} {L : List Ent} {N : Int} (h : Rc w B q L N) (hk : Below w.heap.size w w') : Rc w' B q L N := by
  obtain ⟨v, h⟩ := h
  exact ⟨v, h.below hk⟩
end Go.Proofs.Ythdphldagfeepaa
