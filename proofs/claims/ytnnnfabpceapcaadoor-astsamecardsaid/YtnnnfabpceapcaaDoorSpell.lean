/- spell: a tree's text. -/
import Derived.Test.YtnnnfabpceapcaaDoorSt
import Derived.Test.YtnnnfabpceapcaaDoorRev
import Derived.Test.YtnnnfabpceapcaaDoorBuild
import Derived.Test.YtnnnfabpceapcaaDoorShelf
import Derived.Deep.QuietTactic
import Derived.BigQuiet
namespace Go.Proofs.YtnnnfabpceapcaaDoor
open Go.RowKit
set_option linter.unusedVariables false

theorem least_of (Q : Nat → Prop) : ∀ n, Q n → ∃ m, Q m ∧ ∀ k, Q k → m ≤ k := fun n => by
  induction n using Nat.strongRecOn with
  | ind n ih =>
    intro h
    by_cases hx : ∃ k, k < n ∧ Q k
    · obtain ⟨k, hk, hq⟩ := hx
      exact ih k hk hq
    · exact ⟨n, h, fun k hk => Nat.le_of_not_lt fun hl => hx ⟨k, hl, hk⟩⟩
/-- The least number that a world allows. -/
theorem least_world (Q : Nat → World → Prop) : ∃ m : World → Nat, ∀ W, (∃ n, Q n W) → Q (m W) W ∧ ∀ k, Q k W → m W ≤ k := by
  have h : ∀ W, ∃ m, (∃ n, Q n W) → Q m W ∧ ∀ k, Q k W → m ≤ k := fun W => by
    by_cases hx : ∃ n, Q n W
    · obtain ⟨n, hn⟩ := hx
      obtain ⟨m, h1, h2⟩ := least_of (fun k => Q k W) n hn
      exact ⟨m, fun _ => ⟨h1, h2⟩⟩
    · exact ⟨0, fun h => absurd h hx⟩
  exact ⟨fun W => Classical.choose (h W), fun W => Classical.choose_spec (h W)⟩

theorem row_base {w : World} {B e size n : Nat} {v : Value} {xs : List Value} (h : w.ownsRow B e size v n xs) : w.ownsRow 0 e size v n xs := ⟨h.1, h.2.imp id (fun ⟨g, cap, cur, a, _, r⟩ => ⟨g, cap, cur, a, Nat.zero_le _, r⟩)⟩
theorem wts_rev : ∀ (P : List Pc), wts P.reverse = wts P
  | [] => rfl
  | p :: r => by
    rw [List.reverse_cons, wts_append, wts_rev r]
    show wts r + (wtP p + 0) = wtP p + wts r
    omega
/-- A node is split. -/
def SplitIs (G : NdH → List Tr → Bool) (qt : List UInt8 → List UInt8) : Prop := ∀ (A : Nat → Prop) (sb : Nat) (T : List Pc) (w0 w : World) (b o : Nat) (x : NdH) (kv : Value) (n cb : Nat) (ks : List Tr), Job G A sb T w0 w b o x kv n cb ks → G x ks = true → Calls Tryd.prog 26 #[.pointer (some ⟨sb, 0, none⟩), .pointer (some ⟨b, o, none⟩)] w (Spelt G qt A sb T w0 w x ks)

/-- In the midst of spelling. -/
structure SL (G : NdH → List Tr → Bool) (qt : List UInt8 → List UInt8) (wB : World) (ob sb : Nat) (L : List UInt8) (T : List Pc) (l : List UInt8) (W : World) : Prop where
  bel : Below wB.heap.size wB W
  hob : wB.heap.size ≤ ob
  hsb : wB.heap.size ≤ sb
  todo : ∃ v, W.heap[sb]? = some (.cells #[v] 59 (0, 0)) ∧ W.ownsRow wB.heap.size 56 2 v T.length (pcC T)
  out : ∃ p vb, (p = .pointer none ∨ p = .pointer (some ⟨ob, 0, none⟩)) ∧ W.heap[ob]? = some (.cells #[p, vb] 54 (0, 0)) ∧ W.ownsRow wB.heap.size 5 1 vb l.length (Lib.byteCells l)
  val : ∀ p ∈ T, Val G wB p
  text : l ++ txts (spellT qt) T.reverse = L
  short : l.length ≤ 1048576
  few : wts T ≤ 100000000
section
variable {G : NdH → List Tr → Bool} {qt : List UInt8 → List UInt8} {wB W W' : World} {ob sb : Nat} {L l : List UInt8} {T : List Pc}
/-- A new block changes nothing. -/
theorem SL.next (h : SL G qt wB ob sb L T l W) (hb : Below W.heap.size W W') : SL G qt wB ob sb L T l W' := by
  obtain ⟨h1, h2, h3, ⟨v, h4, h5⟩, ⟨p, vb, h6, h7, h8⟩, h9, h10, h11, h12⟩ := h
  have k : ∀ {e s : Nat} {v : Value} {n : Nat} {xs : List Value}, W.ownsRow wB.heap.size e s v n xs → W'.ownsRow wB.heap.size e s v n xs := fun {e s v n xs} hr => hr.kept (row := none) ⟨hb.os, hb.tape, hb.output, hb.size, fun k hk _ => hb.block k hk⟩ (by cases hq : v.ownBlock with | none => exact .inl rfl | some k => exact .inr (by simp))
  exact ⟨h1.trans (hb.mono h1.size), h2, h3, ⟨v, (hb.block _ (blk_lt h4)).trans h4, k h5⟩, ⟨p, vb, h6, (hb.block _ (blk_lt h7)).trans h7, k h8⟩, h9, h10, h11, h12⟩
/-- The last piece, where it lies. -/
theorem SL.last {p : Pc} (h : SL G qt wB ob sb L (T ++ [p]) l W) : ∃ g cap, W.heap[sb]? = some (.cells #[.slice (some ⟨g, 0, none⟩) (T.length + 1) cap] 59 (0, 0)) ∧ g < W.heap.size ∧ T.length + 1 ≤ cap ∧ cap ≤ maxLen ∧ W.cell? ⟨g, T.length * 2, none⟩ = some (.string p.text) ∧ W.cell? ⟨g, T.length * 2 + 1, none⟩ = some (pcP p) ∧
    W.ownsRow wB.heap.size 56 2 (.slice (some ⟨g, 0, none⟩) T.length cap) T.length (pcC T) ∧ g ≠ sb := by
  obtain ⟨v, h4, h5⟩ := h.todo
  rw [List.length_append, List.length_singleton] at h5
  have hne := row_ne h5 h4 (by decide)
  obtain ⟨hlen, ⟨_, h⟩ | ⟨g, cap, cur, rfl, hg, hh, hn, hm, hs, ht⟩⟩ := h5
  · omega
  have hl := pcC_length T
  have hown : W.ownsRow wB.heap.size 56 2 (.slice (some ⟨g, 0, none⟩) (T.length + 1) cap) (T.length + 1) (pcC (T ++ [p])) := ⟨hlen, .inr ⟨g, cap, cur, rfl, hg, hh, hn, hm, hs, ht⟩⟩
  refine ⟨g, cap, h4, blk_lt hh, hn, hm, ?_, ?_, ⟨hl, .inr ⟨g, cap, cur, rfl, hg, hh, by omega, hm, hs, ?_⟩⟩, fun e => hne (by rw [e]; rfl)⟩
  · rw [hown.cellAt _ (by omega), pcC_get0 _ T.length (by simp)]
    simp
  · rw [hown.cellAt _ (by omega), pcC_get1 _ T.length (by simp)]
    simp
  · rw [pcC_append] at ht
    have := congrArg (List.take (T.length * 2)) ht
    rw [List.take_take, Nat.min_eq_left (by omega), List.take_append_of_le_length (by omega), List.take_of_length_le (l := pcC T) (by omega)] at this
    exact this
/-- The last piece is taken, and a new block made. -/
theorem SL.popped {p : Pc} (h : SL G qt wB ob sb L (T ++ [p]) l W) {g cap : Nat} (h4 : W.heap[sb]? = some (.cells #[.slice (some ⟨g, 0, none⟩) (T.length + 1) cap] 59 (0, 0))) (hown : W.ownsRow wB.heap.size 56 2 (.slice (some ⟨g, 0, none⟩) T.length cap) T.length (pcC T)) (hgs : g ≠ sb) (o : Obj) :
    SL G qt wB ob sb (l ++ txts (spellT qt) T.reverse) T l ((W.setCell ⟨sb, 0, none⟩ (.slice (some ⟨g, 0, none⟩) T.length cap)).alloc o) := by
  have hbel := h.bel
  have hsb := h.hsb
  obtain ⟨p1, vb, h6, h7, h8⟩ := h.out
  have hbs := row_ne h8 h4 (by decide)
  have hos : ob ≠ sb := fun e => by
    subst e
    rw [h7] at h4
    injection h4 with h4
    injection h4 with _ e2 _
    exact absurd e2 (by decide)
  have hwt := h.few
  rw [wts_append] at hwt
  have s0 : SL G qt wB ob sb (l ++ txts (spellT qt) T.reverse) T l (W.setCell ⟨sb, 0, none⟩ (.slice (some ⟨g, 0, none⟩) T.length cap)) := by
    refine ⟨hbel.setCell (p := ⟨sb, 0, none⟩) hsb _, h.hob, hsb, ⟨_, heap_setCell_same W sb 0 _ 59 _ h4, ?_⟩, ⟨p1, vb, h6, ?_, ?_⟩, fun q hq => h.val q (by simp [hq]), rfl, h.short, by omega⟩
    · exact hown.kept (row := some sb) ⟨rfl, rfl, rfl, by rw [World.size_setCell]; omega, fun k _ hk => Below.heap_setCell _ _ _ _ (fun e => hk (by rw [e]))⟩ (.inr (fun e => hgs (Option.some.inj e)))
    · rw [Below.heap_setCell _ _ _ _ hos]
      exact h7
    · exact h8.kept (row := some sb) ⟨rfl, rfl, rfl, by rw [World.size_setCell]; omega, fun k _ hk => Below.heap_setCell _ _ _ _ (fun e => hk (by rw [e]))⟩ (.inr hbs)
  exact s0.next (below1 _ _)
theorem SL.textOf {p : Pc} (h : SL G qt wB ob sb L (T ++ [p]) l W) : L = l ++ (pcL (spellT qt) p ++ txts (spellT qt) T.reverse) := by
  rw [← h.text, List.reverse_append]
  rfl

/-- The blocks that a split lets be. -/
def Rest (W : World) (sb : Nat) (v : Value) (k : Nat) : Prop := k < W.heap.size ∧ k ≠ sb ∧ v.ownBlock ≠ some k
theorem SL.sp (h : SL G qt wB ob sb L T l W) : ∃ v, W.heap[sb]? = some (.cells #[v] 59 (0, 0)) ∧ Sp (Rest W sb v) sb T W ∧ (∀ k, k < wB.heap.size → Rest W sb v k) ∧ Rest W sb v ob ∧ (∀ b, v.ownBlock = some b → wB.heap.size ≤ b) := by
  obtain ⟨v, h4, h5⟩ := h.todo
  obtain ⟨p1, vb, h6, h7, h8⟩ := h.out
  have hsb := h.hsb
  have hsz := h.bel.size
  refine ⟨v, h4, ⟨fun k hk => hk.1, fun hk => hk.2.1 rfl, blk_lt h4, v, h4, row_base h5, fun b hb => ⟨fun e => row_ne h5 h4 (by decide) (by rw [hb, e]), fun hk => hk.2.2 hb⟩⟩, fun k hk => ⟨by omega, by omega, fun e => ?_⟩, ⟨blk_lt h7, fun e => ?_, row_ne h5 h7 (by decide)⟩, fun b hb => (h5.lt b hb).1⟩
  · have := (h5.lt k e).1
    omega
  · subst e
    rw [h7] at h4
    injection h4 with h4
    injection h4 with _ e2 _
    exact absurd e2 (by decide)
/-- Behind a split, its pieces the other way round. -/
theorem SL.after {v v' : Value} {P : List Pc} {M : List UInt8} {n : Nat} {W1 : World} (h : SL G qt wB ob sb (l ++ txts (spellT qt) T.reverse) T l W) (hv : W.heap[sb]? = some (.cells #[v] 59 (0, 0))) (hon : On (Rest W sb v) W W1) (hsay : Says G (spellT qt) wB P M n) (hn : wts T + n ≤ 100000000)
    (h4' : W1.heap[sb]? = some (.cells #[v'] 59 (0, 0))) (hown : W1.ownsRow wB.heap.size 56 2 v' (T ++ P.reverse).length (pcC (T ++ P.reverse))) : SL G qt wB ob sb (l ++ (M ++ txts (spellT qt) T.reverse)) (T ++ P.reverse) l W1 := by
  obtain ⟨v0, h4, h5⟩ := h.todo
  rw [h4] at hv
  injection hv with hv
  injection hv with hv
  injection hv with hv
  injection hv with hv
  subst hv
  obtain ⟨p1, vb, h6, h7, h8⟩ := h.out
  have hsb := h.hsb
  have hsz := h.bel.size
  have hos : ob ≠ sb := fun e => by
    subst e
    rw [h7] at h4
    injection h4 with h4
    injection h4 with _ e2 _
    exact absurd e2 (by decide)
  have hA : ∀ k, k < wB.heap.size → Rest W sb v0 k := fun k hk => ⟨by omega, by omega, fun e => by have := (h5.lt k e).1; omega⟩
  have hrow : vb.ownBlock = none ∨ ∃ k, vb.ownBlock = some k ∧ Rest W sb v0 k := by
    cases hq : vb.ownBlock with
    | none => exact .inl rfl
    | some k =>
      have hk := (h8.lt k hq).2
      refine .inr ⟨k, rfl, hk, fun e => row_ne h8 h4 (by decide) (by rw [hq, e]), fun e => ?_⟩
      obtain ⟨_, ⟨rfl, _⟩ | ⟨g, cap, cur, rfl, _, hg, _⟩⟩ := h5
      · cases e
      · injection e with e
        subst e
        exact row_ne h8 hg (by decide) hq
  have htx : txts (spellT qt) P.reverse.reverse = M := by rw [List.reverse_reverse]; exact hsay.text
  refine ⟨h.bel.trans (hon.below hA hsz), h.hob, hsb, ⟨v', h4', hown⟩, ⟨p1, vb, h6, (hon.block ob ⟨blk_lt h7, hos, row_ne h5 h7 (by decide)⟩ (blk_lt h7)).trans h7, ?_⟩, fun q hq => ?_, ?_, h.short, ?_⟩
  · obtain ⟨hlen, hor⟩ := h8
    refine ⟨hlen, ?_⟩
    rcases hor with hor | ⟨g, cap, cur, rfl, k1, k2, k3⟩
    · exact .inl hor
    · refine .inr ⟨g, cap, cur, rfl, k1, ?_, k3⟩
      rcases hrow with e | ⟨k, e, hk⟩
      · cases e
      · injection e with e
        subst e
        exact (hon.block _ hk hk.1).trans k2
  · rcases List.mem_append.1 hq with hq | hq
    · exact h.val q hq
    · exact hsay.val q (by simpa using hq)
  · rw [List.reverse_append, txts_append, htx]
  · have : wts P.reverse = wts P := wts_rev P
    have := hsay.wt
    rw [wts_append]
    omega
/-- Behind a text that was written. -/
theorem SL.wrote {vb' : Value} {p0 vb : Value} {s : List UInt8} {W1 : World} (h : SL G qt wB ob sb (l ++ txts (spellT qt) T.reverse) T l W) (hv : W.heap[ob]? = some (.cells #[p0, vb] 54 (0, 0))) (hon : On (fun k => k ≠ ob ∧ vb.ownBlock ≠ some k) W W1)
    (h7' : W1.heap[ob]? = some (.cells #[.pointer (some ⟨ob, 0, none⟩), vb'] 54 (0, 0))) (hown : W1.ownsRow wB.heap.size 5 1 vb' (l ++ s).length (Lib.byteCells (l ++ s))) (hs : (l ++ s).length ≤ 1048576) : SL G qt wB ob sb (l ++ (s ++ txts (spellT qt) T.reverse)) T (l ++ s) W1 := by
  obtain ⟨v0, h4, h5⟩ := h.todo
  obtain ⟨p1, vb0, h6, h7, h8⟩ := h.out
  rw [h7] at hv
  injection hv with hv
  injection hv with hv
  injection hv with hv
  injection hv with hv1 hv
  injection hv with hv
  subst hv
  have hsb := h.hsb
  have hob := h.hob
  have hsz := h.bel.size
  have hos : ob ≠ sb := fun e => by
    subst e
    rw [h7] at h4
    injection h4 with h4
    injection h4 with _ e2 _
    exact absurd e2 (by decide)
  refine ⟨h.bel.trans (hon.below (fun k hk => ⟨by omega, fun e => by have := (h8.lt k e).1; omega⟩) hsz), hob, hsb, ⟨v0, (hon.block sb ⟨fun e => hos e.symm, row_ne h8 h4 (by decide)⟩ (blk_lt h4)).trans h4, ?_⟩, ⟨_, vb', .inr rfl, h7', hown⟩, h.val, by rw [List.append_assoc], hs, h.few⟩
  obtain ⟨hlen, hor⟩ := h5
  refine ⟨hlen, ?_⟩
  rcases hor with hor | ⟨g, cap, cur, rfl, k1, k2, k3⟩
  · exact .inl hor
  · refine .inr ⟨g, cap, cur, rfl, k1, ?_, k3⟩
    refine (hon.block g ⟨fun e => ?_, row_ne h8 k2 (by decide)⟩ (blk_lt k2)).trans k2
    subst e
    rw [h7] at k2
    injection k2 with k2
    injection k2 with _ e2 _
    exact absurd e2 (by decide)
end
end Go.Proofs.YtnnnfabpceapcaaDoor
