/- ScopeBlocks's walk. -/
import Derived.Test.YthdphldagfeepaaPlays
namespace Go.Proofs.Ythdphldagfeepaa
open Go.RowKit Go.Maps
set_option linter.unusedVariables false
set_option linter.unusedSimpArgs false

/-- Within the inner block: the program's scope is at least that deep, the outer names are as they were, and the document's scope stands. -/
def In (w : World) (p q M n : Nat) (g : Blocks) (L : List Ent) (n' : Nat) (wr : World) : Prop :=
  ∃ g', Sc wr w.heap.size p M n' g' ∧ (∀ i, i < n → ∀ s, g' i s = g i s) ∧ Rc wr w.heap.size q L n ∧ Below w.heap.size w wr

theorem In.below {w wr w' : World} {p q M n n' : Nat} {g : Blocks} {L : List Ent} (h : In w p q M n g L n' wr) (hb : Below wr.heap.size wr w') : In w p q M n g L n' w' := by
  obtain ⟨g', h1, h2, h3, h4⟩ := h
  exact ⟨g', h1.below hb, h2, h3.below hb, h4.trans (hb.mono h4.size)⟩
theorem In.drew {w wr : World} {p q M n n' : Nat} {g : Blocks} {L : List Ent} (h : In w p q M n g L n' wr) : In w p q M n g L n' wr.drew := h.below (Below.refl _ _).drew
theorem In.more {w wr : World} {p q M M' n n' : Nat} {g : Blocks} {L : List Ent} (h : In w p q M n g L n' wr) (hm : M ≤ M') : In w p q M' n g L n' wr := by
  obtain ⟨g', h1, h2⟩ := h
  exact ⟨g', h1.more hm, h2⟩

/-- The document's new scope. -/
abbrev refO : Obj := .cells #[.slice none 0 0, .int .i64 1] 33
theorem rc_new (w : World) : Rc (w.alloc refO) w.heap.size w.heap.size [] 1 := by
  refine ⟨.slice none 0 0, ?_, World.ownsRow_nil _ _ _ _, Nat.le_refl _⟩
  have := Deep.blk_alloc_new w refO
  simpa using this

/-- How deep the program's scope is behind an act. -/
theorem stN_in {d : Int} {n n' : Nat} (h : n + 1 ≤ n') (h2 : d = 2 → n + 2 ≤ n') : n + 1 ≤ stN d n' ∧ stN d n' ≤ n' + 1 := by
  unfold stN leaveN
  split
  · omega
  · split
    · have := h2 (by assumption)
      split <;> omega
    · omega
theorem stG_in {d : Int} {s : ByteArray} {x : Int} {n n' : Nat} {g : Blocks} (h : n + 1 ≤ n') (i : Nat) (hi : i < n) (t : ByteArray) : stG d s x n' g i t = g i t := by
  unfold stG
  split
  · unfold declG
    split
    · rfl
    · unfold putG
      rw [if_neg (by omega)]
  · split
    · unfold enterG
      rw [if_neg (by omega)]
    · rfl

/-- An act within, beside a new scope of the document. -/
theorem play_in {w wr W : World} {p q M n n' : Nat} {g : Blocks} {L : List Ent} (h : In w p q M n g L n' wr) (hW : W = (wr.alloc refO) ∨ W = (wr.alloc refO).drew) (a : Ac) (ha : a.ok) (hM : M ≤ 10000000000000) (hn : n + 1 ≤ n') (h2 : a.d = 2 → n + 2 ≤ n') :
    Calls Try.prog 8 #[.pointer (some ⟨p, 0, none⟩), .pointer (some ⟨wr.heap.size, 0, none⟩), .agg #[.int .i64 a.d, .string a.nm, .int .i64 a.x]] W fun e w' => ∃ b : Bool, e = .returned (.bool b) ∧ In w p q (M + 1) n g L (stN a.d n') w' := by
  obtain ⟨g', h1, hg, h3, h4⟩ := h
  have hb : Below wr.heap.size wr W := by
    rcases hW with rfl | rfl
    · exact box_below _ _
    · exact (box_below _ _).drew
  have hr : Rc W wr.heap.size wr.heap.size [] 1 := by
    rcases hW with rfl | rfl
    · exact rc_new wr
    · exact (rc_new wr).below (Below.refl _ _).drew
  refine (play8 (h1.below hb) hr a ha hM (by omega) (by omega) (by simp)).mono ?_
  rintro e w' ⟨b, rfl, _, hS, hR, hk⟩
  have kp : KP w.heap.size wr w' := KB.new hb hk
  exact ⟨b, rfl, _, hS, fun i hi s => (stG_in hn i hi s).trans (hg i hi s), h3.keepP kp, h4.trans (kp.below h4.size)⟩

theorem leave_in {w wr : World} {p q M n k : Nat} {g : Blocks} {L : List Ent} (h : In w p q M n g L (k + 2) wr) (hM : M ≤ 10000000000000) :
    Calls Try.prog 14 #[.pointer (some ⟨p, 0, none⟩)] wr fun e w' => ∃ c, e = .returned (.int .i64 c) ∧ In w p q M n g L (k + 1) w' := by
  obtain ⟨g', h1, hg, h3, h4⟩ := h
  refine (leave14' h1 hM).mono ?_
  rintro e w' ⟨rfl, hS, hk⟩
  refine ⟨_, rfl, g', ?_, hg, h3.keepP hk, h4.trans (hk.below h4.size)⟩
  have e : leaveN (k + 2) = k + 1 := by unfold leaveN; rw [if_neg (by omega)]; omega
  rw [e] at hS
  exact hS

theorem enter_in {w wr : World} {p q k n : Nat} {g : Blocks} {L : List Ent} (hS : Sc wr w.heap.size p (k + 1) n g) (hR : Rc wr w.heap.size q L n) (hb : Below w.heap.size w wr) (hM : k + 1 ≤ 10000000000000) :
    Calls Try.prog 13 #[.pointer (some ⟨p, 0, none⟩)] wr fun e w' => e = .returned (.tuple #[]) ∧ In w p q (k + 2) n g L (n + 1) w' := by
  refine (enter13' hS hM).mono ?_
  rintro e w' ⟨rfl, hS', hk⟩
  exact ⟨rfl, _, hS', fun i hi s => (by unfold enterG; rw [if_neg (by omega)]), hR.keepP hk, hb.trans (hk.below hb.size)⟩
theorem depth_in {w wr : World} {p q M n n' : Nat} {g : Blocks} {L : List Ent} (h : In w p q M n g L n' wr) : Calls Try.prog 9 #[.pointer (some ⟨p, 0, none⟩)] wr fun e w' => e = .returned (.int .i64 n') ∧ w' = wr := by
  obtain ⟨g', h1, hg, h3, h4⟩ := h
  exact depth9' h1
theorem finds_in {w wr : World} {p q M n : Nat} {g : Blocks} {L : List Ent} (h : In w p q M n g L n wr) (hr : Rel g n L) (hM : M ≤ 10000000000000) (hl : L.length * 32 ≤ 140737488351232) (s : ByteArray) (hs : s.size ≤ 140737488351232) :
    ∃ (a : Int) (b : Bool), (Calls Try.prog 10 #[.pointer (some ⟨p, 0, none⟩), .string s] wr fun e w' => e = .returned (.tuple #[.int .i64 a, .bool b]) ∧ w' = wr) ∧
      (Calls Try.prog 11 #[.pointer (some ⟨q, 0, none⟩), .string s] wr fun e w' => e = .returned (.tuple #[.int .i64 a, .bool b]) ∧ w' = wr) := by
  obtain ⟨g', h1, hg, h3, h4⟩ := h
  refine ⟨_, _, ?_, rfind11' h3 s hl⟩
  have := find10' h1 s hs hM
  rw [findG_congr (fun i hi => hg i hi s), rel_find hr] at this
  exact this
end Go.Proofs.Ythdphldagfeepaa
