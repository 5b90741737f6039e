/- spell: a tree's text. -/
import Derived.Test.YtnnnfabpceapcaaGreatDoorTextSt
import Derived.Test.YtnnnfabpceapcaaGreatDoorRevBuild
import Derived.Test.YtnnnfabpceapcaaGreatDoorShelf
import Derived.Deep.QuietTactic
import Derived.BigQuiet
import Derived.Test.YtnnnfabpceapcaaGreatDoorCheckW
import Derived.Test.YtnnnfabpceapcaaGreatDoorMay4
import Derived.Test.YtnnnfabpceapcaaGreatDoorSp2
import Derived.Test.YtnnnfabpceapcaaGreatDoorAsk
import Derived.Test.YtnnnfabpceapcaaGreatDoorKids3
import Derived.Test.YtnnnfabpceapcaaGreatDoorKids4
import Derived.Test.YtnnnfabpceapcaaGreatDoorOwn
namespace Go.Proofs.YtnnnfabpceapcaaGreatDoor
set_option linter.unusedSimpArgs false
open Go.RowKit
set_option linter.unusedVariables false

theorem least_of (Q : Nat → Prop) : ∀ n, Q n → ∃ m, Q m ∧ ∀ k, Q k → m ≤ k := fun n => by
  induction n using Nat.strongRecOn with
  | ind n ih =>
    intro h
    by_cases hx : ∃ k, k < n ∧ Q k
    · obtain ⟨k, hk, hq⟩ := hx
      exact ih k hk hq
    · exact ⟨n, h, fun k hk => Nat.le_of_not_lt fun hl => hx ⟨k, hl, hk⟩⟩
/-- The least number that a world allows. -/
theorem least_world (Q : Nat → World → Prop) : ∃ m : World → Nat, ∀ W, (∃ n, Q n W) → Q (m W) W ∧ ∀ k, Q k W → m W ≤ k := by
  have h : ∀ W, ∃ m, (∃ n, Q n W) → Q m W ∧ ∀ k, Q k W → m ≤ k := fun W => by
    by_cases hx : ∃ n, Q n W
    · obtain ⟨n, hn⟩ := hx
      obtain ⟨m, h1, h2⟩ := least_of (fun k => Q k W) n hn
      exact ⟨m, fun _ => ⟨h1, h2⟩⟩
    · exact ⟨0, fun h => absurd h hx⟩
  exact ⟨fun W => Classical.choose (h W), fun W => Classical.choose_spec (h W)⟩

theorem row_base {w : World} {B e size n : Nat} {v : Value} {xs : List Value} (h : w.ownsRow B e size v n xs) : w.ownsRow 0 e size v n xs := ⟨h.1, h.2.imp id (fun ⟨g, cap, cur, a, _, r⟩ => ⟨g, cap, cur, a, Nat.zero_le _, r⟩)⟩
theorem wts_rev : ∀ (P : List Pc), wts P.reverse = wts P
  | [] => rfl
  | p :: r => by
    rw [List.reverse_cons, wts_append, wts_rev r]
    show wts r + (wtP p + 0) = wtP p + wts r
    omega
/-- A node is split. -/
def SplitIs (w0 : World) (G : NdH → List Tr → Bool) (qt : List UInt8 → List UInt8) : Prop := ∀ (A : Nat → Prop) (sb : Nat) (T : List Pc) (w : World) (b o : Nat) (x : NdH) (kv : Value) (n cb : Nat) (ks : List Tr), Job G A sb T w0 w b o x kv n cb ks → G x ks = true → Calls Tryz.prog 32 #[.pointer (some ⟨sb, 0, none⟩), .pointer (some ⟨b, o, none⟩)] w (Spelt G qt A sb T w0 w x ks)

/-- In the midst of spelling. -/
structure SL (G : NdH → List Tr → Bool) (qt : List UInt8 → List UInt8) (wB : World) (ob sb : Nat) (L : List UInt8) (T : List Pc) (l : List UInt8) (W : World) : Prop where
  bel : Below wB.heap.size wB W
  hob : wB.heap.size ≤ ob
  hsb : wB.heap.size ≤ sb
  todo : ∃ v, W.heap[sb]? = some (.cells #[v] 59 (0, 0)) ∧ W.ownsRow wB.heap.size 56 2 v T.length (pcC T)
  out : ∃ p vb, (p = .pointer none ∨ p = .pointer (some ⟨ob, 0, none⟩)) ∧ W.heap[ob]? = some (.cells #[p, vb] 54 (0, 0)) ∧ W.ownsRow wB.heap.size 5 1 vb l.length (Lib.byteCells l)
  val : ∀ p ∈ T, Val G wB p
  text : l ++ txts (spellT qt) T.reverse = L
  short : l.length ≤ 1048576
  few : wts T ≤ 100000000
section
variable {G : NdH → List Tr → Bool} {qt : List UInt8 → List UInt8} {wB W W' : World} {ob sb : Nat} {L l : List UInt8} {T : List Pc}
/-- A new block changes nothing. -/
theorem SL.next (h : SL G qt wB ob sb L T l W) (hb : Below W.heap.size W W') : SL G qt wB ob sb L T l W' := by
  obtain ⟨h1, h2, h3, ⟨v, h4, h5⟩, ⟨p, vb, h6, h7, h8⟩, h9, h10, h11, h12⟩ := h
  have k : ∀ {e s : Nat} {v : Value} {n : Nat} {xs : List Value}, W.ownsRow wB.heap.size e s v n xs → W'.ownsRow wB.heap.size e s v n xs := fun {e s v n xs} hr => hr.kept (row := none) ⟨hb.os, hb.tape, hb.output, hb.size, fun k hk _ => hb.block k hk⟩ (by cases hq : v.ownBlock with | none => exact .inl rfl | some k => exact .inr (by simp))
  exact ⟨h1.trans (hb.mono h1.size), h2, h3, ⟨v, (hb.block _ (blk_lt h4)).trans h4, k h5⟩, ⟨p, vb, h6, (hb.block _ (blk_lt h7)).trans h7, k h8⟩, h9, h10, h11, h12⟩
/-- The last piece, where it lies. -/
theorem SL.last {p : Pc} (h : SL G qt wB ob sb L (T ++ [p]) l W) : ∃ g cap, W.heap[sb]? = some (.cells #[.slice (some ⟨g, 0, none⟩) (T.length + 1) cap] 59 (0, 0)) ∧ g < W.heap.size ∧ T.length + 1 ≤ cap ∧ cap ≤ maxLen ∧ W.cell? ⟨g, T.length * 2, none⟩ = some (.string p.text) ∧ W.cell? ⟨g, T.length * 2 + 1, none⟩ = some (pcP p) ∧
    W.ownsRow wB.heap.size 56 2 (.slice (some ⟨g, 0, none⟩) T.length cap) T.length (pcC T) ∧ g ≠ sb := by
  obtain ⟨v, h4, h5⟩ := h.todo
  rw [List.length_append, List.length_singleton] at h5
  have hne := row_ne h5 h4 (by decide)
  obtain ⟨hlen, ⟨_, h⟩ | ⟨g, cap, cur, rfl, hg, hh, hn, hm, hs, ht⟩⟩ := h5
  · omega
  have hl := pcC_length T
  have hown : W.ownsRow wB.heap.size 56 2 (.slice (some ⟨g, 0, none⟩) (T.length + 1) cap) (T.length + 1) (pcC (T ++ [p])) := ⟨hlen, .inr ⟨g, cap, cur, rfl, hg, hh, hn, hm, hs, ht⟩⟩
  refine ⟨g, cap, h4, blk_lt hh, hn, hm, ?_, ?_, ⟨hl, .inr ⟨g, cap, cur, rfl, hg, hh, by omega, hm, hs, ?_⟩⟩, fun e => hne (by rw [e]; rfl)⟩
  · rw [hown.cellAt _ (by omega), pcC_get0 _ T.length (by simp)]
    simp
  · rw [hown.cellAt _ (by omega), pcC_get1 _ T.length (by simp)]
    simp
  · rw [pcC_append] at ht
    have := congrArg (List.take (T.length * 2)) ht
    rw [List.take_take, Nat.min_eq_left (by omega), List.take_append_of_le_length (by omega), List.take_of_length_le (l := pcC T) (by omega)] at this
    exact this
/-- The last piece is taken, and a new block made. -/
theorem SL.popped {p : Pc} (h : SL G qt wB ob sb L (T ++ [p]) l W) {g cap : Nat} (h4 : W.heap[sb]? = some (.cells #[.slice (some ⟨g, 0, none⟩) (T.length + 1) cap] 59 (0, 0))) (hown : W.ownsRow wB.heap.size 56 2 (.slice (some ⟨g, 0, none⟩) T.length cap) T.length (pcC T)) (hgs : g ≠ sb) (o : Obj) :
    SL G qt wB ob sb (l ++ txts (spellT qt) T.reverse) T l ((W.setCell ⟨sb, 0, none⟩ (.slice (some ⟨g, 0, none⟩) T.length cap)).alloc o) := by
  have hbel := h.bel
  have hsb := h.hsb
  obtain ⟨p1, vb, h6, h7, h8⟩ := h.out
  have hbs := row_ne h8 h4 (by decide)
  have hos : ob ≠ sb := fun e => by
    subst e
    rw [h7] at h4
    injection h4 with h4
    injection h4 with _ e2 _
    exact absurd e2 (by decide)
  have hwt := h.few
  rw [wts_append] at hwt
  have s0 : SL G qt wB ob sb (l ++ txts (spellT qt) T.reverse) T l (W.setCell ⟨sb, 0, none⟩ (.slice (some ⟨g, 0, none⟩) T.length cap)) := by
    refine ⟨hbel.setCell (p := ⟨sb, 0, none⟩) hsb _, h.hob, hsb, ⟨_, heap_setCell_same W sb 0 _ 59 _ h4, ?_⟩, ⟨p1, vb, h6, ?_, ?_⟩, fun q hq => h.val q (by simp [hq]), rfl, h.short, by omega⟩
    · exact hown.kept (row := some sb) ⟨rfl, rfl, rfl, by rw [World.size_setCell]; omega, fun k _ hk => Below.heap_setCell _ _ _ _ (fun e => hk (by rw [e]))⟩ (.inr (fun e => hgs (Option.some.inj e)))
    · rw [Below.heap_setCell _ _ _ _ hos]
      exact h7
    · exact h8.kept (row := some sb) ⟨rfl, rfl, rfl, by rw [World.size_setCell]; omega, fun k _ hk => Below.heap_setCell _ _ _ _ (fun e => hk (by rw [e]))⟩ (.inr hbs)
  exact s0.next (below1 _ _)
theorem SL.textOf {p : Pc} (h : SL G qt wB ob sb L (T ++ [p]) l W) : L = l ++ (pcL (spellT qt) p ++ txts (spellT qt) T.reverse) := by
  rw [← h.text, List.reverse_append]
  rfl

/-- The blocks that a split lets be. -/
def Rest (W : World) (sb : Nat) (v : Value) (k : Nat) : Prop := k < W.heap.size ∧ k ≠ sb ∧ v.ownBlock ≠ some k
theorem SL.sp (h : SL G qt wB ob sb L T l W) : ∃ v, W.heap[sb]? = some (.cells #[v] 59 (0, 0)) ∧ Sp (Rest W sb v) sb T W ∧ (∀ k, k < wB.heap.size → Rest W sb v k) ∧ Rest W sb v ob ∧ (∀ b, v.ownBlock = some b → wB.heap.size ≤ b) := by
  obtain ⟨v, h4, h5⟩ := h.todo
  obtain ⟨p1, vb, h6, h7, h8⟩ := h.out
  have hsb := h.hsb
  have hsz := h.bel.size
  refine ⟨v, h4, ⟨fun k hk => hk.1, fun hk => hk.2.1 rfl, blk_lt h4, v, h4, row_base h5, fun b hb => ⟨fun e => row_ne h5 h4 (by decide) (by rw [hb, e]), fun hk => hk.2.2 hb⟩⟩, fun k hk => ⟨by omega, by omega, fun e => ?_⟩, ⟨blk_lt h7, fun e => ?_, row_ne h5 h7 (by decide)⟩, fun b hb => (h5.lt b hb).1⟩
  · have := (h5.lt k e).1
    omega
  · subst e
    rw [h7] at h4
    injection h4 with h4
    injection h4 with _ e2 _
    exact absurd e2 (by decide)
/-- Behind a split, its pieces the other way round. -/
theorem SL.after {v v' : Value} {P : List Pc} {M : List UInt8} {n : Nat} {W1 : World} (h : SL G qt wB ob sb (l ++ txts (spellT qt) T.reverse) T l W) (hv : W.heap[sb]? = some (.cells #[v] 59 (0, 0))) (hon : On (Rest W sb v) W W1) (hsay : Says G (spellT qt) wB P M n) (hn : wts T + n ≤ 100000000)
    (h4' : W1.heap[sb]? = some (.cells #[v'] 59 (0, 0))) (hown : W1.ownsRow wB.heap.size 56 2 v' (T ++ P.reverse).length (pcC (T ++ P.reverse))) : SL G qt wB ob sb (l ++ (M ++ txts (spellT qt) T.reverse)) (T ++ P.reverse) l W1 := by
  obtain ⟨v0, h4, h5⟩ := h.todo
  rw [h4] at hv
  injection hv with hv
  injection hv with hv
  injection hv with hv
  injection hv with hv
  subst hv
  obtain ⟨p1, vb, h6, h7, h8⟩ := h.out
  have hsb := h.hsb
  have hsz := h.bel.size
  have hos : ob ≠ sb := fun e => by
    subst e
    rw [h7] at h4
    injection h4 with h4
    injection h4 with _ e2 _
    exact absurd e2 (by decide)
  have hA : ∀ k, k < wB.heap.size → Rest W sb v0 k := fun k hk => ⟨by omega, by omega, fun e => by have := (h5.lt k e).1; omega⟩
  have hrow : vb.ownBlock = none ∨ ∃ k, vb.ownBlock = some k ∧ Rest W sb v0 k := by
    cases hq : vb.ownBlock with
    | none => exact .inl rfl
    | some k =>
      have hk := (h8.lt k hq).2
      refine .inr ⟨k, rfl, hk, fun e => row_ne h8 h4 (by decide) (by rw [hq, e]), fun e => ?_⟩
      obtain ⟨_, ⟨rfl, _⟩ | ⟨g, cap, cur, rfl, _, hg, _⟩⟩ := h5
      · cases e
      · injection e with e
        subst e
        exact row_ne h8 hg (by decide) hq
  have htx : txts (spellT qt) P.reverse.reverse = M := by rw [List.reverse_reverse]; exact hsay.text
  refine ⟨h.bel.trans (hon.below hA hsz), h.hob, hsb, ⟨v', h4', hown⟩, ⟨p1, vb, h6, (hon.block ob ⟨blk_lt h7, hos, row_ne h5 h7 (by decide)⟩ (blk_lt h7)).trans h7, ?_⟩, fun q hq => ?_, ?_, h.short, ?_⟩
  · obtain ⟨hlen, hor⟩ := h8
    refine ⟨hlen, ?_⟩
    rcases hor with hor | ⟨g, cap, cur, rfl, k1, k2, k3⟩
    · exact .inl hor
    · refine .inr ⟨g, cap, cur, rfl, k1, ?_, k3⟩
      rcases hrow with e | ⟨k, e, hk⟩
      · cases e
      · injection e with e
        subst e
        exact (hon.block _ hk hk.1).trans k2
  · rcases List.mem_append.1 hq with hq | hq
    · exact h.val q hq
    · exact hsay.val q (by simpa using hq)
  · rw [List.reverse_append, txts_append, htx]
  · have : wts P.reverse = wts P := wts_rev P
    have := hsay.wt
    rw [wts_append]
    omega
/-- Behind a text that was written. -/
theorem SL.wrote {vb' : Value} {p0 vb : Value} {s : List UInt8} {W1 : World} (h : SL G qt wB ob sb (l ++ txts (spellT qt) T.reverse) T l W) (hv : W.heap[ob]? = some (.cells #[p0, vb] 54 (0, 0))) (hon : On (fun k => k ≠ ob ∧ vb.ownBlock ≠ some k) W W1)
    (h7' : W1.heap[ob]? = some (.cells #[.pointer (some ⟨ob, 0, none⟩), vb'] 54 (0, 0))) (hown : W1.ownsRow wB.heap.size 5 1 vb' (l ++ s).length (Lib.byteCells (l ++ s))) (hs : (l ++ s).length ≤ 1048576) : SL G qt wB ob sb (l ++ (s ++ txts (spellT qt) T.reverse)) T (l ++ s) W1 := by
  obtain ⟨v0, h4, h5⟩ := h.todo
  obtain ⟨p1, vb0, h6, h7, h8⟩ := h.out
  rw [h7] at hv
  injection hv with hv
  injection hv with hv
  injection hv with hv
  injection hv with hv1 hv
  injection hv with hv
  subst hv
  have hsb := h.hsb
  have hob := h.hob
  have hsz := h.bel.size
  have hos : ob ≠ sb := fun e => by
    subst e
    rw [h7] at h4
    injection h4 with h4
    injection h4 with _ e2 _
    exact absurd e2 (by decide)
  refine ⟨h.bel.trans (hon.below (fun k hk => ⟨by omega, fun e => by have := (h8.lt k e).1; omega⟩) hsz), hob, hsb, ⟨v0, (hon.block sb ⟨fun e => hos e.symm, row_ne h8 h4 (by decide)⟩ (blk_lt h4)).trans h4, ?_⟩, ⟨_, vb', .inr rfl, h7', hown⟩, h.val, by rw [List.append_assoc], hs, h.few⟩
  obtain ⟨hlen, hor⟩ := h5
  refine ⟨hlen, ?_⟩
  rcases hor with hor | ⟨g, cap, cur, rfl, k1, k2, k3⟩
  · exact .inl hor
  · refine .inr ⟨g, cap, cur, rfl, k1, ?_, k3⟩
    refine (hon.block g ⟨fun e => ?_, row_ne h8 k2 (by decide)⟩ (blk_lt k2)).trans k2
    subst e
    rw [h7] at k2
    injection k2 with k2
    injection k2 with _ e2 _
    exact absurd e2 (by decide)
end
end Go.Proofs.YtnnnfabpceapcaaGreatDoor

namespace Go.Proofs.YtnnnfabpceapcaaGreatDoor
set_option linter.unusedSimpArgs false
open Go.RowKit
set_option linter.unusedVariables false

theorem below_drewN' (w : World) (n : Nat) : Below w.heap.size w (w.drewN n) := ⟨rfl, rfl, rfl, Nat.le_refl _, fun _ _ => rfl⟩
theorem reverse27_nil {ao : Option Addr} {c : Nat} {w : World} : Calls Tryz.prog 33 #[.slice ao 0 c] w fun e w' => e = .returned (.tuple #[]) ∧ w' = w := by
  go_enter Tryz.func33, Tryz.ntmps33
  go_wp2
  go_loopw [2, 3] (fun vi vj W => vi = .int .i64 0 ∧ vj = .int .i64 (-1) ∧ W = w) (fun _ _ _ => 0)
  case atStart => exact ⟨rfl, rfl, rfl⟩
  case round =>
    obtain ⟨rfl, rfl, rfl⟩ := hrel
    go_wp2
    go_end0
    exact ⟨rfl, rfl⟩

theorem Sp.base {W1 w2 : World} {sb H : Nat} {v : Value} {T' : List Pc} (h : Sp (Rest W1 sb v) sb T' w2) (hv : ∀ b, v.ownBlock = some b → H ≤ b) (hH : H ≤ W1.heap.size) :
    ∃ v', w2.heap[sb]? = some (.cells #[v'] 59 (0, 0)) ∧ w2.ownsRow H 56 2 v' T'.length (pcC T') ∧ ∀ b, v'.ownBlock = some b → b ≠ sb ∧ ¬ Rest W1 sb v b := by
  obtain ⟨h1, h2, h3, v', h4, h5, h6⟩ := h
  refine ⟨v', h4, ⟨h5.1, ?_⟩, h6⟩
  rcases h5.2 with h | ⟨g, cap, cur, rfl, _, r⟩
  · exact .inl h
  · refine .inr ⟨g, cap, cur, rfl, ?_, r⟩
    obtain ⟨k1, k2⟩ := h6 g rfl
    by_cases hg : g < W1.heap.size
    · by_cases hq : v.ownBlock = some g
      · exact hv g hq
      · exact absurd ⟨hg, k1, hq⟩ k2
    · omega
/-- What spell tells. -/
def spellV (L : List UInt8) : Value := if L.length ≤ 1048576 then .tuple #[.string ⟨L.toArray⟩, .bool true] else .tuple #[.string ⟨#[]⟩, .bool false]

section
variable {G : NdH → List Tr → Bool} {qt : List UInt8 → List UInt8}
theorem spell_start {w : World} {b o : Nat} {x : NdH} {kv : Value} {n cb : Nat} {ks : List Tr} {L : List UInt8} (hat : NdAt w b o x kv) (hb : b < w.heap.size) (hK : Ks cb n w kv ks) (hG : allT G (Tr.node x ks) = true) (hz : szT (Tr.node x ks) ≤ 262144) (hL : L = spellT qt (Tr.node x ks)) :
    SL G qt w w.heap.size (w.heap.size + 1 + 1) L [nod b o (Tr.node x ks)] [] (((w.alloc (.cells #[.pointer none, .slice none 0 0] 54)).alloc (.cells #[.string ⟨#[]⟩, .pointer (some ⟨b, o, none⟩)] 56)).alloc (.cells #[.slice (some ⟨w.heap.size + 1, 0, none⟩) 1 1] 59)) := by
  have hwt : wtT (Tr.node x ks) ≤ 6029312 := by unfold wtT; omega
  obtain ⟨W1, hW1⟩ : ∃ W1, W1 = w.alloc (.cells #[.pointer none, .slice none 0 0] 54) := ⟨_, rfl⟩
  obtain ⟨W2, hW2⟩ : ∃ W2, W2 = W1.alloc (.cells #[.string ⟨#[]⟩, .pointer (some ⟨b, o, none⟩)] 56) := ⟨_, rfl⟩
  have e1 : W1.heap.size = w.heap.size + 1 := by rw [hW1]; simp
  have e2 : W2.heap.size = w.heap.size + 1 + 1 := by rw [hW2]; simp [e1]
  have b1 : Below w.heap.size w W1 := by rw [hW1]; exact below1 _ _
  have b2 : Below w.heap.size w W2 := by rw [hW2]; exact b1.alloc (by omega) _
  have h54 : W1.heap[w.heap.size]? = some (.cells #[.pointer none, .slice none 0 0] 54 (0, 0)) := by rw [hW1]; exact heap_alloc_new _ _
  have h54b : W2.heap[w.heap.size]? = some (.cells #[.pointer none, .slice none 0 0] 54 (0, 0)) := by rw [hW2, (below1 W1 _).block _ (by omega)]; exact h54
  have hrow : W2.ownsRow w.heap.size 56 2 (.slice (some ⟨w.heap.size + 1, 0, none⟩) 1 1) 1 (pcC [nod b o (Tr.node x ks)]) := by
    have := World.ownsRow_lit (base := w.heap.size) (e := 56) (size := 2) W1 #[.string ⟨#[]⟩, .pointer (some ⟨b, o, none⟩)] 1 (by omega) (by unfold maxLen; omega) rfl
    rw [← hW2, e1] at this
    exact this
  rw [← hW1, ← hW2]
  refine ⟨b2.alloc (by omega) _, Nat.le_refl _, by omega, ⟨_, ?_, hrow.alloc _⟩, ⟨_, _, .inl rfl, ((below1 W2 _).block _ (by omega)).trans h54b, World.ownsRow_nil _ _ _ _⟩, fun p hp => ?_, ?_, Nat.zero_le _, ?_⟩
  · rw [← e2]
    exact heap_alloc_new _ _
  · simp at hp
    subst hp
    exact .inr ⟨b, o, x, kv, n, ks, cb, rfl, rfl, hat, hb, hK, hG⟩
  · rw [hL]
    show [] ++ (spellT qt (Tr.node x ks) ++ []) = _
    simp
  · show wtT (Tr.node x ks) + 0 ≤ _
    omega

set_option maxHeartbeats 8000000 in
theorem spell23 {w : World} {b o : Nat} {x : NdH} {kv : Value} {n cb : Nat} {ks : List Tr} (hS : SplitIs w G qt) (hat : NdAt w b o x kv) (hb : b < w.heap.size) (hK : Ks cb n w kv ks) (hG : allT G (Tr.node x ks) = true) (hz : szT (Tr.node x ks) ≤ 262144) :
    Calls Tryz.prog 20 #[.pointer (some ⟨b, o, none⟩)] w fun e w' => e = .returned (spellV (spellT qt (Tr.node x ks))) ∧ Below w.heap.size w w' := by
  obtain ⟨L, hL⟩ : ∃ L, L = spellT qt (Tr.node x ks) := ⟨_, rfl⟩
  obtain ⟨m, hm⟩ := least_world (fun n W => ∃ T l, SL G qt w w.heap.size (w.heap.size + 1 + 1) L T l W ∧ wts T = n)
  have HM := hid' hm
  have HS := hid' hS
  have H0 := hid' (spell_start (qt := qt) hat hb hK hG hz hL)
  rw [← hL]
  clear hm hS hat hb hK hG hz hL
  obtain ⟨ob, hob⟩ : ∃ ob, ob = w.heap.size := ⟨_, rfl⟩
  go_enter Tryz.func20, Tryz.ntmps20
  go_wp2
  obtain ⟨W0, hW0⟩ : ∃ W0, W0 = (((w.alloc (.cells #[.pointer none, .slice none 0 0] 54)).alloc (.cells #[.string ⟨#[]⟩, .pointer (some ⟨b, o, none⟩)] 56)).alloc (.cells #[.slice (some ⟨w.heap.size + 1, 0, none⟩) 1 1] 59)) := ⟨_, rfl⟩
  rw [← hW0] at H0 ⊢
  clear hW0
  obtain ⟨sb, hsb⟩ : ∃ sb, sb = w.heap.size + 1 + 1 := ⟨_, rfl⟩
  rw [← hsb] at H0 HM ⊢
  rw [← hob] at H0 HM ⊢
  clear hsb hob
  go_loopw [6] (fun _ W => ∃ n, ∃ T l, SL G qt w ob sb L T l W ∧ wts T = n) (fun _ W => m W)
  case atStart => exact ⟨_, _, _, H0.out, rfl⟩
  case round =>
    obtain ⟨T, l, hSL, hwm⟩ := (HM.out wr hrel).1
    have HSL := hid' hSL
    have HWM := hid' hwm
    clear hrel H0 hSL hwm
    rcases List.eq_nil_or_concat T with rfl | ⟨T, p, rfl⟩
    · obtain ⟨v, h4, h5⟩ := HSL.out.todo
      obtain ⟨p1, vb, h6, h7, h8⟩ := HSL.out.out
      have c0 : wr.cell? ⟨sb, 0, none⟩ = some v := by rw [Lib.cell_of_heap h4]; rfl
      have hlt := blk_lt h4
      obtain ⟨ao, cap, rfl⟩ : ∃ ao cap, v = .slice ao 0 cap := by
        obtain ⟨_, ⟨e, _⟩ | ⟨g, cap, cur, e, _⟩⟩ := h5
        · exact ⟨_, _, e⟩
        · exact ⟨_, _, e⟩
      have hI : Lib.IsBuilder 54 5 w.heap.size ob (Lib.byteCells l) wr := by
        have hne := row_ne h8 h7 (by decide)
        rw [← Lib.byteCells_length l] at h8
        rcases h6 with rfl | rfl
        · exact .inl ⟨HSL.out.hob, vb, h7, h8, hne⟩
        · exact .inr ⟨HSL.out.hob, vb, h7, h8, hne⟩
      have HST := hid' (Tryz.Builder_String_any w.heap.size ob l wr hI HSL.out.bel.size)
      have HV : Hid (spellV L = .tuple #[.string ⟨l.toArray⟩, .bool true]) := by
        have := HSL.out.text
        show _ = _
        rw [← this]
        show spellV (l ++ []) = _
        rw [List.append_nil]
        unfold spellV
        rw [if_pos HSL.out.short]
      have HBL := hid' HSL.out.bel
      clear h4 h5 h6 h7 h8 hI HSL HWM
      go_wp2_with (go_at_call 36; (with_reducible refine HST.out.mono ?_); rintro e w1 ⟨rfl, hb1⟩; replace hb1 := hid' hb1)
      rw [HV.out]
      refine bodyPost_ret (v := .tuple #[.string ⟨l.toArray⟩, .bool true]) (by simp [results, Tryz.results20, go_sem]) rfl ⟨rfl, ?_⟩
      exact HBL.out.trans hb1.out
    · rw [List.concat_eq_append] at HSL HWM
      obtain ⟨g, cap, h4, hgl, hcap, hmx, d0, d1, hown, hgs⟩ := HSL.out.last
      have c0 : wr.cell? ⟨sb, 0, none⟩ = some (.slice (some ⟨g, 0, none⟩) (T.length + 1) cap) := by rw [Lib.cell_of_heap h4]; rfl
      have f0 : wr.frozen? ⟨sb, 0, none⟩ = false := Lib.frozen_of_heap h4 0
      have hlt := blk_lt h4
      have hfew := HSL.out.few
      have hTl := len_le_wts (T ++ [p])
      rw [List.length_append, List.length_singleton] at hTl
      have hTb : T.length ≤ 100000000 := by omega
      clear hTl
      have HP : Hid (∀ o, SL G qt w ob sb (l ++ txts (spellT qt) T.reverse) T l ((wr.setCell ⟨sb, 0, none⟩ (.slice (some ⟨g, 0, none⟩) T.length cap)).alloc o)) := fun o => HSL.out.popped h4 hown hgs o
      have HT := hid' HSL.out.textOf
      have hval := HSL.out.val p (by simp)
      have HBL := hid' HSL.out.bel
      have HSH := HSL.out.short
      rw [wts_append] at HWM hfew
      have HFEW := hid' hfew
      clear HSL h4 hown hgs hfew
      rcases hval with hp | ⟨b', o', x', kv', n', ks', cb', hp, ht, hat', hb', hK', hG'⟩
      · have hpp : pcP p = .pointer none := by unfold pcP; rw [hp]; rfl
        have hpl : pcL (spellT qt) p = lst p.text := by unfold pcL; rw [hp]
        rw [hpp] at d1
        rw [hpl] at HT
        have hw1 : wtP p = 1 := by unfold wtP; rw [hp]
        have hwp : wts [p] = 1 := by show wtP p + 0 = 1; omega
        rw [hwp] at HWM HFEW
        generalize p.text = s at *
        clear hp hpp hpl hw1 hwp
        have hsl := hid' (lst_len s)
        go_wp2
        obtain ⟨W1, hW1⟩ : ∃ W1, W1 = ((wr.setCell ⟨sb, 0, none⟩ (.slice (some ⟨g, 0, none⟩) T.length cap)).alloc (.cells #[.string s, .pointer none] 56)) := ⟨_, rfl⟩
        have e0 : W1.cell? ⟨wr.heap.size, 0, none⟩ = some (.string s) := by rw [hW1]; simp [go_sem]
        have el : wr.heap.size < W1.heap.size := by rw [hW1]; simp
        have HP1 : Hid (SL G qt w ob sb (l ++ txts (spellT qt) T.reverse) T l W1) := by rw [hW1]; exact HP.out _
        rw [← hW1]
        clear hW1 HP c0 f0 d0 d1
        obtain ⟨p1, vb, h6, h7, h8⟩ := HP1.out.out
        have hI : Lib.IsBuilder 54 5 w.heap.size ob (Lib.byteCells l) W1 := by
          have hne := row_ne h8 h7 (by decide)
          rw [← Lib.byteCells_length l] at h8
          rcases h6 with rfl | rfl
          · exact .inl ⟨HP1.out.hob, vb, h7, h8, hne⟩
          · exact .inr ⟨HP1.out.hob, vb, h7, h8, hne⟩
        have HLN : Hid (∀ k, Calls Tryz.prog 34 #[.pointer (some ⟨ob, 0, none⟩)] (W1.drewN k) fun e w' => e = .returned (.int .i64 (l.length : Int)) ∧ w' = W1.drewN k) := fun k => by
          have := Tryz.Builder_Len w.heap.size ob (Lib.byteCells l) (W1.drewN k) hI
          rw [Lib.byteCells_length] at this
          exact this
        have HWR : Hid (∀ k, l.length + s.size ≤ 1099511627776 → Calls Tryz.prog 35 #[.pointer (some ⟨ob, 0, none⟩), .string s] (W1.drewN k) fun e w' => e = .returned (.tuple #[.int .i64 (s.size : Int), .nilIface]) ∧ (∃ vb', w'.heap[ob]? = some (.cells #[.pointer (some ⟨ob, 0, none⟩), vb'] 54 (0, 0)) ∧ w'.ownsRow w.heap.size 5 1 vb' (l ++ lst s).length (Lib.byteCells (l ++ lst s))) ∧ On (fun k => k ≠ ob ∧ vb.ownBlock ≠ some k) (W1.drewN k) w') := fun k hk => writeString29 (w := W1.drewN k) s h6 h7 h8 hk HP1.out.bel.size
        have HV7 := hid' h7
        clear hI h6 h7 h8
        by_cases hfit : 1048576 < l.length + s.size
        · have HV : Hid (spellV L = .tuple #[.string ⟨#[]⟩, .bool false]) := by
            show _ = _
            unfold spellV
            rw [if_neg]
            rw [HT.out, List.length_append, List.length_append, hsl.out]
            omega
          have HB1 : Hid (∀ k, Below w.heap.size w (W1.drewN k)) := fun k => HP1.out.bel.trans ((below_drewN' W1 k).mono HP1.out.bel.size)
          have hgt : (1048576 : Int) - (l.length : Int) < (s.size : Int) := by omega
          go_quiet (exact Calls.quiet_of_same (HLN.out _))
          go_wp2
          rw [HV.out]
          exact bodyPost_ret (v := .tuple #[.string ⟨#[]⟩, .bool false]) (by simp [results, Tryz.results20, go_sem]) rfl ⟨rfl, HB1.out _⟩
        · have hgt : ¬ (1048576 : Int) - (l.length : Int) < (s.size : Int) := by omega
          go_quiet (exact Calls.quiet_of_same (HLN.out _))
          go_wp2_with (go_at_call 35; refine (HWR.out _ (by omega)).mono ?_; rintro e w2 ⟨rfl, ⟨vb', k1, k2⟩, k3⟩; replace k1 := hid' k1; replace k2 := hid' k2; replace k3 := hid' k3)
          have HN := SL.wrote (HP1.out.next (below_drewN' W1 _)) HV7.out k3.out k1.out k2.out (by rw [List.length_append, hsl.out]; omega)
          rw [← HT.out] at HN
          have hd := (HM.out w2 ⟨_, _, _, HN, rfl⟩).2 _ ⟨_, _, HN, rfl⟩
          have := HWM.out
          exact ⟨⟨_, _, _, HN, rfl⟩, by omega⟩
      · have hpp : pcP p = .pointer (some ⟨b', o', none⟩) := by unfold pcP; rw [hp]; rfl
        have hpl : pcL (spellT qt) p = spellN qt x' ks' (ks'.map (spellT qt)) := by unfold pcL; rw [hp, ht]; exact spellT_node qt x' ks'
        have hw1 : wtP p = 20 + 23 * szL ks' := by unfold wtP; rw [hp, ht]; exact wtT_node x' ks'
        have hwp : wts [p] = 20 + 23 * szL ks' := by show wtP p + 0 = _; omega
        rw [hpp] at d1
        rw [hpl] at HT
        rw [hwp] at HWM HFEW
        rw [allT_node, Bool.and_eq_true] at hG'
        have hTs := len_le_wts T
        generalize p.text = s at *
        clear hp hpp hpl hw1 hwp ht
        obtain ⟨W1, hW1⟩ : ∃ W1, W1 = ((wr.setCell ⟨sb, 0, none⟩ (.slice (some ⟨g, 0, none⟩) T.length cap)).alloc (.cells #[.string s, .pointer (some ⟨b', o', none⟩)] 56)) := ⟨_, rfl⟩
        have HP1 : Hid (SL G qt w ob sb (l ++ txts (spellT qt) T.reverse) T l W1) := by rw [hW1]; exact HP.out _
        obtain ⟨v, hv4, hSp, hA, hob, hvb⟩ := HP1.out.sp
        have J : Job G (Rest W1 sb v) sb T w W1 b' o' x' kv' n' cb' ks' := ⟨HP1.out.bel, hA, hSp, hat', hb', hK', hG'.2, by have := HFEW.out; omega⟩
        have HSPL := hid' (HS.out _ _ _ _ _ _ _ _ _ _ _ J hG'.1)
        have HV4 := hid' hv4
        have HVB := hid' hvb
        have hbl : w.heap.size ≤ W1.heap.size := HP1.out.bel.size
        clear hv4 hSp hA hob hvb J hat' hb' hK' hG' hTs
        rw [hW1] at HSPL
        go_wp2_with (first
          | (go_at_call 32; refine HSPL.out.mono ?_; rintro e w2 ⟨rfl, P, q1, q2, q3⟩; replace q1 := hid' q1; replace q2 := hid' q2; replace q3 := hid' q3; rw [← hW1] at q1 q2; clear hW1 HP c0 f0 d0 d1; obtain ⟨v', r1, r2, r3⟩ := q1.out.base HVB.out hbl; have hPl := len_le_wts P; have hPw := q3.out.wt; have hff := HFEW.out; have hlt2 := blk_lt r1; have c2 : w2.cell? ⟨sb, 0, none⟩ = some v' := by { rw [Lib.cell_of_heap r1]; rfl }; replace r1 := hid' r1; replace r2 := hid' r2; replace r3 := hid' r3; refine of_mark ?_))
        unfold Mark
        rw [List.length_append] at r2
        by_cases hP0 : P = []
        · subst hP0
          obtain ⟨ao, cap', hc', rfl⟩ : ∃ ao cap', T.length ≤ cap' ∧ v' = .slice ao T.length cap' := by
            obtain ⟨_, ⟨e, e2⟩ | ⟨g', cap', cur, e, _, _, hc, _⟩⟩ := r2.out
            · have e3 : T.length + 0 = 0 := e2
              exact ⟨none, 0, by omega, by rw [e, show T.length = 0 by omega]⟩
            · exact ⟨_, cap', hc, e⟩
          have HN : Hid (SL G qt w ob sb L T l w2) := by
            have hr := r2.out
            simp only [List.append_nil, List.length_nil, Nat.add_zero] at hr
            have := HP1.out.after (P := []) HV4.out q2.out q3.out (by omega) r1.out (by simp only [List.append_nil, List.reverse_nil]; exact hr)
            rw [← HT.out] at this
            simp only [List.append_nil, List.reverse_nil] at this
            exact this
          have HD : Hid (m w2 < m wr) := by
            have hd := (HM.out w2 ⟨_, _, _, HN.out, rfl⟩).2 _ ⟨_, _, HN.out, rfl⟩
            have := HWM.out
            show _ < _
            omega
          clear r1 r2 r3 q1 q2 q3 HP1 HV4
          go_wp2_with (go_at_call 33; refine reverse27_nil.mono ?_; rintro e w3 ⟨rfl, rfl⟩)
          all_goals exact ⟨⟨_, _, _, HN.out, rfl⟩, HD.out⟩
        · have hPp : 0 < P.length := List.length_pos_iff.2 hP0
          obtain ⟨g', cap', hc', hm', rfl⟩ : ∃ g' cap', T.length + P.length ≤ cap' ∧ cap' ≤ maxLen ∧ v' = .slice (some ⟨g', 0, none⟩) (T.length + P.length) cap' := by
            obtain ⟨_, ⟨e, e2⟩ | ⟨g', cap', cur, e, _, _, hc, hm', _⟩⟩ := r2.out
            · omega
            · exact ⟨_, cap', hc, hm', e⟩
          have HRV : Hid (∀ off c, off = T.length * 2 → Calls Tryz.prog 33 #[.slice (some ⟨g', off, none⟩) P.length c] w2 fun e w' => e = .returned (.tuple #[]) ∧ SL G qt w ob sb L (T ++ P.reverse) l w') := fun off c ho => by
            have hrow : w2.ownsRow w.heap.size 56 2 (.slice (some ⟨g', 0, none⟩) (T ++ P).length cap') (T ++ P).length (pcC (T ++ P)) := by rw [List.length_append]; exact r2.out
            refine (reverse27 (c := c) (row_base hrow) ho (by rw [List.length_append]; omega)).mono fun e w' hq => ⟨hq.1, ?_⟩
            obtain ⟨_, k2, k3⟩ := hq
            obtain ⟨n1, n2⟩ := r3.out g' rfl
            have hown' : w'.ownsRow w.heap.size 56 2 (.slice (some ⟨g', 0, none⟩) (T ++ P).length cap') (T ++ P.reverse).length (pcC (T ++ P.reverse)) := by
              have hge := (hrow.lt g' rfl).1
              have el : (T ++ P.reverse).length = (T ++ P).length := by simp
              rw [el]
              obtain ⟨z1, ⟨z2, z3⟩ | ⟨g2, cap2, cur2, z2, _, z4⟩⟩ := k2
              · cases z2
              · injection z2 with y1 y2 y3
                injection y1 with y1
                injection y1 with y1
                subst y1 y3
                exact ⟨z1, .inr ⟨_, _, cur2, rfl, hge, z4⟩⟩
            have := HP1.out.after HV4.out (q2.out.grown k3 (fun k e => by injection e with e; subst e; exact n2)) q3.out (by omega) ((k3.block sb (blk_lt r1.out) (fun e => n1 (Option.some.inj e).symm)).trans r1.out) (by rw [← List.length_append] ; exact hown')
            rw [← HT.out] at this
            exact this
          have HD : Hid (∀ w3, SL G qt w ob sb L (T ++ P.reverse) l w3 → m w3 < m wr) := fun w3 h => by
            have hd := (HM.out w3 ⟨_, _, _, h, rfl⟩).2 _ ⟨_, _, h, rfl⟩
            have := HWM.out
            rw [wts_append, wts_rev] at hd
            omega
          clear r1 r2 r3 q1 q2 q3 HP1 HV4
          go_wp2_with (go_at_call 33; refine (HRV.out _ _ (by first | rfl | omega)).mono ?_; rintro e w3 ⟨rfl, hN⟩; replace hN := hid' hN)
          all_goals exact ⟨⟨_, _, _, hN.out, rfl⟩, HD.out _ hN.out⟩
end
end Go.Proofs.YtnnnfabpceapcaaGreatDoor

namespace Go.Proofs.YtnnnfabpceapcaaGreatDoor
set_option linter.unusedSimpArgs false
open Go.RowKit
set_option linter.unusedVariables false

/-- What Print tells. -/
def printV (c : Int) (L : List UInt8) : Value := if c = 0 then (if L.length ≤ 1048576 then .tuple #[.string ⟨L.toArray⟩, .int .i64 0] else .tuple #[.string ⟨#[]⟩, .int .i64 3]) else .tuple #[.string ⟨#[]⟩, .int .i64 80]

set_option maxHeartbeats 4000000 in
theorem print14 {gd ok G : NdH → List Tr → Bool} {qt : List UInt8 → List UInt8} {w : World} {x : NdH} {kv : Value} {n cb : Nat} {ks : List Tr} (hm : MayIs gd ok) (hS : ∀ W, Below w.heap.size w W → SplitIs W G qt) (hgd : allT gd (Tr.node x ks) = true) (hG : allT ok (Tr.node x ks) = true → allT G (Tr.node x ks) = true) (hK : Ks cb n w kv ks) :
    Calls Tryz.prog 8 #[ndV x kv] w fun e w' => e = .returned (printV (chkF ok x ks) (spellT qt (Tr.node x ks))) ∧ Below w.heap.size w w' := by
  obtain ⟨w0, hw0⟩ : ∃ w0, w0 = w.alloc (.cells #[.int .i64 x.kind, .string x.str, .int .u32 x.num, .bool x.flag, kv, .int .i64 x.pos] 25) := ⟨_, rfl⟩
  have hb0 : Below w.heap.size w w0 := by rw [hw0]; exact below1 _ _
  have hl0 : w.heap.size < w0.heap.size := by rw [hw0]; simp
  have hat : NdAt w0 w.heap.size 0 x kv := by rw [hw0]; refine ⟨?_, ?_, ?_, ?_, ?_, ?_⟩ <;> simp [go_sem]
  have hK0 := hK.below hb0
  have HC := hid' (check15 hm hgd hK0)
  have HP : Hid (∀ W, Below w0.heap.size w0 W → chkF ok x ks = 0 → Calls Tryz.prog 20 #[.pointer (some ⟨w.heap.size, 0, none⟩)] W fun e w' => e = .returned (spellV (spellT qt (Tr.node x ks))) ∧ Below W.heap.size W w') := fun W hW hc => by
    unfold chkF at hc
    split at hc
    · rename_i h
      exact spell23 (hS W (hb0.trans (hW.mono hb0.size))) (hat.below hW hl0) (Nat.lt_of_lt_of_le hl0 hW.size) (hK0.below hW) (hG h.2.2) h.2.1
    · cases hc
  have HB0 := hid' hb0
  have HX : Hid (chkF ok x ks = 0 ∨ chkF ok x ks = 80) := by
    unfold chkF
    show _ ∨ _
    split
    · exact .inl rfl
    · exact .inr rfl
  clear hK0 hat hb0 hK hgd hG hm hS
  generalize spellT qt (Tr.node x ks) = L at *
  unfold printV
  unfold ndV at HC ⊢
  rcases HX.out with e | e
  · rw [e] at HC HP ⊢
    rw [if_pos rfl]
    by_cases hl : L.length ≤ 1048576
    · rw [if_pos hl]
      unfold spellV at HP
      rw [if_pos hl] at HP
      replace HP := hid' (fun W hW => HP.out W hW rfl)
      go_enter Tryz.func8, Tryz.ntmps8
      go_wp2_with (first
        | (go_at_call 5; rw [← hw0]; (with_reducible refine HC.out.mono ?_); rintro e w1 ⟨rfl, hb1⟩; replace hb1 := hid' hb1)
        | (go_at_call 20; (with_reducible refine (HP.out _ hb1.out).mono ?_); rintro e w2 ⟨rfl, hb2⟩; replace hb2 := hid' hb2))
      go_ret2
      exact ⟨rfl, below_on HB0.out (below_on hb1.out hb2.out)⟩
    · rw [if_neg hl]
      unfold spellV at HP
      rw [if_neg hl] at HP
      replace HP := hid' (fun W hW => HP.out W hW rfl)
      go_enter Tryz.func8, Tryz.ntmps8
      go_wp2_with (first
        | (go_at_call 5; rw [← hw0]; (with_reducible refine HC.out.mono ?_); rintro e w1 ⟨rfl, hb1⟩; replace hb1 := hid' hb1)
        | (go_at_call 20; (with_reducible refine (HP.out _ hb1.out).mono ?_); rintro e w2 ⟨rfl, hb2⟩; replace hb2 := hid' hb2))
      go_ret2
      exact ⟨rfl, below_on HB0.out (below_on hb1.out hb2.out)⟩
  · rw [e] at HC ⊢
    rw [if_neg (by decide)]
    go_enter Tryz.func8, Tryz.ntmps8
    go_wp2_with (go_at_call 5; rw [← hw0]; (with_reducible refine HC.out.mono ?_); rintro e w1 ⟨rfl, hb1⟩; replace hb1 := hid' hb1)
    go_ret2
    exact ⟨rfl, below_on HB0.out hb1.out⟩
end Go.Proofs.YtnnnfabpceapcaaGreatDoor

namespace Go.Proofs.YtnnnfabpceapcaaGreatDoor
set_option linter.unusedSimpArgs false
open Go.RowKit
set_option linter.unusedVariables false

section
variable {G : NdH → List Tr → Bool} {qt : List UInt8 → List UInt8} {A : Nat → Prop} {sb : Nat} {T : List Pc} {w w0 : World} {b o : Nat} {x : NdH} {kv : Value} {n cb : Nat} {ks : List Tr}
/-- An expression is split as one. -/
theorem split_expr (J : Job G A sb T w0 w b o x kv n cb ks) (hk : 1 ≤ x.kind ∧ x.kind ≤ 15) (H : Calls Tryz.prog 55 #[.pointer (some ⟨sb, 0, none⟩), .pointer (some ⟨b, o, none⟩)] w (Spelt G qt A sb T w0 w x ks)) : Calls Tryz.prog 32 #[.pointer (some ⟨sb, 0, none⟩), .pointer (some ⟨b, o, none⟩)] w (Spelt G qt A sb T w0 w x ks) := by
  have H1 := hid' (expr35 (J.hat.below J.hw J.hb) (Nat.lt_of_lt_of_le J.hb J.hw.size))
  rw [decide_eq_true hk] at H1
  replace H := hid' H
  go_enter Tryz.func32, Tryz.ntmps32
  go_wp2_with (first
    | (go_at_call 44; (with_reducible refine H1.out.mono ?_); rintro e w1 ⟨rfl, rfl⟩)
    | (go_at_call 55; (with_reducible refine H.out.mono ?_); rintro e w1 ⟨rfl, s1⟩; replace s1 := hid' s1))
  go_end0
  exact ⟨rfl, s1.out⟩
theorem split_stmt (J : Job G A sb T w0 w b o x kv n cb ks) (hk : 47 ≤ x.kind ∧ x.kind ≤ 56) (H : Calls Tryz.prog 56 #[.pointer (some ⟨sb, 0, none⟩), .pointer (some ⟨b, o, none⟩)] w (Spelt G qt A sb T w0 w x ks)) : Calls Tryz.prog 32 #[.pointer (some ⟨sb, 0, none⟩), .pointer (some ⟨b, o, none⟩)] w (Spelt G qt A sb T w0 w x ks) := by
  have H1 := hid' (expr35 (J.hat.below J.hw J.hb) (Nat.lt_of_lt_of_le J.hb J.hw.size))
  have H2 := hid' (stmt37 (J.hat.below J.hw J.hb) (Nat.lt_of_lt_of_le J.hb J.hw.size))
  rw [decide_eq_false (by omega)] at H1
  rw [decide_eq_true hk] at H2
  replace H := hid' H
  go_enter Tryz.func32, Tryz.ntmps32
  go_wp2_with (first
    | (go_at_call 44; (with_reducible refine H1.out.mono ?_); rintro e w1 ⟨rfl, rfl⟩)
    | (go_at_call 46; (with_reducible refine H2.out.mono ?_); rintro e w1 ⟨rfl, rfl⟩)
    | (go_at_call 56; (with_reducible refine H.out.mono ?_); rintro e w1 ⟨rfl, s1⟩; replace s1 := hid' s1))
  go_end0
  exact ⟨rfl, s1.out⟩
theorem split_decl (J : Job G A sb T w0 w b o x kv n cb ks) (hk : ¬ (1 ≤ x.kind ∧ x.kind ≤ 15)) (hk2 : ¬ (47 ≤ x.kind ∧ x.kind ≤ 56)) (H : Calls Tryz.prog 57 #[.pointer (some ⟨sb, 0, none⟩), .pointer (some ⟨b, o, none⟩)] w (Spelt G qt A sb T w0 w x ks)) : Calls Tryz.prog 32 #[.pointer (some ⟨sb, 0, none⟩), .pointer (some ⟨b, o, none⟩)] w (Spelt G qt A sb T w0 w x ks) := by
  have H1 := hid' (expr35 (J.hat.below J.hw J.hb) (Nat.lt_of_lt_of_le J.hb J.hw.size))
  have H2 := hid' (stmt37 (J.hat.below J.hw J.hb) (Nat.lt_of_lt_of_le J.hb J.hw.size))
  rw [decide_eq_false hk] at H1
  rw [decide_eq_false hk2] at H2
  replace H := hid' H
  go_enter Tryz.func32, Tryz.ntmps32
  go_wp2_with (first
    | (go_at_call 44; (with_reducible refine H1.out.mono ?_); rintro e w1 ⟨rfl, rfl⟩)
    | (go_at_call 46; (with_reducible refine H2.out.mono ?_); rintro e w1 ⟨rfl, rfl⟩)
    | (go_at_call 57; (with_reducible refine H.out.mono ?_); rintro e w1 ⟨rfl, s1⟩; replace s1 := hid' s1))
  go_end0
  exact ⟨rfl, s1.out⟩
end

/-- The law's own nodes. -/
def ownG (x : NdH) (ks : List Tr) : Bool :=
  if x.kind = 1 then decide (x.num = 1) && (!x.flag && (ks.isEmpty && decide (x.str.size = 0)))
  else if x.kind = 16 then decide (x.num = 0) && (!x.flag && (ks.isEmpty && decide (lst x.str = [105, 110, 116])))
  else if x.kind = 40 then decide (x.num = 0) && (!x.flag && (decide (x.str.size = 0) && allK (ofK [41, 42, 45]) ks))
  else if x.kind = 42 then decide (x.num = 0) && (!x.flag && (decide (x.str.size = 0) && (decide (2 ≤ ks.length) && (onT (ofK [16]) (ks.getD 0 noT) && allK (ofK [43]) (ks.drop 1)))))
  else if x.kind = 43 then decide (x.num = 0) && (!x.flag && (decide (lst x.str = [120]) && (areK [] ks || areK [isExpr] ks)))
  else false
theorem own_split (qt : List UInt8 → List UInt8) (w0 : World) : SplitIs w0 ownG qt := fun A sb T w b o x kv n cb ks J hG => by
  unfold ownG at hG
  by_cases k1 : x.kind = 1
  · rw [if_pos k1] at hG
    simp at hG
    exact split_expr J (by omega) (num36 (k := 1) (fmt_small 1 (by decide)) hG.1 (by decide) J k1)
  rw [if_neg k1] at hG
  by_cases k2 : x.kind = 16
  · exact split_decl J (by omega) (by omega) (type39 J k2)
  rw [if_neg k2] at hG
  by_cases k3 : x.kind = 40
  · exact split_decl J (by omega) (by omega) (prog39 J k3)
  rw [if_neg k3] at hG
  by_cases k4 : x.kind = 42
  · rw [if_pos k4] at hG
    simp at hG
    match ks, J, hG with
    | [], _, hG => exact absurd hG.2.2.2.1 (by simp)
    | [t], _, hG => exact absurd hG.2.2.2.1 (by simp)
    | t0 :: t1 :: r, J, hG => exact split_decl J (by omega) (by omega) (vars39 J (by simp) k4)
  rw [if_neg k4] at hG
  by_cases k5 : x.kind = 43
  · rw [if_pos k5] at hG
    simp at hG
    exact split_decl J (by omega) (by omega) (var39 J k5 hG.2.1)
  · rw [if_neg k5] at hG
    cases hG
end Go.Proofs.YtnnnfabpceapcaaGreatDoor

namespace Go.Proofs.YtnnnfabpceapcaaGreatDoor
set_option linter.unusedSimpArgs false
open Go.RowKit
set_option linter.unusedVariables false

def yesF (x : NdH) (ks : List Tr) : Bool := true
theorem own_kids : KidsIs ownG yesF := fun W b o x kv n ks cb hG h hb hK => by
  unfold ownG at hG
  by_cases k1 : x.kind = 1
  · rw [if_pos k1] at hG
    simp at hG
    refine kids34_expr h hb (.inl (by omega)) ?_
    have := expr47 h hb hK (.inl k1)
    rw [hG.2.2.1] at this
    exact this
  rw [if_neg k1] at hG
  by_cases k2 : x.kind = 16
  · rw [if_pos k2] at hG
    simp at hG
    refine kids34_expr h hb (.inr k2) ?_
    have := expr47 h hb hK (.inr k2)
    rw [hG.2.2.1] at this
    exact this
  rw [if_neg k2] at hG
  by_cases k3 : x.kind = 40
  · rw [if_pos k3] at hG
    simp only [Bool.and_eq_true] at hG
    refine kids34_decl h hb (by omega) (by omega) (by omega) ?_
    have := prog49 h hb hK k3
    rw [hG.2.2.2] at this
    exact this
  rw [if_neg k3] at hG
  by_cases k4 : x.kind = 42
  · rw [if_pos k4] at hG
    simp only [Bool.and_eq_true] at hG
    obtain ⟨_, _, _, hl, h0, h1⟩ := hG
    have hl' := of_decide_eq_true hl
    match ks, hK, hl', h0, h1 with
    | [], _, hl', _, _ => exact absurd hl' (by simp)
    | [t], _, hl', _, _ => exact absurd hl' (by simp)
    | t0 :: t1 :: r, hK, _, h0, h1 =>
      refine kids34_decl h hb (by omega) (by omega) (by omega) ?_
      have := vars49 h hb hK k4 h0
      rw [show allK (ofK [43]) (t1 :: r) = true from h1] at this
      exact this
  rw [if_neg k4] at hG
  by_cases k5 : x.kind = 43
  · rw [if_pos k5] at hG
    simp only [Bool.and_eq_true] at hG
    obtain ⟨_, hf, _, h1⟩ := hG
    have hf' : x.flag = false := by simpa using hf
    refine kids34_decl h hb (by omega) (by omega) (by omega) ?_
    refine var49 h hb hK k5 (fun W' hW => ?_)
    have := var72 (h.below hW hb) (Nat.lt_of_lt_of_le hb hW.size) (hK.below hW) hf'
    rw [h1] at this
    exact this
  · rw [if_neg k5] at hG
    cases hG

def ownOk : NdH → List Tr → Bool := mayF nameB typeB yesF
theorem own_may : MayIs (fun x ks => smallN x ks && ownG x ks) ownOk := may25 name41 type42 own_kids
theorem lst_mk (a : Array UInt8) : lst ⟨a⟩ = a.toList := rfl
theorem size_mk (a : Array UInt8) : (⟨a⟩ : ByteArray).size = a.size := rfl
theorem toL_mk (a : Array UInt8) : (⟨a⟩ : ByteArray).toList = a.toList := by rw [lst_eq]; rfl

theorem own_gd : allT (fun x ks => smallN x ks && ownG x ks) (Tr.node ndProg ownT) = true := by
  simp [ownT, allT_node, allL_cons, allL_nil, smallN, ownG, ndProg, ndVars, ndTyp, ndVar, ndNum, allK, onT_node, ofK, hasI, areK, isExpr, lst_mk, size_mk]
  rfl
theorem own_all : allT ownG (Tr.node ndProg ownT) = true := by
  simp [ownT, allT_node, allL_cons, allL_nil, ownG, ndProg, ndVars, ndTyp, ndVar, ndNum, allK, onT_node, ofK, hasI, areK, isExpr, lst_mk, size_mk]
theorem own_ok : allT ownOk (Tr.node ndProg ownT) = true := by
  have hx : nameB ⟨#[120]⟩ = true := by decide
  have hi : typeB ⟨#[105, 110, 116]⟩ = true := by unfold typeB; simp [toL_mk]
  simp [ownT, allT_node, allL_cons, allL_nil, ownOk, mayF, yesF, strF, numF, flagF, ndProg, ndVars, ndTyp, ndVar, ndNum, hx, hi, toL_mk]
theorem own_sz : szT (Tr.node ndProg ownT) = 5 := by
  simp [ownT, szT_node, szL_cons, szL_nil]
theorem own_chk : chkF ownOk ndProg ownT = 0 := by
  unfold chkF
  rw [if_pos ⟨rfl, by rw [own_sz]; decide, own_ok⟩]
theorem own_text (qt : List UInt8 → List UInt8) : spellT qt (Tr.node ndProg ownT) = [105, 110, 116, 32, 120, 32, 61, 32, 49, 59, 10] := by
  simp [ownT, spellT_node, spellN, ndProg, ndVars, ndTyp, ndVar, ndNum, joinL, numL, decF, digC, lst_mk]

set_option maxHeartbeats 4000000 in
theorem awake10 (w : World) : Calls Tryz.prog 7 #[] w fun e w' => e = .returned (.bool true) ∧ Below w.heap.size w w' := by
  have h21 : Hid (∀ W, Calls Tryz.prog 19 #[] W fun e w' => ∃ kv, e = .returned (ndV ndProg kv) ∧ Below W.heap.size W w' ∧ Ks w'.heap.size 3 w' kv ownT) := fun W => (own21 W).mono fun e w' h => ⟨_, h.1, h.2.1, h.2.2 _ (.inr (Nat.le_refl _))⟩
  have h14 : Hid (∀ W kv, Ks W.heap.size 3 W kv ownT → Calls Tryz.prog 8 #[ndV ndProg kv] W fun e w' => e = .returned (.tuple #[.string ⟨#[105, 110, 116, 32, 120, 32, 61, 32, 49, 59, 10]⟩, .int .i64 0]) ∧ Below W.heap.size W w') := fun W kv hK => by
    have := print14 (qt := id) own_may (fun W _ => own_split id W) own_gd (fun _ => own_all) hK
    rw [own_chk, own_text] at this
    exact this
  have h6 : Hid (∀ W kv, Ks W.heap.size 3 W kv ownT → Calls Tryz.prog 10 #[ndV ndProg kv] W fun e w' => e = .returned (.int .i64 5) ∧ Below W.heap.size W w') := fun W kv hK => by
    have := size6 (x := ndProg) hK
    unfold szR at this
    rw [own_sz] at this
    exact this
  go_enter Tryz.func7, Tryz.ntmps7
  go_wp2_with (first
    | (go_at_call 10; refine (h6.out _ _ hK3.out).mono ?_; rintro e w4 ⟨rfl, hb4⟩; replace hb4 := hid' hb4)
    | (go_at_call 19; refine (h21.out w2).mono ?_; rintro e w3 ⟨kv3, rfl, hb3, hK3⟩; replace hb3 := hid' hb3; replace hK3 := hid' hK3)
    | (go_at_call 8; refine (h14.out _ _ hK1.out).mono ?_; rintro e w2 ⟨rfl, hb2⟩; replace hb2 := hid' hb2)
    | (go_at_call 19; refine (h21.out w).mono ?_; rintro e w1 ⟨kv1, rfl, hb1, hK1⟩; replace hb1 := hid' hb1; replace hK1 := hid' hK1))
  go_ret
  exact ⟨rfl, below_on hb1.out (below_on hb2.out (below_on hb3.out hb4.out))⟩
end Go.Proofs.YtnnnfabpceapcaaGreatDoor
