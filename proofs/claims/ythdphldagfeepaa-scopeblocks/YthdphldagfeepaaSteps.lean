/- The program's scope behind each of its statements: the worlds that the walks come to. -/
import Derived.Test.YthdphldagfeepaaSc
import Derived.StringKeys
namespace Go.Proofs.Ythdphldagfeepaa
open Go.RowKit Go.Maps Go.WideShapes Go.ChangeMaps Go.MapKept
set_option linter.unusedVariables false
set_option linter.unusedSimpArgs false

theorem law9 : Keyed Try.prog 9 := string_keyed Try.underlying9
theorem zero3 (w : World) : (zeroValue 3).run Try.prog w = .ok (.int .i64 0) w := by kernel_rfl

section
variable {w w' : World} {B p M n r cap : Nat} {mb : Nat → Option Nat} {g : Blocks}

/-- A look-up in block i. -/
theorem IsS.look (h : IsS w B p M n r cap mb g) {i : Nat} (hi : i < n) (s : ByteArray) (hs : s.size ≤ maxLen) :
    ∃ c : Int, (Instr.lookup 50 (.map (mb i)) (.string s) true).run Try.prog w = .ok (.tuple #[.int .i64 c, .bool (g i s).isSome]) w ∧ g i s = if (g i s).isSome then some c else none := by
  have hk : keyOf Try.prog 9 (.string s) = some (key s) := WideMaps.keyOf_string_mk Try.underlying9 hs
  cases hb : mb i with
  | none =>
    refine ⟨0, ?_, ?_⟩
    · rw [h.nil i hi hb s]
      exact Maps.look_nil true law9 Try.underlying50 (zero3 w) hk
    · rw [h.nil i hi hb s]
      rfl
  | some b =>
    obtain ⟨_, D, hD, hg⟩ := h.map i b hi hb
    obtain ⟨v, ps, hrun, hv⟩ := hD.look_ok law9 Try.underlying50 (zero3 w) (plainElem_int Try.underlying3 (a := 0) (by decide)) hk
    obtain ⟨c, rfl, hc, _⟩ := plainElem_int_inv Try.underlying3 hv
    have hat := look_at (congrArg Prod.fst hc)
    have e : (g i s).isSome = Maps.has D (key s) := by
      rw [hg s, hat]
      cases Maps.has D (key s) <;> rfl
    refine ⟨c, ?_, ?_⟩
    · rw [e]
      exact hrun
    · rw [e, hg s]
      exact hat

theorem head_set {W : World} {p : Nat} {T : TypeId} {u v : Value} (h : W.heap[p]? = some (.cells #[u] T (0, 0))) : (W.setCell ⟨p, 0, none⟩ v).heap[p]? = some (.cells #[v] T (0, 0)) := by
  have hl := (Array.getElem?_eq_some_iff.1 h).1
  rw [Array.getElem?_eq_some_iff] at h
  obtain ⟨_, h⟩ := h
  simp [World.setCell, hl, h, Array.getElem_modify]

/-- A shorter slice of the same row. -/
theorem owns_prefix {W : World} {base g n cap size m : Nat} {e : TypeId} {xs : List Value} (h : W.ownsRow base e size (.slice (some ⟨g, 0, none⟩) n cap) n xs) (hm : m ≤ n) :
    W.ownsRow base e size (.slice (some ⟨g, 0, none⟩) m cap) m (xs.take (m * size)) := by
  have hle : m * size ≤ n * size := Nat.mul_le_mul_right _ hm
  refine ⟨by rw [List.length_take, h.1]; omega, ?_⟩
  rcases h.2 with ⟨e, _⟩ | ⟨k, cap', cur, e, hb, hh, hn, hx, hs, ht⟩
  · cases e
  · injection e with e1 e2 e3
    injection e1 with e1
    injection e1 with e1
    subst e1 e3
    refine .inr ⟨_, _, cur, rfl, hb, hh, by omega, hx, hs, ?_⟩
    rw [← ht, List.take_take, Nat.min_eq_left hle]

/-- Behind Enter. -/
theorem IsS.entered (h : IsS w B p M n r cap mb g) {o : Obj} {w2 : World} {v : Value}
    (ho : w2.ownsRow B 50 1 v (n + 1) (((List.range n).map fun i => Value.map (mb i)) ++ [.map none])) (hg : (w.alloc o).grownBy w2 (some r)) (hl : v.ownBlock = some r ∨ v.ownBlock = some (w.alloc o).heap.size) :
    Sc (w2.setCell ⟨p, 0, none⟩ v) B p (M + 1) (n + 1) (enterG g n) ∧ KP B w (w2.setCell ⟨p, 0, none⟩ v) := by
  obtain ⟨cur, hbr, hh, _⟩ := h.row
  have hplt := h.plt
  have ka : Kept (fun b => b = r) w (w.alloc o) := (Kept.rfl _ _).alloc _
  have k2 : Kept (fun b => b = r) w w2 := ka.trans (Kept.of_grown hg (fun k hk => (Option.some.inj hk).symm))
  have hpr := h.pr
  obtain ⟨r', cap', rfl, hr'⟩ : ∃ r' cap', v = .slice (some ⟨r', 0, none⟩) (n + 1) cap' ∧ r' ≠ p := by
    rcases ho.2 with ⟨_, e⟩ | ⟨k, c, cur, e, _, hh', _⟩
    · omega
    · refine ⟨k, c, e, fun e' => ?_⟩
      subst e e'
      have := k2.block k hplt hpr
      rw [hh', h.head] at this
      cases this
  have hp2 : w2.heap[p]? = some (.cells #[.slice (some ⟨r, 0, none⟩) n cap] 44 (0, 0)) := (k2.block p hplt hpr).trans h.head
  have k3 : Kept (fun b => b = r ∨ b = p) w (w2.setCell ⟨p, 0, none⟩ (.slice (some ⟨r', 0, none⟩) (n + 1) cap')) := (k2.mono (fun k _ e => .inl e)).set (.inl (.inr rfl)) _
  refine ⟨⟨r', cap', fun i => if i = n then none else mb i, head_set hp2, ?_, h.bp, by omega, by have := h.hi; omega, fun i hi hn s => ?_, fun i b hi hb => ?_, fun i j b hi hj hb hb' => ?_⟩, ?_⟩
  · have e : (List.range (n + 1)).map (fun i => Value.map (if i = n then none else mb i)) = ((List.range n).map fun i => Value.map (mb i)) ++ [.map none] := by
      rw [List.range_succ, List.map_append]
      congr 1
      · exact List.map_congr_left fun i hi => by
          have := List.mem_range.1 hi
          rw [if_neg (by omega)]
      · simp
    rw [e]
    have := (Kept.rfl (fun b => b = p) w2).set (a := ⟨p, 0, none⟩) (.inl rfl) (.slice (some ⟨r', 0, none⟩) (n + 1) cap')
    refine this.owns ho (fun b hb => ?_)
    simp [Value.ownBlock] at hb
    subst hb
    exact hr'
  · unfold enterG
    by_cases e : i = n
    · rw [if_pos e]
    · rw [if_neg e]
      exact h.nil i (by omega) (by simpa [e] using hn) s
  · by_cases e : i = n
    · simp [e] at hb
    · have hb' : mb i = some b := by simpa [e] using hb
      have hi' : i < n := by omega
      obtain ⟨hB, D, hD, hg'⟩ := h.map i b hi' hb'
      obtain ⟨n1, n2⟩ := h.bne hi' hb'
      have e' := k3.block b hD.lt (by rintro (e | e); exact n2 e; exact n1 e)
      refine ⟨hB, D, ?_, fun s => by unfold enterG; rw [if_neg e]; exact hg' s⟩
      have := hD.mono (Nat.le_succ M)
      unfold World.ownsMap at this ⊢
      rw [e']
      exact this
  · have ei : i ≠ n := fun e => by simp [e] at hb
    have ej : j ≠ n := fun e => by simp [e] at hb'
    exact h.inj i j b (by omega) (by omega) (by simpa [ei] using hb) (by simpa [ej] using hb')
  · refine k3.mono (fun k _ e => ?_)
    rcases e with rfl | rfl
    · exact ⟨hbr, .inr (.inl ⟨_, _, hh⟩)⟩
    · exact ⟨h.bp, .inl ⟨_, _, h.head⟩⟩

/-- Behind Leave. -/
theorem IsS.left (h : IsS w B p M n r cap mb g) (hn : 2 ≤ n) :
    Sc ((w.setCell ⟨r, n - 1, none⟩ (.map none)).setCell ⟨p, 0, none⟩ (.slice (some ⟨r, 0, none⟩) (n - 1) cap)) B p M (n - 1) g ∧ KP B w ((w.setCell ⟨r, n - 1, none⟩ (.map none)).setCell ⟨p, 0, none⟩ (.slice (some ⟨r, 0, none⟩) (n - 1) cap)) := by
  obtain ⟨cur, hbr, hh, _⟩ := h.row
  have hpr := h.pr
  have k1 : Kept (fun b => b = r) w (w.setCell ⟨r, n - 1, none⟩ (.map none)) := (Kept.rfl (fun b => b = r) w).set (a := ⟨r, n - 1, none⟩) (.inl rfl) _
  have k3 : Kept (fun b => b = r ∨ b = p) w ((w.setCell ⟨r, n - 1, none⟩ (.map none)).setCell ⟨p, 0, none⟩ (.slice (some ⟨r, 0, none⟩) (n - 1) cap)) := (k1.mono (fun k _ e => .inl e)).set (.inl (.inr rfl)) _
  have hp2 := (k1.block p h.plt hpr).trans h.head
  refine ⟨⟨r, cap, mb, head_set hp2, ?_, h.bp, by omega, by have := h.hi; omega, fun i hi hb s => h.nil i (by omega) hb s, fun i b hi hb => ?_, fun i j b hi hj => h.inj i j b (by omega) (by omega)⟩, ?_⟩
  · have ho := owns_prefix ((World.ownsRow.stored h.own (n - 1) (.map none)).1) (m := n - 1) (by omega)
    have e : (((List.range n).map fun i => Value.map (mb i)).set (n - 1) (.map none)).take ((n - 1) * 1) = (List.range (n - 1)).map fun i => Value.map (mb i) := by
      rw [Nat.mul_one]
      apply List.ext_getElem?
      intro i
      simp only [List.getElem?_take, List.getElem?_set, List.getElem?_map, List.getElem?_range, List.length_map, List.length_range]
      by_cases hi : i < n - 1
      · rw [if_pos hi, if_neg (by omega)]
        simp [List.getElem?_range, hi, show i < n by omega]
      · rw [if_neg hi]
        simp [List.getElem?_eq_none, show n - 1 ≤ i by omega]
    rw [e] at ho
    have := (Kept.rfl (fun b => b = p) (w.setCell ⟨r, n - 1, none⟩ (.map none))).set (a := ⟨p, 0, none⟩) (.inl rfl) (.slice (some ⟨r, 0, none⟩) (n - 1) cap)
    refine this.owns ho (fun b hb => ?_)
    simp [Value.ownBlock] at hb
    subst hb
    exact fun e => hpr e.symm
  · obtain ⟨hB, D, hD, hg'⟩ := h.map i b (by omega) hb
    obtain ⟨n1, n2⟩ := h.bne (by omega) hb
    have e' := k3.block b hD.lt (by rintro (e | e); exact n2 e; exact n1 e)
    refine ⟨hB, D, ?_, hg'⟩
    unfold World.ownsMap at hD ⊢
    rw [e']
    exact hD
  · refine k3.mono (fun k _ e => ?_)
    rcases e with rfl | rfl
    · exact ⟨hbr, .inr (.inl ⟨_, _, hh⟩)⟩
    · exact ⟨h.bp, .inl ⟨_, _, h.head⟩⟩

/-- A map made for the innermost block. -/
theorem IsS.born (h : IsS w B p M n r cap mb g) (hb : mb (n - 1) = none) :
    IsS ((w.alloc (.map #[] 0)).setCell ⟨r, n - 1, none⟩ (.map (some w.heap.size))) B p M n r cap (fun i => if i = n - 1 then some w.heap.size else mb i) g ∧ KP B w ((w.alloc (.map #[] 0)).setCell ⟨r, n - 1, none⟩ (.map (some w.heap.size))) := by
  obtain ⟨cur, hbr, hh, _⟩ := h.row
  have hpr := h.pr
  have hlo := h.lo
  have hrl := h.rlt
  have ka : Kept (fun b => b = r) w (w.alloc (.map #[] 0)) := (Kept.rfl _ _).alloc _
  have k1 : Kept (fun b => b = r) w ((w.alloc (.map #[] 0)).setCell ⟨r, n - 1, none⟩ (.map (some w.heap.size))) := ka.set (.inl rfl) _
  refine ⟨⟨(k1.block p h.plt hpr).trans h.head, ?_, h.bp, h.lo, h.hi, fun i hi hn s => ?_, fun i b hi hb' => ?_, fun i j b hi hj hb1 hb2 => ?_⟩, ?_⟩
  · have ho := (World.ownsRow.stored (World.ownsRow.alloc h.own (.map #[] 0)) (n - 1) (.map (some w.heap.size))).1
    have e : (((List.range n).map fun i => Value.map (mb i)).set (n - 1) (.map (some w.heap.size))) = (List.range n).map fun i => Value.map (if i = n - 1 then some w.heap.size else mb i) := by
      apply List.ext_getElem?
      intro i
      simp only [List.getElem?_set, List.getElem?_map, List.length_map, List.length_range]
      by_cases hi : i = n - 1
      · subst hi
        simp [List.getElem?_range, show n - 1 < n by omega]
      · rw [if_neg (fun e => hi e.symm)]
        by_cases hin : i < n
        · simp [List.getElem?_range, hin, hi]
        · simp [hin]
    rw [e] at ho
    exact ho
  · by_cases e : i = n - 1
    · simp [e] at hn
    · exact h.nil i hi (by simpa [e] using hn) s
  · by_cases e : i = n - 1
    · subst e
      simp at hb'
      subst hb'
      refine ⟨h.size, .map [], ?_, fun s => by rw [look_made]; exact h.nil _ hi hb s⟩
      have := (World.ownsMap_made w Try.prog 9 (plainElem (H := Unit) Try.prog 3)).setCell (a := ⟨r, n - 1, none⟩) (by simp; omega) (.map (some w.heap.size))
      exact this.mono (Nat.zero_le _)
    · have hb2 : mb i = some b := by simpa [e] using hb'
      obtain ⟨hB, D, hD, hg'⟩ := h.map i b hi hb2
      obtain ⟨n1, n2⟩ := h.bne hi hb2
      have e' := k1.block b hD.lt n2
      refine ⟨hB, D, ?_, hg'⟩
      unfold World.ownsMap at hD ⊢
      rw [e']
      exact hD
  · have lt : ∀ i b, i < n → mb i = some b → b < w.heap.size := fun i b hi hb => by
      obtain ⟨_, D, hD, _⟩ := h.map i b hi hb
      exact hD.lt
    by_cases e1 : i = n - 1
    · by_cases e2 : j = n - 1
      · omega
      · have x1 : w.heap.size = b := by simpa [e1] using hb1
        have x2 : mb j = some b := by simpa [e2] using hb2
        have := lt j b hj x2
        omega
    · by_cases e2 : j = n - 1
      · have x1 : w.heap.size = b := by simpa [e2] using hb2
        have x2 : mb i = some b := by simpa [e1] using hb1
        have := lt i b hi x2
        omega
      · exact h.inj i j b hi hj (by simpa [e1] using hb1) (by simpa [e2] using hb2)
  · refine k1.mono (fun k _ e => ?_)
    subst e
    exact ⟨hbr, .inr (.inl ⟨_, _, hh⟩)⟩

/-- A name laid into the innermost block's map. -/
theorem IsS.laid (h : IsS w B p M n r cap mb g) {b : Nat} (hb : mb (n - 1) = some b) (hM : M < maxLen) (s : ByteArray) (hs : s.size ≤ maxLen) (x : Int) (hx : (Lit.int .i64 x).wf = true) :
    ∃ w', (Instr.mapUpdate 50 (.map (some b)) (.string s) (.int .i64 x)).run Try.prog w = .ok () w' ∧ IsS w' B p (M + 1) n r cap mb (putG g (n - 1) s x) ∧ KP B w w' := by
  have hk : keyOf Try.prog 9 (.string s) = some (key s) := WideMaps.keyOf_string_mk Try.underlying9 hs
  have hlo := h.lo
  obtain ⟨hB, D, hD, hg⟩ := h.map (n - 1) b (by omega) hb
  obtain ⟨es, c, hm⟩ := mapB h (by omega) hb
  obtain ⟨n1, n2⟩ := h.bne (by omega) hb
  obtain ⟨w', hrun, hD', ht⟩ := hD.store law9 Try.underlying50 hM hk (plainElem_int Try.underlying3 (a := x) hx)
  have k1 : Kept (fun k => k = b) w w' := Kept.of_grown ht.grown (fun k hk => (Option.some.inj hk).symm)
  refine ⟨w', hrun, ⟨(k1.block p h.plt (fun e => n1 e.symm)).trans h.head, ?_, h.bp, h.lo, by have := h.hi; omega, fun i hi hn t => ?_, fun i b' hi hb' => ?_, h.inj⟩, ?_⟩
  · refine k1.owns h.own (fun k hk => ?_)
    simp [Value.ownBlock] at hk
    subst hk
    exact fun e => n2 e.symm
  · have e : i ≠ n - 1 := fun e => by rw [e, hb] at hn; cases hn
    unfold putG
    rw [if_neg (fun e' => e e'.1)]
    exact h.nil i hi hn t
  · by_cases e : i = n - 1
    · subst e
      rw [hb] at hb'
      injection hb' with hb'
      subst hb'
      refine ⟨hB, _, hD', fun t => ?_⟩
      rw [look_put hD.isMap]
      unfold putG
      by_cases e : t = s
      · rw [if_pos ⟨rfl, e⟩, if_pos e]
      · rw [if_neg (fun e' => e e'.2), if_neg e]
        exact hg t
    · obtain ⟨hB', D', hD2, hg'⟩ := h.map i b' hi hb'
      have nb : b' ≠ b := fun e' => e (h.inj i (n - 1) b hi (by omega) (e' ▸ hb') hb)
      have e' := k1.block b' hD2.lt nb
      refine ⟨hB', D', ?_, fun t => ?_⟩
      · have := hD2.mono (Nat.le_succ M)
        unfold World.ownsMap at this ⊢
        rw [e']
        exact this
      · unfold putG
        rw [if_neg (fun e' => e e'.1)]
        exact hg' t
  · refine k1.mono (fun k _ e => ?_)
    subst e
    exact ⟨hB, .inr (.inr ⟨_, _, hm⟩)⟩
end

/-- A scope that New made. -/
theorem isS_new (w : World) : IsS ((w.alloc (.cells (madeCells #[.map none] 1) 50)).alloc (.cells #[.slice (some ⟨w.heap.size, 0, none⟩) 1 1] 44)) w.heap.size (w.heap.size + 1) 1 1 w.heap.size 1 (fun _ => none) (fun _ _ => none) := by
  refine ⟨?_, ?_, by omega, by omega, by omega, fun _ _ _ _ => rfl, fun i b _ h => (by cases h), fun i j b _ _ h => (by cases h)⟩
  · have := Deep.blk_alloc_new (w.alloc (.cells (madeCells #[.map none] 1) 50)) (.cells #[.slice (some ⟨w.heap.size, 0, none⟩) 1 1] 44)
    simpa using this
  · refine World.ownsRow.alloc ?_ _
    refine ⟨by simp, .inr ⟨w.heap.size, 1, madeCells #[.map none] 1, rfl, Nat.le_refl _, ?_, by omega, by unfold maxLen; omega, by simp [size_madeCells], ?_⟩⟩
    · have := Deep.blk_alloc_new w (.cells (madeCells #[.map none] 1) 50)
      simpa using this
    · simp [madeCells]
end Go.Proofs.Ythdphldagfeepaa
