/- What is as it was, but some blocks. -/
import Derived.Test.YtmcadffagnbiaaaLst
import Derived.Laws.MakeOwn
namespace Go.Proofs.Ytmcadffagnbiaaa
open Go.RowKit Go.Maps
set_option linter.unusedVariables false
set_option linter.unusedSimpArgs false

/-- All that has been there is as it was, but what S names. -/
structure Kept (S : Nat → Prop) (w w' : World) : Prop where
  os : w'.os = w.os
  tape : w'.tape = w.tape
  output : w'.output = w.output
  size : w.heap.size ≤ w'.heap.size
  block : ∀ k, k < w.heap.size → ¬ S k → w'.heap[k]? = w.heap[k]?

theorem Kept.rfl (S : Nat → Prop) (w : World) : Kept S w w := ⟨Eq.refl _, Eq.refl _, Eq.refl _, Nat.le_refl _, fun _ _ _ => Eq.refl _⟩
theorem Kept.trans {S : Nat → Prop} {a b c : World} (h : Kept S a b) (k : Kept S b c) : Kept S a c :=
  ⟨k.os.trans h.os, k.tape.trans h.tape, k.output.trans h.output, Nat.le_trans h.size k.size, fun i hi hn => (k.block i (Nat.lt_of_lt_of_le hi h.size) hn).trans (h.block i hi hn)⟩
theorem Kept.mono {S T : Nat → Prop} {w w' : World} (h : Kept S w w') (hs : ∀ k, k < w.heap.size → S k → T k) : Kept T w w' :=
  ⟨h.os, h.tape, h.output, h.size, fun k hk hn => h.block k hk (fun e => hn (hs k hk e))⟩
theorem Kept.alloc {S : Nat → Prop} {w w' : World} (h : Kept S w w') (o : Obj) : Kept S w (w'.alloc o) :=
  ⟨h.os, h.tape, h.output, by have := h.size; simp; omega, fun k hk hn => (Below.heap_alloc _ _ _ (Nat.lt_of_lt_of_le hk h.size)).trans (h.block k hk hn)⟩
theorem Kept.drew {S : Nat → Prop} {w w' : World} (h : Kept S w w') : Kept S w w'.drew := ⟨h.os, h.tape, h.output, h.size, h.block⟩
theorem Kept.drewN {S : Nat → Prop} {w w' : World} (h : Kept S w w') (n : Nat) : Kept S w (w'.drewN n) := ⟨h.os, h.tape, h.output, h.size, h.block⟩
theorem Kept.set {S : Nat → Prop} {w w' : World} (h : Kept S w w') {a : Addr} (ha : S a.block ∨ w.heap.size ≤ a.block) (v : Value) : Kept S w (w'.setCell a v) :=
  ⟨h.os, h.tape, h.output, by have := h.size; simp [World.setCell]; omega, fun k hk hn => (Below.heap_setCell _ _ _ _ (fun e => by subst e; rcases ha with ha | ha; exact hn ha; omega)).trans (h.block k hk hn)⟩
theorem Kept.of_below {S : Nat → Prop} {w w' : World} (h : Below w.heap.size w w') : Kept S w w' := ⟨h.os, h.tape, h.output, h.size, fun k hk _ => h.block k hk⟩
theorem Kept.of_grown {S : Nat → Prop} {row : Option Nat} {w w' : World} (h : w.grownBy w' row) (hr : ∀ k, row = some k → S k) : Kept S w w' :=
  ⟨h.os, h.tape, h.output, h.size, fun k hk hn => h.block k hk (fun e => hn (hr k e.symm))⟩
theorem Kept.below {S : Nat → Prop} {B : Nat} {w w' : World} (h : Kept S w w') (hB : B ≤ w.heap.size) (hs : ∀ k, S k → B ≤ k) : Below B w w' :=
  ⟨h.os, h.tape, h.output, h.size, fun k hk => h.block k (by omega) (fun e => by have := hs k e; omega)⟩
/-- .. from an earlier world on: what is new may be turned. -/
theorem Kept.ahead {S T : Nat → Prop} {a b c : World} (h : Kept S a b) (k : Kept T b c) (hs : ∀ i, i < a.heap.size → T i → S i) : Kept S a c :=
  ⟨k.os.trans h.os, k.tape.trans h.tape, k.output.trans h.output, Nat.le_trans h.size k.size, fun i hi hn => (k.block i (Nat.lt_of_lt_of_le hi h.size) (fun e => hn (hs i hi e))).trans (h.block i hi hn)⟩
theorem Kept.cell {S : Nat → Prop} {w w' : World} (h : Kept S w w') {b o : Nat} (hb : b < w.heap.size) (hn : ¬ S b) : w'.cell? ⟨b, o, none⟩ = w.cell? ⟨b, o, none⟩ := World.cell?_of_block (h.block b hb hn)
theorem Kept.frozen {S : Nat → Prop} {w w' : World} (h : Kept S w w') {b o : Nat} (hb : b < w.heap.size) (hn : ¬ S b) : w'.frozen? ⟨b, o, none⟩ = w.frozen? ⟨b, o, none⟩ := World.frozen?_of_block (h.block b hb hn)
theorem Kept.row {S : Nat → Prop} {w w' : World} (h : Kept S w w') {b : Nat} {t : TypeId} {n : Nat} {f : Nat → Value} (hr : w.rowIs b t n f) (hn : ¬ S b) : w'.rowIs b t n f := hr.of_block (h.block b hr.lt hn)
theorem Kept.owns {S : Nat → Prop} {w w' : World} (h : Kept S w w') {base : Nat} {e : TypeId} {size : Nat} {v : Value} {n : Nat} {xs : List Value} (ho : w.ownsRow base e size v n xs) (hn : ∀ b, v.ownBlock = some b → ¬ S b) : w'.ownsRow base e size v n xs := by
  obtain ⟨hl, h'⟩ := ho
  refine ⟨hl, ?_⟩
  rcases h' with h' | ⟨g, cap, cur, hv, hg, hb, hr⟩
  · exact .inl h'
  · have hgl : g < w.heap.size := (Array.getElem?_eq_some_iff.1 hb).1
    exact .inr ⟨g, cap, cur, hv, hg, (h.block g hgl (hn g (by rw [hv]; exact Eq.refl _))).trans hb, hr⟩

/-- A record's three cells. -/
def IsRec (W : World) (b : Nat) (nm : ByteArray) (v : Value) (z : Int) : Prop := W.heap[b]? = some (.cells #[.string nm, v, .int .i64 z] 37 (0, 0))
theorem IsRec.c0 {W : World} {b : Nat} {nm : ByteArray} {v : Value} {z : Int} (h : IsRec W b nm v z) : W.cell? ⟨b, 0, none⟩ = some (.string nm) := by unfold IsRec at h; simp [World.cell?, h]
theorem IsRec.c1 {W : World} {b : Nat} {nm : ByteArray} {v : Value} {z : Int} (h : IsRec W b nm v z) : W.cell? ⟨b, 1, none⟩ = some v := by unfold IsRec at h; simp [World.cell?, h]
theorem IsRec.c2 {W : World} {b : Nat} {nm : ByteArray} {v : Value} {z : Int} (h : IsRec W b nm v z) : W.cell? ⟨b, 2, none⟩ = some (.int .i64 z) := by unfold IsRec at h; simp [World.cell?, h]
theorem IsRec.fr {W : World} {b : Nat} {nm : ByteArray} {v : Value} {z : Int} (h : IsRec W b nm v z) (j : Nat) : W.frozen? ⟨b, j, none⟩ = false := by unfold IsRec at h; simp [World.frozen?, h]
theorem IsRec.lt {W : World} {b : Nat} {nm : ByteArray} {v : Value} {z : Int} (h : IsRec W b nm v z) : b < W.heap.size := (Array.getElem?_eq_some_iff.1 h).1
theorem IsRec.set2 {W : World} {b : Nat} {nm : ByteArray} {v : Value} {z : Int} (h : IsRec W b nm v z) (y : Int) : IsRec (W.setCell ⟨b, 2, none⟩ (.int .i64 y)) b nm v y := by
  have hl := h.lt
  unfold IsRec at *
  rw [Array.getElem?_eq_some_iff] at h
  obtain ⟨_, h⟩ := h
  simp [World.setCell, hl, h, Array.getElem_modify]
theorem IsRec.put3 {W : World} {b : Nat} {nm : ByteArray} {v : Value} {z : Int} (h : IsRec W b nm v z) (nm' : ByteArray) (v' : Value) (z' : Int) : IsRec (((W.setCell ⟨b, 0, none⟩ (.string nm')).setCell ⟨b, 1, none⟩ v').setCell ⟨b, 2, none⟩ (.int .i64 z')) b nm' v' z' := by
  have hl := h.lt
  unfold IsRec at *
  rw [Array.getElem?_eq_some_iff] at h
  obtain ⟨_, h⟩ := h
  simp [World.setCell, hl, h, Array.getElem_modify]
theorem Kept.put3 (W : World) (b : Nat) (u0 u1 u2 : Value) : Kept (fun k => k = b) W (((W.setCell ⟨b, 0, none⟩ u0).setCell ⟨b, 1, none⟩ u1).setCell ⟨b, 2, none⟩ u2) :=
  (((Kept.rfl (fun k => k = b) W).set (.inl (Eq.refl _)) _).set (.inl (Eq.refl _)) _).set (.inl (Eq.refl _)) _
theorem Kept.isRec {S : Nat → Prop} {w w' : World} (h : Kept S w w') {b : Nat} {nm : ByteArray} {v : Value} {z : Int} (hr : IsRec w b nm v z) (hn : ¬ S b) : IsRec w' b nm v z := (h.block b hr.lt hn).trans hr

/-- One row's cells set, six stores. -/
theorem flat_set6 : ∀ (l : List Mb) (k : Nat) (m : Mb), k < l.length →
    ((((((flat Mb.cells l).set (k * 6) (.string m.nm)).set (k * 6 + 1) (.int .i64 m.ty.k)).set (k * 6 + 2) (.int .i64 m.ty.e)).set (k * 6 + 3) (.int .i64 m.ty.n)).set (k * 6 + 4) (.int .i64 m.ty.s)).set (k * 6 + 5) (.int .i64 m.pl) = flat Mb.cells (l.set k m)
  | x :: l, 0, m, _ => by simp [flat, Mb.cells]
  | x :: l, k + 1, m, h => by
    have := flat_set6 l k m (by simpa using h)
    have e : ∀ c, (k + 1) * 6 + c = (k * 6 + c) + 6 := fun c => by omega
    have e0 : (k + 1) * 6 = k * 6 + 6 := by omega
    rw [List.set_cons_succ, flat_cons, flat_cons, ← this]
    have hs : ∀ (L : List Value) (j : Nat) (u : Value), (Mb.cells x ++ L).set (j + 6) u = Mb.cells x ++ L.set j u := fun L j u => by
      rw [List.set_append_right _ _ (by rw [mb6]; omega), mb6, Nat.add_sub_cancel]
    rw [e0, hs]
    rw [show k * 6 + 6 + 1 = (k * 6 + 1) + 6 by omega, hs, show k * 6 + 6 + 2 = (k * 6 + 2) + 6 by omega, hs, show k * 6 + 6 + 3 = (k * 6 + 3) + 6 by omega, hs, show k * 6 + 6 + 4 = (k * 6 + 4) + 6 by omega, hs, show k * 6 + 6 + 5 = (k * 6 + 5) + 6 by omega, hs]
/-- The world behind six stores. -/
def put6 (W : World) (g k : Nat) (m : Mb) : World :=
  (((((W.setCell ⟨g, k * 6, none⟩ (.string m.nm)).setCell ⟨g, k * 6 + 1, none⟩ (.int .i64 m.ty.k)).setCell ⟨g, k * 6 + 2, none⟩ (.int .i64 m.ty.e)).setCell ⟨g, k * 6 + 3, none⟩ (.int .i64 m.ty.n)).setCell ⟨g, k * 6 + 4, none⟩ (.int .i64 m.ty.s)).setCell ⟨g, k * 6 + 5, none⟩ (.int .i64 m.pl)
theorem Own.put {t : TypeId} {W : World} {base g cap k : Nat} {l : List Mb} (h : Own t 6 Mb.cells W base (.slice (some ⟨g, 0, none⟩) l.length cap) l) (hk : k < l.length) (m : Mb) :
    Own t 6 Mb.cells (put6 W g k m) base (.slice (some ⟨g, 0, none⟩) l.length cap) (l.set k m) := by
  have h1 := (World.ownsRow.stored h (k * 6) (.string m.nm)).1
  have h2 := (World.ownsRow.stored h1 (k * 6 + 1) (.int .i64 m.ty.k)).1
  have h3 := (World.ownsRow.stored h2 (k * 6 + 2) (.int .i64 m.ty.e)).1
  have h4 := (World.ownsRow.stored h3 (k * 6 + 3) (.int .i64 m.ty.n)).1
  have h5 := (World.ownsRow.stored h4 (k * 6 + 4) (.int .i64 m.ty.s)).1
  have h6 := (World.ownsRow.stored h5 (k * 6 + 5) (.int .i64 m.pl)).1
  rw [flat_set6 l k m hk] at h6
  unfold Own
  rw [List.length_set]
  exact h6
theorem Kept.put6 (W : World) (g k : Nat) (m : Mb) : Kept (fun b => b = g) W (put6 W g k m) :=
  ((((((Kept.rfl (fun b => b = g) W).set (.inl (Eq.refl _)) _).set (.inl (Eq.refl _)) _).set (.inl (Eq.refl _)) _).set (.inl (Eq.refl _)) _).set (.inl (Eq.refl _)) _).set (.inl (Eq.refl _)) _

/-- A member that is not laid yet. -/
def zM : Mb := ⟨⟨#[]⟩, ⟨0, 0, 0, 0⟩, 0⟩
theorem flat_zeros : ∀ n, flat Mb.cells (List.replicate n zM) = (List.range (n * 6)).map (fun j => mz.cells[j % 6]!)
  | 0 => by simp [flat]
  | n + 1 => by
    rw [List.replicate_succ', flat_append, flat_zeros n, show (n + 1) * 6 = n * 6 + 6 by omega, List.range_add, List.map_append, List.map_map]
    congr 1
    have e : ∀ c, (n * 6 + c) % 6 = c % 6 := fun c => by omega
    simp [flat, Mb.cells, zM, mz, List.range_succ, Value.cells, Function.comp_def, e]
theorem make_mbs {et st : TypeId} {w : World} {base n : Nat} (hst : Try.prog.underlying st = some (.slice et)) (hi' : (Try.prog.info? et).map (fun i => (i.zero, i.size, i.bytes)) = some (some mz, 6, 56)) (hn : n * 56 ≤ 140737488355328) (hb : base ≤ w.heap.size) :
    ∃ w', (Instr.makeSlice st (.int .i64 (n : Nat)) (.int .i64 (n : Nat))).run Try.prog w = .ok (.slice (some ⟨w.heap.size, 0, none⟩) n n) w' ∧ Own et 6 Mb.cells w' base (.slice (some ⟨w.heap.size, 0, none⟩) n n) (List.replicate n zM) ∧ Below w.heap.size w w' ∧ w'.heap.size = w.heap.size + 1 := by
  obtain ⟨i0, hi, e0, e1, e2⟩ := info_parts hi'
  have hr := run_make (P := Try.prog) w st et i0 mz hst hi e0 .i64 .i64 (n : Nat) (n : Nat) (by omega) (Int.le_refl _) (by rw [e2]; omega) (by omega)
  rw [Int.toNat_natCast, e1] at hr
  refine ⟨_, hr, ?_, below1 _ _, by simp⟩
  refine ⟨by rw [flat_length mb6], .inr ⟨w.heap.size, n, _, by rw [List.length_replicate], hb, by rw [heap_alloc_new], by simp, by unfold maxLen; omega, size_madeCells _ _, ?_⟩⟩
  rw [flat_zeros, List.length_replicate]
  rw [List.take_of_length_le (by rw [Array.length_toList, size_madeCells]; exact Nat.le_refl _)]
  simp only [madeCells, Array.toList_map, Array.toList_range]
  rfl
end Go.Proofs.Ytmcadffagnbiaaa
