/- The document's scope: its plain reading, and its calls. -/
import Derived.Test.YthdphldagfeepaaDecl
namespace Go.Proofs.Ythdphldagfeepaa
open Go.RowKit Go.Maps
set_option linter.unusedVariables false
set_option linter.unusedSimpArgs false

def lastF (L : List Ent) (s : ByteArray) : Option Int := L.foldl (fun a e => if e.nm = s then some e.id else a) none
theorem lastF_nil (s : ByteArray) : lastF [] s = none := rfl
theorem lastF_snoc (L : List Ent) (e : Ent) (s : ByteArray) : lastF (L ++ [e]) s = if e.nm = s then some e.id else lastF L s := by simp [lastF]
theorem take_snoc (L : List Ent) (k : Nat) (hk : k < L.length) : L.take (k + 1) = L.take k ++ [L[k]] := by rw [List.take_add_one, List.getElem?_eq_getElem hk]; rfl
def hasR (L : List Ent) (N : Int) (s : ByteArray) : Prop := ∃ e ∈ L, e.bl = N ∧ e.nm = s
def popR (L : List Ent) (N : Int) : List Ent := (L.reverse.dropWhile (fun e => decide (e.bl = N))).reverse
theorem popR_nil (N : Int) : popR [] N = [] := rfl
theorem popR_snoc (L : List Ent) (e : Ent) (N : Int) : popR (L ++ [e]) N = if e.bl = N then popR L N else L ++ [e] := by
  unfold popR
  by_cases h : e.bl = N
  · simp [h]
  · simp [h]

theorem ent_cells {w : World} {b o : Nat} {m : Ent} (h : ∀ c, c < 3 → w.cell? ⟨b, o + c, none⟩ = (Ent.cells m)[c]?) :
    w.cell? ⟨b, o, none⟩ = some (.int .i64 m.bl) ∧ w.cell? ⟨b, o + 1, none⟩ = some (.string m.nm) ∧ w.cell? ⟨b, o + 2, none⟩ = some (.int .i64 m.id) :=
  ⟨h 0 (by omega), h 1 (by omega), h 2 (by omega)⟩

section
variable {w : World} {B q : Nat} {v : Value} {L : List Ent} {N : Int}
theorem IsR.src (h : IsR w B q v L N) : Src Ent.cells w v L := Own.src ent3 h.own

set_option maxHeartbeats 1000000 in
theorem rfind11 (h : IsR w B q v L N) (s : ByteArray) (hl : L.length ≤ 9000000000000000000) :
    Calls Try.prog 11 #[.pointer (some ⟨q, 0, none⟩), .string s] w fun e w' => e = .returned (retF (lastF L s)) ∧ w' = w := by
  have hc := h.c0
  obtain ⟨ao, cap, rfl, hf⟩ := h.src.form ent3
  have HF := hid' hf
  clear hf h
  go_enter Try.func11, Try.ntmps11
  go_wp2
  go_loop [6] (fun i => ∃ j : Nat, j ≤ L.length ∧ i = .int .i64 ((j : Int) - 1) ∧ lastF L s = lastF (L.take j) s) (fun i => (intOf i + 1).toNat)
  case atStart => exact ⟨L.length, Nat.le_refl _, rfl, by rw [List.take_length]⟩
  case round =>
    obtain ⟨j, hj, rfl, hfd⟩ := hrel
    have HD := hid' hfd
    clear hfd
    cases j with
    | zero =>
      go_wp2
      go_ret2
      exact ⟨by rw [HD.out]; rfl, rfl⟩
    | succ k =>
      obtain ⟨b, off, rfl, hbl, hcp, hcc⟩ := HF.out k (by omega)
      obtain ⟨c0, c1, c2⟩ := ent_cells (hcc w (Below.refl _ _))
      clear hcc
      have e1 : ((k + 1 : Nat) : Int) - 1 = k := by omega
      rw [e1]
      by_cases he : L[k].nm = s
      · have HR : Hid (lastF L s = some L[k].id) := by unfold Hid; rw [HD.out, take_snoc L k (by omega), lastF_snoc, if_pos he]
        rw [he] at c1
        clear he
        go_wp2
        go_ret2
        exact ⟨by rw [HR.out]; rfl, rfl⟩
      · have HR : Hid (lastF L s = lastF (L.take k) s) := by unfold Hid; rw [HD.out, take_snoc L k (by omega), lastF_snoc, if_neg he]
        have he' := toList_ne he
        clear he
        go_wp2
        go_round
        case rel => exact ⟨k, by omega, by go_num, HR.out⟩
        case measure => simp [intOf]

theorem rnew7 (w : World) : Calls Try.prog 7 #[] w fun e w' => e = .returned (.pointer (some ⟨w.heap.size, 0, none⟩)) ∧ Rc w' w.heap.size w.heap.size [] 1 ∧ w' = w.alloc (.cells #[.slice none 0 0, .int .i64 1] 33) := by
  go_enter Try.func7, Try.ntmps7
  go_wp2
  go_ret
  refine ⟨rfl, ⟨.slice none 0 0, ?_, World.ownsRow_nil _ _ _ _, Nat.le_refl _⟩, rfl⟩
  have := Deep.blk_alloc_new w (.cells #[.slice none 0 0, .int .i64 1] 33)
  simpa using this

theorem rset1 (h : IsR w B q v L N) (N' : Int) : IsR (w.setCell ⟨q, 1, none⟩ (.int .i64 N')) B q v L N' ∧ KR B w (w.setCell ⟨q, 1, none⟩ (.int .i64 N')) := by
  have k1 : Kept (fun b => b = q) w (w.setCell ⟨q, 1, none⟩ (.int .i64 N')) := (Kept.rfl (fun b => b = q) w).set (a := ⟨q, 1, none⟩) (.inl rfl) _
  refine ⟨⟨?_, ?_, h.bq⟩, k1.mono (fun k _ e => ?_)⟩
  · have hh := h.head
    have hl := h.qlt
    rw [Array.getElem?_eq_some_iff] at hh
    obtain ⟨_, hh⟩ := hh
    simp [World.setCell, hl, hh, Array.getElem_modify]
  · refine k1.owns h.own (fun b hb e => ?_)
    rcases h.own.2 with ⟨e', _⟩ | ⟨k, cap', cur, e', _, hh, _⟩
    · subst e'; simp [Value.ownBlock] at hb
    · subst e'
      simp [Value.ownBlock] at hb
      subst hb
      have := h.head
      rw [← e, hh] at this
      cases this
  · subst e
    exact ⟨h.bq, .inl ⟨_, _, h.head⟩⟩

theorem renter17 (h : IsR w B q v L N) (h0 : 0 ≤ N) (h1 : N ≤ 9000000000000000000) :
    Calls Try.prog 17 #[.pointer (some ⟨q, 0, none⟩)] w fun e w' => e = .returned (.tuple #[]) ∧ Rc w' B q L (N + 1) ∧ KR B w w' := by
  have hc := h.c1
  have hf := h.free
  have HE := hid' (rset1 h (N + 1))
  clear h
  go_enter Try.func17, Try.ntmps17
  go_wp2
  go_end0
  exact ⟨rfl, ⟨_, HE.out.1⟩, HE.out.2⟩
end
end Go.Proofs.Ythdphldagfeepaa
