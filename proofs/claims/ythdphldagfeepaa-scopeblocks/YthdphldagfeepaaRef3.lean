/- Leave of the document. -/
import Derived.Test.YthdphldagfeepaaRef2
namespace Go.Proofs.Ythdphldagfeepaa
open Go.RowKit Go.Maps
set_option linter.unusedVariables false
set_option linter.unusedSimpArgs false

/-- How long the document's row is. -/
def lenAt (w : World) (q : Nat) : Nat := match w.cell? ⟨q, 0, none⟩ with | some (.slice _ n _) => n | _ => 0

section
variable {w : World} {B q : Nat} {v : Value} {L : List Ent} {N : Int}
theorem IsR.len (h : IsR w B q v L N) : lenAt w q = L.length := by
  obtain ⟨ao, cap, rfl⟩ := h.src.len
  unfold lenAt
  rw [h.c0]

/-- One name less. -/
theorem IsR.popped {e : Ent} {r cap : Nat} (h : IsR w B q (.slice (some ⟨r, 0, none⟩) (L.length + 1) cap) (L ++ [e]) N) :
    IsR (w.setCell ⟨q, 0, none⟩ (.slice (some ⟨r, 0, none⟩) L.length cap)) B q (.slice (some ⟨r, 0, none⟩) L.length cap) L N ∧ KR B w (w.setCell ⟨q, 0, none⟩ (.slice (some ⟨r, 0, none⟩) L.length cap)) := by
  have k3 : Kept (fun b => b = q) w (w.setCell ⟨q, 0, none⟩ (.slice (some ⟨r, 0, none⟩) L.length cap)) := (Kept.rfl (fun b => b = q) w).set (a := ⟨q, 0, none⟩) (.inl rfl) _
  have ho : w.ownsRow B 52 3 (.slice (some ⟨r, 0, none⟩) (L.length + 1) cap) (L.length + 1) (flat Ent.cells (L ++ [e])) := by have := h.own; unfold Own at this; rwa [List.length_append] at this
  have ho' := owns_prefix ho (m := L.length) (by omega)
  have e' : (flat Ent.cells (L ++ [e])).take (L.length * 3) = flat Ent.cells L := by
    rw [flat_append, ← flat_length ent3 L, List.take_left]
  rw [e'] at ho'
  refine ⟨⟨?_, ?_, h.bq⟩, k3.mono (fun k _ e => ?_)⟩
  · have hq2 := h.head
    have hl := h.qlt
    rw [Array.getElem?_eq_some_iff] at hq2
    obtain ⟨_, hh⟩ := hq2
    simp [World.setCell, hl, hh, Array.getElem_modify]
  · refine k3.owns ho' (fun b hb e' => ?_)
    simp [Value.ownBlock] at hb
    subst hb e'
    rcases ho.2 with ⟨e', _⟩ | ⟨k, c, cur, e', hb', hh, _⟩
    · cases e'
    · injection e' with e1 e2 e3
      injection e1 with e1
      injection e1 with e1
      subst e1
      rw [h.head] at hh
      cases hh
  · subst e
    exact ⟨h.bq, .inl ⟨_, _, h.head⟩⟩

theorem snoc_cases (l : List Ent) : l = [] ∨ ∃ L e, l = L ++ [e] := by
  rcases List.eq_nil_or_concat l with h | ⟨L, e, h⟩
  · exact .inl h
  · exact .inr ⟨L, e, by simpa using h⟩

theorem IsR.drew (h : IsR w B q v L N) : IsR w.drew B q v L N := ⟨h.head, h.own, h.bq⟩
theorem drewK (B : Nat) (w : World) {m : Nat} : KR B w (w.drewN m) := (Kept.rfl _ _).drewN m

set_option maxHeartbeats 4000000 in
theorem rleave18_two (h : IsR w B q v L N) (hN : 2 ≤ N) (hN2 : N ≤ 9000000000000000000) (hl : L.length * 32 ≤ 140737488351232) :
    Calls Try.prog 18 #[.pointer (some ⟨q, 0, none⟩)] w fun e w' => e = .returned (.int .i64 0) ∧ Rc w' B q (popR L N) (N - 1) ∧ KR B w w' := by
  have HR := hid' h
  have hc := h.c1
  have hll := hid' hl
  clear h hl
  go_enter Try.func18, Try.ntmps18
  go_wp2
  go_loopw [8] (fun _ wr => ∃ (L' : List Ent) (v' : Value), IsR wr B q v' L' N ∧ popR L N = popR L' N ∧ KR B w wr ∧ L'.length ≤ L.length) (fun _ wr => lenAt wr q)
  case atStart => exact ⟨L, v, HR.out, rfl, KR.rfl _ _, Nat.le_refl _⟩
  case round =>
    obtain ⟨L', v', hR', hp, hk, hlen⟩ := hrel
    have HP := hid' hp
    have HK := hid' hk
    have HL := hid' hlen
    have HR' := hid' hR'
    have hc0 := hR'.c0
    have hc1 := hR'.c1
    have hfr := hR'.free
    clear hc hp hk hlen
    rcases snoc_cases L' with rfl | ⟨X, e, rfl⟩
    · obtain ⟨ao, cap, rfl⟩ := hR'.src.len
      clear hR'
      simp only [List.length_nil] at hc0
      go_wp2
      go_quiet (fail)
      go_wp2
      go_ret
      have hE := rset1 (HR'.out.drewN nq) (N - 1)
      exact ⟨rfl, ⟨_, by rw [HP.out]; exact hE.1⟩, (HK.out.trans (drewK _ _)).trans hE.2⟩
    · have hz : (X ++ [e]).length = X.length + 1 := by simp
      have ho' : wr.ownsRow B 52 3 v' (X.length + 1) (flat Ent.cells (X ++ [e])) := by have := hR'.own; unfold Own at this; rwa [List.length_append] at this
      obtain ⟨r, cap, rfl⟩ := own_slice ho'
      have hcell : ∀ c, c < 3 → wr.cell? ⟨r, X.length * 3 + c, none⟩ = (Ent.cells e)[c]? := fun c hc => by
        rw [World.ownsRow.cellAt ho' _ (by omega), flat_append, List.getElem?_append_right (by rw [flat_length ent3]; omega), flat_length ent3]
        rw [show X.length * 3 + c - X.length * 3 = c by omega]
        simp [flat]
      obtain ⟨c0, c1, c2⟩ := ent_cells hcell
      have HX : Hid (X.length * 32 ≤ 140737488351232) := by unfold Hid; have := HL.out; have := hll.out; rw [hz] at *; omega
      have hX : X.length ≤ 140737488351232 := by have := HX.out; omega
      have hcap : X.length + 1 ≤ cap ∧ cap ≤ maxLen := by
        rcases ho'.2 with ⟨e', _⟩ | ⟨k, c, cur, e', hb', hh, h1, h2, _⟩
        · cases e'
        · injection e' with e1 e2 e3
          subst e3
          exact ⟨h1, h2⟩
      obtain ⟨hcap, hcm⟩ := hcap
      unfold maxLen at hcm
      clear ho' hcell hR'
      by_cases he : e.bl = N
      · have HN : Hid (popR L N = popR X N) := by unfold Hid; rw [HP.out, popR_snoc, if_pos he]
        rw [he] at c0
        clear he hz
        go_wp2
        go_quiet (fail)
        go_wp2
        have HD : Hid (IsR (wr.drewN nq) B q (.slice (some ⟨r, 0, none⟩) (X.length + 1) cap) (X ++ [e]) N ∧ KR B w (wr.drewN nq)) := ⟨HR'.out.drewN nq, HK.out.trans (drewK _ _)⟩
        generalize wr.drewN nq = W at *
        have d0 := HD.out.1.c0
        have df := HD.out.1.free
        clear hc0 hc1 hfr c0 c1 c2
        go_region
        all_goals
          go_wp2
          have HE := hid' HD.out.1.popped
          go_roundw
          case rel => exact ⟨X, _, HE.out.1.drew, HN.out, (HD.out.2.trans HE.out.2).trans (Kept.rfl _ _).drew, by have := HL.out; simp at this; omega⟩
          case measure => rw [HE.out.1.drew.len, HR'.out.len]; simp
      · have HN : Hid (popR L N = X ++ [e]) := by unfold Hid; rw [HP.out, popR_snoc, if_neg he]
        have he' : (e.bl == N) = false := by simpa using he
        clear he hz
        go_wp2
        go_quiet (fail)
        go_wp2
        go_ret
        have hE := rset1 (HR'.out.drewN nq) (N - 1)
        exact ⟨rfl, ⟨_, by rw [HN.out]; exact hE.1⟩, (HK.out.trans (drewK _ _)).trans hE.2⟩

theorem rleave18_one (h : IsR w B q v L N) (hN : N < 2) : Calls Try.prog 18 #[.pointer (some ⟨q, 0, none⟩)] w fun e w' => e = .returned (.int .i64 4) ∧ w' = w := by
  have hc := h.c1
  clear h
  go_enter Try.func18, Try.ntmps18
  go_wp2
  go_ret
  exact ⟨rfl, rfl⟩

/-- The document's calls, whatever lies where. -/
theorem rleave18 (h : Rc w B q L N) (hN2 : N ≤ 9000000000000000000) (hl : L.length * 32 ≤ 140737488351232) :
    Calls Try.prog 18 #[.pointer (some ⟨q, 0, none⟩)] w fun e w' => e = .returned (.int .i64 (if N < 2 then 4 else 0)) ∧ Rc w' B q (if N < 2 then L else popR L N) (if N < 2 then N else N - 1) ∧ KR B w w' := by
  have h0 := h
  obtain ⟨v, h⟩ := h
  by_cases c : N < 2
  · rw [if_pos c, if_pos c, if_pos c]
    refine (rleave18_one h c).mono ?_
    rintro e w' ⟨rfl, rfl⟩
    exact ⟨rfl, h0, KR.rfl _ _⟩
  · rw [if_neg c, if_neg c, if_neg c]
    exact rleave18_two h (by omega) hN2 hl
theorem rfind11' (h : Rc w B q L N) (s : ByteArray) (hl : L.length * 32 ≤ 140737488351232) : Calls Try.prog 11 #[.pointer (some ⟨q, 0, none⟩), .string s] w fun e w' => e = .returned (retF (lastF L s)) ∧ w' = w := by
  obtain ⟨v, h⟩ := h
  exact rfind11 h s (by omega)
theorem renter17' (h : Rc w B q L N) (h0 : 0 ≤ N) (h1 : N ≤ 9000000000000000000) : Calls Try.prog 17 #[.pointer (some ⟨q, 0, none⟩)] w fun e w' => e = .returned (.tuple #[]) ∧ Rc w' B q L (N + 1) ∧ KR B w w' := by
  obtain ⟨v, h⟩ := h
  exact renter17 h h0 h1
/-- Has the innermost block the name? -/
def hasB (L : List Ent) (N : Int) (s : ByteArray) : Bool := L.any fun e => decide (e.bl = N ∧ e.nm = s)
theorem hasB_iff (L : List Ent) (N : Int) (s : ByteArray) : hasB L N s = true ↔ hasR L N s := by simp [hasB, hasR]
theorem rdeclare16 (h : Rc w B q L N) (s : ByteArray) (x : Int) (hl : L.length * 32 ≤ 140737488351232) :
    Calls Try.prog 16 #[.pointer (some ⟨q, 0, none⟩), .string s, .int .i64 x] w fun e w' => e = .returned (.int .i64 (if hasB L N s then 1 else 0)) ∧ Rc w' B q (if hasB L N s then L else L ++ [⟨N, s, x⟩]) N ∧ KR B w w' := by
  obtain ⟨v, h⟩ := h
  refine (rdeclare16_walk h s x hl).mono ?_
  rintro e w' (⟨h1, h2⟩ | ⟨h1, h2⟩)
  · rw [(hasB_iff L N s).2 h1]
    exact h2
  · rw [Bool.eq_false_iff.2 (fun e => h1 ((hasB_iff L N s).1 e))]
    exact h2
end
end Go.Proofs.Ythdphldagfeepaa
