/- Declare and Leave of the document. -/
import Derived.Test.YthdphldagfeepaaRef
import Derived.Deep.RegionLaw
namespace Go.Proofs.Ythdphldagfeepaa
open Go.RowKit Go.Maps
set_option linter.unusedVariables false
set_option linter.unusedSimpArgs false

section
variable {w : World} {B q : Nat} {v : Value} {L : List Ent} {N : Int}
theorem not_has {s : ByteArray} (h : ∀ j (hj : j < L.length), ¬ (L[j].bl = N ∧ L[j].nm = s)) : ¬ hasR L N s := by
  rintro ⟨e, he, h1⟩
  obtain ⟨i, hi, rfl⟩ := List.getElem_of_mem he
  exact h i hi h1

theorem drewB {n m : Nat} {w w' : World} (h : Below n w w') : Below n w (w'.drewN m) := ⟨h.os, h.tape, h.output, h.size, h.block⟩
theorem IsR.drewN (h : IsR w B q v L N) (m : Nat) : IsR (w.drewN m) B q v L N := ⟨h.head, h.own, h.bq⟩

/-- append, by what its run is, as a step of a region that draws. -/
theorem step_run {P : Program} {ops : Array Oper} {o : Oper} {a : Act} {w w' : World} {K : Act → World → Prop} {Q : Exit → Act → World → Prop} {E : Prop}
    (hg : o.guard = none) (s x : Operand) (t : TypeId) (hop : o.op = Op.call { callee := Callee.builtin Builtin.append, args := #[s, x], argTypes := #[t, t] })
    (v xv v' : Value) (hs : a.eval s = v) (hx : a.eval x = xv) (hrun : (Builtin.append_ #[t, t] o.type #[v, xv]).run P w = .ok v' w') (hK : K (a.put o.dst v') w') :
    if Region.wanted o (yielded ops a.tmps) = true then Oper.wp P o a w K Q else E := by
  have hw : Region.wanted o (yielded ops a.tmps) = true := by simp [Region.wanted, hg]
  rw [if_pos hw]
  unfold Oper.wp
  simp [execOp, hop, resolve, invoke, builtin, hs, hx, hrun, Result.andThen]
  exact hK

/-- A name more. -/
theorem IsR.pushed (h : IsR w B q v L N) (e : Ent) (hl : L.length * 32 ≤ 140737488351232) :
    ∃ r' cap' w', (Builtin.append_ #[31, 31] 31 #[v, .slice (some ⟨w.heap.size, 0, none⟩) 1 1]).run Try.prog ((w.alloc (.cells #[.int .i64 e.bl, .string e.nm, .int .i64 e.id] 52)).drew) = .ok (.slice (some ⟨r', 0, none⟩) (L.length + 1) cap') w' ∧
      w'.cell? ⟨q, 0, none⟩ = some v ∧ w'.frozen? ⟨q, 0, none⟩ = false ∧
      Rc (w'.setCell ⟨q, 0, none⟩ (.slice (some ⟨r', 0, none⟩) (L.length + 1) cap')) B q (L ++ [e]) N ∧ KR B w (w'.setCell ⟨q, 0, none⟩ (.slice (some ⟨r', 0, none⟩) (L.length + 1) cap')) := by
  have hqlt := h.qlt
  have hB := h.size
  obtain ⟨W, hW⟩ : ∃ W, W = (w.alloc (.cells #[.int .i64 e.bl, .string e.nm, .int .i64 e.id] 52)).drew := ⟨_, rfl⟩
  have kW : Kept (fun _ => False) w W := by rw [hW]; exact ((Kept.rfl _ _).alloc _).drew
  have hoW : Own 52 3 Ent.cells W B v L := kW.owns h.own (fun _ _ e => e)
  have hs : Src Ent.cells W (.slice (some ⟨w.heap.size, 0, none⟩) 1 1) [e] := by
    refine .inr ⟨w.heap.size, 0, 1, rfl, by rw [hW]; simp, by simp, fun j u hj => ?_⟩
    have : flat Ent.cells [e] = [.int .i64 e.bl, .string e.nm, .int .i64 e.id] := by simp [flat, Ent.cells]
    rw [this] at hj
    rw [hW]
    match j, hj with
    | 0, hj => simp at hj; subst hj; simp [go_sem]
    | 1, hj => simp at hj; subst hj; simp [go_sem]
    | 2, hj => simp at hj; subst hj; simp [go_sem]
  have hsW : W.heap.size = w.heap.size + 1 := by rw [hW]; simp
  obtain ⟨v', w', hr, ho, hg, hloc⟩ := append_own (st := 31) (et := 52) (base := B) ent3 ent1 Try.underlying31 info52 rfl (by decide) hoW hs (by simp; omega) (by unfold maxLen; simp; omega) (by omega) 31
  rw [hW] at hr
  have ho' : w'.ownsRow B 52 3 v' (L.length + 1) (flat Ent.cells (L ++ [e])) := by have := ho; unfold Own at this; rwa [List.length_append] at this
  obtain ⟨r', cap', rfl⟩ := own_slice ho'
  have hown : ∀ b, v.ownBlock = some b → B ≤ b ∧ ∃ cs f, w.heap[b]? = some (.cells cs 52 f) := fun b hb => by
    rcases h.own.2 with ⟨e', _⟩ | ⟨k, c, cur, e', hb', hh, _⟩
    · subst e'; simp [Value.ownBlock] at hb
    · subst e'
      simp [Value.ownBlock] at hb
      subst hb
      exact ⟨hb', _, _, hh⟩
  have nq : ∀ b, v.ownBlock = some b → b ≠ q := fun b hb e' => by
    obtain ⟨_, cs, f, hh⟩ := hown b hb
    rw [e', h.head] at hh
    cases hh
  have k2 : Kept (fun b => v.ownBlock = some b) w w' := (kW.mono (fun _ _ e => e.elim)).trans (Kept.of_grown hg (fun k hk => hk))
  have hq2 := (k2.block q hqlt (fun e' => nq q e' rfl)).trans h.head
  refine ⟨r', cap', w', hr, by simp [World.cell?, hq2], by simp [World.frozen?, hq2], ⟨.slice (some ⟨r', 0, none⟩) (L.length + 1) cap', ?_, ?_, h.bq⟩, ?_⟩
  · have hl := (Array.getElem?_eq_some_iff.1 hq2).1
    rw [Array.getElem?_eq_some_iff] at hq2
    obtain ⟨_, hh⟩ := hq2
    simp [World.setCell, hl, hh, Array.getElem_modify]
  · have k3 : Kept (fun b => b = q) w' (w'.setCell ⟨q, 0, none⟩ (.slice (some ⟨r', 0, none⟩) (L.length + 1) cap')) := (Kept.rfl (fun b => b = q) w').set (a := ⟨q, 0, none⟩) (.inl rfl) _
    refine k3.owns ho (fun b hb e' => ?_)
    simp [Value.ownBlock] at hb
    subst hb e'
    rcases ho'.2 with ⟨e', _⟩ | ⟨k, c, cur, e', hb', hh, _⟩
    · cases e'
    · injection e' with e1 e2 e3
      injection e1 with e1
      injection e1 with e1
      subst e1
      rw [hq2] at hh
      cases hh
  · have k4 := (k2.mono (T := fun b => v.ownBlock = some b ∨ b = q) (fun k _ e => .inl e)).set (a := ⟨q, 0, none⟩) (.inl (.inr rfl)) (.slice (some ⟨r', 0, none⟩) (L.length + 1) cap')
    refine k4.mono (fun k _ e' => ?_)
    rcases e' with e' | rfl
    · obtain ⟨h1, h2⟩ := hown k e'
      exact ⟨h1, .inr h2⟩
    · exact ⟨h.bq, .inl ⟨_, _, h.head⟩⟩

set_option maxHeartbeats 4000000 in
theorem rdeclare16_walk (h : IsR w B q v L N) (s : ByteArray) (x : Int) (hl : L.length * 32 ≤ 140737488351232) :
    Calls Try.prog 16 #[.pointer (some ⟨q, 0, none⟩), .string s, .int .i64 x] w fun e w' => (hasR L N s ∧ e = .returned (.int .i64 1) ∧ Rc w' B q L N ∧ KR B w w') ∨ (¬ hasR L N s ∧ e = .returned (.int .i64 0) ∧ Rc w' B q (L ++ [⟨N, s, x⟩]) N ∧ KR B w w') := by
  have HR := hid' h
  obtain ⟨ao, cap, rfl, hf⟩ := h.src.form ent3
  have HF := hid' hf
  clear hf h
  go_enter Try.func16, Try.ntmps16
  go_wp2
  go_loopw [7] (fun i wr => ∃ k : Nat, k ≤ L.length ∧ i = .int .i64 k ∧ (∀ j (hj : j < L.length), j < k → ¬ (L[j].bl = N ∧ L[j].nm = s)) ∧ Below w.heap.size w wr) (fun i _ => L.length - (intOf i).toNat)
  case atStart => exact ⟨0, Nat.zero_le _, rfl, fun j _ hj => by omega, Below.refl _ _⟩
  case round =>
    obtain ⟨k, hk, rfl, hok, hb⟩ := hrel
    have HK := hid' hok
    have HB := hid' hb
    have HR2 := hid' (HR.out.below hb)
    have hc := (HR.out.below hb).c0
    have hc1 := (HR.out.below hb).c1
    clear hok hb
    by_cases hlt : k < L.length
    · obtain ⟨b, off, rfl, hbl, hcp, hcc⟩ := HF.out k hlt
      obtain ⟨c0, c1, c2⟩ := ent_cells (hcc wr HB.out)
      clear hcc
      by_cases hbq : L[k].bl = N
      · by_cases he : L[k].nm = s
        · have HH : Hid (hasR L N s) := ⟨L[k], List.getElem_mem hlt, hbq, he⟩
          rw [he] at c1
          rw [hbq] at c0
          clear he hbq
          go_wp2
          go_quiet (fail)
          go_wp2
          go_ret
          exact .inl ⟨HH.out, rfl, ⟨_, HR2.out.drewN _⟩, KR.of_below (drewB HB.out)⟩
        · have HN : Hid (∀ j (hj : j < L.length), j < k + 1 → ¬ (L[j].bl = N ∧ L[j].nm = s)) := fun j hj hjk => by
            by_cases e : j = k
            · subst e; exact fun h => he h.2
            · exact HK.out j hj (by omega)
          have he' := toList_ne he
          rw [hbq] at c0
          clear he hbq
          go_wp2
          go_quiet (fail)
          go_wp2
          go_roundw
          case rel => exact ⟨k + 1, by omega, by go_num, HN.out, (drewB HB.out)⟩
          case measure => simp [intOf]; omega
      · have HN : Hid (∀ j (hj : j < L.length), j < k + 1 → ¬ (L[j].bl = N ∧ L[j].nm = s)) := fun j hj hjk => by
          by_cases e : j = k
          · subst e; exact fun h => hbq h.1
          · exact HK.out j hj (by omega)
        have hbq' : (L[k].bl == N) = false := by simpa using hbq
        clear hbq
        go_wp2
        go_quiet (fail)
        go_wp2
        go_roundw
        case rel => exact ⟨k + 1, by omega, by go_num, HN.out, (drewB HB.out)⟩
        case measure => simp [intOf]; omega
    · have e : k = L.length := by omega
      subst e
      have HH : Hid (¬ hasR L N s) := not_has (fun j hj => HK.out j hj hj)
      obtain ⟨r', cap', w2, hr6, hc2, hf2, hR, hKR⟩ := HR2.out.pushed ⟨N, s, x⟩ hl
      have HQ : Hid (Rc (w2.setCell ⟨q, 0, none⟩ (.slice (some ⟨r', 0, none⟩) (L.length + 1) cap')) B q (L ++ [⟨N, s, x⟩]) N ∧ KR B w (w2.setCell ⟨q, 0, none⟩ (.slice (some ⟨r', 0, none⟩) (L.length + 1) cap'))) := ⟨hR, (KR.of_below HB.out).trans hKR⟩
      clear hR hKR
      dsimp only at hr6
      have ha := HR2.out.below (below_box wr (.cells #[.int .i64 N, .string s, .int .i64 x] 52))
      have ha0 := ha.c0
      have ha1 := ha.c1
      clear ha
      go_wp2
      go_region_law (refine step_run rfl (.tmp 46) (.tmp 54) 31 rfl _ _ _ (by simp [Act.eval]) (by simp [Act.eval]) hr6 ?_)
      all_goals
        go_wp2
        go_ret
        exact .inr ⟨HH.out, rfl, HQ.out⟩
end
end Go.Proofs.Ythdphldagfeepaa
