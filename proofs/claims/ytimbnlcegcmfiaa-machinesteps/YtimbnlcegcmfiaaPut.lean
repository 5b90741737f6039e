/- A byte is put: what was put grows by it. -/
import Derived.Test.YtimbnlcegcmfiaaDo
import Derived.Deep.RegionLaw
namespace Go

/-- The row behind an append to a slice that the call itself made is the old one, or a new one. -/
theorem append_block {P : Program} {w : World} (base : Nat) (t ty e : TypeId) (i : TypeInfo) (z : Value) (size bytes : Nat) (h1 : P.underlying t = some (.slice e)) (h2 : P.info? e = some i) (h3 : i.zero = some z) (h4 : i.size = size) (h5 : i.bytes = bytes) (h6 : z.cells.size = size) (h7 : 0 < size)
    (v : Value) (n : Nat) (xs : List Value) (hown : w.ownsRow base e size v n xs)
    (ad : Addr) (m c : Nat) (news : List Value) (hn : news.length = m * size) (hc : ∀ j u, news[j]? = some u → w.cell? (ad.add j) = some u) (h1c : ∀ u ∈ news, u.oneCell' = true)
    (b1 : n + m ≤ maxLen) (b2 : (n + m) * bytes ≤ 140737488355328) {v' : Value} {w' : World} (hrun : (Builtin.append_ #[t, t] ty #[v, .slice (some ad) m c]).run P w = .ok v' w') :
    v'.ownBlock = v.ownBlock ∨ ∀ k, v'.ownBlock = some k → w.heap.size ≤ k := by
  have hown' := hown
  obtain ⟨hl, ⟨rfl, rfl⟩ | ⟨g, cap, cur, rfl, hg, hb, hnc, hcm, hcs, hxs⟩⟩ := hown
  · obtain ⟨v2, w2, hr2, r1, _, _⟩ := run_append_own (P := P) w w.heap.size t ty e i z size bytes h1 h2 h3 h4 h5 h6 h7 (.slice none 0 0) 0 [] (World.ownsRow_nil w _ e size) ad m c news hn hc h1c b1 b2 (Nat.le_refl _)
    rw [hr2] at hrun
    injection hrun with e1 e2
    subst e1
    exact .inr fun k hk => (r1.lt k hk).1
  · by_cases hr : n + m ≤ cap
    · subst h4
      have hr2 := run_append_room_cells (P := P) w t ty e i h1 h2 g 0 n cap ad m c news hn hc h1c hr
        (fun j hj => by
          have : 0 + n * i.size + j < cur.size := by
            rw [hcs]
            have : (n + m) * i.size ≤ cap * i.size := Nat.mul_le_mul_right _ hr
            rw [Nat.add_mul] at this
            omega
          simp only [World.cell?, hb]
          rw [Array.getElem?_eq_getElem this]
          rfl)
        (fun j hj => by simp [World.frozen?, hb])
      rw [hr2] at hrun
      injection hrun with e1 e2
      subst e1
      exact .inl rfl
    · obtain ⟨v2, w2, hr2, r1, _⟩ := run_append_arg_grows (P := P) w t ty e i z size bytes h1 h2 h3 h4 h5 h6 h7 ⟨g, 0, none⟩ n cap xs hl (hown'.cells rfl) ad m c news hn hc (by omega) b1 b2
      rw [hr2] at hrun
      injection hrun with e1 e2
      subst e1
      exact .inr fun k hk => (r1.lt k hk).1

/-- append to a slice that the call itself made, as one step of a region that draws its order: there is room, or it grows. -/
theorem step_append_own {P : Program} {ops : Array Oper} {o : Oper} {a : Act} {w : World} {K : Act → World → Prop} {Q : Exit → Act → World → Prop} {E : Prop}
    (hg : o.guard = none) (s x : Operand) (t : TypeId) (hop : o.op = Op.call { callee := Callee.builtin Builtin.append, args := #[s, x], argTypes := #[t, t] })
    (base : Nat) (e : TypeId) (i : TypeInfo) (z : Value) (size bytes : Nat) (h1 : P.underlying t = some (.slice e)) (h2 : P.info? e = some i) (h3 : i.zero = some z) (h4 : i.size = size) (h5 : i.bytes = bytes) (h6 : z.cells.size = size) (h7 : 0 < size)
    (v : Value) (n : Nat) (xs : List Value) (hs : a.eval s = v) (hown : w.ownsRow base e size v n xs)
    (ad : Addr) (m c : Nat) (news : List Value) (hx : a.eval x = .slice (some ad) m c) (hn : news.length = m * size) (hc : ∀ j u, news[j]? = some u → w.cell? (ad.add j) = some u) (h1c : ∀ u ∈ news, u.oneCell' = true)
    (b1 : n + m ≤ maxLen) (b2 : (n + m) * bytes ≤ 140737488355328) (hbase : base ≤ w.heap.size)
    (hK : ∀ v' w', w'.ownsRow base e size v' (n + m) (xs ++ news) → w.grownBy w' v.ownBlock → (v'.ownBlock = v.ownBlock ∨ ∀ k, v'.ownBlock = some k → w.heap.size ≤ k) → K (a.put o.dst v') w') :
    if Region.wanted o (yielded ops a.tmps) = true then Oper.wp P o a w K Q else E := by
  have hw : Region.wanted o (yielded ops a.tmps) = true := by simp [Region.wanted, hg]
  rw [if_pos hw]
  obtain ⟨v', w', hrun, r1, r2, _⟩ := run_append_own (P := P) w base t o.type e i z size bytes h1 h2 h3 h4 h5 h6 h7 v n xs hown ad m c news hn hc h1c b1 b2 hbase
  unfold Oper.wp
  simp [execOp, hop, resolve, invoke, builtin, hs, hx, hrun, Result.andThen]
  exact hK v' w' r1 r2 (append_block base t o.type e i z size bytes h1 h2 h3 h4 h5 h6 h7 v n xs hown ad m c news hn hc h1c b1 b2 hrun)
end Go

namespace Go.Proofs.Ytimbnlcegcmfiaa
open Go.RowKit
set_option linter.unusedVariables false
section
variable {w : World} {N p q r : Nat} {sl : Value} {s : St}

theorem own_form {w : World} {base size n : Nat} {e : TypeId} {v : Value} {xs : List Value} (h : w.ownsRow base e size v n xs) (hn : 0 < n) : ∃ g cap, v = .slice (some ⟨g, 0, none⟩) n cap := by
  obtain ⟨_, ⟨_, h0⟩ | ⟨g, cap, _, hv, _⟩⟩ := h
  · omega
  · exact ⟨g, cap, hv⟩

theorem info5' : (Try.prog.info? 5).map (fun i => (i.zero, i.size, i.bytes)) = some (some (.int .u8 0), 1, 1) := by kernel_rfl

theorem one_cell {w : World} {g : Nat} {v : Value} (h : w.cell? ⟨g, 0, none⟩ = some v) : ∀ (j : Nat) (u : Value), [v][j]? = some u → w.cell? ((⟨g, 0, none⟩ : Addr).add j) = some u := by
  intro j u hj
  match j, hj with
  | 0, hj => simp at hj; subst hj; simpa [Addr.add] using h

/-- What the machine's cells are behind the append. -/
theorem IsM.grown {w' : World} (h : IsM w N p q r sl s) (hg : w.grownBy w' sl.ownBlock) : (∀ i, i < 26 → w'.cell? ⟨p, i, none⟩ = some (mcells q sl s i)) ∧ (∀ i, w'.frozen? ⟨p, i, none⟩ = false) := by
  have ob : some p ≠ sl.ownBlock := by
    intro e
    have := (h.own.lt p e.symm).1
    have := h.hp
    omega
  have hrow : w'.rowIs p 64 26 (mcells q sl s) := h.row.of_block (hg.block p h.plt ob)
  exact ⟨fun i hi => hrow.cell hi, fun i => hrow.frozen i⟩

set_option maxHeartbeats 2000000 in
theorem do_put (h : IsM w N p q r sl s) (hO : Ok s) (hl : s.out.length ≤ 1000000) (d b i : Int) (a : Nat) (ha : a < 16) :
    Does w N p q r sl 45 d a b i { s with out := s.out ++ [by8 (s.reg a)], pc := s.pc + 4 } := by
  have hp := h.plt
  have hc := h.c2
  have p0 := hO.pc0
  have p1 := hO.pc1
  have hr := h.reg a ha
  obtain ⟨x0, x1⟩ := hO.regs a ha
  have hc20 := h.c20
  have hf20 := h.free 20
  have hf2 := h.free 2
  obtain ⟨i0, hi, hz0, hz1, hz2⟩ := info_parts info5'
  have hY : Hid (IsM (((w.alloc (.cells #[.int .i64 45, .int .i64 d, .int .i64 a, .int .i64 b, .int .i32 i] 74)).alloc (.cells #[.int .u8 (s.reg a % 256)] 5)).drew) N p q r sl s) := ((h.alloc _).alloc _).drew
  have hw8 : Hid (IntKind.u8.wrap (s.reg a) = s.reg a % 256) := IntKind.wrap_u8 _
  have ha' : (a : Int) < 16 := by omega
  unfold Does
  go_enter Try.func34, Try.ntmps34
  go_wp2
  go_region_law (refine step_append_own rfl (.tmp 38) (.tmp 47) 39 rfl N 5 i0 (.int .u8 0) 1 1 Try.underlying39 hi hz0 hz1 hz2 rfl (by decide) sl s.out.length (vals s.out) (by simp [Act.eval]) hY.out.own ⟨w.heap.size + 1, 0, none⟩ 1 1 [.int .u8 (s.reg a % 256)] (by simp [Act.eval]) rfl (one_cell (by simp [go_sem]; exact hw8.out)) (fun u hu => by simp at hu; subst hu; rfl) (by unfold maxLen; omega) (by omega) hY.out.hN ?_; intro v' w' hown hgrow hblk; obtain ⟨g, cap, rfl⟩ := own_form hown (by omega); obtain ⟨gc, gf⟩ := hY.out.grown hgrow; have gc20 := gc 20 (by omega); have gc2 := gc 2 (by omega); have gf20 := gf 20; have gf2 := gf 2; clear gc gf)
  all_goals go_wp2
  all_goals go_end0
  all_goals
    rw [← by8_val x0] at hown
    refine ⟨rfl, _, (hY.out.setOut hgrow hown).setPc _, ((((((Kept.rfl _ w).alloc _).alloc _).drew).trans (Kept.of_grown hgrow (fun k e => .inr (.inr e)))).set (.inl (mine_p p r sl)) _).set (.inl (mine_p p r sl)) _, ?_⟩
    rcases hblk with e | e
    · exact .inl e
    · exact .inr (fun k hk => by have := e k hk; simp at this; omega)
end
end Go.Proofs.Ytimbnlcegcmfiaa
