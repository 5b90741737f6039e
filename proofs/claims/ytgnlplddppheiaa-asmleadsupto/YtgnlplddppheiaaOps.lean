/- The law's own slices of lines: Lines, own. -/
import Derived.Test.YtgnlplddppheiaaAsm
import Derived.Deep.AppendSrc
namespace Go.Proofs.Ytgnlplddppheiaa
open Go.RowKit Go.Maps
set_option linter.unusedVariables false

theorem info40' : (Try.prog.info? 40).map (fun i => (i.zero, i.size, i.bytes)) = some (some (.agg #[.int .i64 0, .int .i64 0, .int .i64 0, .int .i64 0, .int .i64 0, .int .i32 0, .int .i64 0]), 7, 56) := by kernel_rfl

/-- Lines as cells. -/
def cells7 (ls : List Ln) : List Value := ls.flatMap Ln.cells
theorem cells7_length (l : List Ln) : (cells7 l).length = l.length * 7 := by
  induction l with
  | nil => rfl
  | cons x l ih => simp [cells7, Ln.cells] at *; omega
theorem cells7_append (l m : List Ln) : cells7 (l ++ m) = cells7 l ++ cells7 m := by simp [cells7]
theorem cells7_get : ∀ (l : List Ln) (i c : Nat) (hi : i < l.length), c < 7 → (cells7 l)[i * 7 + c]? = (Ln.cells l[i])[c]?
  | x :: l, 0, c, _, hc => by
    have e : cells7 (x :: l) = Ln.cells x ++ cells7 l := by simp [cells7]
    rw [e, List.getElem?_append_left (by simp [Ln.cells]; omega)]
    simp
  | x :: l, i + 1, c, hi, hc => by
    have := cells7_get l i c (by simpa using hi) hc
    have e : cells7 (x :: l) = Ln.cells x ++ cells7 l := by simp [cells7]
    rw [e, List.getElem?_append_right (by simp [Ln.cells]; omega), show (i + 1) * 7 + c - (Ln.cells x).length = i * 7 + c by simp [Ln.cells]; omega, this]
    simp
theorem cells7_one (l : List Ln) : ∀ u ∈ cells7 l, u.oneCell' = true := by
  intro u hu
  obtain ⟨x, _, hx⟩ := List.mem_flatMap.1 hu
  simp [Ln.cells] at hx
  rcases hx with rfl | rfl | rfl | rfl | rfl | rfl | rfl <;> rfl

/-- A slice of the call's own that is lines. -/
def LnOwn (w : World) (base : Nat) (v : Value) (ls : List Ln) : Prop := w.ownsRow base 40 7 v ls.length (cells7 ls)
/-- A slice that came in, or another one: its cells are lines. -/
def Src7 (w : World) (v : Value) (ls : List Ln) : Prop := (ls = [] ∧ ∃ ao cap, v = .slice ao 0 cap) ∨ (∃ b off cap, v = .slice (some ⟨b, off, none⟩) ls.length cap ∧ b < w.heap.size ∧ ∀ j u, (cells7 ls)[j]? = some u → w.cell? ⟨b, off + j, none⟩ = some u)

theorem Src7.below {w w' : World} {v : Value} {ls : List Ln} (h : Src7 w v ls) (hb : Below w.heap.size w w') : Src7 w' v ls := by
  rcases h with h | ⟨b, off, cap, hv, hl, hc⟩
  · exact .inl h
  · exact .inr ⟨b, off, cap, hv, Nat.lt_of_lt_of_le hl hb.size, fun j u hj => (hb.cell (p := ⟨b, off + j, none⟩) hl).trans (hc j u hj)⟩
theorem LnOwn.src {w : World} {base : Nat} {v : Value} {ls : List Ln} (h : LnOwn w base v ls) : Src7 w v ls := by
  have h0 := h
  rcases h.2 with ⟨rfl, e⟩ | ⟨g, cap, cur, rfl, hb, hh, _⟩
  · exact .inl ⟨List.eq_nil_of_length_eq_zero e, _, _, rfl⟩
  · refine .inr ⟨g, 0, cap, rfl, (Array.getElem?_eq_some_iff.1 hh).1, fun j u hj => ?_⟩
    have := (List.getElem?_eq_some_iff.1 hj).1
    rw [cells7_length] at this
    rw [Nat.zero_add, World.ownsRow.cellAt h0 j this]
    exact hj
theorem LnOwn.lns {w : World} {base : Nat} {v : Value} {ls : List Ln} (h : LnOwn w base v ls) (hl : ls.length ≤ 2000000) (hw : ∀ x ∈ ls, x.wf) : IsLns w v ls := by
  have h0 := h
  refine ⟨hl, hw, ?_⟩
  by_cases e : ls = []
  · subst e
    refine .inl ⟨rfl, ?_⟩
    rcases h.2 with ⟨rfl, _⟩ | ⟨g, cap, cur, rfl, _⟩
    · exact ⟨_, _, rfl⟩
    · exact ⟨_, _, rfl⟩
  · have hp : 1 ≤ ls.length := by cases ls; exact absurd rfl e; simp
    rcases h.2 with ⟨_, e'⟩ | ⟨g, cap, cur, rfl, hb, hh, _⟩
    · omega
    · refine .inr ⟨hp, g, cap, rfl, (Array.getElem?_eq_some_iff.1 hh).1, fun i hi => ?_⟩
      have hc : ∀ c, c < 7 → w.cell? ⟨g, i * 7 + c, none⟩ = (Ln.cells ls[i])[c]? := fun c hc => by
        rw [World.ownsRow.cellAt h0 (i * 7 + c) (by omega), cells7_get ls i c hi hc]
      exact ⟨hc 0 (by omega), hc 1 (by omega), hc 2 (by omega), hc 3 (by omega), hc 4 (by omega), hc 5 (by omega), hc 6 (by omega)⟩

/-- append(l, m...). -/
theorem append_lines {w : World} {base : Nat} {v x : Value} {ls ms : List Ln} (h : LnOwn w base v ls) (hs : Src7 w x ms) (hl : ls.length + ms.length ≤ 4000000) (hb : base ≤ w.heap.size) (ty : TypeId) :
    ∃ v' w', (Builtin.append_ #[22, 22] ty #[v, x]).run Try.prog w = .ok v' w' ∧ LnOwn w' base v' (ls ++ ms) ∧ w.grownBy w' v.ownBlock ∧ (v'.ownBlock = v.ownBlock ∨ v'.ownBlock = some w.heap.size) := by
  obtain ⟨i0, hi, hz0, hz1, hz2⟩ := info_parts info40'
  have some_case : ∀ (a : Addr) (c : Nat), (∀ j u, (cells7 ms)[j]? = some u → w.cell? (a.add j) = some u) → ∃ v' w', (Builtin.append_ #[22, 22] ty #[v, .slice (some a) ms.length c]).run Try.prog w = .ok v' w' ∧ LnOwn w' base v' (ls ++ ms) ∧ w.grownBy w' v.ownBlock ∧ (v'.ownBlock = v.ownBlock ∨ v'.ownBlock = some w.heap.size) := fun a c hc => by
    obtain ⟨v', w', h1, h2, h3, h4, h5⟩ := run_append_own_at (P := Try.prog) w base 22 ty 40 i0 _ 7 56 Try.underlying22 hi hz0 hz1 hz2 rfl (by decide) v ls.length (cells7 ls) h a ms.length c (cells7 ms) (cells7_length ms) hc (cells7_one ms) (by unfold maxLen; omega) (by omega) hb
    exact ⟨v', w', h1, by unfold LnOwn; rw [cells7_append, List.length_append]; exact h2, h3, h5⟩
  rcases hs with ⟨rfl, ao, cap, rfl⟩ | ⟨b, off, cap, rfl, hlt, hc⟩
  · cases ao with
    | some a => exact some_case a cap (fun j u hj => by simp [cells7] at hj)
    | none =>
      refine ⟨v, w, ?_, by rw [List.append_nil]; exact h, ⟨rfl, rfl, rfl, Nat.le_refl _, fun _ _ _ => rfl⟩, .inl rfl⟩
      rcases h.2 with ⟨rfl, _⟩ | ⟨g, cp, cur, rfl, hg, hh, hn, _⟩
      · simp [Builtin.append_, run_underlying Try.underlying22, sizeOf, typeInfo, hi, Builtin.lenOf, Builtin.firstCells]
      · have := run_append_room_src (P := Try.prog) w 22 22 ty 40 i0 Try.underlying22 hi g 0 ls.length cp (.slice none 0 cap) 0 [] (Src.ofNil w Try.underlying22 cap) (by omega) (by simp) (by simp)
        simpa [World.setCells] using this
  · exact some_case ⟨b, off, none⟩ cap (fun j u hj => by rw [Addr.add_lit]; exact hc j u hj)

/-- append, by what its run is. -/
theorem wpList_append_run {w w' : World} {ops : Array Oper} {rest : List Oper} {o : Oper} {a : Act} {Q : Exit → Act → World → Prop} (hgd : o.guard = none) (s x : Operand) (ho : o.op = .call { callee := .builtin .append, args := #[s, x], argTypes := #[22, 22] })
    (v xv v' : Value) (hs : a.eval s = v) (hx : a.eval x = xv) (hr : (Builtin.append_ #[22, 22] o.type #[v, xv]).run Try.prog w = .ok v' w') (h : wpList Try.prog ops Q rest (a.put o.dst v') w') : wpList Try.prog ops Q (o :: rest) a w := by
  refine wpList_plain hgd fun K hK => ?_
  unfold Oper.wp execOp
  simp only [ho, resolve, invoke, builtin, Sem.run_bind, Sem.run_pure, Result.andThen_ok, List.map_toArray, List.map_cons, List.map_nil, hs, hx, hr]
  exact hK _ _ h

set_option maxRecDepth 100000 in
theorem own9 {w : World} {v : Value} {ls : List Ln} (hs : Src7 w v ls) (hl : ls.length ≤ 2000000) :
    Calls Try.prog 9 #[v] w fun e w' => ∃ v', e = .returned v' ∧ LnOwn w' w.heap.size v' ls ∧ Below w.heap.size w w' := by
  obtain ⟨v', w', hr, ho, hg, hloc⟩ := append_lines (base := w.heap.size) (v := .slice none 0 0) (ls := []) (World.ownsRow_nil _ _ _ _) hs (by simp; omega) (Nat.le_refl _) 22
  have HO := hid' ho
  have HG : Hid (Below w.heap.size w w') := (Below.refl _ _).grown hg (Nat.le_refl _) (fun k hk => by simp [Value.ownBlock] at hk)
  clear ho hg hloc
  go_enter Try.func9, Try.ntmps9
  go_wp2_with (at_builtin; refine wpList_append_run rfl _ _ rfl _ _ _ rfl rfl hr ?_)
  go_ret
  exact ⟨_, rfl, HO.out, HG.out⟩

/-- How many lines stand in the middle. -/
def midN (N : Int) : Nat := if 262153 < N then 262153 else N.toNat
def midLn (o d a b i : Int) : Ln := ⟨0, o, d, a, b, i, 0⟩
def linesL (hd tl : List Ln) (o d a b i N : Int) : List Ln := hd ++ List.replicate (midN N) (midLn o d a b i) ++ tl

theorem cell_seven_at {W : World} {b : Nat} {v0 v1 v2 v3 v4 v5 v6 : Value} (h0 : W.cell? ⟨b, 0, none⟩ = some v0) (h1 : W.cell? ⟨b, 1, none⟩ = some v1) (h2 : W.cell? ⟨b, 2, none⟩ = some v2) (h3 : W.cell? ⟨b, 3, none⟩ = some v3) (h4 : W.cell? ⟨b, 4, none⟩ = some v4) (h5 : W.cell? ⟨b, 5, none⟩ = some v5) (h6 : W.cell? ⟨b, 6, none⟩ = some v6) :
    ∀ j u, [v0, v1, v2, v3, v4, v5, v6][j]? = some u → W.cell? ((⟨b, 0, none⟩ : Addr).add j) = some u
  | 0, u, e => by simp at e; subst e; exact h0
  | 1, u, e => by simp at e; subst e; exact h1
  | 2, u, e => by simp at e; subst e; exact h2
  | 3, u, e => by simp at e; subst e; exact h3
  | 4, u, e => by simp at e; subst e; exact h4
  | 5, u, e => by simp at e; subst e; exact h5
  | 6, u, e => by simp at e; subst e; exact h6
  | j + 7, u, e => by simp at e

set_option maxRecDepth 100000 in
set_option maxHeartbeats 2000000 in
theorem lines7 {w : World} {hv tv : Value} {hd tl : List Ln} {o d a b i N : Int} (hh : Src7 w hv hd) (ht : Src7 w tv tl) (hl : hd.length + tl.length ≤ 1100000) (hN : N ≤ 9223372036854775807) :
    Calls Try.prog 7 #[.agg #[hv, .int .i64 o, .int .i64 d, .int .i64 a, .int .i64 b, .int .i32 i, .int .i64 N, tv]] w fun e w' => ∃ v', e = .returned v' ∧ LnOwn w' w.heap.size v' (linesL hd tl o d a b i N) ∧ Below w.heap.size w w' := by
  obtain ⟨i40, hi40, z0, z1, z2⟩ := info_parts info40'
  obtain ⟨w1, hw1⟩ : ∃ w1, w1 = w.alloc (.cells #[hv, .int .i64 o, .int .i64 d, .int .i64 a, .int .i64 b, .int .i32 i, .int .i64 N, tv] 26) := ⟨_, rfl⟩
  have B1 : Below w.heap.size w w1 := by rw [hw1]; exact below1 _ _
  obtain ⟨v2, w2, hr2, ho2, hg2, hl2⟩ := append_lines (base := w.heap.size) (v := .slice none 0 0) (ls := []) (World.ownsRow_nil w1 _ _ _) (hh.below B1) (by simp; omega) B1.size 22
  rw [List.nil_append] at ho2
  have B2 : Below w1.heap.size w1 w2 := (Below.refl _ _).grown hg2 (Nat.le_refl _) (fun k hk => by simp [Value.ownBlock] at hk)
  have hs1 : w.heap.size < w1.heap.size := by rw [hw1]; simp
  have cx : ∀ j u, (#[hv, .int .i64 o, .int .i64 d, .int .i64 a, .int .i64 b, .int .i32 i, .int .i64 N, tv] : Array Value)[j]? = some u → w2.cell? ⟨w.heap.size, j, none⟩ = some u := fun j u hj => by
    rw [B2.cell (p := ⟨w.heap.size, j, none⟩) hs1, hw1]
    unfold World.cell?
    rw [heap_alloc_new]
    simpa using hj
  have HB12 : Hid (Below w.heap.size w w2) := B1.trans (B2.mono B1.size)
  have HS2 : Hid (w.heap.size < w2.heap.size) := Nat.lt_of_lt_of_le hs1 B2.size
  have HTL := hid' ht
  have n2 : Hid (v2.ownBlock ≠ some w.heap.size) := fun e => by
    rcases hl2 with h | h
    · rw [h] at e; simp [Value.ownBlock] at e
    · rw [h] at e; simp at e; omega
  have HO2 := hid' ho2
  have HW1 := hid' hw1
  have HCX := hid' cx
  have c6 := cx 6 (.int .i64 N) rfl
  clear B1 B2 hw1 ho2 hg2 hl2 hh ht cx
  have hcnt : Hid (midN N = if 262153 < N then 262153 else N.toNat) := rfl
  have hmid : midN N ≤ 262153 := by unfold midN; split <;> omega
  have hmz : Hid (0 < midN N → 0 < N) := fun h => by unfold midN at h; split at h <;> omega
  have hL0 : LnOwn w2 w.heap.size v2 (hd ++ List.replicate 0 (midLn o d a b i)) := by rw [List.replicate_zero, List.append_nil]; exact HO2.out
  have HL0 := hid' hL0
  clear hL0 HO2
  by_cases hbig : 262153 < N
  all_goals
    go_enter Try.func7, Try.ntmps7
    go_wp2_with (at_builtin; refine of_mark ?_)
    unfold Mark
    rw [← HW1.out]
    refine wpList_append_run rfl _ _ rfl _ _ _ rfl rfl hr2 ?_
    go_wp2
    clear hr2
    go_loopw [3, 5] (fun v i' wr => ∃ j : Nat, j ≤ midN N ∧ i' = .int .i64 j ∧ LnOwn wr w.heap.size v (hd ++ List.replicate j (midLn o d a b i)) ∧ v.ownBlock ≠ some w.heap.size ∧ w.heap.size < wr.heap.size ∧ (∀ j u, (#[hv, .int .i64 o, .int .i64 d, .int .i64 a, .int .i64 b, .int .i32 i, .int .i64 N, tv] : Array Value)[j]? = some u → wr.cell? ⟨w.heap.size, j, none⟩ = some u) ∧ Below w.heap.size w wr) (fun _ i' _ => midN N - (intOf i').toNat)
    case atStart => exact ⟨0, Nat.zero_le _, rfl, HL0.out, n2.out, HS2.out, HCX.out, HB12.out⟩
    case round =>
      obtain ⟨j, hj, rfl, hO, hne, hsz, hcx, hB⟩ := hrel
      by_cases hlt : j < midN N
      · have hjA : (j : Int) < 262153 := by omega
        have hjB : (j : Int) < N := by have := hcnt.out; split at this <;> omega
        have q1 := hcx 1 (.int .i64 o) rfl
        have q2 := hcx 2 (.int .i64 d) rfl
        have q3 := hcx 3 (.int .i64 a) rfl
        have q4 := hcx 4 (.int .i64 b) rfl
        have q5 := hcx 5 (.int .i32 i) rfl
        have HCX' := hid' hcx
        have HB' := hid' hB
        have HNE := hid' hne
        have hll : (hd ++ List.replicate j (midLn o d a b i)).length ≤ 1400000 := by simp; omega
        clear hcx hB hne
        go_wp2_with (at_builtin; refine of_mark ?_)
        unfold Mark
        refine wpList_append_own_at _ rfl _ _ 22 rfl w.heap.size 40 i40 (.agg #[.int .i64 0, .int .i64 0, .int .i64 0, .int .i64 0, .int .i64 0, .int .i32 0, .int .i64 0]) 7 56 Try.underlying22 hi40 z0 z1 z2 rfl (by decide) u3 _ _ rfl (World.ownsRow.alloc hO _) ⟨wr.heap.size, 0, none⟩ 1 1 [.int .i64 0, .int .i64 o, .int .i64 d, .int .i64 a, .int .i64 b, .int .i32 i, .int .i64 0] rfl rfl (cell_seven_at (by simp [go_sem]) (by simp [go_sem]) (by simp [go_sem]) (by simp [go_sem]) (by simp [go_sem]) (by simp [go_sem]) (by simp [go_sem])) (by intro z hz; simp at hz; rcases hz with rfl | rfl | rfl | rfl | rfl | rfl | rfl <;> rfl) (by unfold maxLen; omega) (by omega) (by simp; omega) ?_
        intro v' w4 hown' hgrow hnil hloc
        have K4 : Kept (fun b => u3.ownBlock = some b) wr w4 := ((Kept.rfl _ wr).alloc _).trans (Kept.of_grown hgrow (fun k hk => hk))
        have hO' : LnOwn w4 w.heap.size v' (hd ++ List.replicate (j + 1) (midLn o d a b i)) := by
          have e : hd ++ List.replicate (j + 1) (midLn o d a b i) = (hd ++ List.replicate j (midLn o d a b i)) ++ [midLn o d a b i] := by rw [List.replicate_succ', List.append_assoc]
          unfold LnOwn
          rw [e, cells7_append, List.length_append]
          have : cells7 [midLn o d a b i] = [.int .i64 0, .int .i64 o, .int .i64 d, .int .i64 a, .int .i64 b, .int .i32 i, .int .i64 0] := by simp [cells7, Ln.cells, midLn]
          rw [this]
          exact hown'
        have HO' := hid' hO'
        have HN' : Hid (v'.ownBlock ≠ some w.heap.size) := fun e => by
          rcases hloc with h | h
          · exact HNE.out (h ▸ e)
          · rw [h] at e; simp at e; omega
        have HC4 : Hid (∀ j u, (#[hv, .int .i64 o, .int .i64 d, .int .i64 a, .int .i64 b, .int .i32 i, .int .i64 N, tv] : Array Value)[j]? = some u → w4.cell? ⟨w.heap.size, j, none⟩ = some u) := fun j u hj => (K4.cell hsz HNE.out).trans (HCX'.out j u hj)
        have HB4 : Hid (Below w.heap.size w w4) := HB'.out.trans (K4.below HB'.out.size (fun b hb => (World.ownsRow.lt hO b hb).1))
        have HS4 : Hid (w.heap.size < w4.heap.size) := Nat.lt_of_lt_of_le hsz K4.size
        clear hO' hown' hgrow hnil hloc K4 hO q1 q2 q3 q4 q5
        go_wp2
        go_roundw
        case rel => exact ⟨j + 1, by omega, by go_num, HO'.out, HN'.out, HS4.out, HC4.out, HB4.out⟩
        case measure => simp [intOf]; omega
      · have e : j = midN N := by omega
        subst e
        first
          | have hj2 : ¬ ((midN N : Nat) : Int) < 262153 := by have := hcnt.out; split at this <;> omega
          | have hj2 : ¬ ((midN N : Nat) : Int) < N := by have := hcnt.out; split at this <;> omega
        have q7 := hcx 7 tv rfl
        obtain ⟨v5, w5, hr5, ho5, hg5, hl5⟩ := append_lines hO (HTL.out.below hB) (by simp; omega) (Nat.le_of_lt hsz) 22
        have HO5 := hid' ho5
        have HB5 : Hid (Below w.heap.size w w5) := hB.grown hg5 hB.size (fun b hb => (World.ownsRow.lt hO b hb).1)
        clear hcx hB hne hO ho5 hg5 hl5
        go_wp2_with (at_builtin; refine wpList_append_run rfl _ _ rfl _ _ _ rfl rfl hr5 ?_)
        go_ret
        exact ⟨_, rfl, HO5.out, HB5.out⟩
end Go.Proofs.Ytgnlplddppheiaa
