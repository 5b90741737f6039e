/- Reached: the program's and the document's. -/
import Derived.Test.YtgkaeoieclegjaaPrd
namespace Go.Proofs.Ytgkaeoieclegjaa
open Go.RowKit Go.Maps
set_option linter.unusedVariables false
set_option linter.unusedSimpArgs false

def muS (sn : List Bool) (st : List Int) : Nat := 2 * sn.count false + st.length
def markT (S : List Bool × List Int) (t : Int) : List Bool × List Int :=
  if 0 ≤ t ∧ t < S.1.length ∧ S.1.getD t.toNat true = false then (S.1.set t.toNat true, S.2 ++ [t]) else S
def popS (bl : List Bl) (sn : List Bool) (st : List Int) (i : Int) : List Bool × List Int := ((bl[i.toNat]?.map Bl.to).getD []).foldl markT (sn, st)
def runR (bl : List Bl) : Nat → List Bool → List Int → List Bool
  | 0, sn, _ => sn
  | n + 1, sn, st => match st.getLast? with
    | none => sn
    | some i => runR bl n (popS bl sn st.dropLast i).1 (popS bl sn st.dropLast i).2
/-- Of each block whether it is reached. -/
def reachF (bl : List Bl) : List Bool := if bl.length = 0 then [] else runR bl (2 * bl.length + 1) ((List.replicate bl.length false).set 0 true) [0]

theorem count_set : ∀ (l : List Bool) (j : Nat), l.getD j true = false → (l.set j true).count false + 1 = l.count false
  | [], j, h => by simp at h
  | x :: l, 0, h => by simp at h; subst h; simp
  | x :: l, j + 1, h => by
    have := count_set l j (by simpa using h)
    simp [List.count_cons]
    omega
theorem markT_len (S : List Bool × List Int) (t : Int) : (markT S t).1.length = S.1.length := by
  unfold markT
  split
  · simp
  · rfl
theorem markT_mu (S : List Bool × List Int) (t : Int) : muS (markT S t).1 (markT S t).2 ≤ muS S.1 S.2 := by
  unfold markT muS
  split
  · rename_i h
    have := count_set S.1 t.toNat h.2.2
    simp
    omega
  · exact Nat.le_refl _
theorem fold_len : ∀ (l : List Int) (S : List Bool × List Int), (l.foldl markT S).1.length = S.1.length
  | [], S => rfl
  | t :: l, S => by rw [List.foldl_cons, fold_len l, markT_len]
theorem fold_mu : ∀ (l : List Int) (S : List Bool × List Int), muS (l.foldl markT S).1 (l.foldl markT S).2 ≤ muS S.1 S.2
  | [], S => Nat.le_refl _
  | t :: l, S => by rw [List.foldl_cons]; exact Nat.le_trans (fold_mu l _) (markT_mu S t)
theorem pop_mu {bl : List Bl} {sn : List Bool} {st : List Int} {i : Int} (h : st.getLast? = some i) (i' : Int) : muS (popS bl sn st.dropLast i').1 (popS bl sn st.dropLast i').2 + 1 ≤ muS sn st := by
  have h1 := fold_mu ((bl[i'.toNat]?.map Bl.to).getD []) (sn, st.dropLast)
  have h2 : st.length ≠ 0 := fun e => by rw [List.eq_nil_of_length_eq_zero e] at h; cases h
  unfold popS
  unfold muS at *
  simp only [List.length_dropLast] at h1
  omega
theorem run_nil (bl : List Bl) (n : Nat) (sn : List Bool) : runR bl n sn [] = sn := by cases n <;> rfl
theorem run_more (bl : List Bl) : ∀ (n : Nat) (sn : List Bool) (st : List Int), muS sn st ≤ n → ∀ m, n ≤ m → runR bl m sn st = runR bl n sn st
  | 0, sn, st, h, m, _ => by
    have : st = [] := List.eq_nil_of_length_eq_zero (by unfold muS at h; omega)
    subst this
    rw [run_nil, run_nil]
  | n + 1, sn, st, h, m, hm => by
    obtain ⟨m, rfl⟩ : ∃ k, m = k + 1 := ⟨m - 1, by omega⟩
    unfold runR
    cases e : st.getLast? with
    | none => rfl
    | some i => exact run_more bl n _ _ (by have := pop_mu (bl := bl) (sn := sn) e i; omega) m (by omega)
/-- From here on it comes to that. -/
def Good (bl : List Bl) (sn : List Bool) (st : List Int) : Prop := ∃ N, ∀ n, N ≤ n → runR bl n sn st = reachF bl
theorem good_start {bl : List Bl} (h : bl.length ≠ 0) : Good bl ((List.replicate bl.length false).set 0 true) [0] := by
  refine ⟨2 * bl.length + 1, fun n hn => ?_⟩
  unfold reachF
  rw [if_neg h]
  refine run_more bl _ _ _ ?_ n hn
  have := count_set (List.replicate bl.length false) 0 (by cases e : bl.length with | zero => exact absurd e h | succ k => simp)
  simp at this
  unfold muS
  simp
  omega
theorem Good.pop {bl : List Bl} {sn : List Bool} {st : List Int} {i : Int} (h : Good bl sn (st ++ [i])) : Good bl (popS bl sn st i).1 (popS bl sn st i).2 := by
  obtain ⟨N, h⟩ := h
  refine ⟨N, fun n hn => ?_⟩
  have := h (n + 1) (by omega)
  rw [runR] at this
  simp only [List.getLast?_append, List.getLast?_singleton, Option.some_or, List.dropLast_concat] at this
  exact this
theorem Good.done {bl : List Bl} {sn : List Bool} (h : Good bl sn []) : sn = reachF bl := by
  obtain ⟨N, h⟩ := h
  have := h N (Nat.le_refl _)
  rwa [run_nil] at this
theorem bound_mark {n : Nat} {S : List Bool × List Int} {t : Int} (hl : S.1.length = n) (h : ∀ x ∈ S.2, 0 ≤ x ∧ x < n) : ∀ x ∈ (markT S t).2, 0 ≤ x ∧ x < n := by
  unfold markT
  split
  · rename_i h2
    intro x hx
    rcases List.mem_append.1 hx with hx | hx
    · exact h x hx
    · simp at hx; subst hx; omega
  · exact h

/-- Both in memory: seen in block g, the stack v. -/
structure SM (W : World) (B g : Nat) (v : Value) (sn : List Bool) (st : List Int) : Prop where
  row : W.ownsRow B 4 1 (.slice (some ⟨g, 0, none⟩) sn.length sn.length) sn.length (sn.map (fun b => .bool b))
  stk : Own 3 1 icell W B v st
  ng : v.ownBlock ≠ some g
  fm : ∃ h c, v = .slice (some ⟨h, 0, none⟩) st.length c
theorem SM.on {W W' : World} {B g : Nat} {v : Value} {sn : List Bool} {st : List Int} (h : SM W B g v sn st) (hb : Below W.heap.size W W') : SM W' B g v sn st :=
  have K : Kept (fun _ => False) W W' := Kept.of_below hb
  ⟨K.owns h.row (fun _ _ e => e), K.owns h.stk (fun _ _ e => e), h.ng, h.fm⟩
theorem SM.g {W : World} {B g : Nat} {v : Value} {sn : List Bool} {st : List Int} (h : SM W B g v sn st) : B ≤ g ∧ g < W.heap.size := h.row.lt g rfl
theorem SM.set {W : World} {B g t : Nat} {v : Value} {sn : List Bool} {st : List Int} (h : SM W B g v sn st) : SM (W.setCell ⟨g, t, none⟩ (.bool true)) B g v (sn.set t true) st := by
  have K : Kept (fun k => k = g) W (W.setCell ⟨g, t, none⟩ (.bool true)) := (Kept.rfl (fun k => k = g) W).set (.inl (Eq.refl _)) _
  refine ⟨?_, K.owns h.stk (fun b hb e => h.ng (by rw [hb, e])), h.ng, h.fm⟩
  have := (h.row.stored t (.bool true)).1
  rw [List.length_set, List.map_set]
  exact this
theorem SM.app {W W2 : World} {B g : Nat} {v v' : Value} {sn : List Bool} {st : List Int} {t : Int} {o : Obj} (h : SM W B g v sn st) (hown : Own 3 1 icell W2 B v' (st ++ [t])) (hg : (W.alloc o).grownBy W2 v.ownBlock) (hloc : v'.ownBlock = v.ownBlock ∨ v'.ownBlock = some (W.alloc o).heap.size) : SM W2 B g v' sn (st ++ [t]) := by
  have hgl := h.g
  refine ⟨(h.row.alloc o).kept hg (.inr (fun e => h.ng e.symm)), hown, fun e => ?_, ?_⟩
  · rcases hloc with e2 | e2
    · exact h.ng (by rw [← e2, e])
    · rw [e] at e2
      simp at e2
      omega
  · rcases hown.2 with ⟨_, e0⟩ | ⟨g5, c5, cu5, e5, _⟩
    · simp at e0
    · exact ⟨g5, c5, e5⟩
theorem SM.pop {W : World} {B g h c : Nat} {sn : List Bool} {st : List Int} {i : Int} (H : SM W B g (.slice (some ⟨h, 0, none⟩) (st.length + 1) c) sn (st ++ [i])) : SM W B g (.slice (some ⟨h, 0, none⟩) st.length c) sn st := by
  refine ⟨H.row, ?_, H.ng, ⟨h, c, rfl⟩⟩
  rcases H.stk.2 with ⟨e, _⟩ | ⟨g5, c5, cu5, e5, a1, a2, a3, a4, a5, a6⟩
  · cases e
  · injection e5 with e1 e2 e3
    injection e1 with e1
    injection e1 with e1
    subst e1 e3
    refine ⟨by rw [flat_length ic1], .inr ⟨h, c, cu5, rfl, a1, a2, by rw [List.length_append] at a3; omega, a4, a5, ?_⟩⟩
    have e7 : (cu5.toList.take ((st ++ [i]).length * 1)).take (st.length * 1) = cu5.toList.take (st.length * 1) := by rw [List.take_take, List.length_append]; congr 1; simp
    rw [← e7, a6, flat_append]
    rw [List.take_append_of_le_length (by rw [flat_length ic1]; omega), List.take_of_length_le (by rw [flat_length ic1]; omega)]
theorem owns_unique {W : World} {B B' : Nat} {e : TypeId} {s : Nat} {v : Value} {n n' : Nat} {xs xs' : List Value} (h : W.ownsRow B e s v n xs) (h' : W.ownsRow B' e s v n' xs') : xs = xs' := by
  rcases h with ⟨hl, ⟨e0, e1⟩ | ⟨g, c, cu, e0, a1, a2, a3, a4, a5, a6⟩⟩ <;> rcases h' with ⟨hl', ⟨e0', e1'⟩ | ⟨g', c', cu', e0', b1, b2, b3, b4, b5, b6⟩⟩
  · subst e1 e1'
    rw [Nat.zero_mul] at hl hl'
    rw [List.eq_nil_of_length_eq_zero hl, List.eq_nil_of_length_eq_zero hl']
  · rw [e0] at e0'; cases e0'
  · rw [e0] at e0'; cases e0'
  · rw [e0] at e0'
    injection e0' with p1 p2 p3
    injection p1 with p1
    injection p1 with p1
    subst p1 p2 p3
    rw [a2] at b2
    injection b2 with b2
    injection b2 with b2
    rw [← a6, ← b6, b2]
theorem SM.unique {W : World} {B g : Nat} {v : Value} {sn sn' : List Bool} {st st' : List Int} (h : SM W B g v sn st) (h' : SM W B g v sn' st') (hl : sn.length = sn'.length) : sn = sn' ∧ st = st' := by
  constructor
  · have h1 := h'.row
    rw [← hl] at h1
    have := owns_unique h.row h1
    refine (List.map_inj_right ?_).1 this
    intro x y e
    injection e
  · have := owns_unique h.stk h'.stk
    rw [flat_i, flat_i] at this
    refine (List.map_inj_right ?_).1 this
    intro x y e
    injection e
theorem msr_is {B g : Nat} {v : Value} {W : World} {sn : List Bool} {st : List Int} (h : SM W B g v sn st) : (@Classical.epsilon Nat ⟨0⟩ fun N => ∃ sn' st', sn'.length = sn.length ∧ SM W B g v sn' st' ∧ N = muS sn' st') = muS sn st := by
  have hex : ∃ N, ∃ sn' st', sn'.length = sn.length ∧ SM W B g v sn' st' ∧ N = muS sn' st' := ⟨_, sn, st, rfl, h, rfl⟩
  obtain ⟨sn', st', e, h', e2⟩ := Classical.epsilon_spec hex
  obtain ⟨rfl, rfl⟩ := h.unique h' e.symm
  exact e2
theorem make_bl (w : World) {base n : Nat} (hn : n * 64 ≤ big) (hb : base ≤ w.heap.size) :
    ∃ w', (Instr.makeSlice 34 (.int .i64 (n : Nat)) (.int .i64 (n : Nat))).run Try.prog w = .ok (.slice (some ⟨w.heap.size, 0, none⟩) n n) w' ∧ w'.ownsRow base 4 1 (.slice (some ⟨w.heap.size, 0, none⟩) n n) n (List.replicate n (.bool false)) ∧ Below w.heap.size w w' ∧ w'.heap.size = w.heap.size + 1 := by
  unfold big at hn
  exact make_row (v := .bool false) rfl w (base := base) Try.underlying34 info4 (by omega : n * 1 ≤ _) (by omega) hb
theorem SM.start {W : World} {B g n : Nat} {o : Obj} (ho : o = .cells #[.int .i64 0] 3) (h : W.ownsRow B 4 1 (.slice (some ⟨g, 0, none⟩) n n) n (List.replicate n (.bool false))) (hB : B ≤ W.heap.size) :
    SM ((W.setCell ⟨g, 0, none⟩ (.bool true)).alloc o) B g (.slice (some ⟨W.heap.size, 0, none⟩) 1 1) ((List.replicate n false).set 0 true) [0] := by
  have hgl := (h.lt g rfl).2
  have h1 := (h.stored 0 (.bool true)).1
  have hsz : (W.setCell ⟨g, 0, none⟩ (.bool true)).heap.size = W.heap.size := by simp [World.setCell]
  refine ⟨?_, ?_, fun e => ?_, ⟨_, _, rfl⟩⟩
  · rw [List.length_set, List.map_set, List.length_replicate, List.map_replicate]
    exact h1.alloc o
  · subst ho
    rw [← hsz]
    exact World.ownsRow_lit _ #[.int .i64 0] 1 (by rw [hsz]; exact hB) (by unfold maxLen; omega) rfl
  · simp [Value.ownBlock] at e
    omega

def RchR (bl : List Bl) (w : World) (e : Ending) (w' : World) : Prop :=
  ∃ (ao : Option Addr) (cap : Nat), e = .returned (.slice ao bl.length cap) ∧ Src bcl w' (.slice ao bl.length cap) (reachF bl) ∧ Below w.heap.size w w' ∧ (∀ b off, ao = some ⟨b, off, none⟩ → w.heap.size ≤ b) ∧ ∃ B, Own 4 1 bcl w' B (.slice ao bl.length cap) (reachF bl)
theorem SM.own {W : World} {B g : Nat} {v : Value} {sn : List Bool} {st : List Int} (h : SM W B g v sn st) : Own 4 1 bcl W B (.slice (some ⟨g, 0, none⟩) sn.length sn.length) sn := by
  unfold Own
  rw [flat_b]
  exact h.row
theorem SM.src {W : World} {B g : Nat} {v : Value} {sn : List Bool} {st : List Int} (h : SM W B g v sn st) : Src bcl W (.slice (some ⟨g, 0, none⟩) sn.length sn.length) sn := by
  have : Own 4 1 bcl W B (.slice (some ⟨g, 0, none⟩) sn.length sn.length) sn := by unfold Own; rw [flat_b]; exact h.row
  exact this.src bc1
structure RMid (w0 : World) (bl : List Bl) (sn0 : List Bool) (st0 : List Int) (to : List Int) (m g : Nat) (wr : World) (v : Value) (sn : List Bool) (st : List Int) : Prop where
  is : (sn, st) = (to.take m).foldl markT (sn0, st0)
  sm : SM wr w0.heap.size g v sn st
  below : Below w0.heap.size w0 wr
  sl : sn.length = bl.length
  bd : ∀ x ∈ st, 0 ≤ x ∧ x < bl.length
theorem RMid.next {w0 : World} {bl : List Bl} {sn0 : List Bool} {st0 : List Int} {to : List Int} {m g : Nat} {wr : World} {v : Value} {sn : List Bool} {st : List Int} (h : RMid w0 bl sn0 st0 to m g wr v sn st) (hm : m < to.length) : (to.take (m + 1)).foldl markT (sn0, st0) = markT (sn, st) to[m] := by
  rw [take_snoc to m hm, List.foldl_append, ← h.is]
  rfl
theorem RMid.stay {w0 : World} {bl : List Bl} {sn0 : List Bool} {st0 : List Int} {to : List Int} {m g : Nat} {wr wr' : World} {v : Value} {sn : List Bool} {st : List Int} (h : RMid w0 bl sn0 st0 to m g wr v sn st) (hm : m < to.length) (he : markT (sn, st) to[m] = (sn, st)) (hb : Below wr.heap.size wr wr') :
    RMid w0 bl sn0 st0 to (m + 1) g wr' v sn st :=
  ⟨by rw [h.next hm, he], h.sm.on hb, below_on h.below hb h.below.size, h.sl, h.bd⟩
theorem RMid.at_ {w0 : World} {bl : List Bl} {sn0 : List Bool} {st0 : List Int} {to : List Int} {m g : Nat} {wr : World} {v : Value} {sn : List Bool} {st : List Int} (h : RMid w0 bl sn0 st0 to m g wr v sn st) {tn : Nat} (ht : tn < bl.length) :
    wr.cell? ⟨g, tn, none⟩ = some (.bool (sn.getD tn true)) ∧ wr.frozen? ⟨g, tn, none⟩ = false ∧ g < wr.heap.size ∧ w0.heap.size ≤ g := by
  have h2 : tn < sn.length := by rw [h.sl]; exact ht
  refine ⟨(World.ownsRow.cellAt h.sm.row tn (by omega)).trans ?_, World.ownsRow.frozenAt h.sm.row tn, h.sm.g.2, h.sm.g.1⟩
  simp [h2]
theorem mark_out {S : List Bool × List Int} {t : Int} (h : ¬ (0 ≤ t ∧ t < S.1.length)) : markT S t = S := by
  unfold markT
  rw [if_neg (fun h2 => h ⟨h2.1, h2.2.1⟩)]
theorem mark_seen {S : List Bool × List Int} {t : Int} (h : S.1.getD t.toNat true = true) : markT S t = S := by
  unfold markT
  rw [if_neg (fun h2 => by rw [h] at h2; exact absurd h2.2.2 (by simp))]
theorem mark_new {S : List Bool × List Int} {t : Int} (h : 0 ≤ t ∧ t < S.1.length) (h2 : S.1.getD t.toNat true = false) : markT S t = (S.1.set t.toNat true, S.2 ++ [t]) := by
  unfold markT
  rw [if_pos ⟨h.1, h.2, h2⟩]
theorem few_le {bl : List Bl} {sn : List Bool} {st : List Int} {N : Nat} (h : muS sn st ≤ N) : st.length ≤ N := by unfold muS at h; omega

set_option maxRecDepth 20000 in
set_option maxHeartbeats 8000000 in
theorem reached16 {w : World} {f : Fn} (h : Fn.ok w f) : Calls Try.prog 44 #[f.val] w (RchR f.blocks w) := by
  obtain ⟨nm, ps, rs, sl, bv, bl⟩ := f
  obtain ⟨hb, hbl, _, hbs⟩ := h
  dsimp only at *
  have HSRC := hid' hb
  obtain ⟨ao, cap, rfl, hf⟩ := hb.form bl4
  have HF := hid' hf
  have HS := hid' hbs
  obtain ⟨w0, ew0⟩ : ∃ w0, w0 = w.alloc (.cells #[.string nm, .int .i64 ps, .int .i64 rs, .int .i64 sl, .slice ao bl.length cap] 24) := ⟨_, rfl⟩
  have HW0 := hid' ew0
  have hz0 : w0.heap.size = w.heap.size + 1 := by rw [ew0]; simp
  obtain ⟨w1, hm, hpm, hbw, hs1⟩ := make_bl w0 (base := w0.heap.size) hbl (Nat.le_refl _)
  have HPM := hid' hpm
  have HBW := hid' hbw
  rw [hz0] at hm hs1
  rw [ew0] at hm
  obtain ⟨ti3, hi3, z0', z1', z2'⟩ := info_parts info3
  have HI3 := hid' hi3
  unfold big at hbl
  unfold Fn.val
  rw [ew0] at hbw
  obtain ⟨_, _, m0, m1, m2, m3, m4⟩ := fbox hbw
  clear hf hb hbs hpm hbw ew0
  by_cases hn0 : bl.length = 0
  · have e : bl = [] := List.eq_nil_of_length_eq_zero hn0
    subst e
    clear hn0 hm m0 m1 m2 m3 m4
    simp only [List.length_nil]
    go_enter Try.func44, Try.ntmps44
    go_wp2_with fail
    go_ret
    exact ⟨none, 0, rfl, .inl ⟨rfl, _, _, rfl⟩, below1 _ _, (fun b off e => by cases e), 0, World.ownsRow_nil _ _ _ _⟩
  · have HG := hid' (good_start hn0)
    have hpos : 0 < bl.length := by omega
    have hb0 : ((bl.length : Int) == 0) = false := beq_eq_false_iff_ne.2 (by omega)
    have s0 : w1.cell? ⟨w.heap.size + 1, 0, none⟩ = some (.bool false) := by
      have := HPM.out
      rw [hz0] at this
      refine (World.ownsRow.cellAt this 0 (by omega)).trans ?_
      simp [hpos]
    have s1 : w1.frozen? ⟨w.heap.size + 1, 0, none⟩ = false := by
      have := HPM.out
      rw [hz0] at this
      exact World.ownsRow.frozenAt this 0
    go_enter Try.func44, Try.ntmps44
    go_wp2_with fail
    have HST : Hid (SM ((w1.setCell ⟨w.heap.size + 1, 0, none⟩ (.bool true)).alloc (.cells #[.int .i64 0] 3)) w0.heap.size (w.heap.size + 1) (.slice (some ⟨w.heap.size + 1 + 1, 0, none⟩) 1 1) ((List.replicate bl.length false).set 0 true) [0]) := by
      have := HPM.out
      rw [hz0] at this
      unfold Hid
      rw [hz0, ← hs1]
      exact SM.start rfl this (by omega)
    have HBS : Hid (Below w0.heap.size w0 ((w1.setCell ⟨w.heap.size + 1, 0, none⟩ (.bool true)).alloc (.cells #[.int .i64 0] 3))) := by
      have h2 : Below w0.heap.size w1 (w1.setCell ⟨w.heap.size + 1, 0, none⟩ (.bool true)) := ((Kept.rfl (fun k => k = w.heap.size + 1) w1).set (.inl (Eq.refl _)) _).below HBW.out.size (fun k e => by omega)
      exact (HBW.out.trans h2).alloc (Nat.le_trans HBW.out.size h2.size) _
    clear hm m0 m1 m2 m3 m4 s0 s1
    go_loopw [4] (fun v wr => ∃ (sn : List Bool) (st : List Int), sn.length = bl.length ∧ (∀ x ∈ st, 0 ≤ x ∧ x < bl.length) ∧ muS sn st ≤ 2 * bl.length ∧ SM wr w0.heap.size (w.heap.size + 1) v sn st ∧ Good bl sn st ∧ Below w0.heap.size w0 wr) (fun v wr => @Classical.epsilon Nat ⟨0⟩ fun N => ∃ sn st, sn.length = bl.length ∧ SM wr w0.heap.size (w.heap.size + 1) v sn st ∧ N = muS sn st)
    case atStart =>
      refine ⟨_, _, by simp, by intro x hx; simp at hx; omega, ?_, HST.out, HG.out, HBS.out⟩
      have := count_set (List.replicate bl.length false) 0 (by cases e : bl.length with | zero => exact absurd e hn0 | succ k => simp)
      simp at this
      unfold muS
      simp
      omega
    case round =>
      obtain ⟨sn, st, hsl, hbd, hmu, hSM, hgood, hbr⟩ := hrel
      obtain ⟨sb, sc, rfl⟩ := hSM.fm
      have HSM := hid' hSM
      have HGD := hid' hgood
      have HB := hid' hbr
      have HBD := hid' hbd
      have hbx : Below (w.alloc (.cells #[.string nm, .int .i64 ps, .int .i64 rs, .int .i64 sl, .slice ao bl.length cap] 24)).heap.size (w.alloc (.cells #[.string nm, .int .i64 ps, .int .i64 rs, .int .i64 sl, .slice ao bl.length cap] 24)) wr := by rw [← HW0.out]; exact hbr
      obtain ⟨hsz, hB0, f0, f1, f2, f3, f4⟩ := fbox hbx
      have HB0 := hid' hB0
      have HMU : Hid ((@Classical.epsilon Nat ⟨0⟩ fun N => ∃ sn' st', sn'.length = bl.length ∧ SM wr w0.heap.size (w.heap.size + 1) (.slice (some ⟨sb, 0, none⟩) st.length sc) sn' st' ∧ N = muS sn' st') = muS sn st) := by rw [← hsl]; exact msr_is hSM
      clear hSM hgood hbr hbd hbx hB0
      by_cases hst : st.length = 0
      · have e : st = [] := List.eq_nil_of_length_eq_zero hst
        subst e
        have HDN : Hid (Src bcl wr (.slice (some ⟨w.heap.size + 1, 0, none⟩) bl.length bl.length) (reachF bl)) := by
          have := HSM.out.src
          rw [HGD.out.done] at this
          rw [← hsl, HGD.out.done]
          exact this
        have HOW : Hid (Own 4 1 bcl wr w0.heap.size (.slice (some ⟨w.heap.size + 1, 0, none⟩) bl.length bl.length) (reachF bl)) := by
          have := HSM.out.own
          rw [HGD.out.done] at this
          rw [← hsl, HGD.out.done]
          exact this
        clear hst
        go_wp2_with fail
        go_ret
        exact ⟨_, _, rfl, HDN.out, HB0.out, (fun b off e => by injection e with e; injection e with e; omega), _, HOW.out⟩
      · obtain ⟨s2, i, rfl⟩ : ∃ s2 i, st = s2 ++ [i] := ⟨st.dropLast, st.getLast (fun e => hst (by rw [e]; rfl)), (List.dropLast_concat_getLast _).symm⟩
        have hlen : (s2 ++ [i]).length = s2.length + 1 := by simp
        rw [hlen] at HSM HMU
        obtain ⟨hi0, hi1⟩ := HBD.out i (by simp)
        obtain ⟨k, rfl⟩ : ∃ k : Nat, i = k := ⟨i.toNat, by omega⟩
        have hlt : k < bl.length := by omega
        have sTop : wr.cell? ⟨sb, s2.length, none⟩ = some (.int .i64 k) := by
          have h1 := HSM.out.stk
          unfold Own at h1
          rw [hlen] at h1
          refine (World.ownsRow.cellAt h1 s2.length (by omega)).trans ?_
          rw [flat_i]
          simp
        have hcap : s2.length + 1 ≤ sc := by
          rcases HSM.out.stk.2 with ⟨e, _⟩ | ⟨g5, c5, cu5, e5, a1, a2, a3, _⟩
          · cases e
          · injection e5 with e1 e2 e3
            rw [e3]
            rw [hlen] at a3
            exact a3
        have hs2 : s2.length + 1 ≤ 2 * bl.length := by have := few_le (bl := bl) hmu; rw [hlen] at this; exact this
        have HPOP := hid' HSM.out.pop
        have HGP := hid' HGD.out.pop
        have HMP : Hid (muS (popS bl sn s2 k).1 (popS bl sn s2 k).2 + 1 ≤ muS sn (s2 ++ [(k : Int)])) := by
          have := pop_mu (bl := bl) (sn := sn) (st := s2 ++ [(k : Int)]) (i := k) (by simp) k
          rw [List.dropLast_concat] at this
          exact this
        have HMU2 := hid' hmu
        have HBD2 : Hid (∀ x ∈ s2, 0 ≤ x ∧ x < bl.length) := fun x hx => HBD.out x (List.mem_append.2 (.inl hx))
        rw [hlen]
        obtain ⟨b, o, rfl, hb1, hc1, hx⟩ := HF.out k hlt
        obtain ⟨c0, c1, c2, c3⟩ := bl_cells (hx wr HB0.out)
        have HX : Hid (∀ W, Below w.heap.size w W → W.cell? ⟨b, o + k * 4 + 3, none⟩ = some bl[k].tv) := fun W hW => (bl_cells (hx W hW)).2.2.2
        have ho := HS.out _ (List.getElem_mem hlt)
        have htl := ho.tl
        obtain ⟨tt, tc, et, hft⟩ := ho.t.ints
        have HT := hid' hft
        have HPK : Hid (popS bl sn s2 k = bl[k].to.foldl markT (sn, s2)) := by unfold Hid popS; rw [Int.toNat_natCast, List.getElem?_eq_getElem hlt]; rfl
        rw [et] at c3 HX
        unfold big at htl
        clear hx ho et hft hst hmu HGD HBD HSM hlen
        generalize bl[k].to = to at *
        generalize bl[k] = x at *
        go_wp2_with fail
        go_loopw [4, 40] (fun v i wr' => ∃ (m : Nat) (sn' : List Bool) (st' : List Int), m ≤ to.length ∧ i = .int .i64 m ∧ RMid w0 bl sn s2 to m (w.heap.size + 1) wr' v sn' st') (fun _ i _ => to.length - (intOf i).toNat)
        case atStart => exact ⟨0, sn, s2, Nat.zero_le _, rfl, rfl, HPOP.out, HB.out, hsl, HBD2.out⟩
        case round =>
          obtain ⟨m, sn', st', hmk, rfl, hM⟩ := hrel
          obtain ⟨vb, vc, rfl⟩ := hM.sm.fm
          have HM := hid' hM
          have hbx : Below (w.alloc (.cells #[.string nm, .int .i64 ps, .int .i64 rs, .int .i64 sl, .slice (some ⟨b, o, none⟩) bl.length cap] 24)).heap.size (w.alloc (.cells #[.string nm, .int .i64 ps, .int .i64 rs, .int .i64 sl, .slice (some ⟨b, o, none⟩) bl.length cap] 24)) wr := by rw [← HW0.out]; exact hM.below
          obtain ⟨isz, iB0, i0, i1, i2, i3, i4⟩ := fbox hbx
          have IB0 := hid' iB0
          have t3 := HX.out _ iB0
          clear hM hbx iB0
          by_cases hmt : m < to.length
          · obtain ⟨tb, tof, rfl, htb, htc, hcx⟩ := HT.out m hmt
            have tcell := hcx wr IB0.out
            clear hcx
            have HSTAY : Hid (∀ W, Below wr.heap.size wr W → markT (sn', st') to[m] = (sn', st') → RMid w0 bl sn s2 to (m + 1) (w.heap.size + 1) W (.slice (some ⟨vb, 0, none⟩) st'.length vc) sn' st') := fun W hW he => HM.out.stay hmt he hW
            have HIS : Hid ((to.take (m + 1)).foldl markT (sn, s2) = markT (sn', st') to[m]) := HM.out.next hmt
            have hq32 := fun W => isBlock32 ⟨nm, ps, rs, sl, .slice (some ⟨b, o, none⟩) bl.length cap, bl⟩ to[m] W w HSRC.out
            cases hq : blkB ⟨nm, ps, rs, sl, .slice (some ⟨b, o, none⟩) bl.length cap, bl⟩ to[m]
            · have HO := hid' (mark_out (S := (sn', st')) (t := to[m]) (by dsimp only; rw [HM.out.sl]; exact blk_no hq))
              rw [hq] at hq32
              unfold Fn.val at hq32
              dsimp only at hq32
              clear hq
              generalize to[m] = t at *
              go_wp2_with (go_at_call 50; refine (hq32 _).mono ?_; rintro e1 w2 ⟨rfl, hb2⟩)
              go_roundw
              case rel => exact ⟨m + 1, sn', st', by omega, by go_num, HSTAY.out _ hb2 HO.out⟩
              case measure => simp [intOf]; omega
            · obtain ⟨g0, g1⟩ := blk_yes hq
              dsimp only at g1
              rw [hq] at hq32
              unfold Fn.val at hq32
              dsimp only at hq32
              clear hq
              generalize to[m] = t at *
              obtain ⟨tn, rfl⟩ : ∃ tn : Nat, t = tn := ⟨t.toNat, by omega⟩
              have htn : tn < bl.length := by omega
              obtain ⟨q1, q2, q3, q4⟩ := HM.out.at_ htn
              cases hh : sn'.getD tn true
              · rw [hh] at q1
                have HNEW := hid' (mark_new (S := (sn', st')) (t := tn) ⟨by omega, by dsimp only; rw [HM.out.sl]; exact_mod_cast htn⟩ (by rw [Int.toNat_natCast]; exact hh))
                clear hh
                go_wp2_with (first
                  | (go_at_call 50; refine (hq32 _).mono ?_; rintro e1 w2 ⟨rfl, hb2⟩; obtain ⟨hc2, hf2⟩ := bcell hb2; have hs2 := hb2.size; have HB2 := hid' hb2)
                  | (at_builtin; refine of_mark ?_))
                unfold Mark
                have hP2 := HM.out.sm.on HB2.out
                have hS2 := hP2.set (t := tn)
                have hfew : st'.length ≤ 2 * bl.length := by have h1 := fold_mu (to.take m) (sn, s2); have h2 := HMU2.out; rw [← HM.out.is] at h1; unfold muS at h1 h2; simp only [List.length_append, List.length_singleton] at h1 h2; omega
                have hzz : (w2.setCell ⟨w.heap.size + 1, tn, none⟩ (.bool true)).heap.size = w2.heap.size := by simp [World.setCell]
                refine wpList_append_own_at _ rfl _ _ 26 rfl w0.heap.size 3 ti3 (.int .i64 0) 1 8 Try.underlying26 HI3.out z0' z1' z2' rfl (by decide) (.slice (some ⟨vb, 0, none⟩) st'.length vc) _ _ rfl (World.ownsRow.alloc hS2.stk _) ⟨w2.heap.size, 0, none⟩ 1 1 [.int .i64 tn] rfl rfl (by rw [← hzz]; exact cell_one_new _ _ _) (by intro x hx; simp at hx; rw [hx]; rfl) (by unfold maxLen; omega) (by omega) (by have := hP2.g; simp [World.setCell]; omega) ?_
                intro v' w5 hown' hgrow hnil hloc
                have hO5 : Own 3 1 icell w5 w0.heap.size v' (st' ++ [(tn : Int)]) := by
                  unfold Own
                  rw [flat_append, List.length_append]
                  exact hown'
                have HN5 : Hid (RMid w0 bl sn s2 to (m + 1) (w.heap.size + 1) w5 v' (sn'.set tn true) (st' ++ [(tn : Int)])) := by
                  refine ⟨?_, hS2.app hO5 hgrow hloc, ?_, by rw [List.length_set, HM.out.sl], ?_⟩
                  · rw [HIS.out, HNEW.out, Int.toNat_natCast]
                  · have h1 : Below w0.heap.size w2 (w2.setCell ⟨w.heap.size + 1, tn, none⟩ (.bool true)) := ((Kept.rfl (fun k => k = w.heap.size + 1) w2).set (.inl (Eq.refl _)) _).below (by have := hP2.g; omega) (fun k e => by omega)
                    have h2 := below_on HM.out.below HB2.out HM.out.below.size
                    refine Below.grown ((h2.trans h1).alloc (Nat.le_trans h2.size h1.size) _) hgrow (by have := hP2.g; simp [World.setCell]; omega) (fun b hb => (World.ownsRow.lt hS2.stk b hb).1)
                  · intro x hx
                    rcases List.mem_append.1 hx with hx | hx
                    · exact HM.out.bd x hx
                    · simp at hx; subst hx; omega
                clear hown' hgrow hnil hloc hP2 hS2 hO5 HM HSTAY
                go_wp2_with fail
                go_roundw
                case rel => exact ⟨m + 1, _, _, by omega, by go_num, HN5.out⟩
                case measure => simp [intOf]; omega
              · rw [hh] at q1
                have HO := hid' (mark_seen (S := (sn', st')) (t := tn) (by rw [Int.toNat_natCast]; exact hh))
                clear hh
                go_wp2_with (go_at_call 50; refine (hq32 _).mono ?_; rintro e1 w2 ⟨rfl, hb2⟩; obtain ⟨hc2, hf2⟩ := bcell hb2; have hs2 := hb2.size; have HB2 := hid' hb2)
                go_roundw
                case rel => exact ⟨m + 1, sn', st', by omega, by go_num, HSTAY.out _ HB2.out HO.out⟩
                case measure => simp [intOf]; omega
          · have e : m = to.length := by omega
            subst e
            have HE : Hid ((sn', st') = popS bl sn s2 k) := by
              unfold Hid
              rw [HPK.out, HM.out.is, List.take_length]
            have HG2 : Hid (Good bl sn' st') := by
              have h1 := HGP.out
              rw [← HE.out] at h1
              exact h1
            have HM2 : Hid (muS sn' st' + 1 ≤ muS sn (s2 ++ [(k : Int)])) := by
              have h1 := HMP.out
              rw [← HE.out] at h1
              exact h1
            have HSL := hid' HM.out.sl
            have HBB := hid' HM.out.bd
            have HSS := hid' HM.out.sm
            have HB2 := hid' HM.out.below
            clear HM
            go_wp2_with fail
            go_roundw
            case rel => exact ⟨sn', st', HSL.out, HBB.out, by have := HM2.out; have := HMU2.out; omega, HSS.out, HG2.out, HB2.out⟩
            case measure =>
              have h1 := msr_is HSS.out
              rw [HSL.out] at h1
              rw [h1, HMU.out]
              have := HM2.out
              omega

set_option maxRecDepth 20000 in
set_option maxHeartbeats 8000000 in
theorem reached17 {w : World} {f : Fn} (h : Fn.ok w f) : Calls Try.prog 24 #[f.val] w (RchR f.blocks w) := by
  obtain ⟨nm, ps, rs, sl, bv, bl⟩ := f
  obtain ⟨hb, hbl, _, hbs⟩ := h
  dsimp only at *
  have HSRC := hid' hb
  obtain ⟨ao, cap, rfl, hf⟩ := hb.form bl4
  have HF := hid' hf
  have HS := hid' hbs
  obtain ⟨w0, ew0⟩ : ∃ w0, w0 = w.alloc (.cells #[.string nm, .int .i64 ps, .int .i64 rs, .int .i64 sl, .slice ao bl.length cap] 24) := ⟨_, rfl⟩
  have HW0 := hid' ew0
  have hz0 : w0.heap.size = w.heap.size + 1 := by rw [ew0]; simp
  obtain ⟨w1, hm, hpm, hbw, hs1⟩ := make_bl w0 (base := w0.heap.size) hbl (Nat.le_refl _)
  have HPM := hid' hpm
  have HBW := hid' hbw
  rw [hz0] at hm hs1
  rw [ew0] at hm
  obtain ⟨ti3, hi3, z0', z1', z2'⟩ := info_parts info3
  have HI3 := hid' hi3
  unfold big at hbl
  unfold Fn.val
  rw [ew0] at hbw
  obtain ⟨_, _, m0, m1, m2, m3, m4⟩ := fbox hbw
  clear hf hb hbs hpm hbw ew0
  by_cases hn0 : bl.length = 0
  · have hb0 : ((bl.length : Int) == 0) = true := beq_iff_eq.2 (by omega)
    have HR : Hid (reachF bl = []) := by unfold Hid reachF; rw [if_pos hn0]
    have HN := hid' hn0
    clear hn0
    go_enter Try.func24, Try.ntmps24
    go_wp2_with fail
    go_ret
    refine ⟨_, _, rfl, ?_, ?_, (fun b off e => by injection e with e; injection e with e; omega), w.heap.size + 1, ?_⟩
    rotate_left 2
    · rw [HR.out]
      have h1 := HPM.out
      rw [HN.out] at h1 ⊢
      rw [hz0] at h1
      exact h1
    · rw [HR.out, HN.out]
      exact .inl ⟨rfl, _, _, rfl⟩
    · have h1 := HBW.out
      rw [HW0.out] at h1
      exact (below1 _ _).trans (h1.mono (by simp))
  · have HG := hid' (good_start hn0)
    have hpos : 0 < bl.length := by omega
    have hb0 : ((bl.length : Int) == 0) = false := beq_eq_false_iff_ne.2 (by omega)
    have s0 : w1.cell? ⟨w.heap.size + 1, 0, none⟩ = some (.bool false) := by
      have := HPM.out
      rw [hz0] at this
      refine (World.ownsRow.cellAt this 0 (by omega)).trans ?_
      simp [hpos]
    have s1 : w1.frozen? ⟨w.heap.size + 1, 0, none⟩ = false := by
      have := HPM.out
      rw [hz0] at this
      exact World.ownsRow.frozenAt this 0
    go_enter Try.func24, Try.ntmps24
    go_wp2_with fail
    have HST : Hid (SM ((w1.setCell ⟨w.heap.size + 1, 0, none⟩ (.bool true)).alloc (.cells #[.int .i64 0] 3)) w0.heap.size (w.heap.size + 1) (.slice (some ⟨w.heap.size + 1 + 1, 0, none⟩) 1 1) ((List.replicate bl.length false).set 0 true) [0]) := by
      have := HPM.out
      rw [hz0] at this
      unfold Hid
      rw [hz0, ← hs1]
      exact SM.start rfl this (by omega)
    have HBS : Hid (Below w0.heap.size w0 ((w1.setCell ⟨w.heap.size + 1, 0, none⟩ (.bool true)).alloc (.cells #[.int .i64 0] 3))) := by
      have h2 : Below w0.heap.size w1 (w1.setCell ⟨w.heap.size + 1, 0, none⟩ (.bool true)) := ((Kept.rfl (fun k => k = w.heap.size + 1) w1).set (.inl (Eq.refl _)) _).below HBW.out.size (fun k e => by omega)
      exact (HBW.out.trans h2).alloc (Nat.le_trans HBW.out.size h2.size) _
    clear hm m0 m1 m2 m3 m4 s0 s1
    go_loopw [4] (fun v wr => ∃ (sn : List Bool) (st : List Int), sn.length = bl.length ∧ (∀ x ∈ st, 0 ≤ x ∧ x < bl.length) ∧ muS sn st ≤ 2 * bl.length ∧ SM wr w0.heap.size (w.heap.size + 1) v sn st ∧ Good bl sn st ∧ Below w0.heap.size w0 wr) (fun v wr => @Classical.epsilon Nat ⟨0⟩ fun N => ∃ sn st, sn.length = bl.length ∧ SM wr w0.heap.size (w.heap.size + 1) v sn st ∧ N = muS sn st)
    case atStart =>
      refine ⟨_, _, by simp, by intro x hx; simp at hx; omega, ?_, HST.out, HG.out, HBS.out⟩
      have := count_set (List.replicate bl.length false) 0 (by cases e : bl.length with | zero => exact absurd e hn0 | succ k => simp)
      simp at this
      unfold muS
      simp
      omega
    case round =>
      obtain ⟨sn, st, hsl, hbd, hmu, hSM, hgood, hbr⟩ := hrel
      obtain ⟨sb, sc, rfl⟩ := hSM.fm
      have HSM := hid' hSM
      have HGD := hid' hgood
      have HB := hid' hbr
      have HBD := hid' hbd
      have hbx : Below (w.alloc (.cells #[.string nm, .int .i64 ps, .int .i64 rs, .int .i64 sl, .slice ao bl.length cap] 24)).heap.size (w.alloc (.cells #[.string nm, .int .i64 ps, .int .i64 rs, .int .i64 sl, .slice ao bl.length cap] 24)) wr := by rw [← HW0.out]; exact hbr
      obtain ⟨hsz, hB0, f0, f1, f2, f3, f4⟩ := fbox hbx
      have HB0 := hid' hB0
      have HMU : Hid ((@Classical.epsilon Nat ⟨0⟩ fun N => ∃ sn' st', sn'.length = bl.length ∧ SM wr w0.heap.size (w.heap.size + 1) (.slice (some ⟨sb, 0, none⟩) st.length sc) sn' st' ∧ N = muS sn' st') = muS sn st) := by rw [← hsl]; exact msr_is hSM
      clear hSM hgood hbr hbd hbx hB0
      by_cases hst : st.length = 0
      · have e : st = [] := List.eq_nil_of_length_eq_zero hst
        subst e
        have HDN : Hid (Src bcl wr (.slice (some ⟨w.heap.size + 1, 0, none⟩) bl.length bl.length) (reachF bl)) := by
          have := HSM.out.src
          rw [HGD.out.done] at this
          rw [← hsl, HGD.out.done]
          exact this
        have HOW : Hid (Own 4 1 bcl wr w0.heap.size (.slice (some ⟨w.heap.size + 1, 0, none⟩) bl.length bl.length) (reachF bl)) := by
          have := HSM.out.own
          rw [HGD.out.done] at this
          rw [← hsl, HGD.out.done]
          exact this
        clear hst
        go_wp2_with fail
        go_ret
        exact ⟨_, _, rfl, HDN.out, HB0.out, (fun b off e => by injection e with e; injection e with e; omega), _, HOW.out⟩
      · obtain ⟨s2, i, rfl⟩ : ∃ s2 i, st = s2 ++ [i] := ⟨st.dropLast, st.getLast (fun e => hst (by rw [e]; rfl)), (List.dropLast_concat_getLast _).symm⟩
        have hlen : (s2 ++ [i]).length = s2.length + 1 := by simp
        rw [hlen] at HSM HMU
        obtain ⟨hi0, hi1⟩ := HBD.out i (by simp)
        obtain ⟨k, rfl⟩ : ∃ k : Nat, i = k := ⟨i.toNat, by omega⟩
        have hlt : k < bl.length := by omega
        have sTop : wr.cell? ⟨sb, s2.length, none⟩ = some (.int .i64 k) := by
          have h1 := HSM.out.stk
          unfold Own at h1
          rw [hlen] at h1
          refine (World.ownsRow.cellAt h1 s2.length (by omega)).trans ?_
          rw [flat_i]
          simp
        have hcap : s2.length + 1 ≤ sc := by
          rcases HSM.out.stk.2 with ⟨e, _⟩ | ⟨g5, c5, cu5, e5, a1, a2, a3, _⟩
          · cases e
          · injection e5 with e1 e2 e3
            rw [e3]
            rw [hlen] at a3
            exact a3
        have hs2 : s2.length + 1 ≤ 2 * bl.length := by have := few_le (bl := bl) hmu; rw [hlen] at this; exact this
        have HPOP := hid' HSM.out.pop
        have HGP := hid' HGD.out.pop
        have HMP : Hid (muS (popS bl sn s2 k).1 (popS bl sn s2 k).2 + 1 ≤ muS sn (s2 ++ [(k : Int)])) := by
          have := pop_mu (bl := bl) (sn := sn) (st := s2 ++ [(k : Int)]) (i := k) (by simp) k
          rw [List.dropLast_concat] at this
          exact this
        have HMU2 := hid' hmu
        have HBD2 : Hid (∀ x ∈ s2, 0 ≤ x ∧ x < bl.length) := fun x hx => HBD.out x (List.mem_append.2 (.inl hx))
        rw [hlen]
        obtain ⟨b, o, rfl, hb1, hc1, hx⟩ := HF.out k hlt
        obtain ⟨c0, c1, c2, c3⟩ := bl_cells (hx wr HB0.out)
        have HX : Hid (∀ W, Below w.heap.size w W → W.cell? ⟨b, o + k * 4 + 3, none⟩ = some bl[k].tv) := fun W hW => (bl_cells (hx W hW)).2.2.2
        have ho := HS.out _ (List.getElem_mem hlt)
        have htl := ho.tl
        obtain ⟨tt, tc, et, hft⟩ := ho.t.ints
        have HT := hid' hft
        have HPK : Hid (popS bl sn s2 k = bl[k].to.foldl markT (sn, s2)) := by unfold Hid popS; rw [Int.toNat_natCast, List.getElem?_eq_getElem hlt]; rfl
        rw [et] at c3 HX
        unfold big at htl
        clear hx ho et hft hst hmu HGD HBD HSM hlen
        generalize bl[k].to = to at *
        generalize bl[k] = x at *
        go_wp2_with fail
        go_loopw [4, 6] (fun v i wr' => ∃ (m : Nat) (sn' : List Bool) (st' : List Int), m ≤ to.length ∧ i = .int .i64 m ∧ RMid w0 bl sn s2 to m (w.heap.size + 1) wr' v sn' st') (fun _ i _ => to.length - (intOf i).toNat)
        case atStart => exact ⟨0, sn, s2, Nat.zero_le _, rfl, rfl, HPOP.out, HB.out, hsl, HBD2.out⟩
        case round =>
          obtain ⟨m, sn', st', hmk, rfl, hM⟩ := hrel
          obtain ⟨vb, vc, rfl⟩ := hM.sm.fm
          have HM := hid' hM
          have hbx : Below (w.alloc (.cells #[.string nm, .int .i64 ps, .int .i64 rs, .int .i64 sl, .slice (some ⟨b, o, none⟩) bl.length cap] 24)).heap.size (w.alloc (.cells #[.string nm, .int .i64 ps, .int .i64 rs, .int .i64 sl, .slice (some ⟨b, o, none⟩) bl.length cap] 24)) wr := by rw [← HW0.out]; exact hM.below
          obtain ⟨isz, iB0, i0, i1, i2, i3, i4⟩ := fbox hbx
          have IB0 := hid' iB0
          have t3 := HX.out _ iB0
          clear hM hbx iB0
          by_cases hmt : m < to.length
          · obtain ⟨tb, tof, rfl, htb, htc, hcx⟩ := HT.out m hmt
            have tcell := hcx wr IB0.out
            clear hcx
            have HSTAY : Hid (∀ W, Below wr.heap.size wr W → markT (sn', st') to[m] = (sn', st') → RMid w0 bl sn s2 to (m + 1) (w.heap.size + 1) W (.slice (some ⟨vb, 0, none⟩) st'.length vc) sn' st') := fun W hW he => HM.out.stay hmt he hW
            have HIS : Hid ((to.take (m + 1)).foldl markT (sn, s2) = markT (sn', st') to[m]) := HM.out.next hmt
            by_cases g0 : 0 ≤ to[m]
            · by_cases g1 : to[m] < bl.length
              · generalize to[m] = t at *
                obtain ⟨tn, rfl⟩ : ∃ tn : Nat, t = tn := ⟨t.toNat, by omega⟩
                have htn : tn < bl.length := by omega
                obtain ⟨q1, q2, q3, q4⟩ := HM.out.at_ htn
                cases hh : sn'.getD tn true
                · rw [hh] at q1
                  have HNEW := hid' (mark_new (S := (sn', st')) (t := tn) ⟨by omega, by dsimp only; rw [HM.out.sl]; exact_mod_cast htn⟩ (by rw [Int.toNat_natCast]; exact hh))
                  have HB2 : Hid (Below wr.heap.size wr wr) := Below.refl _ _
                  clear hh
                  go_wp2_with (at_builtin; refine of_mark ?_)
                  unfold Mark
                  have hP2 := HM.out.sm.on HB2.out
                  have hS2 := hP2.set (t := tn)
                  have hfew : st'.length ≤ 2 * bl.length := by have h1 := fold_mu (to.take m) (sn, s2); have h2 := HMU2.out; rw [← HM.out.is] at h1; unfold muS at h1 h2; simp only [List.length_append, List.length_singleton] at h1 h2; omega
                  have hzz : (wr.setCell ⟨w.heap.size + 1, tn, none⟩ (.bool true)).heap.size = wr.heap.size := by simp [World.setCell]
                  refine wpList_append_own_at _ rfl _ _ 26 rfl w0.heap.size 3 ti3 (.int .i64 0) 1 8 Try.underlying26 HI3.out z0' z1' z2' rfl (by decide) (.slice (some ⟨vb, 0, none⟩) st'.length vc) _ _ rfl (World.ownsRow.alloc hS2.stk _) ⟨wr.heap.size, 0, none⟩ 1 1 [.int .i64 tn] rfl rfl (by rw [← hzz]; exact cell_one_new _ _ _) (by intro x hx; simp at hx; rw [hx]; rfl) (by unfold maxLen; omega) (by omega) (by have := hP2.g; simp [World.setCell]; omega) ?_
                  intro v' w5 hown' hgrow hnil hloc
                  have hO5 : Own 3 1 icell w5 w0.heap.size v' (st' ++ [(tn : Int)]) := by
                    unfold Own
                    rw [flat_append, List.length_append]
                    exact hown'
                  have HN5 : Hid (RMid w0 bl sn s2 to (m + 1) (w.heap.size + 1) w5 v' (sn'.set tn true) (st' ++ [(tn : Int)])) := by
                    refine ⟨?_, hS2.app hO5 hgrow hloc, ?_, by rw [List.length_set, HM.out.sl], ?_⟩
                    · rw [HIS.out, HNEW.out, Int.toNat_natCast]
                    · have h1 : Below w0.heap.size wr (wr.setCell ⟨w.heap.size + 1, tn, none⟩ (.bool true)) := ((Kept.rfl (fun k => k = w.heap.size + 1) wr).set (.inl (Eq.refl _)) _).below (by have := hP2.g; omega) (fun k e => by omega)
                      have h2 := below_on HM.out.below HB2.out HM.out.below.size
                      refine Below.grown ((h2.trans h1).alloc (Nat.le_trans h2.size h1.size) _) hgrow (by have := hP2.g; simp [World.setCell]; omega) (fun b hb => (World.ownsRow.lt hS2.stk b hb).1)
                    · intro x hx
                      rcases List.mem_append.1 hx with hx | hx
                      · exact HM.out.bd x hx
                      · simp at hx; subst hx; omega
                  clear hown' hgrow hnil hloc hP2 hS2 hO5 HM HSTAY
                  go_wp2_with fail
                  go_roundw
                  case rel => exact ⟨m + 1, _, _, by omega, by go_num, HN5.out⟩
                  case measure => simp [intOf]; omega
                · rw [hh] at q1
                  have HO := hid' (mark_seen (S := (sn', st')) (t := tn) (by rw [Int.toNat_natCast]; exact hh))
                  clear hh
                  go_wp2_with fail
                  go_roundw
                  case rel => exact ⟨m + 1, sn', st', by omega, by go_num, HSTAY.out _ (Below.refl _ _) HO.out⟩
                  case measure => simp [intOf]; omega
              · have HO := hid' (mark_out (S := (sn', st')) (t := to[m]) (by dsimp only; rw [HM.out.sl]; exact fun h => g1 h.2))
                generalize to[m] = t at *
                go_wp2_with fail
                go_roundw
                case rel => exact ⟨m + 1, sn', st', by omega, by go_num, HSTAY.out _ (Below.refl _ _) HO.out⟩
                case measure => simp [intOf]; omega
            · have HO := hid' (mark_out (S := (sn', st')) (t := to[m]) (by dsimp only; rw [HM.out.sl]; exact fun h => g0 h.1))
              generalize to[m] = t at *
              go_wp2_with fail
              go_roundw
              case rel => exact ⟨m + 1, sn', st', by omega, by go_num, HSTAY.out _ (Below.refl _ _) HO.out⟩
              case measure => simp [intOf]; omega
          · have e : m = to.length := by omega
            subst e
            have HE : Hid ((sn', st') = popS bl sn s2 k) := by
              unfold Hid
              rw [HPK.out, HM.out.is, List.take_length]
            have HG2 : Hid (Good bl sn' st') := by
              have h1 := HGP.out
              rw [← HE.out] at h1
              exact h1
            have HM2 : Hid (muS sn' st' + 1 ≤ muS sn (s2 ++ [(k : Int)])) := by
              have h1 := HMP.out
              rw [← HE.out] at h1
              exact h1
            have HSL := hid' HM.out.sl
            have HBB := hid' HM.out.bd
            have HSS := hid' HM.out.sm
            have HB2 := hid' HM.out.below
            clear HM
            go_wp2_with fail
            go_roundw
            case rel => exact ⟨sn', st', HSL.out, HBB.out, by have := HM2.out; have := HMU2.out; omega, HSS.out, HG2.out, HB2.out⟩
            case measure =>
              have h1 := msr_is HSS.out
              rw [HSL.out] at h1
              rw [h1, HMU.out]
              have := HM2.out
              omega
end Go.Proofs.Ytgkaeoieclegjaa
