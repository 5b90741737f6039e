/- layOut: where all lies in the code. -/
import Derived.Test.YtgnlplddppheiaaBrs
namespace Go.Proofs.Ytgnlplddppheiaa
open Go.RowKit Go.Maps Go.Sort
set_option linter.unusedVariables false

/-- How many words lie ahead of instruction k. -/
def atF (S : Nat → Bool) (k : Nat) : Nat := k + below S k
theorem atF_zero (S : Nat → Bool) : atF S 0 = 0 := rfl
theorem atF_succ (S : Nat → Bool) (k : Nat) : atF S (k + 1) = atF S k + 1 + (if S k then 1 else 0) := by
  unfold atF
  show k + 1 + (below S k + _) = _
  omega
theorem atF_le (S : Nat → Bool) (k : Nat) : atF S k ≤ 2 * k := by have := below_le S k; unfold atF; omega
theorem atF_mono (S : Nat → Bool) {a b : Nat} (h : a ≤ b) : atF S a ≤ atF S b := by have := below_mono S h; unfold atF; omega

def bsOf (ls : List Ln) : List Br := (brGo (labs ls) 0 ls).map mkBr

theorem longs_none (ao : Option Addr) (cap : Nat) (w : World) : Calls Try.prog 29 #[.slice ao 0 cap] w fun e w' => e = .returned (.slice none 0 0) ∧ w' = w := by
  go_enter Try.func29, Try.ntmps29
  go_wp2
  refine wp_loop_rounds 1 ?_
  rw [rounds_succ]
  go_wp2
  go_ret
  exact ⟨rfl, rfl⟩

theorem longs_any {w : World} {B : Nat} {v : Value} {l : List (Nat × Nat × Nat)} (h : w.ownsRow B 80 3 v l.length (cells3 l)) (hl : l.length ≤ 900000) (hg : ∀ x ∈ l, x.1 ≤ 1000000 ∧ x.2.1 ≤ x.2.2 ∧ x.2.2 ≤ 1000000) (hnd : (l.map (·.1)).Nodup) :
    Calls Try.prog 29 #[v] w fun e w' => ∃ u, e = .returned u ∧ Longs w w' u l := by
  by_cases e : l = []
  · subst e
    obtain ⟨ao, cap, rfl⟩ : ∃ ao cap, v = .slice ao 0 cap := by
      rcases h.2 with ⟨rfl, _⟩ | ⟨g, cap, cur, rfl, _⟩
      · exact ⟨_, _, rfl⟩
      · exact ⟨_, _, rfl⟩
    refine (longs_none ao cap w).mono ?_
    rintro e w' ⟨rfl, rfl⟩
    exact ⟨_, rfl, [], World.ownsRow_nil _ _ _ _, List.nodup_nil, by simp, ⟨fun b hb => by simp at hb, fun S _ p hp => by simp [memB] at hp⟩, Below.refl _ _⟩
  · have h0 := h
    rcases h.2 with ⟨_, e'⟩ | ⟨g, cap, cur, rfl, hb, hh, hc, _⟩
    · exact absurd (List.eq_nil_of_length_eq_zero e') e
    · have hgl : g < w.heap.size := (Array.getElem?_eq_some_iff.1 hh).1
      have := longs29 g cap l.length l.toArray w (by simp) hl (holds_of_own h0) hgl (by simpa using hg) (by simpa using hnd)
      simpa using this

theorem words18 {w : World} {m : Value} {ab N x : Nat} (hN : 1 ≤ N) (hN2 : N ≤ 1000000) (hc : w.cell? ⟨ab, N - 1, none⟩ = some (.int .i64 (x : Int))) (hl : ab < w.heap.size) :
    Calls Try.prog 18 #[.agg #[m, .slice (some ⟨ab, 0, none⟩) N N]] w fun e w' => e = .returned (.int .i64 (x : Int)) ∧ Below w.heap.size w w' := by
  obtain ⟨n, rfl⟩ : ∃ n, N = n + 1 := ⟨N - 1, by omega⟩
  simp only [Nat.add_sub_cancel] at hc
  go_enter Try.func18, Try.ntmps18
  go_wp2
  go_ret
  exact ⟨rfl, below1 _ _⟩

/-- The row of places. -/
def IsAt (w : World) (ab N : Nat) (g : Nat → Nat) : Prop := w.rowIs ab 3 N (fun i => .int .i64 (g i : Int))

/-- What layOut hands back. -/
def LayR (w w' : World) (ls : List Ln) (e : Ending) : Prop :=
  (∃ er, ErrIs ls er ∧ er ≠ 0 ∧ e = .returned (.tuple #[.agg #[.map none, .slice none 0 0], .int .i64 er]) ∧ Below w.heap.size w w') ∨
  (ErrIs ls 0 ∧ ∃ S, Least (bsOf ls) S ∧
    ((1048576 < 4 * atF S (insN ls) ∧ e = .returned (.tuple #[.agg #[.map none, .slice none 0 0], .int .i64 3]) ∧ Below w.heap.size w w') ∨
     (4 * atF S (insN ls) ≤ 1048576 ∧ ∃ mb ab, e = .returned (.tuple #[.agg #[.map (some mb), .slice (some ⟨ab, 0, none⟩) (insN ls + 1) (insN ls + 1)], .int .i64 0]) ∧ w.heap.size ≤ mb ∧ w.heap.size ≤ ab ∧ mb ≠ ab ∧
       IsMapL w' mb ls.length (labL ls).length (labs ls) ∧ IsAt w' ab (insN ls + 1) (atF S) ∧ Below w.heap.size w w')))

theorem run_make45 (n : Nat) (hn : n ≤ 1000000) (W : World) : (Instr.makeSlice 45 (.int .i64 (n : Int)) (.int .i64 (n : Int))).run Try.prog W = .ok (.slice (some ⟨W.heap.size, 0, none⟩) n n) (W.alloc (.cells (madeCells #[.int .i64 0] n) 3)) :=
  run_make_row' 45 3 (.int .i64 0) 8 Try.underlying45 info3' rfl .i64 .i64 n (by omega) (by omega) W

set_option maxRecDepth 100000 in
set_option maxHeartbeats 1000000 in
theorem layOut_bad {w : World} {v : Value} {ls : List Ln} (h : IsLns w v ls) (h0 : ¬ ErrIs ls 0) : Calls Try.prog 17 #[v] w fun e w' => ∃ er, ErrIs ls er ∧ er ≠ 0 ∧ e = .returned (.tuple #[.agg #[.map none, .slice none 0 0], .int .i64 er]) ∧ Below w.heap.size w w' := by
  have hF : ∀ o, Calls Try.prog 24 #[v] (w.alloc o) fun e w' => ∃ er, ErrIs ls er ∧ er ≠ 0 ∧ e = .returned (.tuple #[.map none, .int .i64 er]) ∧ Below (w.alloc o).heap.size (w.alloc o) w' := fun o => by
    refine (find24 (h.below (below1 w o))).mono ?_
    rintro e w' (h1 | ⟨h1, _⟩)
    · exact h1
    · exact absurd h1 h0
  clear h h0
  go_enter Try.func17, Try.ntmps17
  go_wp2_with (go_at_call 24; refine (hF _).mono ?_; rintro e w1 ⟨er, hE, hne, rfl, hb1⟩; obtain ⟨hc1, hf1⟩ := bcell hb1)
  refine bodyPost_ret (v := .tuple #[.agg #[.map none, .slice none 0 0], .int .i64 er]) (by simp [results, Try.results17, go_sem, hc1]) rfl ⟨er, hE, hne, rfl, ?_⟩
  have K := ((Kept.rfl (fun b => b = w.heap.size) w).alloc (.cells #[.map none, .slice none 0 0] 47)).trans (Kept.of_below hb1)
  exact ((K.set (a := ⟨w.heap.size, 0, none⟩) (.inl rfl) _).set (a := ⟨w.heap.size, 1, none⟩) (.inl rfl) _).below (Nat.le_refl _) (fun k e => by omega)

theorem branches_any {w : World} {v : Value} {mb : Nat} {ls : List Ln} (h : IsLns w v ls) (hm : IsMapL w mb ls.length (labL ls).length (labs ls)) (hn : ls.length ≤ 262144) :
    Calls Try.prog 30 #[v, .map (some mb)] w fun e w' => ∃ u, e = .returned u ∧ w'.ownsRow w.heap.size 80 3 u (brGo (labs ls) 0 ls).length (cells3 (brGo (labs ls) 0 ls)) ∧ Below w.heap.size w w' := by
  obtain ⟨h1, h2, ⟨rfl, ao, cap, rfl⟩ | ⟨h3, b, cap, rfl, hl, ha⟩⟩ := h
  · refine (branches_none ao cap _ w).mono ?_
    rintro e w' ⟨rfl, rfl⟩
    exact ⟨_, rfl, World.ownsRow_nil _ _ _ _, Below.refl _ _⟩
  · refine branches_some (fun t p hp => ?_) hm hn h2 hl ha
    have := labs_le hp
    have := insN_le ls
    omega

theorem longs_ls {w : World} {B : Nat} {v : Value} {ls : List Ln} (hn : ls.length ≤ 262144) (h : w.ownsRow B 80 3 v (brGo (labs ls) 0 ls).length (cells3 (brGo (labs ls) 0 ls))) :
    Calls Try.prog 29 #[v] w fun e w' => ∃ u, e = .returned u ∧ Longs w w' u (brGo (labs ls) 0 ls) := by
  have h1 := brGo_len (labs ls) ls 0
  have h2 := insN_le ls
  refine longs_any h (by omega) (fun x hx => ?_) (brGo_nodup _ _ _)
  have h3 := brGo_ge (labs ls) ls 0 x hx
  have h4 := brGo_ok (labs ls) (insN ls) (fun t p hp => labs_le hp) ls 0 (by omega) x hx
  omega

/-- In the midst of layOut. -/
structure LMid (w W : World) (mb ab pb N : Nat) (ls : List Ln) (g : Nat → Nat) : Prop where
  row : IsAt W ab N g
  c0 : W.cell? ⟨pb, 0, none⟩ = some (.map (some mb))
  c1 : W.cell? ⟨pb, 1, none⟩ = some (.slice (some ⟨ab, 0, none⟩) N N)
  plt : pb < W.heap.size
  map : IsMapL W mb ls.length (labL ls).length (labs ls)
  res : W.heap[w.heap.size]? = some (.cells #[.map none, .slice none 0 0] 47 (0, 0))
  below : Below w.heap.size w W
  hmb : w.heap.size < mb
  hmab : mb < ab
  hpb : pb = ab + 1

theorem LMid.next {w W W' : World} {mb ab pb N : Nat} {ls : List Ln} {g : Nat → Nat} (h : LMid w W mb ab pb N ls g) (hb : Below W.heap.size W W') : LMid w W' mb ab pb N ls g := by
  have K : Kept (fun _ => False) W W' := Kept.of_below hb
  have rl : w.heap.size < W.heap.size := (Array.getElem?_eq_some_iff.1 h.res).1
  exact ⟨K.row h.row (fun e => e), (K.cell h.plt (fun e => e)).trans h.c0, (K.cell h.plt (fun e => e)).trans h.c1, Nat.lt_of_lt_of_le h.plt hb.size, h.map.kept K (fun e => e), (K.block _ rl (fun e => e)).trans h.res, h.below.trans (hb.mono h.below.size), h.hmb, h.hmab, h.hpb⟩
theorem LMid.put {w W : World} {mb ab pb N : Nat} {ls : List Ln} {g g' : Nat → Nat} (h : LMid w W mb ab pb N ls g) (i : Nat) (x : Nat) (hg : ∀ j, j < N → (if j = i then x else g j) = g' j) : LMid w (W.setCell ⟨ab, i, none⟩ (.int .i64 (x : Int))) mb ab pb N ls g' := by
  have K : Kept (fun b => b = ab) W (W.setCell ⟨ab, i, none⟩ (.int .i64 (x : Int))) := (Kept.rfl (fun b => b = ab) W).set (.inl rfl) _
  have rl : w.heap.size < W.heap.size := (Array.getElem?_eq_some_iff.1 h.res).1
  have h1 := h.hmb
  have h2 := h.hmab
  have h3 := h.hpb
  refine ⟨?_, (K.cell h.plt (by omega)).trans h.c0, (K.cell h.plt (by omega)).trans h.c1, Nat.lt_of_lt_of_le h.plt K.size, h.map.kept K (by omega), (K.block _ rl (by omega)).trans h.res, h.below.trans (K.below h.below.size (fun k e => by omega)), h.hmb, h.hmab, h.hpb⟩
  refine (World.rowIs.set h.row i _).congr (fun j hj => ?_)
  have := hg j hj
  by_cases e : j = i
  · rw [if_pos e] at this ⊢; rw [this]
  · rw [if_neg e] at this ⊢; rw [this]

theorem own_shape {w : World} {B : Nat} {e : TypeId} {z n : Nat} {v : Value} {xs : List Value} (h : w.ownsRow B e z v n xs) : ∃ ao cap, v = .slice ao n cap := by
  rcases h.2 with ⟨rfl, rfl⟩ | ⟨g, cg, cur, rfl, _⟩
  · exact ⟨_, _, rfl⟩
  · exact ⟨_, _, rfl⟩
theorem own_some {w : World} {B : Nat} {L : List Nat} {ao : Option Addr} {cap : Nat} (h : w.ownsRow B 3 1 (.slice ao L.length cap) L.length (ints L)) {j : Nat} (hj : j < L.length) : ∃ g, ao = some ⟨g, 0, none⟩ ∧ B ≤ g ∧ w.cell? ⟨g, j, none⟩ = some (.int .i64 (L[j] : Int)) := by
  have h0 := h
  rcases h.2 with ⟨_, e⟩ | ⟨g, cg, cur, hv, hB, _⟩
  · omega
  · injection hv with e1 e2 e3
    subst e1 e3
    refine ⟨g, rfl, hB, ?_⟩
    rw [h0.cellAt j (by omega)]
    simp [ints, hj]

/-- In the first loop: so many long ones are marked. -/
def mark (L : List Nat) (j : Nat) (i : Nat) : Nat := if i ≠ 0 ∧ (i - 1) ∈ L.take j then 1 else 0
/-- In the second loop: the first k places are there. -/
def sums (S : Nat → Bool) (k : Nat) (i : Nat) : Nat := if i < k then atF S i else if i ≠ 0 ∧ S (i - 1) = true then 1 else 0

set_option maxRecDepth 100000 in
set_option maxHeartbeats 4000000 in
theorem layOut_ok {w : World} {v : Value} {ls : List Ln} (h : IsLns w v ls) (h0 : ErrIs ls 0) : Calls Try.prog 17 #[v] w fun e w' => LayR w w' ls e := by
  have hF : ∀ o, Calls Try.prog 24 #[v] (w.alloc o) fun e w' => ∃ mb, e = .returned (.tuple #[.map (some mb), .int .i64 0]) ∧ (w.alloc o).heap.size ≤ mb ∧ IsMapL w' mb ls.length (labL ls).length (labs ls) ∧ Below (w.alloc o).heap.size (w.alloc o) w' := fun o => by
    refine (find24 (h.below (below1 w o))).mono ?_
    rintro e w' (⟨er, h1, h2, _⟩ | ⟨h1, h2⟩)
    · exact absurd (h1.unique h0) h2
    · exact h2
  obtain ⟨ao, cap, rfl⟩ : ∃ ao cap, v = .slice ao ls.length cap := by
    rcases h.2.2 with ⟨rfl, ao, cap, rfl⟩ | ⟨_, b, cap, rfl, _⟩
    · exact ⟨_, _, rfl⟩
    · exact ⟨_, _, rfl⟩
  have HL := hid' h
  have HE := hid' h0
  have hlen : ls.length ≤ 262144 := by
    rcases h0 with ⟨_, e⟩ | ⟨_, _, e⟩ | ⟨_, _, _, e⟩ | ⟨h1, _⟩
    · omega
    · omega
    · omega
    · exact h1
  have hil := ins_lab ls
  have hN : insN ls ≤ ls.length := insN_le ls
  clear h h0
  obtain ⟨M, hM⟩ : ∃ M, M = madeCells #[Value.int .i64 0] (insN ls + 1) := ⟨_, rfl⟩
  have mk : ∀ W : World, (Instr.makeSlice 45 (.int .i64 ((insN ls : Int) + 1)) (.int .i64 ((insN ls : Int) + 1))).run Try.prog W = .ok (.slice (some ⟨W.heap.size, 0, none⟩) (insN ls + 1) (insN ls + 1)) (W.alloc (.cells M 3)) := fun W => by
    have := run_make45 (insN ls + 1) (by omega) W
    rw [← hM] at this
    exact this
  have e1 : (ls.length : Int) - ((labL ls).length : Int) = (insN ls : Int) := by omega
  have HM := hid' hM
  clear hM
  go_enter Try.func17, Try.ntmps17
  go_wp2_with (first
    | (go_at_call 24; refine (hF _).mono ?_; rintro e w1 ⟨mb, rfl, hmb, hmp, hb1⟩; obtain ⟨hc1, hf1⟩ := bcell hb1; have HMP := hid' hmp; obtain ⟨D, hD, hsz, hf⟩ := hmp)
    | (at_len; refine wpList_len_own _ rfl _ 38 rfl 3 3 Try.underlying38 _ mb ls.length D rfl hD ?_; rw [hsz])
    | (go_at_call 30; refine of_mark ?_))
  unfold Mark
  have hz : w.heap.size < w1.heap.size := by have := hb1.size; simp at this; omega
  have hmz : w.heap.size < mb := by simp at hmb; omega
  have hmz2 : mb < w1.heap.size := HMP.out.lt
  obtain ⟨w2, hw2⟩ : ∃ w2, w2 = (w1.alloc (.cells M 3)).alloc (.cells #[.map (some mb), .slice (some ⟨w1.heap.size, 0, none⟩) (insN ls + 1) (insN ls + 1)] 47) := ⟨_, rfl⟩
  have B12 : Below w1.heap.size w1 w2 := by rw [hw2]; exact below2 _ _ _
  have hLM : LMid w w2 mb w1.heap.size (w1.heap.size + 1) (insN ls + 1) ls (mark [] 0) := by
    have hb01 := below_call hb1
    refine ⟨?_, by rw [hw2]; simp [go_sem], by rw [hw2]; simp [go_sem], by rw [hw2]; simp, HMP.out.kept (Kept.of_below (S := fun _ => False) B12) (fun e => e), ?_, hb01.trans (B12.mono hb01.size), hmz, hmz2, rfl⟩
    · rw [hw2, HM.out]
      exact World.rowIs.congr ((World.rowIs_made w1 (.int .i64 0) (insN ls + 1) 3).alloc _) (fun i _ => by simp [mark])
    · rw [B12.block _ hz, hb1.block _ (by simp)]
      exact heap_alloc_new _ _
  have HLM := hid' hLM
  have hI2 := HL.out.below (hLM.below)
  rw [← hw2]
  have hs2 := hid' hLM.plt
  refine (branches_any hI2 hLM.map hlen).mono ?_
  rintro e w3 ⟨u, rfl, hu, hb3⟩
  have Hb3 := hid' hb3
  clear hLM hI2 hF hc1 hf1 hD hsz hf hb1 B12 hw2 mk hb3
  go_wp2_with (go_at_call 29; refine (longs_ls hlen hu).mono ?_; rintro e w4 ⟨u', rfl, L, hL, hLn, hLs, hLst, hb4⟩; obtain ⟨ag, cg, rfl⟩ := own_shape hL)
  have hLM4 := (HLM.out.next Hb3.out).next hb4
  have hBs : Hid (w1.heap.size + 1 < w3.heap.size) := by have := hs2.out; have := Hb3.out.size; unfold Hid; omega
  have HL4 := hid' hL
  have HLM4 := hid' hLM4
  have Hn := hid' hLn
  have Hst := hid' hLst
  have hLb : Hid (∀ x ∈ L, x < insN ls) := fun x hx => by
    obtain ⟨y, hy, rfl⟩ := List.mem_map.1 (hLs x hx)
    have := brGo_ge (labs ls) ls 0 y hy
    omega
  have hLl : L.length ≤ 262144 := by
    have := pigeon L _ hLn hLs
    have := brGo_len (labs ls) ls 0
    simp at *
    omega
  clear hLM4 hL hLn hLst hb4 hLs hu HLM Hb3
  generalize w1.heap.size = ab at *
  go_loopw [33] (fun i wr => ∃ k : Nat, k ≤ L.length ∧ i = .int .i64 k ∧ LMid w wr mb ab (ab + 1) (insN ls + 1) ls (mark L k) ∧ wr.ownsRow w3.heap.size 3 1 (.slice ag L.length cg) L.length (ints L)) (fun i _ => L.length - (intOf i).toNat)
  case atStart => exact ⟨0, Nat.zero_le _, rfl, by
    have h := HLM4.out
    exact ⟨h.row, h.c0, h.c1, h.plt, h.map, h.res, h.below, h.hmb, h.hmab, h.hpb⟩, HL4.out⟩
  case round =>
    obtain ⟨k, hk, rfl, hM, hO⟩ := hrel
    by_cases hlt : k < L.length
    · obtain ⟨g, rfl, hg, cg'⟩ := own_some hO hlt
      have hx := hLb.out L[k] (List.getElem_mem _)
      have hN' := hM.put (i := L[k] + 1) (x := 1) (g' := mark L (k + 1)) (fun j hj => by
        unfold mark
        rw [taken L k hlt]
        by_cases e : j = L[k] + 1
        · subst e
          rw [if_pos rfl, if_pos ⟨by omega, by rw [Nat.add_sub_cancel]; exact List.mem_append.2 (.inr (List.mem_singleton.2 rfl))⟩]
        · rw [if_neg e]
          have : (j ≠ 0 ∧ j - 1 ∈ L.take k) ↔ (j ≠ 0 ∧ j - 1 ∈ L.take k ++ [L[k]]) := by
            simp only [List.mem_append, List.mem_singleton]
            constructor
            · rintro ⟨a, b⟩; exact ⟨a, .inl b⟩
            · rintro ⟨a, b | b⟩
              · exact ⟨a, b⟩
              · omega
          by_cases q : j ≠ 0 ∧ j - 1 ∈ L.take k
          · rw [if_pos q, if_pos (this.1 q)]
          · rw [if_neg q, if_neg (fun e => q (this.2 e))])
      have hO' : (wr.setCell ⟨ab, L[k] + 1, none⟩ (.int .i64 ((1 : Nat) : Int))).ownsRow w3.heap.size 3 1 (.slice (some ⟨g, 0, none⟩) L.length cg) L.length (ints L) :=
        Kept.owns (S := fun b => b = ab) ((Kept.rfl (fun b => b = ab) wr).set (.inl rfl) _) hO (fun b hb e => by
          have := (hO.lt b hb).1
          have := hBs.out
          omega)
      have k1 := hM.c1
      have k2 := World.rowIs.cell hM.row (i := L[k] + 1) (by omega)
      have k3 := World.rowIs.frozen hM.row (L[k] + 1)
      have HN := hid' hN'
      have HO := hid' hO'
      generalize L[k] = y at *
      have hy2 : (y : Int) + 1 < (insN ls : Int) + 1 := by omega
      have hy3 : ((y : Int) + 1).toNat = y + 1 := by omega
      clear hM hO hN' hO'
      go_wp2
      go_roundw
      case rel => exact ⟨k + 1, by omega, by go_num, HN.out, HO.out⟩
      case measure => simp [intOf]; omega
    · have e : k = L.length := by omega
      subst e
      have HMm := hid' hM
      clear hM hO
      obtain ⟨S, hS⟩ : ∃ S, S = memB L := ⟨_, rfl⟩
      have hM1 : LMid w wr mb ab (ab + 1) (insN ls + 1) ls (sums S 1) := by
        have h := HMm.out
        refine ⟨World.rowIs.congr h.row (fun i _ => ?_), h.c0, h.c1, h.plt, h.map, h.res, h.below, h.hmb, h.hmab, h.hpb⟩
        have : mark L L.length i = sums S 1 i := by
          unfold mark sums
          rw [List.take_of_length_le (Nat.le_refl _), hS]
          by_cases e : i = 0
          · subst e; simp [atF_zero]
          · rw [if_neg (show ¬ i < 1 by omega)]
            by_cases q : i - 1 ∈ L
            · rw [if_pos ⟨e, q⟩, if_pos ⟨e, (memB_iff L _).2 q⟩]
            · rw [if_neg (fun h => q h.2), if_neg (fun h => q ((memB_iff L _).1 h.2))]
        show Value.int .i64 ((mark L L.length i : Nat) : Int) = _
        rw [this]
      have Hst2 : Hid (Least (bsOf ls) S) := by rw [hS]; exact Hst.out
      have HM1 := hid' hM1
      clear hM1 hS HMm HLM4 HL4 Hn Hst hLb hLl
      have hc1 := HM1.out.c1
      go_wp2
      clear hc1
      go_loopw [9] (fun i wq => ∃ q : Nat, q ≤ insN ls ∧ i = .int .i64 ((q : Int) + 1) ∧ LMid w wq mb ab (ab + 1) (insN ls + 1) ls (sums S (q + 1))) (fun i _ => insN ls + 1 - (intOf i).toNat)
      case atStart => exact ⟨0, Nat.zero_le _, rfl, HM1.out⟩
      case round =>
        obtain ⟨q, hq, rfl, hMq⟩ := hrel
        have k1 := hMq.c1
        by_cases hlt : q < insN ls
        · have k2 := World.rowIs.cell hMq.row (i := q + 1) (by omega)
          have k3 := World.rowIs.cell hMq.row (i := q) (by omega)
          have k4 := World.rowIs.frozen hMq.row (q + 1)
          have ea : sums S (q + 1) q = atF S q := by unfold sums; rw [if_pos (by omega)]
          have eb : sums S (q + 1) (q + 1) = if S q = true then 1 else 0 := by
            unfold sums
            rw [if_neg (by omega)]
            by_cases e : S q = true
            · rw [if_pos ⟨by omega, by simpa using e⟩, if_pos e]
            · rw [if_neg (fun h => e (by simpa using h.2)), if_neg e]
          have hN' := fun n => LMid.put (hMq.next (W' := wr.drewN n) ⟨rfl, rfl, rfl, Nat.le_refl _, fun _ _ => rfl⟩) (q + 1) (atF S (q + 1)) (g' := sums S (q + 1 + 1)) (fun j hj => by
            by_cases e : j = q + 1
            · subst e; rw [if_pos rfl]; unfold sums; rw [if_pos (by omega)]
            · rw [if_neg e]
              unfold sums
              by_cases e2 : j < q + 1
              · rw [if_pos e2, if_pos (by omega)]
              · rw [if_neg e2, if_neg (show ¬ j < q + 1 + 1 by omega)])
          have HN := hid' hN'
          have hsx : Hid (((if S q = true then 1 else 0 : Nat) : Int) + ((atF S q : Int) + 1) = (atF S (q + 1) : Int)) := by
            have := atF_succ S q
            unfold Hid
            split at this <;> simp_all <;> omega
          have hle := atF_le S q
          simp only [ea, eb] at k2 k3
          generalize hsv : (if S q = true then 1 else 0 : Nat) = sv at *
          have hsv1 : sv ≤ 1 := by rw [← hsv]; split <;> omega
          generalize atF S q = av at *
          clear hsv hMq hN' ea eb
          have i1 : 0 ≤ (q : Int) + 1 ∧ (q : Int) + 1 < (insN ls : Int) + 1 := by omega
          have i2 : ((q : Int) + 1).toNat = q + 1 := by omega
          have i3 : IntKind.i64.wrap ((q : Int) + 1 - 1) = (q : Int) := by simp [IntKind.wrap, IntKind.bits, IntKind.signed]; omega
          have i4 : IntKind.i64.wrap ((av : Int) + 1) = (av : Int) + 1 := by simp [IntKind.wrap, IntKind.bits, IntKind.signed]; omega
          have i5 : IntKind.i64.wrap ((sv : Int) + ((av : Int) + 1)) = (atF S (q + 1) : Int) := by rw [← hsx.out]; simp [IntKind.wrap, IntKind.bits, IntKind.signed]; omega
          have i6 : 0 ≤ (q : Int) ∧ (q : Int) < (insN ls : Int) + 1 := by omega
          have i7 : (q : Int) + 1 < (insN ls : Int) + 1 := by omega
          have i3' : IntKind.i64.wrap (q : Int) = (q : Int) := by simp [IntKind.wrap, IntKind.bits, IntKind.signed]; omega
          have i8 : (q : Int) ≤ (insN ls : Int) := by omega
          have i9 : q < insN ls + 1 := by omega
          have i10 : (q : Int) < (insN ls : Int) + 1 := by omega
          go_wp2
          refine region_quiet_tail (C := fun w' => ∃ n, w' = wr.drewN n) 14 mixed (by kernel_rfl) ⟨1, rfl⟩ ?_
          simp only [List.take_succ_cons, List.take_zero, List.drop_succ_cons, List.drop_zero]
          repeat quiet_step (fail)
          refine wpQuiet_nil ?_
          rintro _ ⟨nq, rfl⟩
          go_wp2
          go_roundw
          case rel => exact ⟨q + 1, by omega, by go_num, HN.out nq⟩
          case measure => simp [intOf]; omega
        · have e : q = insN ls := by omega
          subst e
          have hre := hMq.res
          have hc0 := hMq.c0
          have hat : wr.cell? ⟨ab, insN ls + 1 - 1, none⟩ = some (.int .i64 (atF S (insN ls) : Int)) := by
            have := World.rowIs.cell hMq.row (i := insN ls) (by omega)
            unfold sums at this
            rw [if_pos (by omega)] at this
            simpa using this
          have W18 := words18 (m := .map (some mb)) (by omega) (by omega) hat hMq.row.lt
          have r0 : wr.cell? ⟨w.heap.size, 0, none⟩ = some (.map none) := by simp [World.cell?, hre]
          have r1 : wr.cell? ⟨w.heap.size, 1, none⟩ = some (.slice none 0 0) := by simp [World.cell?, hre]
          have rf : ∀ i, wr.frozen? ⟨w.heap.size, i, none⟩ = false := fun i => by simp [World.frozen?, hre]
          have hws : w.heap.size < wr.heap.size := (Array.getElem?_eq_some_iff.1 hre).1
          have hps := hMq.plt
          have hle := atF_le S (insN ls)
          have HMq := hid' hMq
          have hrow : Hid (IsAt wr ab (insN ls + 1) (atF S)) := World.rowIs.congr hMq.row (fun i hi => by unfold sums; rw [if_pos hi])
          have i7 : ¬ (insN ls : Int) + 1 < (insN ls : Int) + 1 := by omega
          clear hMq hat hre
          have Hle := hid' hle
          generalize hav : atF S (insN ls) = av at *
          have HAV := hid' hav
          clear hav
          have i4 : IntKind.i64.wrap (4 * (av : Int)) = 4 * (av : Int) := by simp [IntKind.wrap, IntKind.bits, IntKind.signed]; omega
          by_cases hbig : (1048576 : Int) < 4 * (av : Int)
          · go_wp2_with (go_at_call 18; refine W18.mono ?_; rintro e w6 ⟨rfl, hb6⟩; obtain ⟨hc6, hf6⟩ := bcell hb6)
            refine bodyPost_ret (v := .tuple #[.agg #[.map none, .slice none 0 0], .int .i64 3]) (by simp [results, Try.results17, go_sem, hc6, hws, r0, r1]) rfl (.inr ⟨HE.out, S, Hst2.out, .inl ⟨by rw [HAV.out]; omega, rfl, ?_⟩⟩)
            have K := Kept.set (S := fun b => b = w.heap.size) (a := ⟨w.heap.size, 0, none⟩) (Kept.of_below hb6) (.inl rfl) (.map none)
            exact HMq.out.below.trans ((K.set (a := ⟨w.heap.size, 1, none⟩) (.inl rfl) (.slice none 0 0)).below HMq.out.below.size (fun k e => by omega))
          · go_wp2_with (go_at_call 18; refine W18.mono ?_; rintro e w6 ⟨rfl, hb6⟩; obtain ⟨hc6, hf6⟩ := bcell hb6)
            have K := (Kept.set (S := fun b => b = w.heap.size) (a := ⟨w.heap.size, 0, none⟩) (Kept.of_below hb6) (.inl rfl) (.map (some mb))).set (a := ⟨w.heap.size, 1, none⟩) (.inl rfl) (.slice (some ⟨ab, 0, none⟩) (insN ls + 1) (insN ls + 1))
            refine bodyPost_ret (v := .tuple #[.agg #[.map (some mb), .slice (some ⟨ab, 0, none⟩) (insN ls + 1) (insN ls + 1)], .int .i64 0]) (by simp [results, Try.results17, go_sem, hc6, hws, r0, r1]) rfl (.inr ⟨HE.out, S, Hst2.out, .inr ⟨by rw [HAV.out]; omega, mb, ab, rfl, by omega, by omega, by omega, ?_, ?_, ?_⟩⟩)
            · exact HMq.out.map.kept K (by omega)
            · exact K.row hrow.out (by omega)
            · exact HMq.out.below.trans (K.below HMq.out.below.size (fun k e => by omega))

theorem layOut17 {w : World} {v : Value} {ls : List Ln} (h : IsLns w v ls) : Calls Try.prog 17 #[v] w fun e w' => LayR w w' ls e := by
  by_cases h0 : ErrIs ls 0
  · exact layOut_ok h h0
  · exact (layOut_bad h h0).mono (fun e w' hh => .inl hh)
end Go.Proofs.Ytgnlplddppheiaa
