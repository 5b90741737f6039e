/- The law's own mover. -/
import Derived.Test.YtnnnfabpceapcaaDoorSameL
import Derived.Test.YtnnnfabpceapcaaDoorOpen
import Derived.Test.YtnnnfabpceapcaaDoorTextSt
import Derived.Deep.QuietTactic
import Derived.BigQuiet
namespace Go.Proofs.YtnnnfabpceapcaaDoor
set_option linter.unusedSimpArgs false
open Go.RowKit
set_option linter.unusedVariables false

/-- A slice is trees, no deeper than a number, none of them in certain blocks. -/
def Kx (S : Nat → Prop) : Nat → World → Value → List Tr → Prop
  | 0, _, v, ks => ks = [] ∧ ∃ ao cap, v = .slice ao 0 cap
  | n + 1, w, v, ks => ks.length ≤ 9223372036854775807 ∧ ∃ ao cap, v = .slice ao ks.length cap ∧ ∀ i (h : i < ks.length), ∃ b off x kv ks', ao = some ⟨b, off, none⟩ ∧ (b < w.heap.size ∧ ¬ S b) ∧ (ks[i] = Tr.node x ks' ∧ ks.length ≤ cap) ∧ NdAt w b (off + i * 6) x kv ∧ Kx S n w kv ks'
theorem Kx.kept {S : Nat → Prop} {w w' : World} (hb : Kept S w w') : ∀ {n : Nat} {v : Value} {ks : List Tr}, Kx S n w v ks → Kx S n w' v ks
  | 0, _, _, h => h
  | n + 1, v, ks, h => by
    rw [Kx] at h ⊢
    obtain ⟨hl, ao, cap, rfl, h⟩ := h
    refine ⟨hl, ao, cap, rfl, fun i hi => ?_⟩
    obtain ⟨b, off, x, kv, ks', e, ⟨hlt, hne⟩, he, hc, hk⟩ := h i hi
    exact ⟨b, off, x, kv, ks', e, ⟨Nat.lt_of_lt_of_le hlt hb.size, hne⟩, he, hc.kept hb hlt hne, Kx.kept hb hk⟩
theorem Kx.less {S S' : Nat → Prop} (hs : ∀ b, S' b → S b) {w : World} : ∀ {n : Nat} {v : Value} {ks : List Tr}, Kx S n w v ks → Kx S' n w v ks
  | 0, _, _, h => h
  | n + 1, v, ks, h => by
    rw [Kx] at h ⊢
    obtain ⟨hl, ao, cap, rfl, h⟩ := h
    refine ⟨hl, ao, cap, rfl, fun i hi => ?_⟩
    obtain ⟨b, off, x, kv, ks', e, ⟨hlt, hne⟩, he, hc, hk⟩ := h i hi
    exact ⟨b, off, x, kv, ks', e, ⟨hlt, fun q => hne (hs _ q)⟩, he, hc, Kx.less hs hk⟩
theorem Kx.ks {S : Nat → Prop} {cb : Nat} (hs : S cb) {w : World} : ∀ {n : Nat} {v : Value} {ks : List Tr}, Kx S n w v ks → Ks cb n w v ks
  | 0, _, _, h => h
  | n + 1, v, ks, h => by
    rw [Kx] at h
    rw [Ks]
    obtain ⟨hl, ao, cap, rfl, h⟩ := h
    refine ⟨hl, ao, cap, rfl, fun i hi => ?_⟩
    obtain ⟨b, off, x, kv, ks', e, ⟨hlt, hne⟩, he, hc, hk⟩ := h i hi
    exact ⟨b, off, x, kv, ks', e, ⟨hlt, fun q => hne (by rw [q]; exact hs)⟩, he, hc, Kx.ks hs hk⟩
theorem Kx.up {S : Nat → Prop} {w : World} : ∀ {n : Nat} {v : Value} {ks : List Tr}, Kx S n w v ks → Kx S (n + 1) w v ks
  | 0, v, ks, h => by
    obtain ⟨rfl, ao, cap, rfl⟩ := h
    rw [Kx]
    exact ⟨by simp, ao, cap, rfl, fun i hi => absurd hi (by simp)⟩
  | n + 1, v, ks, h => by
    rw [Kx] at h
    rw [Kx]
    obtain ⟨hl, ao, cap, rfl, h⟩ := h
    refine ⟨hl, ao, cap, rfl, fun i hi => ?_⟩
    obtain ⟨b, off, x, kv, ks', e, hlt, he, hc, hk⟩ := h i hi
    exact ⟨b, off, x, kv, ks', e, hlt, he, hc, Kx.up hk⟩
theorem Kx.mono {S : Nat → Prop} {w : World} {n m : Nat} {v : Value} {ks : List Tr} (h : Kx S n w v ks) (hm : n ≤ m) : Kx S m w v ks := by
  induction m with
  | zero => have : n = 0 := by omega
            subst this; exact h
  | succ m ih =>
    by_cases e : n = m + 1
    · subst e; exact h
    · exact (ih (by omega)).up

/-- A node made anew. -/
structure Mv where
  x : NdH
  kv : Value
  ks : List Tr
def mvC : List Mv → List Value
  | [] => []
  | e :: r => .int .i64 e.x.kind :: .string e.x.str :: .int .u32 e.x.num :: .bool e.x.flag :: e.kv :: .int .i64 e.x.pos :: mvC r
def mvT (L : List Mv) : List Tr := L.map fun e => Tr.node e.x e.ks
theorem mvC_length : ∀ (L : List Mv), (mvC L).length = L.length * 6
  | [] => rfl
  | e :: r => by
    show (mvC r).length + 1 + 1 + 1 + 1 + 1 + 1 = (r.length + 1) * 6
    rw [mvC_length r]
    omega
theorem mvC_append : ∀ (a b : List Mv), mvC (a ++ b) = mvC a ++ mvC b
  | [], b => rfl
  | e :: r, b => by
    show _ :: _ :: _ :: _ :: _ :: _ :: mvC (r ++ b) = _
    rw [mvC_append r b]
    rfl
theorem mvC_at : ∀ (L : List Mv) (i : Nat) (h : i < L.length), (mvC L)[i * 6]? = some (.int .i64 L[i].x.kind) ∧ (mvC L)[i * 6 + 1]? = some (.string L[i].x.str) ∧ (mvC L)[i * 6 + 2]? = some (.int .u32 L[i].x.num) ∧ (mvC L)[i * 6 + 3]? = some (.bool L[i].x.flag) ∧ (mvC L)[i * 6 + 4]? = some L[i].kv ∧ (mvC L)[i * 6 + 5]? = some (.int .i64 L[i].x.pos)
  | [], i, h => absurd h (by simp)
  | e :: r, 0, h => ⟨rfl, rfl, rfl, rfl, rfl, rfl⟩
  | e :: r, i + 1, h => by
    have := mvC_at r i (by simpa using h)
    have e0 : (i + 1) * 6 = i * 6 + 1 + 1 + 1 + 1 + 1 + 1 := by omega
    rw [e0]
    have e1 : ∀ j, (mvC (e :: r))[i * 6 + 1 + 1 + 1 + 1 + 1 + 1 + j]? = (mvC r)[i * 6 + j]? := fun j => by
      have : i * 6 + 1 + 1 + 1 + 1 + 1 + 1 + j = (i * 6 + j) + 1 + 1 + 1 + 1 + 1 + 1 := by omega
      rw [this]
      rfl
    rw [e1 1, e1 2, e1 3, e1 4, e1 5]
    exact this
/-- Blocks that a node made anew does not lie in. -/
def Off (B : Nat) (v : Value) (W : World) (b : Nat) : Prop := b < B ∨ W.heap.size ≤ b ∨ v.ownBlock = some b
/-- In the mover's midst. -/
structure MM (wA : World) (n : Nat) (ks : List Tr) (L : List Mv) (v : Value) (W : World) : Prop where
  own : W.ownsRow wA.heap.size 25 6 v L.length (mvC L)
  bel : Below wA.heap.size wA W
  rows : ∀ e ∈ L, Kx (Off wA.heap.size v W) n W e.kv e.ks
  same : sameL (ks.take L.length) (mvT L) = true
  few : L.length ≤ ks.length
theorem sameL_append : ∀ (a b c d : List Tr), sameL a b = true → sameL c d = true → sameL (a ++ c) (b ++ d) = true
  | [], [], _, _, _, h => h
  | [], _ :: _, _, _, h, _ => by cases h
  | _ :: _, [], _, _, h, _ => by cases h
  | t :: r, u :: s, c, d, h, h' => by
    rw [List.cons_append, List.cons_append, sameL_cons, Bool.and_eq_true]
    rw [sameL_cons, Bool.and_eq_true] at h
    exact ⟨h.1, sameL_append r s c d h.2 h'⟩
section
variable {wA W W' W1 : World} {n : Nat} {ks : List Tr} {L : List Mv} {v v' : Value}
theorem MM.next (h : MM wA n ks L v W) (hb : Below W.heap.size W W') : MM wA n ks L v W' :=
  ⟨own_below h.own hb, below_on h.bel hb, fun e he => ((h.rows e he).kept (Kept.of_below hb)).less (fun b q => q.imp id (fun q => q.imp (fun q => Nat.le_trans hb.size q) id)), h.same, h.few⟩
theorem MM.push {e : Mv} (h : MM wA n ks L v W) (hlt : L.length < ks.length) (he : sameT ks[L.length] (Tr.node e.x e.ks) = true) (hb : Below W.heap.size W W1) (hk : Kx (fun b => b < W.heap.size ∨ W1.heap.size ≤ b) n W1 e.kv e.ks)
    (ho : W'.ownsRow wA.heap.size 25 6 v' (L.length + 1) (mvC L ++ mvC [e])) (hg : W1.grownBy W' v.ownBlock) (hat : v'.ownBlock = v.ownBlock ∨ v'.ownBlock = some W1.heap.size) : MM wA n ks (L ++ [e]) v' W' := by
  have h1 := h.next hb
  have hs := hg.size
  have hbs := hb.size
  have hAs := h.bel.size
  have hsub : ∀ b, Off wA.heap.size v' W' b → Off wA.heap.size v W1 b := fun b q => by
    rcases q with q | q | q
    · exact .inl q
    · exact .inr (.inl (by omega))
    · rcases hat with e1 | e1
      · exact .inr (.inr (by rw [← e1]; exact q))
      · rw [e1] at q
        exact .inr (.inl (by have := Option.some.inj q; omega))
  have hK : Kept (Off wA.heap.size v W1) W1 W' := (Kept.rfl _ _).grown hg (fun k e _ => .inr (.inr e))
  refine ⟨by rw [List.length_append, mvC_append]; exact ho, h1.bel.grown hg h1.bel.size (fun k hk => (h1.own.lt k hk).1), fun e' he' => ?_, ?_, by rw [List.length_append]; simp; omega⟩
  · rw [List.mem_append, List.mem_singleton] at he'
    rcases he' with he' | rfl
    · exact ((h1.rows e' he').kept hK).less hsub
    · refine (hk.less (S' := Off wA.heap.size v W1) (fun b q => ?_)).kept hK |>.less hsub
      rcases q with q | q | q
      · exact .inl (by omega)
      · exact .inr q
      · exact .inl (h.own.lt b q).2
  · rw [List.length_append]
    show sameL (ks.take (L.length + 1)) (mvT (L ++ [e])) = true
    rw [take_next ks _ hlt]
    unfold mvT
    rw [List.map_append]
    exact sameL_append _ _ _ _ h.same (by rw [List.map_cons, List.map_nil, sameL_cons, he]; rfl)
/-- All are made. -/
theorem MM.done (h : MM wA n ks L v W) (hl : L.length = ks.length) (hk : ks.length ≤ 9223372036854775807) {B : Nat} (hB : B ≤ wA.heap.size) : Kx (fun b => b < B ∨ W.heap.size ≤ b) (n + 1) W v (mvT L) ∧ sameL ks (mvT L) = true := by
  have hs := h.same
  rw [hl, List.take_length] at hs
  refine ⟨?_, hs⟩
  have hml : (mvT L).length = L.length := by unfold mvT; rw [List.length_map]
  have hown := h.own
  rw [Kx]
  refine ⟨by omega, ?_⟩
  obtain ⟨hlen, ⟨e, h0⟩ | ⟨g, cap, cur, rfl, hg, hh, hn, hm, hsz, ht⟩⟩ := hown
  · refine ⟨_, _, by rw [e, hml, h0], fun i hi => ?_⟩
    omega
  · refine ⟨_, _, by rw [hml], fun i hi' => ?_⟩
    have hi : i < L.length := by omega
    have hown : W.ownsRow wA.heap.size 25 6 (.slice (some ⟨g, 0, none⟩) L.length cap) L.length (mvC L) := h.own
    have hcl := mvC_length L
    have c := fun j hj => hown.cellAt j hj
    obtain ⟨q0, q1, q2, q3, q4, q5⟩ := mvC_at L i hi
    refine ⟨g, 0, L[i].x, L[i].kv, L[i].ks, rfl, ⟨blk_lt hh, fun q => ?_⟩, ⟨by simp [mvT], by omega⟩, ⟨?_, ?_, ?_, ?_, ?_, ?_⟩, ?_⟩
    · have := blk_lt hh
      rcases q with q | q <;> omega
    · rw [Nat.zero_add, c _ (by omega)]; exact q0
    · rw [Nat.zero_add, c _ (by omega)]; exact q1
    · rw [Nat.zero_add, c _ (by omega)]; exact q2
    · rw [Nat.zero_add, c _ (by omega)]; exact q3
    · rw [Nat.zero_add, c _ (by omega)]; exact q4
    · rw [Nat.zero_add, c _ (by omega)]; exact q5
    · exact (h.rows _ (List.getElem_mem hi)).less (fun b q => q.elim (fun q => .inl (by omega)) (fun q => .inr (.inl q)))
end
end Go.Proofs.YtnnnfabpceapcaaDoor

namespace Go.Proofs.YtnnnfabpceapcaaDoor
set_option linter.unusedSimpArgs false
open Go.RowKit
set_option linter.unusedVariables false

theorem info25' : (Tryd.prog.info? 25).map (fun i => (i.zero, i.size, i.bytes)) = some (some (.agg #[.int .i64 0, .string ⟨#[]⟩, .int .u32 0, .bool false, .slice none 0 0, .int .i64 0]), 6, 64) := by kernel_rfl
theorem cells6 {w : World} {g : Nat} {a b c d e f : Value} (h0 : w.cell? ⟨g, 0, none⟩ = some a) (h1 : w.cell? ⟨g, 1, none⟩ = some b) (h2 : w.cell? ⟨g, 2, none⟩ = some c) (h3 : w.cell? ⟨g, 3, none⟩ = some d) (h4 : w.cell? ⟨g, 4, none⟩ = some e) (h5 : w.cell? ⟨g, 5, none⟩ = some f) : ∀ (j : Nat) (u : Value), [a, b, c, d, e, f][j]? = some u → w.cell? ((⟨g, 0, none⟩ : Addr).add j) = some u := by
  intro j u hj
  rw [Addr.add_lit]
  match j, hj with
  | 0, hj => simp at hj; subst hj; simpa using h0
  | 1, hj => simp at hj; subst hj; simpa using h1
  | 2, hj => simp at hj; subst hj; simpa using h2
  | 3, hj => simp at hj; subst hj; simpa using h3
  | 4, hj => simp at hj; subst hj; simpa using h4
  | 5, hj => simp at hj; subst hj; simpa using h5
theorem Kx.ks' {S : Nat → Prop} {w : World} : ∀ {n : Nat} {v : Value} {ks : List Tr}, Kx S n w v ks → ks.length ≤ 9223372036854775807 ∧ ∃ ao cap, v = .slice ao ks.length cap
  | 0, _, _, h => by
    obtain ⟨rfl, ao, cap, rfl⟩ := h
    exact ⟨by simp, ao, cap, rfl⟩
  | n + 1, v, ks, h => by
    rw [Kx] at h
    obtain ⟨hl, ao, cap, rfl, h⟩ := h
    exact ⟨hl, ao, cap, rfl⟩
set_option maxRecDepth 20000 in
set_option maxHeartbeats 8000000 in
theorem moved13 {cb : Nat} : ∀ (n : Nat) {w : World} {x : NdH} {kv : Value} {ks : List Tr} {d : Int}, Ks cb n w kv ks → szT (Tr.node x ks) ≤ 262144 →
    Calls Tryd.prog 13 #[ndV x kv, .int .i64 d] w fun e w' => ∃ y kv' ls, e = .returned (ndV y kv') ∧ Below w.heap.size w w' ∧ Kx (fun b => b < w.heap.size ∨ w'.heap.size ≤ b) (n + 1) w' kv' ls ∧ eqN x y = true ∧ sameL ks ls = true := fun n => by
  induction n using Nat.strongRecOn with
  | ind n ih =>
  intro w x kv ks d hK hz
  obtain ⟨hkl, ao, cap, rfl⟩ := hK.shape
  obtain ⟨i25, hi25, hz0, hz1, hz2⟩ := info_parts info25'
  have HK := hid' hK
  have IH := hid' ih
  have HZ := hid' hz
  clear hK ih hz
  unfold ndV
  obtain ⟨k, s, m, f, p⟩ := x
  simp only
  go_enter Tryd.func13, Tryd.ntmps13
  go_wp2
  obtain ⟨wA, hwA⟩ : ∃ wA, wA = ((w.alloc (.cells #[.int .i64 k, .string s, .int .u32 m, .bool f, .slice ao ks.length cap, .int .i64 (wrap64 (p + d))] 25)).alloc (.cells #[.int .i64 0, .string ⟨#[]⟩, .int .u32 0, .bool false, .slice none 0 0, .int .i64 0] 25)) := ⟨_, rfl⟩
  have HB0 : Hid (Below w.heap.size w wA) := by rw [hwA]; exact (below1 _ _).alloc (by simp) _
  have HSZ : Hid (wA.heap.size = w.heap.size + 1 + 1) := by show _ = _; rw [hwA]; simp
  have HBX : Hid (∀ W, Below wA.heap.size wA W → NdAt W w.heap.size 0 ⟨k, s, m, f, wrap64 (p + d)⟩ (.slice ao ks.length cap) ∧ NdAt W (w.heap.size + 1) 0 ⟨0, ⟨#[]⟩, 0, false, 0⟩ (.slice none 0 0) ∧ (∀ j, W.frozen? ⟨w.heap.size, j, none⟩ = false) ∧ (∀ j, W.frozen? ⟨w.heap.size + 1, j, none⟩ = false) ∧ w.heap.size + 1 < W.heap.size) := fun W h => by
    have hs0 := HSZ.out
    have na : NdAt wA w.heap.size 0 ⟨k, s, m, f, wrap64 (p + d)⟩ (.slice ao ks.length cap) := by rw [hwA]; refine ⟨?_, ?_, ?_, ?_, ?_, ?_⟩ <;> simp [go_sem]
    have nb : NdAt wA (w.heap.size + 1) 0 ⟨0, ⟨#[]⟩, 0, false, 0⟩ (.slice none 0 0) := by rw [hwA]; refine ⟨?_, ?_, ?_, ?_, ?_, ?_⟩ <;> simp [go_sem]
    refine ⟨na.below h (by omega), nb.below h (by omega), fun j => ?_, fun j => ?_, by have := h.size; omega⟩
    · rw [World.frozen?_of_block (w := wA) (h.block w.heap.size (by omega)), hwA]; simp [go_sem]
    · rw [World.frozen?_of_block (w := wA) (h.block (w.heap.size + 1) (by omega)), hwA]; simp [go_sem]
  rw [← hwA]
  have HM0 : Hid (MM wA n ks [] (.slice none 0 0) wA) := ⟨⟨rfl, .inl ⟨rfl, rfl⟩⟩, Below.refl _ _, fun e he => absurd he (by simp), rfl, Nat.zero_le _⟩
  clear hwA
  have hlm : ks.length ≤ 262144 := by
    have h1 := HZ.out
    rw [szT_node] at h1
    have := len_le_szL ks
    omega
  go_loopw [5, 6] (fun v i W => ∃ L, L.length ≤ ks.length ∧ i = .int .i64 (L.length : Nat) ∧ Hid (MM wA n ks L v W)) (fun _ i _ => ks.length - (intOf i).toNat)
  case atStart => exact ⟨[], Nat.zero_le _, rfl, HM0.out⟩
  case round =>
    obtain ⟨L, hLk, rfl, HM⟩ := hrel
    clear HM0
    obtain ⟨⟨a0, a1, a2, a3, a4, a5⟩, ⟨b0, b1, b2, b3, b4, b5⟩, fa, fb, hbl⟩ := HBX.out wr HM.out.bel
    by_cases hlt : L.length < ks.length
    · obtain ⟨m1, b1, off1, x1, kv1, ks1, hm1, rfl, ⟨hbl1, _⟩, hke1, hat1, hK1⟩ := HK.out.kid L.length hlt
      have hbw := below_on HB0.out HM.out.bel
      have hz1' : szT (Tr.node x1 ks1) ≤ 262144 := by
        have h1 := HZ.out
        rw [szT_node] at h1
        have := sz_mem (List.getElem_mem hlt)
        rw [hke1] at this
        omega
      have HC : Hid (∀ dd, Calls Tryd.prog 13 #[ndV x1 kv1, .int .i64 dd] wr fun e w' => ∃ y kv' ls, e = .returned (ndV y kv') ∧ Below wr.heap.size wr w' ∧ Kx (fun b => b < wr.heap.size ∨ w'.heap.size ≤ b) n w' kv' ls ∧ sameT ks[L.length] (Tr.node y ls) = true) := fun dd =>
        (IH.out m1 hm1 (w := wr) (hK1.below hbw) hz1').mono fun e w' ⟨y, kv', ls, q1, q2, q3, q4, q5⟩ => ⟨y, kv', ls, q1, q2, q3.mono (by omega), by rw [hke1, sameT_node, q4, q5]; rfl⟩
      obtain ⟨d0, d1, d2, d3, d4, d5⟩ := hat1.below hbw hbl1
      have hbl1' := Nat.lt_of_lt_of_le hbl1 hbw.size
      clear hbw hat1
      unfold ndV at HC
      go_wp2_with (first
        | (go_at_call 13; refine (HC.out _).mono ?_; rintro e w5 ⟨y, kv', ls, rfl, hb5, hk5, hs5⟩; replace hb5 := hid' hb5; replace hk5 := hid' hk5; replace hs5 := hid' hs5)
        | (at_builtin; refine of_mark ?_))
      unfold Mark
      have h5 := (HM.out.next hb5.out).own
      have hAs := (HM.out.next hb5.out).bel.size
      refine wpList_append_lies _ rfl _ _ 23 rfl wA.heap.size 25 i25 _ 6 64 Tryd.underlying23 hi25 hz0 hz1 hz2 rfl (by decide) u5 L.length (mvC L) rfl (h5.alloc _) ⟨w5.heap.size, 0, none⟩ 1 1 (mvC [⟨y, kv', ls⟩]) rfl rfl (cells6 (by simp [go_sem]) (by simp [go_sem]) (by simp [go_sem]) (by simp [go_sem]) (by simp [go_sem]) (by simp [go_sem])) (fun u hu => ?_) (by decide) (by unfold maxLen; omega) (by omega) (by simp; omega) (w5.heap.size + 1) (by simp) ?_
      · obtain ⟨_, ka, kc, rfl⟩ := (hk5.out).ks' 
        simp [mvC] at hu
        rcases hu with rfl | rfl | rfl | rfl | rfl | rfl <;> rfl
      intro g cap2 w6 hown hgrow hloc hgl
      have HN : Hid (MM wA n ks (L ++ [⟨y, kv', ls⟩]) (.slice (some ⟨g, 0, none⟩) (L.length + 1) cap2) w6) := HM.out.push hlt hs5.out (below_on hb5.out (below1 _ _)) ((hk5.out.kept (Kept.of_below (below1 _ _))).less (fun b q => q.imp id (fun q => by simp at q; omega))) hown hgrow (hloc.imp (fun e => e.symm) (fun e => by rw [e]; simp [Value.ownBlock]))
      clear hown hgrow hloc h5
      go_wp2
      exact ⟨⟨_, by rw [List.length_append]; simp; omega, by rw [List.length_append]; go_num, HN.out⟩, by simp [intOf]; omega⟩
    · have hke : L.length = ks.length := by omega
      have HD := hid' (HM.out.done hke hkl (Nat.le_refl _))
      have HBL := hid' (below_on HB0.out HM.out.bel)
      clear HM HBX hlt
      obtain ⟨_, ka, kc, rfl⟩ := HD.out.1.ks'
      have f4 := fa 4
      have g0 := fb 0
      have g1 := fb 1
      have g2 := fb 2
      have g3 := fb 3
      have g4 := fb 4
      have g5 := fb 5
      clear fa fb
      have hsz := HSZ.out
      have HKP : Hid (∀ S : Nat → Prop, S w.heap.size → S (w.heap.size + 1) → ∀ v0 v1 v2 v3 v4 v5 v6, Kept S wr (((((((wr.setCell ⟨w.heap.size, 4, none⟩ v0).setCell ⟨w.heap.size + 1, 0, none⟩ v1).setCell ⟨w.heap.size + 1, 1, none⟩ v2).setCell ⟨w.heap.size + 1, 2, none⟩ v3).setCell ⟨w.heap.size + 1, 3, none⟩ v4).setCell ⟨w.heap.size + 1, 4, none⟩ v5).setCell ⟨w.heap.size + 1, 5, none⟩ v6)) := fun S s0 s1 v0 v1 v2 v3 v4 v5 v6 =>
        (((((((Kept.rfl S wr).setC (fun _ => s0) _).setC (fun _ => s1) _).setC (fun _ => s1) _).setC (fun _ => s1) _).setC (fun _ => s1) _).setC (fun _ => s1) _).setC (fun _ => s1) _
      go_wp2
      (try simp only [Exit.inBlock, Exit.then])
      refine bodyPost_ret (v := .agg #[.int .i64 k, .string s, .int .u32 m, .bool f, .slice ka (mvT L).length kc, .int .i64 (wrap64 (p + d))]) (by simp [results, Tryd.results13, go_sem, b0, b1, b2, b3, b4, b5]) rfl ?_
      refine ⟨⟨k, s, m, f, wrap64 (p + d)⟩, _, rfl, ?_, mvT L, ?_, ?_, HD.out.2⟩
      · have hkp := HKP.out (fun b => w.heap.size ≤ b) (Nat.le_refl _) (by omega) (.slice ka (mvT L).length kc) (.int .i64 k) (.string s) (.int .u32 m) (.bool f) (.slice ka (mvT L).length kc) (.int .i64 (wrap64 (p + d)))
        have hbl := HBL.out
        exact ⟨hkp.os.trans hbl.os, hkp.tape.trans hbl.tape, hkp.output.trans hbl.output, Nat.le_trans hbl.size hkp.size, fun q hq => (hkp.block q (Nat.lt_of_lt_of_le hq hbl.size) (by omega)).trans (hbl.block q hq)⟩
      · have hkp := HKP.out (fun b => b < wA.heap.size ∨ wr.heap.size ≤ b) (.inl (by omega)) (.inl (by omega)) (.slice ka (mvT L).length kc) (.int .i64 k) (.string s) (.int .u32 m) (.bool f) (.slice ka (mvT L).length kc) (.int .i64 (wrap64 (p + d)))
        exact (HD.out.1.kept hkp).less (fun b q => q.imp (fun q => by omega) (fun q => Nat.le_trans hkp.size q))
      · unfold eqN
        simp
end Go.Proofs.YtnnnfabpceapcaaDoor
