/- slices.Reverse of the last pieces. -/
import Derived.Test.YtnnnfabpceapcaaGreatDoorTextSt
import Derived.Test.YtnnnfabpceapcaaGreatDoorName
import Derived.Lib.Builder
import Derived.Lib.AppendStr
import Derived.Lib.UnsafeStr
import Derived.Laws.Externs
namespace Go.Proofs.YtnnnfabpceapcaaGreatDoor
set_option linter.unusedSimpArgs false
open Go.RowKit
set_option linter.unusedVariables false

theorem pcC_set : ∀ (L : List Pc) (i : Nat) (p : Pc), i < L.length → ((pcC L).set (i * 2) (.string p.text)).set (i * 2 + 1) (pcP p) = pcC (L.set i p)
  | [], i, p, h => by simp at h
  | q :: r, 0, p, h => rfl
  | q :: r, i + 1, p, h => by
    have e : (i + 1) * 2 = i * 2 + 1 + 1 := by omega
    rw [e]
    show .string q.text :: pcP q :: (((pcC r).set (i * 2) (.string p.text)).set (i * 2 + 1) (pcP p)) = .string q.text :: pcP q :: pcC (r.set i p)
    rw [pcC_set r i p (by simpa using h)]
theorem pcC_get0 : ∀ (L : List Pc) (i : Nat) (h : i < L.length), (pcC L)[i * 2]? = some (.string L[i].text)
  | [], i, h => by simp at h
  | q :: r, 0, h => rfl
  | q :: r, i + 1, h => by
    have e : (i + 1) * 2 = i * 2 + 1 + 1 := by omega
    rw [e]
    exact pcC_get0 r i (by simpa using h)
theorem pcC_get1 : ∀ (L : List Pc) (i : Nat) (h : i < L.length), (pcC L)[i * 2 + 1]? = some (pcP L[i])
  | [], i, h => by simp at h
  | q :: r, 0, h => rfl
  | q :: r, i + 1, h => by
    have e : (i + 1) * 2 + 1 = i * 2 + 1 + 1 + 1 := by omega
    rw [e]
    exact pcC_get1 r i (by simpa using h)

/-- Which piece stands at a place, so many having been turned round. -/
def sg (t k i q : Nat) : Nat := if q < t ∨ t + k ≤ q ∨ (t + i ≤ q ∧ q + i < t + k) then q else t + (t + k - 1 - q)
/-- In the midst. -/
def RevAt (T P L : List Pc) (i : Nat) : Prop := L.length = (T ++ P).length ∧ ∀ q, L[q]? = (T ++ P)[sg T.length P.length i q]?
theorem RevAt.start (T P : List Pc) : RevAt T P (T ++ P) 0 := ⟨rfl, fun q => by
  have : sg T.length P.length 0 q = q := by unfold sg; rw [if_pos (by omega)]
  rw [this]⟩
theorem RevAt.step {T P L : List Pc} {i : Nat} (h : RevAt T P L i) (hi : 2 * i + 1 < P.length) (ha : T.length + i < L.length) (hb : T.length + (P.length - 1 - i) < L.length) :
    RevAt T P ((L.set (T.length + i) L[T.length + (P.length - 1 - i)]).set (T.length + (P.length - 1 - i)) L[T.length + i]) (i + 1) := by
  obtain ⟨hl, hq⟩ := h
  refine ⟨by simp [hl], fun q => ?_⟩
  rw [List.getElem?_set, List.length_set, List.getElem?_set]
  have hA : (T ++ P)[T.length + i]? = some L[T.length + i] := by
    have := hq (T.length + i)
    rw [List.getElem?_eq_getElem ha] at this
    rw [this]
    congr 1
    unfold sg
    rw [if_pos (by omega)]
  have hB : (T ++ P)[T.length + (P.length - 1 - i)]? = some L[T.length + (P.length - 1 - i)] := by
    have := hq (T.length + (P.length - 1 - i))
    rw [List.getElem?_eq_getElem hb] at this
    rw [this]
    congr 1
    unfold sg
    rw [if_pos (by omega)]
  by_cases e1 : T.length + (P.length - 1 - i) = q
  · rw [if_pos e1, if_pos hb, ← hA]
    congr 1
    unfold sg
    rw [if_neg (by omega)]
    omega
  · rw [if_neg e1]
    by_cases e2 : T.length + i = q
    · rw [if_pos e2, if_pos ha, ← hB]
      congr 1
      unfold sg
      rw [if_neg (by omega)]
      omega
    · rw [if_neg e2, hq q]
      congr 1
      unfold sg
      split <;> split <;> omega
theorem RevAt.done {T P L : List Pc} {i : Nat} (h : RevAt T P L i) (hi : P.length ≤ 2 * i + 1) (hj : 2 * i ≤ P.length) : L = T ++ P.reverse := by
  obtain ⟨hl, hq⟩ := h
  refine List.ext_getElem? fun q => ?_
  rw [hq q]
  by_cases h1 : q < T.length
  · rw [List.getElem?_append_left h1]
    have : sg T.length P.length i q = q := by unfold sg; rw [if_pos (by omega)]
    rw [this, List.getElem?_append_left h1]
  · rw [List.getElem?_append_right (l₁ := T) (l₂ := P.reverse) (by omega)]
    by_cases h2 : q < T.length + P.length
    · rw [List.getElem?_reverse (by omega)]
      have : sg T.length P.length i q = T.length + (T.length + P.length - 1 - q) := by
        unfold sg
        split <;> omega
      rw [this, List.getElem?_append_right (by omega)]
      congr 1
      omega
    · have : sg T.length P.length i q = q := by unfold sg; rw [if_pos (by omega)]
      rw [this, List.getElem?_eq_none (by simp; omega), List.getElem?_eq_none (by simp; omega)]

theorem grown_trans {a b c : World} {r : Option Nat} (h : a.grownBy b r) (k : b.grownBy c r) : a.grownBy c r :=
  ⟨k.os.trans h.os, k.tape.trans h.tape, k.output.trans h.output, Nat.le_trans h.size k.size, fun i hi hn => (k.block i (Nat.lt_of_lt_of_le hi h.size) hn).trans (h.block i hi hn)⟩
set_option maxHeartbeats 8000000 in
theorem reverse27 {g cap c off : Nat} {T P : List Pc} {w : World} (hown : w.ownsRow 0 56 2 (.slice (some ⟨g, 0, none⟩) (T ++ P).length cap) (T ++ P).length (pcC (T ++ P))) (hoff : off = T.length * 2) (hlen : (T ++ P).length ≤ 2199023255552) :
    Calls Tryz.prog 33 #[.slice (some ⟨g, off, none⟩) P.length c] w fun e w' => e = .returned (.tuple #[]) ∧ w'.ownsRow 0 56 2 (.slice (some ⟨g, 0, none⟩) (T ++ P).length cap) (T ++ P).length (pcC (T ++ P.reverse)) ∧ w.grownBy w' (some g) := by
  obtain ⟨N, hN⟩ : ∃ N, N = (T ++ P).length := ⟨_, rfl⟩
  rw [← hN] at hown hlen ⊢
  have HNN : Hid (N = (T ++ P).length ∧ N = T.length + P.length) := ⟨hN, by rw [hN, List.length_append]⟩
  have HOFF := hid' hoff
  have hPl : P.length ≤ 2199023255552 := by have := HNN.out.2; omega
  clear hN hoff
  have H0 := hid' hown
  clear hown
  go_enter Tryz.func33, Tryz.ntmps33
  go_wp2
  go_loopw [2, 3] (fun vi vj W => ∃ (i : Nat) (L : List Pc), 2 * i ≤ P.length ∧ vi = .int .i64 (i : Int) ∧ vj = .int .i64 ((P.length : Int) - 1 - (i : Int)) ∧ Hid (RevAt T P L i ∧ W.ownsRow 0 56 2 (.slice (some ⟨g, 0, none⟩) N cap) N (pcC L) ∧ w.grownBy W (some g))) (fun vi _ _ => P.length - (intOf vi).toNat)
  case atStart => exact ⟨0, T ++ P, by omega, rfl, by congr 1; omega, RevAt.start T P, H0.out, World.grownBy.refl _ _⟩
  case round =>
    obtain ⟨i, L, hi, rfl, rfl, HR⟩ := hrel
    by_cases hlt : 2 * i + 1 < P.length
    · obtain ⟨hrev, hown, hgr⟩ := HR.out
      obtain ⟨j, hj⟩ : ∃ j, Hid (j = P.length - 1 - i) := ⟨_, rfl⟩
      obtain ⟨sa, qa, sb, qb, ca0, ca1, cb0, cb1, HN⟩ : ∃ sa qa sb qb, wr.cell? ⟨g, off + i * 2, none⟩ = some (.string sa) ∧ wr.cell? ⟨g, off + i * 2 + 1, none⟩ = some (.pointer qa) ∧ wr.cell? ⟨g, off + j * 2, none⟩ = some (.string sb) ∧ wr.cell? ⟨g, off + j * 2 + 1, none⟩ = some (.pointer qb) ∧
          Hid (∃ L', RevAt T P L' (i + 1) ∧ ((((wr.setCell ⟨g, off + i * 2, none⟩ (.string sb)).setCell ⟨g, off + i * 2 + 1, none⟩ (.pointer qb)).setCell ⟨g, off + j * 2, none⟩ (.string sa)).setCell ⟨g, off + j * 2 + 1, none⟩ (.pointer qa)).ownsRow 0 56 2 (.slice (some ⟨g, 0, none⟩) N cap) N (pcC L') ∧
            w.grownBy ((((wr.setCell ⟨g, off + i * 2, none⟩ (.string sb)).setCell ⟨g, off + i * 2 + 1, none⟩ (.pointer qb)).setCell ⟨g, off + j * 2, none⟩ (.string sa)).setCell ⟨g, off + j * 2 + 1, none⟩ (.pointer qa)) (some g)) := by
        have hLl : L.length = N := by rw [hrev.1, ← HNN.out.1]
        have hNl := HNN.out.2
        have hoff := HOFF.out
        have hj' := hj.out
        have ha : T.length + i < L.length := by omega
        have hb : T.length + (P.length - 1 - i) < L.length := by omega
        have hcl := pcC_length L
        have e1 : off + i * 2 = (T.length + i) * 2 := by omega
        have e2 : off + j * 2 = (T.length + (P.length - 1 - i)) * 2 := by omega
        rw [e1, e2]
        refine ⟨_, _, _, _, by rw [hown.cellAt _ (by omega), pcC_get0 L _ ha], by rw [hown.cellAt _ (by omega), pcC_get1 L _ ha]; rfl, by rw [hown.cellAt _ (by omega), pcC_get0 L _ hb], by rw [hown.cellAt _ (by omega), pcC_get1 L _ hb]; rfl, _, hrev.step hlt ha hb, ?_, ?_⟩
        · have h4 := ((((hown.stored ((T.length + i) * 2) (.string L[T.length + (P.length - 1 - i)].text)).1.stored ((T.length + i) * 2 + 1) (pcP L[T.length + (P.length - 1 - i)])).1.stored ((T.length + (P.length - 1 - i)) * 2) (.string L[T.length + i].text)).1.stored ((T.length + (P.length - 1 - i)) * 2 + 1) (pcP L[T.length + i])).1
          rw [pcC_set L _ _ ha, pcC_set _ _ _ (by simp; omega)] at h4
          exact h4
        · have k1 := hown.stored ((T.length + i) * 2) (.string L[T.length + (P.length - 1 - i)].text)
          have k2 := k1.1.stored ((T.length + i) * 2 + 1) (pcP L[T.length + (P.length - 1 - i)])
          have k3 := k2.1.stored ((T.length + (P.length - 1 - i)) * 2) (.string L[T.length + i].text)
          have k4 := k3.1.stored ((T.length + (P.length - 1 - i)) * 2 + 1) (pcP L[T.length + i])
          exact grown_trans (grown_trans (grown_trans (grown_trans hgr k1.2) k2.2) k3.2) k4.2
      have hjl : j < P.length := by have := hj.out; omega
      have hij : (i : Int) < (j : Int) := by have := hj.out; omega
      have hji : ((P.length : Int) - 1 - (i : Int)) = (j : Int) := by have := hj.out; omega
      have hfr : ∀ q, wr.frozen? ⟨g, q, none⟩ = false := fun q => hown.frozenAt q
      have hgl : g < wr.heap.size := (hown.lt g rfl).2
      have hne : i ≠ j := by omega
      rw [hji]
      have HJI := hid' hji
      clear hji hrev hown hgr HR
      go_wp2
      go_region
      obtain ⟨W4, hW4⟩ : ∃ W4, W4 = ((((wr.setCell ⟨g, off + i * 2, none⟩ (.string sb)).setCell ⟨g, off + i * 2 + 1, none⟩ (.pointer qb)).setCell ⟨g, off + j * 2, none⟩ (.string sa)).setCell ⟨g, off + j * 2 + 1, none⟩ (.pointer qa)) := ⟨_, rfl⟩
      rw [← hW4] at HN ⊢
      clear hW4 ca0 ca1 cb0 cb1 hfr hgl
      obtain ⟨L', k1, k2, k3⟩ := HN.out
      have HK := hid' (And.intro k1 (And.intro k2 k3))
      clear k1 k2 k3 HN
      go_wp2
      exact ⟨⟨i + 1, L', by omega, by go_num, by have := HJI.out; congr 1; omega, HK.out.1, HK.out.2.1.drew, ⟨HK.out.2.2.os, HK.out.2.2.tape, HK.out.2.2.output, HK.out.2.2.size, HK.out.2.2.block⟩⟩, by simp [intOf]; omega⟩
    · have HE : Hid (wr.ownsRow 0 56 2 (.slice (some ⟨g, 0, none⟩) N cap) N (pcC (T ++ P.reverse)) ∧ w.grownBy wr (some g)) := by
        obtain ⟨hrev, hown, hgr⟩ := HR.out
        rw [hrev.done (by omega) hi] at hown
        exact ⟨hown, hgr⟩
      go_wp2
      go_end0
      exact ⟨rfl, HE.out⟩
end Go.Proofs.YtnnnfabpceapcaaGreatDoor

namespace Go.Proofs.YtnnnfabpceapcaaGreatDoor
set_option linter.unusedSimpArgs false
open Go.RowKit
set_option linter.unusedVariables false

theorem size54 : (Tryz.prog.info? 54).map (·.size) = some 2 := by kernel_rfl
theorem info5' : (Tryz.prog.info? 5).map (fun i => (i.zero, i.size, i.bytes)) = some (some (.int .u8 0), 1, 1) := by kernel_rfl
theorem lies54 : liesAt Tryz.prog Tryz.prog.depth 54 (2 / Tryz.prog.cellsOf 54) 0 54 1 = true := by kernel_rfl

set_option maxHeartbeats 1000000 in
set_option maxRecDepth 100000 in
theorem check40u (b : Nat) (w : World) (h0 : w.cell? ⟨b, 0, none⟩ = some (.pointer (some ⟨b, 0, none⟩))) :
    Calls Tryz.prog 58 #[.pointer (some ⟨b, 0, none⟩)] w fun e w' => e = .returned (.tuple #[]) ∧ w' = w := by
  obtain ⟨j, hj, _⟩ := Option.map_eq_some_iff.1 size54
  go_enter Tryz.func58, Tryz.ntmps58
  go_wp2
  rw [Lib.run_neq_ptr_same w _ Tryz.underlying52 hj]
  go_wp2
  go_end0
  exact ⟨rfl, rfl⟩
set_option maxHeartbeats 1000000 in
set_option maxRecDepth 100000 in
theorem check40f (b : Nat) (w : World) (h0 : w.cell? ⟨b, 0, none⟩ = some (.pointer none)) (hsh : w.shape? b = some (54, 2)) (hfz : w.frozen? ⟨b, 0, none⟩ = false) :
    Calls Tryz.prog 58 #[.pointer (some ⟨b, 0, none⟩)] w fun e w' => e = .returned (.tuple #[]) ∧ w' = w.setCell ⟨b, 0, none⟩ (.pointer (some ⟨b, 0, none⟩)) := by
  obtain ⟨j, hj, hjs⟩ := Option.map_eq_some_iff.1 size54
  go_enter Tryz.func58, Tryz.ntmps58
  go_wp2
  rw [Lib.run_to_unsafe w ⟨b, 0, none⟩ Tryz.underlying52 Tryz.underlying91 hj (by rw [hjs]; decide) hsh (Nat.zero_lt_succ 1)]
  simp only [Result.andThen]
  rw [Oper.upon_value]
  go_wp2
  rw [run_callFunc_extern Tryz.func91 (by kernel_rfl) (by kernel_rfl) (by kernel_rfl) (e := Extern.AbiNoEscape.same) (by kernel_rfl)]
  rw [Lib.run_noEscape]
  simp only [Result.andThen]
  rw [Oper.upon_value]
  go_wp2
  rw [Lib.run_from_unsafe w ⟨b, 0, none⟩ Tryz.underlying91 Tryz.underlying52 hj hsh lies54]
  simp only [Result.andThen]
  rw [Oper.upon_value]
  go_wp2
  go_end0
  exact ⟨rfl, rfl⟩

/-- A row's block is of its own type. -/
theorem row_type {w : World} {B e size n : Nat} {v : Value} {xs : List Value} {k t : Nat} {cs : Array Value} {f : Nat × Nat} (h : w.ownsRow B e size v n xs) (hv : v.ownBlock = some k) (hk : w.heap[k]? = some (.cells cs t f)) : t = e := by
  obtain ⟨_, ⟨rfl, _⟩ | ⟨g, cap, cur, rfl, _, hg, _⟩⟩ := h
  · cases hv
  · injection hv with hv
    subst hv
    rw [hg] at hk
    injection hk with hk
    injection hk with _ h2 _
    exact h2.symm
theorem row_ne {w : World} {B e size n : Nat} {v : Value} {xs : List Value} {k t : Nat} {cs : Array Value} {f : Nat × Nat} (h : w.ownsRow B e size v n xs) (hk : w.heap[k]? = some (.cells cs t f)) (ht : t ≠ e) : v.ownBlock ≠ some k := fun hv => ht (row_type h hv hk)
theorem blk_lt {w : World} {k : Nat} {o : Obj} (h : w.heap[k]? = some o) : k < w.heap.size := by
  rcases Nat.lt_or_ge k w.heap.size with h' | h'
  · exact h'
  · simp [Array.getElem?_eq_none h'] at h

set_option maxHeartbeats 2000000 in
set_option maxRecDepth 100000 in
theorem writeString29u {B ob : Nat} {vb : Value} {l : List UInt8} {w : World} (s : ByteArray) (hbk : w.heap[ob]? = some (.cells #[.pointer (some ⟨ob, 0, none⟩), vb] 54 (0, 0))) (hown : w.ownsRow B 5 1 vb l.length (Lib.byteCells l)) (hlen : l.length + s.size ≤ 1099511627776) (hB : B ≤ w.heap.size) {w0 : World}
    (hcc : Calls Tryz.prog 58 #[.pointer (some ⟨ob, 0, none⟩)] w0 fun e w' => e = .returned (.tuple #[]) ∧ w' = w) :
    Calls Tryz.prog 35 #[.pointer (some ⟨ob, 0, none⟩), .string s] w0 fun e w' => e = .returned (.tuple #[.int .i64 (s.size : Int), .nilIface]) ∧ (∃ vb', w'.heap[ob]? = some (.cells #[.pointer (some ⟨ob, 0, none⟩), vb'] 54 (0, 0)) ∧ w'.ownsRow B 5 1 vb' (l ++ lst s).length (Lib.byteCells (l ++ lst s))) ∧ On (fun k => k ≠ ob ∧ vb.ownBlock ≠ some k) w w' := by
  obtain ⟨i0, hi, hz0, hz1, hz2⟩ := info_parts info5'
  have c0 : w.cell? ⟨ob, 0, none⟩ = some (.pointer (some ⟨ob, 0, none⟩)) := by rw [Lib.cell_of_heap hbk]; rfl
  have c1 : w.cell? ⟨ob, 1, none⟩ = some vb := by rw [Lib.cell_of_heap hbk]; rfl
  have hlt := blk_lt hbk
  have hne := row_ne hown hbk (by decide)
  have hsl := lst_len s
  have HBK := hid' hbk
  have HCC := hid' hcc
  clear hbk hcc
  go_enter Tryz.func35, Tryz.ntmps35
  go_wp2_with (first
    | (go_at_call 58; (with_reducible refine HCC.out.mono ?_); rintro e w1 ⟨rfl, rfl⟩)
    | (at_builtin; refine of_mark ?_))
  unfold Mark
  refine Lib.wpList_append_own_string _ rfl _ _ 43 9 rfl B 5 i0 Tryz.underlying43 Tryz.underlying9 hi hz0 hz1 hz2 _ _ _ rfl hown s rfl ?c3 ?c4 ?c5 ?_
  case c3 => unfold maxLen; omega
  case c4 => omega
  case c5 => omega
  intro v' w2 hown' hgrow _
  have hb2 : w2.heap[ob]? = some (.cells #[.pointer (some ⟨ob, 0, none⟩), vb] 54 (0, 0)) := by
    rw [hgrow.block ob hlt (fun e => hne e.symm)]
    exact HBK.out
  have d0 : w2.cell? ⟨ob, 0, none⟩ = some (.pointer (some ⟨ob, 0, none⟩)) := by rw [Lib.cell_of_heap hb2]; rfl
  have d1 : w2.cell? ⟨ob, 1, none⟩ = some vb := by rw [Lib.cell_of_heap hb2]; rfl
  have f1 : w2.frozen? ⟨ob, 1, none⟩ = false := Lib.frozen_of_heap hb2 1
  have hl2 := blk_lt hb2
  have hn2 := row_ne hown' hb2 (by decide)
  have HF : Hid ((∃ vb', (w2.setCell ⟨ob, 1, none⟩ v').heap[ob]? = some (.cells #[.pointer (some ⟨ob, 0, none⟩), vb'] 54 (0, 0)) ∧ (w2.setCell ⟨ob, 1, none⟩ v').ownsRow B 5 1 vb' (l ++ lst s).length (Lib.byteCells (l ++ lst s))) ∧ On (fun k => k ≠ ob ∧ vb.ownBlock ≠ some k) w1 (w2.setCell ⟨ob, 1, none⟩ v')) := by
    refine ⟨⟨v', heap_setCell_same w2 ob 1 _ 54 _ hb2, ?_⟩, ?_⟩
    · rw [List.length_append, hsl, Lib.byteCells_append]
      exact World.ownsRow.kept (row := some ob) hown' ⟨rfl, rfl, rfl, by rw [World.size_setCell]; omega, fun k _ hk => Below.heap_setCell _ _ _ _ (fun e => hk (by rw [e]))⟩ (.inr hn2)
    · exact ((On.rfl _ w1).grown hgrow (fun k e hk => hk.2 e)).setC (fun hk => hk.1 rfl) _
  obtain ⟨ao, n', cap, rfl⟩ : ∃ ao n' cap, v' = .slice ao n' cap := by
    rcases hown'.2 with ⟨hv, _⟩ | ⟨g, cap, cur, hv, _⟩
    · exact ⟨_, _, _, hv⟩
    · exact ⟨_, _, _, hv⟩
  clear hown' hgrow hb2 HBK
  go_wp2
  refine bodyPost_ret (v := .tuple #[.int .i64 (s.size : Int), .nilIface]) (by simp [results, Tryz.results35, go_sem]) rfl ⟨rfl, HF.out⟩

theorem writeString29 {B ob : Nat} {p vb : Value} {l : List UInt8} {w : World} (s : ByteArray) (hp : p = .pointer none ∨ p = .pointer (some ⟨ob, 0, none⟩)) (hbk : w.heap[ob]? = some (.cells #[p, vb] 54 (0, 0))) (hown : w.ownsRow B 5 1 vb l.length (Lib.byteCells l)) (hlen : l.length + s.size ≤ 1099511627776) (hB : B ≤ w.heap.size) :
    Calls Tryz.prog 35 #[.pointer (some ⟨ob, 0, none⟩), .string s] w fun e w' => e = .returned (.tuple #[.int .i64 (s.size : Int), .nilIface]) ∧ (∃ vb', w'.heap[ob]? = some (.cells #[.pointer (some ⟨ob, 0, none⟩), vb'] 54 (0, 0)) ∧ w'.ownsRow B 5 1 vb' (l ++ lst s).length (Lib.byteCells (l ++ lst s))) ∧ On (fun k => k ≠ ob ∧ vb.ownBlock ≠ some k) w w' := by
  rcases hp with rfl | rfl
  · have hne := row_ne hown hbk (by decide)
    have hW : (w.setCell ⟨ob, 0, none⟩ (.pointer (some ⟨ob, 0, none⟩))).heap[ob]? = some (.cells #[.pointer (some ⟨ob, 0, none⟩), vb] 54 (0, 0)) := heap_setCell_same w ob 0 _ 54 _ hbk
    refine (writeString29u s hW (World.ownsRow.kept (row := some ob) hown ⟨rfl, rfl, rfl, by rw [World.size_setCell]; omega, fun k _ hk => Below.heap_setCell _ _ _ _ (fun e => hk (by rw [e]))⟩ (.inr hne)) hlen (by rw [World.size_setCell]; exact hB) (check40f ob w (by rw [Lib.cell_of_heap hbk]; rfl) (by simp [World.shape?, hbk]) (Lib.frozen_of_heap hbk 0))).mono fun e w' h => ⟨h.1, h.2.1, ?_⟩
    exact ((On.rfl _ w).setC (b := ob) (o := 0) (fun hk => hk.1 rfl) _).trans h.2.2
  · exact writeString29u s hbk hown hlen hB (check40u ob w (by rw [Lib.cell_of_heap hbk]; rfl))
end Go.Proofs.YtnnnfabpceapcaaGreatDoor
