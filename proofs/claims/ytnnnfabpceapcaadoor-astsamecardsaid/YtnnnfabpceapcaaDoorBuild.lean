/- A strings.Builder of the call's own: a text put behind what it holds. -/
import Derived.Test.YtnnnfabpceapcaaDoorName
import Derived.Test.YtnnnfabpceapcaaDoorSp
import Derived.Lib.Builder
import Derived.Lib.AppendStr
import Derived.Lib.UnsafeStr
import Derived.Laws.Externs
namespace Go.Proofs.YtnnnfabpceapcaaDoor
open Go.RowKit
set_option linter.unusedVariables false

theorem size54 : (Tryd.prog.info? 54).map (·.size) = some 2 := by kernel_rfl
theorem info5' : (Tryd.prog.info? 5).map (fun i => (i.zero, i.size, i.bytes)) = some (some (.int .u8 0), 1, 1) := by kernel_rfl
theorem lies54 : liesAt Tryd.prog Tryd.prog.depth 54 (2 / Tryd.prog.cellsOf 54) 0 54 1 = true := by kernel_rfl

set_option maxHeartbeats 1000000 in
set_option maxRecDepth 100000 in
theorem check40u (b : Nat) (w : World) (h0 : w.cell? ⟨b, 0, none⟩ = some (.pointer (some ⟨b, 0, none⟩))) :
    Calls Tryd.prog 40 #[.pointer (some ⟨b, 0, none⟩)] w fun e w' => e = .returned (.tuple #[]) ∧ w' = w := by
  obtain ⟨j, hj, _⟩ := Option.map_eq_some_iff.1 size54
  go_enter Tryd.func40, Tryd.ntmps40
  go_wp2
  rw [Lib.run_neq_ptr_same w _ Tryd.underlying51 hj]
  go_wp2
  go_end0
  exact ⟨rfl, rfl⟩
set_option maxHeartbeats 1000000 in
set_option maxRecDepth 100000 in
theorem check40f (b : Nat) (w : World) (h0 : w.cell? ⟨b, 0, none⟩ = some (.pointer none)) (hsh : w.shape? b = some (54, 2)) (hfz : w.frozen? ⟨b, 0, none⟩ = false) :
    Calls Tryd.prog 40 #[.pointer (some ⟨b, 0, none⟩)] w fun e w' => e = .returned (.tuple #[]) ∧ w' = w.setCell ⟨b, 0, none⟩ (.pointer (some ⟨b, 0, none⟩)) := by
  obtain ⟨j, hj, hjs⟩ := Option.map_eq_some_iff.1 size54
  go_enter Tryd.func40, Tryd.ntmps40
  go_wp2
  rw [Lib.run_to_unsafe w ⟨b, 0, none⟩ Tryd.underlying51 Tryd.underlying80 hj (by rw [hjs]; decide) hsh (Nat.zero_lt_succ 1)]
  simp only [Result.andThen]
  rw [Oper.upon_value]
  go_wp2
  rw [run_callFunc_extern Tryd.func62 (by kernel_rfl) (by kernel_rfl) (by kernel_rfl) (e := Extern.AbiNoEscape.same) (by kernel_rfl)]
  rw [Lib.run_noEscape]
  simp only [Result.andThen]
  rw [Oper.upon_value]
  go_wp2
  rw [Lib.run_from_unsafe w ⟨b, 0, none⟩ Tryd.underlying80 Tryd.underlying51 hj hsh lies54]
  simp only [Result.andThen]
  rw [Oper.upon_value]
  go_wp2
  go_end0
  exact ⟨rfl, rfl⟩

/-- A row's block is of its own type. -/
theorem row_type {w : World} {B e size n : Nat} {v : Value} {xs : List Value} {k t : Nat} {cs : Array Value} {f : Nat × Nat} (h : w.ownsRow B e size v n xs) (hv : v.ownBlock = some k) (hk : w.heap[k]? = some (.cells cs t f)) : t = e := by
  obtain ⟨_, ⟨rfl, _⟩ | ⟨g, cap, cur, rfl, _, hg, _⟩⟩ := h
  · cases hv
  · injection hv with hv
    subst hv
    rw [hg] at hk
    injection hk with hk
    injection hk with _ h2 _
    exact h2.symm
theorem row_ne {w : World} {B e size n : Nat} {v : Value} {xs : List Value} {k t : Nat} {cs : Array Value} {f : Nat × Nat} (h : w.ownsRow B e size v n xs) (hk : w.heap[k]? = some (.cells cs t f)) (ht : t ≠ e) : v.ownBlock ≠ some k := fun hv => ht (row_type h hv hk)
theorem blk_lt {w : World} {k : Nat} {o : Obj} (h : w.heap[k]? = some o) : k < w.heap.size := by
  rcases Nat.lt_or_ge k w.heap.size with h' | h'
  · exact h'
  · simp [Array.getElem?_eq_none h'] at h

set_option maxHeartbeats 2000000 in
set_option maxRecDepth 100000 in
theorem writeString29u {B ob : Nat} {vb : Value} {l : List UInt8} {w : World} (s : ByteArray) (hbk : w.heap[ob]? = some (.cells #[.pointer (some ⟨ob, 0, none⟩), vb] 54 (0, 0))) (hown : w.ownsRow B 5 1 vb l.length (Lib.byteCells l)) (hlen : l.length + s.size ≤ 1099511627776) (hB : B ≤ w.heap.size) {w0 : World}
    (hcc : Calls Tryd.prog 40 #[.pointer (some ⟨ob, 0, none⟩)] w0 fun e w' => e = .returned (.tuple #[]) ∧ w' = w) :
    Calls Tryd.prog 29 #[.pointer (some ⟨ob, 0, none⟩), .string s] w0 fun e w' => e = .returned (.tuple #[.int .i64 (s.size : Int), .nilIface]) ∧ (∃ vb', w'.heap[ob]? = some (.cells #[.pointer (some ⟨ob, 0, none⟩), vb'] 54 (0, 0)) ∧ w'.ownsRow B 5 1 vb' (l ++ lst s).length (Lib.byteCells (l ++ lst s))) ∧ On (fun k => k ≠ ob ∧ vb.ownBlock ≠ some k) w w' := by
  obtain ⟨i0, hi, hz0, hz1, hz2⟩ := info_parts info5'
  have c0 : w.cell? ⟨ob, 0, none⟩ = some (.pointer (some ⟨ob, 0, none⟩)) := by rw [Lib.cell_of_heap hbk]; rfl
  have c1 : w.cell? ⟨ob, 1, none⟩ = some vb := by rw [Lib.cell_of_heap hbk]; rfl
  have hlt := blk_lt hbk
  have hne := row_ne hown hbk (by decide)
  have hsl := lst_len s
  have HBK := hid' hbk
  have HCC := hid' hcc
  clear hbk hcc
  go_enter Tryd.func29, Tryd.ntmps29
  go_wp2_with (first
    | (go_at_call 40; (with_reducible refine HCC.out.mono ?_); rintro e w1 ⟨rfl, rfl⟩)
    | (at_builtin; refine of_mark ?_))
  unfold Mark
  refine Lib.wpList_append_own_string _ rfl _ _ 52 9 rfl B 5 i0 Tryd.underlying52 Tryd.underlying9 hi hz0 hz1 hz2 _ _ _ rfl hown s rfl ?c3 ?c4 ?c5 ?_
  case c3 => unfold maxLen; omega
  case c4 => omega
  case c5 => omega
  intro v' w2 hown' hgrow _
  have hb2 : w2.heap[ob]? = some (.cells #[.pointer (some ⟨ob, 0, none⟩), vb] 54 (0, 0)) := by
    rw [hgrow.block ob hlt (fun e => hne e.symm)]
    exact HBK.out
  have d0 : w2.cell? ⟨ob, 0, none⟩ = some (.pointer (some ⟨ob, 0, none⟩)) := by rw [Lib.cell_of_heap hb2]; rfl
  have d1 : w2.cell? ⟨ob, 1, none⟩ = some vb := by rw [Lib.cell_of_heap hb2]; rfl
  have f1 : w2.frozen? ⟨ob, 1, none⟩ = false := Lib.frozen_of_heap hb2 1
  have hl2 := blk_lt hb2
  have hn2 := row_ne hown' hb2 (by decide)
  have HF : Hid ((∃ vb', (w2.setCell ⟨ob, 1, none⟩ v').heap[ob]? = some (.cells #[.pointer (some ⟨ob, 0, none⟩), vb'] 54 (0, 0)) ∧ (w2.setCell ⟨ob, 1, none⟩ v').ownsRow B 5 1 vb' (l ++ lst s).length (Lib.byteCells (l ++ lst s))) ∧ On (fun k => k ≠ ob ∧ vb.ownBlock ≠ some k) w1 (w2.setCell ⟨ob, 1, none⟩ v')) := by
    refine ⟨⟨v', heap_setCell_same w2 ob 1 _ 54 _ hb2, ?_⟩, ?_⟩
    · rw [List.length_append, hsl, Lib.byteCells_append]
      exact World.ownsRow.kept (row := some ob) hown' ⟨rfl, rfl, rfl, by rw [World.size_setCell]; omega, fun k _ hk => Below.heap_setCell _ _ _ _ (fun e => hk (by rw [e]))⟩ (.inr hn2)
    · exact ((On.rfl _ w1).grown hgrow (fun k e hk => hk.2 e)).setC (fun hk => hk.1 rfl) _
  obtain ⟨ao, n', cap, rfl⟩ : ∃ ao n' cap, v' = .slice ao n' cap := by
    rcases hown'.2 with ⟨hv, _⟩ | ⟨g, cap, cur, hv, _⟩
    · exact ⟨_, _, _, hv⟩
    · exact ⟨_, _, _, hv⟩
  clear hown' hgrow hb2 HBK
  go_wp2
  refine bodyPost_ret (v := .tuple #[.int .i64 (s.size : Int), .nilIface]) (by simp [results, Tryd.results29, go_sem]) rfl ⟨rfl, HF.out⟩

theorem writeString29 {B ob : Nat} {p vb : Value} {l : List UInt8} {w : World} (s : ByteArray) (hp : p = .pointer none ∨ p = .pointer (some ⟨ob, 0, none⟩)) (hbk : w.heap[ob]? = some (.cells #[p, vb] 54 (0, 0))) (hown : w.ownsRow B 5 1 vb l.length (Lib.byteCells l)) (hlen : l.length + s.size ≤ 1099511627776) (hB : B ≤ w.heap.size) :
    Calls Tryd.prog 29 #[.pointer (some ⟨ob, 0, none⟩), .string s] w fun e w' => e = .returned (.tuple #[.int .i64 (s.size : Int), .nilIface]) ∧ (∃ vb', w'.heap[ob]? = some (.cells #[.pointer (some ⟨ob, 0, none⟩), vb'] 54 (0, 0)) ∧ w'.ownsRow B 5 1 vb' (l ++ lst s).length (Lib.byteCells (l ++ lst s))) ∧ On (fun k => k ≠ ob ∧ vb.ownBlock ≠ some k) w w' := by
  rcases hp with rfl | rfl
  · have hne := row_ne hown hbk (by decide)
    have hW : (w.setCell ⟨ob, 0, none⟩ (.pointer (some ⟨ob, 0, none⟩))).heap[ob]? = some (.cells #[.pointer (some ⟨ob, 0, none⟩), vb] 54 (0, 0)) := heap_setCell_same w ob 0 _ 54 _ hbk
    refine (writeString29u s hW (World.ownsRow.kept (row := some ob) hown ⟨rfl, rfl, rfl, by rw [World.size_setCell]; omega, fun k _ hk => Below.heap_setCell _ _ _ _ (fun e => hk (by rw [e]))⟩ (.inr hne)) hlen (by rw [World.size_setCell]; exact hB) (check40f ob w (by rw [Lib.cell_of_heap hbk]; rfl) (by simp [World.shape?, hbk]) (Lib.frozen_of_heap hbk 0))).mono fun e w' h => ⟨h.1, h.2.1, ?_⟩
    exact ((On.rfl _ w).setC (b := ob) (o := 0) (fun hk => hk.1 rfl) _).trans h.2.2
  · exact writeString29u s hbk hown hlen hB (check40u ob w (by rw [Lib.cell_of_heap hbk]; rfl))
end Go.Proofs.YtnnnfabpceapcaaDoor
