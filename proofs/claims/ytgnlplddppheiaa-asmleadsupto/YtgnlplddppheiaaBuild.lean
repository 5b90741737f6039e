/- build: the tree of branches. -/
import Derived.Test.YtgnlplddppheiaaPushN
import Derived.Test.YtgnlplddppheiaaSort
namespace Go.Proofs.Ytgnlplddppheiaa
open Go.RowKit Go.Sort Go.Lib
set_option linter.unusedVariables false

/-- A branch's three cells. -/
def enc3 (x : Nat × Nat × Nat) : List Value := [.int .i64 (x.1 : Int), .int .i64 (x.2.1 : Int), .int .i64 (x.2.2 : Int)]
def mkBr (x : Nat × Nat × Nat) : Br := ⟨x.1, x.2.1, x.2.2⟩
def cmpF (byLow : Bool) (x y : Nat × Nat × Nat) : Int := if byLow then Lib.compareInt (x.2.1 : Int) (y.2.1 : Int) else Lib.compareInt (x.2.2 : Int) (y.2.2 : Int)

theorem cmpF_lt (byLow : Bool) (x y : Nat × Nat × Nat) : ltOf (cmpF byLow) x y = if byLow then decide (x.2.1 < y.2.1) else decide (x.2.2 < y.2.2) := by
  unfold ltOf cmpF Lib.compareInt
  cases byLow
  · simp only [Bool.false_eq_true, if_false]
    by_cases h1 : x.2.2 < y.2.2
    · simp [h1]
    · by_cases h2 : y.2.2 < x.2.2 <;> simp [h1, h2]
  · simp only [if_true]
    by_cases h1 : x.2.1 < y.2.1
    · simp [h1]
    · by_cases h2 : y.2.1 < x.2.1 <;> simp [h1, h2]
theorem swo (byLow : Bool) : SWO (ltOf (cmpF byLow)) where
  irrefl x := by rw [cmpF_lt]; cases byLow <;> simp
  trans x y z h1 h2 := by rw [cmpF_lt] at *; cases byLow <;> simp at * <;> omega
  ntrans x y z h1 h2 := by rw [cmpF_lt] at *; cases byLow <;> simp at * <;> omega

set_option maxHeartbeats 1000000 in
theorem closure58 (byLow : Bool) (x y : Nat × Nat × Nat) (p : Nat) (W : World) (hp : W.cell? ⟨p, 0, none⟩ = some (.bool byLow)) (hb : p < W.heap.size) :
    Calls Try.prog 58 #[.agg #[.int .i64 (x.1 : Int), .int .i64 (x.2.1 : Int), .int .i64 (x.2.2 : Int)], .agg #[.int .i64 (y.1 : Int), .int .i64 (y.2.1 : Int), .int .i64 (y.2.2 : Int)], .pointer (some ⟨p, 0, none⟩)] W
      fun e w' => e = .returned (.int .i64 (cmpF byLow x y)) ∧ ∃ q os', w' = grow (W.drewN q) os' := by
  have hcon := fun (a b : Int) W' => AnyG.cmp_Compare_int Try.cmpInt a b W'
  change ∀ a b W', Calls Try.prog 59 _ _ _ at hcon
  cases byLow
  · unfold cmpF
    simp only [Bool.false_eq_true, if_false]
    have hc2 := hcon (x.2.2 : Int) (y.2.2 : Int)
    clear hcon
    generalize Lib.compareInt (x.2.2 : Int) (y.2.2 : Int) = r at hc2 ⊢
    go_enter Try.func58, Try.ntmps58
    go_wp2_with (go_at_call 59; refine (hc2 _).mono ?_; rintro e w' ⟨rfl, rfl⟩)
    go_ret
    exact ⟨rfl, 0, _, by rw [alloc_eq_grow, alloc_eq_grow, grow_grow]; rfl⟩
  · unfold cmpF
    simp only [if_true]
    have hc2 := hcon (x.2.1 : Int) (y.2.1 : Int)
    clear hcon
    generalize Lib.compareInt (x.2.1 : Int) (y.2.1 : Int) = r at hc2 ⊢
    go_enter Try.func58, Try.ntmps58
    go_wp2_with (go_at_call 59; refine (hc2 _).mono ?_; rintro e w' ⟨rfl, rfl⟩)
    go_ret
    exact ⟨rfl, 0, _, by rw [alloc_eq_grow, alloc_eq_grow, grow_grow]; rfl⟩

/-- Worlds of the sort: all but the row's block is as it was. -/
theorem sort_block {w : World} {blk off m : Nat} {d : Array (Nat × Nat × Nat)} {os : Array Obj} {k : Nat} (hk : k < w.heap.size) (hn : k ≠ blk) : (sortWorldK enc3 3 w blk off m d os).heap[k]? = w.heap[k]? := by
  unfold sortWorldK
  rw [heap_grow_old _ _ (by rw [size_putRowK]; exact hk)]
  unfold putRowK putRow mapBlock
  simp only [Array.getElem?_modify]
  rw [if_neg (fun e => hn e.symm)]
  rfl
theorem sort_kept (w : World) (blk off m : Nat) (d : Array (Nat × Nat × Nat)) (os : Array Obj) : Kept (fun b => b = blk) w (sortWorldK enc3 3 w blk off m d os) :=
  ⟨rfl, rfl, rfl, size_sortWorldK_c enc3 3 w blk off m d os, fun k hk hn => sort_block hk hn⟩

theorem cmpLays (byLow : Bool) (p blk off size : Nat) (w : World) (hp : w.cell? ⟨p, 0, none⟩ = some (.bool byLow)) (hb : p < w.heap.size) (hn : p ≠ blk) : CmpLays Try.prog 58 #[.pointer (some ⟨p, 0, none⟩)] enc3 3 (cmpF byLow) blk off size w :=
  fun m os dk _ x y => closure58 byLow x y p _ ((World.cell?_of_block (sort_block hb hn)).trans hp) (Nat.lt_of_lt_of_le hb (size_sortWorldK_c enc3 3 w blk off m dk os))

theorem sort57 (byLow : Bool) (p blk off cap : Nat) (d : Array (Nat × Nat × Nat)) (w : World) (hp : w.cell? ⟨p, 0, none⟩ = some (.bool byLow)) (hb : p < w.heap.size) (hn : p ≠ blk) (hH : HoldsK enc3 3 w blk off d) (hblk : blk < w.heap.size) (hsz : d.size ≤ 1000000) :
    Calls Try.prog 57 #[.slice (some ⟨blk, off, none⟩) d.size cap, .func (.func 58) #[] #[.pointer (some ⟨p, 0, none⟩)]] w fun e w' => e = .returned (.tuple #[]) ∧ ∃ d', d'.size = d.size ∧ d'.toList.Perm d.toList ∧ HoldsK enc3 3 w' blk off d' ∧ Kept (fun b => b = blk) w w' ∧
      (∀ o, o < off ∨ off + 3 * d.size ≤ o → w'.cell? ⟨blk, o, none⟩ = w.cell? ⟨blk, o, none⟩ ∧ w'.frozen? ⟨blk, o, none⟩ = w.frozen? ⟨blk, o, none⟩) := by
  have eg : ∀ args w, (callFunc 58 args).run Try.prog w = .ok (.enter 58 args) w := enters_of Try.func58 (by kernel_rfl) rfl
  have hcon := AnyQ.slices_SortFunc Try.sortBr 3 Try.isAgg80 Try.sizeOf80 enc3 (fun _ => rfl) (fun x v hv => by simp [enc3] at hv; rcases hv with rfl | rfl | rfl <;> rfl) (cmpF byLow) (swo byLow) 58 #[.pointer (some ⟨p, 0, none⟩)] blk off cap d w eg (cmpLays byLow p blk off d.size w hp hb hn) hH hblk (by omega)
  change Calls Try.prog 57 _ _ _ at hcon
  refine hcon.mono ?_
  rintro e w' ⟨rfl, d', n, os, hpm, _, rfl⟩
  have hs := hpm.1
  refine ⟨rfl, d', hs, ?_, holdsK_sortWorldK_c enc3 3 w blk off d d' n os hH hblk hs, sort_kept _ _ _ _ _ _, fun o ho => ?_⟩
  · have := hpm.2.2
    simp only [Array.toList_extract, List.extract_eq_take_drop, List.drop_zero, Nat.sub_zero] at this
    rwa [List.take_of_length_le (by simp [hs]), List.take_of_length_le (by simp)] at this
  · unfold sortWorldK
    rw [cell?_grow _ _ _ (by rw [size_putRowK]; exact hblk), frozen?_grow _ _ _ (by rw [size_putRowK]; exact hblk)]
    unfold putRowK
    rw [cell?_putRow_other id _ blk off _ _ (.inr (by rw [size_flatK, hs]; simp; omega))]
    exact ⟨rfl, frozen?_mapBlock _ _ _ _⟩
end Go.Proofs.Ytgnlplddppheiaa
