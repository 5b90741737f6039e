/- Lists held against one another; sums; ends. -/
import Derived.Test.YtgkaeoieclegjaaSml
namespace Go.Proofs.Ytgkaeoieclegjaa
open Go.RowKit Go.Maps
set_option linter.unusedVariables false
set_option linter.unusedSimpArgs false

theorem bl_cells {w : World} {b o : Nat} {x : Bl} (h : ∀ c, c < 4 → w.cell? ⟨b, o + c, none⟩ = (Bl.cells x)[c]?) :
    w.cell? ⟨b, o, none⟩ = some x.cv ∧ w.cell? ⟨b, o + 1, none⟩ = some (.int .i64 x.en) ∧ w.cell? ⟨b, o + 2, none⟩ = some (.int .i64 x.arg) ∧ w.cell? ⟨b, o + 3, none⟩ = some x.tv :=
  ⟨h 0 (by omega), h 1 (by omega), h 2 (by omega), h 3 (by omega)⟩
theorem fn_cells {w : World} {b o : Nat} {x : Fn} (h : ∀ c, c < 5 → w.cell? ⟨b, o + c, none⟩ = (Fn.cells x)[c]?) :
    w.cell? ⟨b, o, none⟩ = some (.string x.nm) ∧ w.cell? ⟨b, o + 1, none⟩ = some (.int .i64 x.params) ∧ w.cell? ⟨b, o + 2, none⟩ = some (.int .i64 x.regs) ∧ w.cell? ⟨b, o + 3, none⟩ = some (.int .i64 x.slots) ∧ w.cell? ⟨b, o + 4, none⟩ = some x.bv :=
  ⟨h 0 (by omega), h 1 (by omega), h 2 (by omega), h 3 (by omega), h 4 (by omega)⟩
theorem in_cells {w : World} {b o : Nat} {x : In} (h : ∀ c, c < 7 → w.cell? ⟨b, o + c, none⟩ = (In.cells x)[c]?) :
    w.cell? ⟨b, o, none⟩ = some (.int .i64 x.op) ∧ w.cell? ⟨b, o + 1, none⟩ = some (.int .i64 x.dst) ∧ w.cell? ⟨b, o + 2, none⟩ = some x.av ∧ w.cell? ⟨b, o + 3, none⟩ = some (.int .i32 x.imm) ∧ w.cell? ⟨b, o + 4, none⟩ = some (.int .i64 x.alu) ∧ w.cell? ⟨b, o + 5, none⟩ = some (.int .i64 x.wide) ∧ w.cell? ⟨b, o + 6, none⟩ = some x.pv :=
  ⟨h 0 (by omega), h 1 (by omega), h 2 (by omega), h 3 (by omega), h 4 (by omega), h 5 (by omega), h 6 (by omega)⟩
theorem fi_cells {w : World} {b o : Nat} {x : Fi} (h : ∀ c, c < 2 → w.cell? ⟨b, o + c, none⟩ = (Fi.cells x)[c]?) :
    w.cell? ⟨b, o, none⟩ = some (.int .i64 x.at_) ∧ w.cell? ⟨b, o + 1, none⟩ = some (.string x.by_) :=
  ⟨h 0 (by omega), h 1 (by omega)⟩
/-- A function in a box of its own. -/
theorem fbox {w W : World} {v0 v1 v2 v3 v4 : Value} {T : TypeId} (hb : Below (w.alloc (.cells #[v0, v1, v2, v3, v4] T)).heap.size (w.alloc (.cells #[v0, v1, v2, v3, v4] T)) W) :
    w.heap.size < W.heap.size ∧ Below w.heap.size w W ∧ W.cell? ⟨w.heap.size, 0, none⟩ = some v0 ∧ W.cell? ⟨w.heap.size, 1, none⟩ = some v1 ∧ W.cell? ⟨w.heap.size, 2, none⟩ = some v2 ∧ W.cell? ⟨w.heap.size, 3, none⟩ = some v3 ∧ W.cell? ⟨w.heap.size, 4, none⟩ = some v4 := by
  refine ⟨by have := hb.size; simp at this; omega, (below1 _ _).trans (hb.mono (by simp)), ?_, ?_, ?_, ?_, ?_⟩ <;> (rw [hb.cell (by simp)]; simp [go_sem])
theorem pbox {w W : World} {v0 v1 v2 v3 : Value} {T : TypeId} (hb : Below (w.alloc (.cells #[v0, v1, v2, v3] T)).heap.size (w.alloc (.cells #[v0, v1, v2, v3] T)) W) :
    w.heap.size < W.heap.size ∧ Below w.heap.size w W ∧ W.cell? ⟨w.heap.size, 0, none⟩ = some v0 ∧ W.cell? ⟨w.heap.size, 1, none⟩ = some v1 ∧ W.cell? ⟨w.heap.size, 2, none⟩ = some v2 ∧ W.cell? ⟨w.heap.size, 3, none⟩ = some v3 := by
  refine ⟨by have := hb.size; simp at this; omega, (below1 _ _).trans (hb.mono (by simp)), ?_, ?_, ?_, ?_⟩ <;> (rw [hb.cell (by simp)]; simp [go_sem])

def eqL (a b : List Int) : Bool := decide (a = b)
theorem eqL_no {a b : List Int} {k : Nat} (ha : k < a.length) (hb : k < b.length) (h : ¬ a[k] = b[k]) : eqL a b = false := decide_eq_false (fun e => by subst e; exact h rfl)
theorem eqL_yes {a b : List Int} (hl : a.length = b.length) (h : ∀ j (h1 : j < a.length) (h2 : j < b.length), a[j] = b[j]) : eqL a b = true := decide_eq_true (List.ext_getElem hl h)
set_option maxHeartbeats 2000000 in
theorem sameInts18 {w : World} {v1 v2 : Value} {a b : List Int} (h1 : Src icell w v1 a) (h2 : Src icell w v2 b) (ha : a.length * 8 ≤ big) (hb : b.length * 8 ≤ big) :
    Calls Try.prog 13 #[v1, v2] w fun e w' => e = .returned (.bool (eqL a b)) ∧ Below w.heap.size w w' := by
  obtain ⟨ao, ac, rfl, hf1⟩ := h1.ints
  obtain ⟨bo, bc, rfl, hf2⟩ := h2.ints
  unfold big at ha hb
  have H1 := hid' hf1
  have H2 := hid' hf2
  clear hf1 hf2 h1 h2
  by_cases hl : a.length = b.length
  · have HL := hid' hl
    rw [← hl]
    clear hl
    go_enter Try.func13, Try.ntmps13
    go_wp2
    go_loopw [5] (fun i wr => ∃ k : Nat, k ≤ a.length ∧ i = .int .i64 k ∧ (∀ j (h1 : j < a.length) (h2 : j < b.length), j < k → a[j] = b[j]) ∧ Below w.heap.size w wr) (fun i _ => a.length - (intOf i).toNat)
    case atStart => exact ⟨0, Nat.zero_le _, rfl, fun j _ _ hj => by omega, Below.refl _ _⟩
    case round =>
      obtain ⟨k, hk, rfl, hok, hbw⟩ := hrel
      have HK := hid' hok
      have HB := hid' hbw
      clear hok hbw
      by_cases hlt : k < a.length
      · obtain ⟨b1, o1, rfl, hb1, hc1, hx1⟩ := H1.out k hlt
        obtain ⟨b2, o2, rfl, hb2, hc2, hx2⟩ := H2.out k (by rw [← HL.out]; exact hlt)
        have c1 := hx1 wr HB.out
        have c2 := hx2 wr HB.out
        rw [← HL.out] at hc2
        clear hx1 hx2
        by_cases he : a[k] = b[k]'(by rw [← HL.out]; exact hlt)
        · have HN : Hid (∀ j (h1 : j < a.length) (h2 : j < b.length), j < k + 1 → a[j] = b[j]) := fun j h1 h2 hjk => by
            by_cases e : j = k
            · subst e; exact he
            · exact HK.out j h1 h2 (by omega)
          rw [← he] at c2
          clear he
          go_wp2
          go_quiet (fail)
          go_wp2
          go_roundw
          case rel => exact ⟨k + 1, by omega, by go_num, HN.out, bdrew HB.out _⟩
          case measure => simp [intOf]; omega
        · have HR := hid' (eqL_no hlt (by rw [← HL.out]; exact hlt) he)
          go_wp2
          go_quiet (fail)
          go_wp2
          go_ret
          exact ⟨by rw [HR.out]; rfl, bdrew HB.out _⟩
      · have e : k = a.length := by omega
        subst e
        have HR := hid' (eqL_yes HL.out (fun j h1 h2 => HK.out j h1 h2 h1))
        go_wp2
        go_ret
        exact ⟨by rw [HR.out]; rfl, HB.out⟩
  · have HR : Hid (eqL a b = false) := decide_eq_false (fun e => hl (by rw [e]))
    have hl' : ¬ (a.length : Int) = b.length := by omega
    go_enter Try.func13, Try.ntmps13
    go_wp2
    go_ret
    exact ⟨by rw [HR.out]; rfl, Below.refl _ _⟩
/-- How many instructions there are. -/
def sumF (l : List Bl) : Nat := (l.map (fun b => b.code.length)).sum
theorem sumF_snoc (l : List Bl) (k : Nat) (h : k < l.length) : sumF (l.take (k + 1)) = sumF (l.take k) + l[k].code.length := by
  unfold sumF
  rw [take_snoc l k h, List.map_append, List.sum_append]
  simp only [List.map_cons, List.map_nil, List.sum_cons, List.sum_nil, Nat.add_zero]
theorem sumF_le {w : World} {l : List Bl} (h : ∀ x ∈ l, Bl.ok w x) : sumF l ≤ l.length * 2000000000000 := by
  induction l with
  | nil => simp [sumF]
  | cons x l ih =>
    have h1 := (h x (List.mem_cons_self ..)).cl
    have h2 := ih (fun y hy => h y (List.mem_cons_of_mem _ hy))
    unfold big at h1
    unfold sumF at *
    simp
    omega
theorem sumF_tk {w : World} {l : List Bl} (h : ∀ x ∈ l, Bl.ok w x) (k : Nat) (hl : l.length ≤ 4096) : sumF (l.take k) ≤ 8192000000000000 := by
  have := sumF_le (l := l.take k) (fun x hx => h x (List.mem_of_mem_take hx))
  have h2 : (l.take k).length ≤ 4096 := by rw [List.length_take]; omega
  omega

def sizF (f : Fn) : Bool := decide (1 ≤ f.blocks.length ∧ f.blocks.length ≤ 4096) && decide (sumF f.blocks ≤ 65536) && winF f.params 0 12 && winF f.regs f.params 65536 && winF f.slots 0 65536 && decide (f.slots % 4 = 0)
end Go.Proofs.Ytgkaeoieclegjaa
