/- Lists held against one another; sums; ends. -/
import Derived.Test.YtiehlkhpblldaaaH02
set_option linter.unusedVariables false
set_option linter.unusedSimpArgs false
set_option maxRecDepth 20000
set_option maxHeartbeats 8000000
namespace Go.Proofs.Ytiehlkhpblldaaa
open Go.RowKit Go.Maps

theorem bl_cells {w : World} {b o : Nat} {x : Bl} (h : ∀ c, c < 4 → w.cell? ⟨b, o + c, none⟩ = (Bl.cells x)[c]?) :
    w.cell? ⟨b, o, none⟩ = some x.cv ∧ w.cell? ⟨b, o + 1, none⟩ = some (.int .i64 x.en) ∧ w.cell? ⟨b, o + 2, none⟩ = some (.int .i64 x.arg) ∧ w.cell? ⟨b, o + 3, none⟩ = some x.tv :=
  ⟨h 0 (by omega), h 1 (by omega), h 2 (by omega), h 3 (by omega)⟩
theorem fn_cells {w : World} {b o : Nat} {x : Fn} (h : ∀ c, c < 5 → w.cell? ⟨b, o + c, none⟩ = (Fn.cells x)[c]?) :
    w.cell? ⟨b, o, none⟩ = some (.string x.nm) ∧ w.cell? ⟨b, o + 1, none⟩ = some (.int .i64 x.params) ∧ w.cell? ⟨b, o + 2, none⟩ = some (.int .i64 x.regs) ∧ w.cell? ⟨b, o + 3, none⟩ = some (.int .i64 x.slots) ∧ w.cell? ⟨b, o + 4, none⟩ = some x.bv :=
  ⟨h 0 (by omega), h 1 (by omega), h 2 (by omega), h 3 (by omega), h 4 (by omega)⟩
theorem in_cells {w : World} {b o : Nat} {x : In} (h : ∀ c, c < 7 → w.cell? ⟨b, o + c, none⟩ = (In.cells x)[c]?) :
    w.cell? ⟨b, o, none⟩ = some (.int .i64 x.op) ∧ w.cell? ⟨b, o + 1, none⟩ = some (.int .i64 x.dst) ∧ w.cell? ⟨b, o + 2, none⟩ = some x.av ∧ w.cell? ⟨b, o + 3, none⟩ = some (.int .i32 x.imm) ∧ w.cell? ⟨b, o + 4, none⟩ = some (.int .i64 x.alu) ∧ w.cell? ⟨b, o + 5, none⟩ = some (.int .i64 x.wide) ∧ w.cell? ⟨b, o + 6, none⟩ = some x.pv :=
  ⟨h 0 (by omega), h 1 (by omega), h 2 (by omega), h 3 (by omega), h 4 (by omega), h 5 (by omega), h 6 (by omega)⟩
theorem fi_cells {w : World} {b o : Nat} {x : Fi} (h : ∀ c, c < 2 → w.cell? ⟨b, o + c, none⟩ = (Fi.cells x)[c]?) :
    w.cell? ⟨b, o, none⟩ = some (.int .i64 x.at_) ∧ w.cell? ⟨b, o + 1, none⟩ = some (.string x.by_) :=
  ⟨h 0 (by omega), h 1 (by omega)⟩
/-- A function in a box of its own. -/
theorem fbox {w W : World} {v0 v1 v2 v3 v4 : Value} {T : TypeId} (hb : Below (w.alloc (.cells #[v0, v1, v2, v3, v4] T)).heap.size (w.alloc (.cells #[v0, v1, v2, v3, v4] T)) W) :
    w.heap.size < W.heap.size ∧ Below w.heap.size w W ∧ W.cell? ⟨w.heap.size, 0, none⟩ = some v0 ∧ W.cell? ⟨w.heap.size, 1, none⟩ = some v1 ∧ W.cell? ⟨w.heap.size, 2, none⟩ = some v2 ∧ W.cell? ⟨w.heap.size, 3, none⟩ = some v3 ∧ W.cell? ⟨w.heap.size, 4, none⟩ = some v4 := by
  refine ⟨by have := hb.size; simp at this; omega, (below1 _ _).trans (hb.mono (by simp)), ?_, ?_, ?_, ?_, ?_⟩ <;> (rw [hb.cell (by simp)]; simp [go_sem])
theorem pbox {w W : World} {v0 v1 v2 v3 : Value} {T : TypeId} (hb : Below (w.alloc (.cells #[v0, v1, v2, v3] T)).heap.size (w.alloc (.cells #[v0, v1, v2, v3] T)) W) :
    w.heap.size < W.heap.size ∧ Below w.heap.size w W ∧ W.cell? ⟨w.heap.size, 0, none⟩ = some v0 ∧ W.cell? ⟨w.heap.size, 1, none⟩ = some v1 ∧ W.cell? ⟨w.heap.size, 2, none⟩ = some v2 ∧ W.cell? ⟨w.heap.size, 3, none⟩ = some v3 := by
  refine ⟨by have := hb.size; simp at this; omega, (below1 _ _).trans (hb.mono (by simp)), ?_, ?_, ?_, ?_⟩ <;> (rw [hb.cell (by simp)]; simp [go_sem])

def eqL (a b : List Int) : Bool := decide (a = b)
theorem eqL_no {a b : List Int} {k : Nat} (ha : k < a.length) (hb : k < b.length) (h : ¬ a[k] = b[k]) : eqL a b = false := decide_eq_false (fun e => by subst e; exact h rfl)
theorem eqL_yes {a b : List Int} (hl : a.length = b.length) (h : ∀ j (h1 : j < a.length) (h2 : j < b.length), a[j] = b[j]) : eqL a b = true := decide_eq_true (List.ext_getElem hl h)
theorem sameInts18 {w : World} {v1 v2 : Value} {a b : List Int} (h1 : Src icell w v1 a) (h2 : Src icell w v2 b) (ha : a.length * 8 ≤ big) (hb : b.length * 8 ≤ big) :
    Calls Try.prog 34 #[v1, v2] w fun e w' => e = .returned (.bool (eqL a b)) ∧ Below w.heap.size w w' := by
  obtain ⟨ao, ac, rfl, hf1⟩ := h1.ints
  obtain ⟨bo, bc, rfl, hf2⟩ := h2.ints
  unfold big at ha hb
  have H1 := hid' hf1
  have H2 := hid' hf2
  clear hf1 hf2 h1 h2
  by_cases hl : a.length = b.length
  · have HL := hid' hl
    rw [← hl]
    clear hl
    go_enter Try.func34, Try.ntmps34
    go_wp2
    go_loopw [5] (fun i wr => ∃ k : Nat, k ≤ a.length ∧ i = .int .i64 k ∧ (∀ j (h1 : j < a.length) (h2 : j < b.length), j < k → a[j] = b[j]) ∧ Below w.heap.size w wr) (fun i _ => a.length - (intOf i).toNat)
    case atStart => exact ⟨0, Nat.zero_le _, rfl, fun j _ _ hj => by omega, Below.refl _ _⟩
    case round =>
      obtain ⟨k, hk, rfl, hok, hbw⟩ := hrel
      have HK := hid' hok
      have HB := hid' hbw
      clear hok hbw
      by_cases hlt : k < a.length
      · obtain ⟨b1, o1, rfl, hb1, hc1, hx1⟩ := H1.out k hlt
        obtain ⟨b2, o2, rfl, hb2, hc2, hx2⟩ := H2.out k (by rw [← HL.out]; exact hlt)
        have c1 := hx1 wr HB.out
        have c2 := hx2 wr HB.out
        rw [← HL.out] at hc2
        clear hx1 hx2
        by_cases he : a[k] = b[k]'(by rw [← HL.out]; exact hlt)
        · have HN : Hid (∀ j (h1 : j < a.length) (h2 : j < b.length), j < k + 1 → a[j] = b[j]) := fun j h1 h2 hjk => by
            by_cases e : j = k
            · subst e; exact he
            · exact HK.out j h1 h2 (by omega)
          rw [← he] at c2
          clear he
          go_wp2
          go_quiet (fail)
          go_wp2
          go_roundw
          case rel => exact ⟨k + 1, by omega, by go_num, HN.out, bdrew HB.out _⟩
          case measure => simp [intOf]; omega
        · have HR := hid' (eqL_no hlt (by rw [← HL.out]; exact hlt) he)
          go_wp2
          go_quiet (fail)
          go_wp2
          go_ret
          exact ⟨by rw [HR.out]; rfl, bdrew HB.out _⟩
      · have e : k = a.length := by omega
        subst e
        have HR := hid' (eqL_yes HL.out (fun j h1 h2 => HK.out j h1 h2 h1))
        go_wp2
        go_ret
        exact ⟨by rw [HR.out]; rfl, HB.out⟩
  · have HR : Hid (eqL a b = false) := decide_eq_false (fun e => hl (by rw [e]))
    have hl' : ¬ (a.length : Int) = b.length := by omega
    go_enter Try.func34, Try.ntmps34
    go_wp2
    go_ret
    exact ⟨by rw [HR.out]; rfl, Below.refl _ _⟩
theorem equal52 {w : World} {v1 v2 : Value} {a b : List Int} (h1 : Src icell w v1 a) (h2 : Src icell w v2 b) (ha : a.length * 8 ≤ big) (hb : b.length * 8 ≤ big) :
    Calls Try.prog 82 #[v1, v2] w fun e w' => e = .returned (.bool (eqL a b)) ∧ Below w.heap.size w w' := by
  obtain ⟨ao, ac, rfl, hf1⟩ := h1.ints
  obtain ⟨bo, bc, rfl, hf2⟩ := h2.ints
  unfold big at ha hb
  have H1 := hid' hf1
  have H2 := hid' hf2
  clear hf1 hf2 h1 h2
  by_cases hl : a.length = b.length
  · have HL := hid' hl
    rw [← hl]
    clear hl
    go_enter Try.func82, Try.ntmps82
    go_wp2
    go_loopw [13] (fun i wr => ∃ k : Nat, k ≤ a.length ∧ i = .int .i64 k ∧ (∀ j (h1 : j < a.length) (h2 : j < b.length), j < k → a[j] = b[j]) ∧ Below w.heap.size w wr) (fun i _ => a.length - (intOf i).toNat)
    case atStart => exact ⟨0, Nat.zero_le _, rfl, fun j _ _ hj => by omega, Below.refl _ _⟩
    case round =>
      obtain ⟨k, hk, rfl, hok, hbw⟩ := hrel
      have HK := hid' hok
      have HB := hid' hbw
      clear hok hbw
      by_cases hlt : k < a.length
      · obtain ⟨b1, o1, rfl, hb1, hc1, hx1⟩ := H1.out k hlt
        obtain ⟨b2, o2, rfl, hb2, hc2, hx2⟩ := H2.out k (by rw [← HL.out]; exact hlt)
        have c1 := hx1 wr HB.out
        have c2 := hx2 wr HB.out
        rw [← HL.out] at hc2
        clear hx1 hx2
        by_cases he : a[k] = b[k]'(by rw [← HL.out]; exact hlt)
        · have HN : Hid (∀ j (h1 : j < a.length) (h2 : j < b.length), j < k + 1 → a[j] = b[j]) := fun j h1 h2 hjk => by
            by_cases e : j = k
            · subst e; exact he
            · exact HK.out j h1 h2 (by omega)
          rw [← he] at c2
          clear he
          go_wp2
          go_quiet (fail)
          go_wp2
          go_roundw
          case rel => exact ⟨k + 1, by omega, by go_num, HN.out, bdrew HB.out _⟩
          case measure => simp [intOf]; omega
        · have HR := hid' (eqL_no hlt (by rw [← HL.out]; exact hlt) he)
          go_wp2
          go_quiet (fail)
          go_wp2
          go_ret
          exact ⟨by rw [HR.out]; rfl, bdrew HB.out _⟩
      · have e : k = a.length := by omega
        subst e
        have HR := hid' (eqL_yes HL.out (fun j h1 h2 => HK.out j h1 h2 h1))
        go_wp2
        go_ret
        exact ⟨by rw [HR.out]; rfl, HB.out⟩
  · have HR : Hid (eqL a b = false) := decide_eq_false (fun e => hl (by rw [e]))
    have hl' : ¬ (a.length : Int) = b.length := by omega
    go_enter Try.func82, Try.ntmps82
    go_wp2
    go_ret
    exact ⟨by rw [HR.out]; rfl, Below.refl _ _⟩

/-- How many instructions there are. -/
def sumF (l : List Bl) : Nat := (l.map (fun b => b.code.length)).sum
theorem sumF_snoc (l : List Bl) (k : Nat) (h : k < l.length) : sumF (l.take (k + 1)) = sumF (l.take k) + l[k].code.length := by
  unfold sumF
  rw [take_snoc l k h, List.map_append, List.sum_append]
  simp only [List.map_cons, List.map_nil, List.sum_cons, List.sum_nil, Nat.add_zero]
theorem sumF_le {w : World} {l : List Bl} (h : ∀ x ∈ l, Bl.ok w x) : sumF l ≤ l.length * 2000000000000 := by
  induction l with
  | nil => simp [sumF]
  | cons x l ih =>
    have h1 := (h x (List.mem_cons_self ..)).cl
    have h2 := ih (fun y hy => h y (List.mem_cons_of_mem _ hy))
    unfold big at h1
    unfold sumF at *
    simp
    omega
theorem sumF_tk {w : World} {l : List Bl} (h : ∀ x ∈ l, Bl.ok w x) (k : Nat) (hl : l.length ≤ 4096) : sumF (l.take k) ≤ 8192000000000000 := by
  have := sumF_le (l := l.take k) (fun x hx => h x (List.mem_of_mem_take hx))
  have h2 : (l.take k).length ≤ 4096 := by rw [List.length_take]; omega
  omega

theorem codeSize46 {w : World} {f : Fn} (h : Fn.ok w f) (h4 : f.blocks.length ≤ 4096) :
    Calls Try.prog 60 #[f.val] w fun e w' => e = .returned (.int .i64 (sumF f.blocks : Nat)) ∧ Below w.heap.size w w' := by
  obtain ⟨nm, ps, rs, sl, bv, bl⟩ := f
  obtain ⟨hb, hbl, _, hbs⟩ := h
  dsimp only at *
  obtain ⟨ao, cap, rfl, hf⟩ := hb.form bl4
  have HF := hid' hf
  have HS := hid' hbs
  unfold Fn.val
  clear hf hb hbs hbl
  go_enter Try.func60, Try.ntmps60
  go_wp2
  go_loopw [3, 9] (fun n i wr => ∃ k : Nat, k ≤ bl.length ∧ i = .int .i64 k ∧ n = .int .i64 (sumF (bl.take k) : Nat) ∧ Below w.heap.size w wr) (fun _ i _ => bl.length - (intOf i).toNat)
  case atStart => exact ⟨0, Nat.zero_le _, rfl, rfl, below1 _ _⟩
  case round =>
    obtain ⟨k, hk, rfl, rfl, hbw⟩ := hrel
    have HB := hid' hbw
    clear hbw
    by_cases hlt : k < bl.length
    · obtain ⟨b, o, rfl, hb1, hc1, hx⟩ := HF.out k hlt
      obtain ⟨c0, c1, c2, c3⟩ := bl_cells (hx wr HB.out)
      have hsn := sumF_snoc bl k hlt
      have HSN := hid' hsn
      have hle := sumF_tk HS.out (k + 1) h4
      rw [hsn] at hle
      have ho := HS.out _ (List.getElem_mem hlt)
      obtain ⟨co, cc, e⟩ := ho.c.len
      rw [e] at c0
      obtain ⟨t1, t2, e'⟩ := ho.t.len
      rw [e'] at c3
      clear hx hsn ho e e'
      generalize sumF (bl.take k) = s at *
      generalize bl[k] = x at *
      go_wp2
      go_roundw
      case rel => exact ⟨k + 1, by omega, by go_num, by rw [HSN.out]; go_num, HB.out.alloc HB.out.size _⟩
      case measure => simp [intOf]; omega
    · have e : k = bl.length := by omega
      subst e
      rw [List.take_length]
      go_wp2
      go_ret
      exact ⟨rfl, HB.out⟩

def sizF (f : Fn) : Bool := decide (1 ≤ f.blocks.length ∧ f.blocks.length ≤ 4096) && decide (sumF f.blocks ≤ 65536) && winF f.params 0 12 && winF f.regs f.params 65536 && winF f.slots 0 65536 && decide (f.slots % 4 = 0)
theorem sizesFit27 {w : World} {f : Fn} (h : Fn.ok w f) :
    Calls Try.prog 38 #[f.val] w fun e w' => e = .returned (.bool (sizF f)) ∧ Below w.heap.size w w' := by
  have HO := hid' h
  have H46 : Hid (∀ W, Below w.heap.size w W → f.blocks.length ≤ 4096 → Calls Try.prog 60 #[f.val] W fun e w' => e = .returned (.int .i64 (sumF f.blocks : Nat)) ∧ Below W.heap.size W w') := fun W hW h4 => codeSize46 (HO.out.on hW) h4
  obtain ⟨nm, ps, rs, sl, bv, bl⟩ := f
  obtain ⟨hb, hbl, _, hbs⟩ := h
  dsimp only at *
  obtain ⟨ao, cap, rfl⟩ := hb.len
  unfold big at hbl
  clear hb hbs HO
  unfold sizF
  dsimp only
  have hw1 := within44 (bl.length : Nat) 1 4096
  by_cases h1 : 1 ≤ bl.length ∧ bl.length ≤ 4096
  · have e1 : winF (bl.length : Nat) 1 4096 = true := decide_eq_true (by omega)
    rw [e1] at hw1
    rw [decide_eq_true h1]
    have H46' := fun W hW => H46.out W hW h1.2
    clear H46 e1 h1
    unfold Fn.val at *
    dsimp only at *
    by_cases h2 : sumF bl ≤ 65536
    · rw [decide_eq_true h2]
      generalize sumF bl = s at *
      have hw2 := within44 ps 0 12
      cases q2 : winF ps 0 12
      · rw [q2] at hw2
        clear q2
        go_enter Try.func38, Try.ntmps38
        go_wp2_with (first
          | (go_at_call 36; with_reducible refine (hw1 _).mono ?_; rintro e1 w1 ⟨rfl, rfl⟩)
          | (go_at_call 36; with_reducible refine (hw2 _).mono ?_; rintro e1 w1 ⟨rfl, rfl⟩)
          | (go_at_call 60; refine (H46' _ (below1 _ _)).mono ?_; rintro e1 w2 ⟨rfl, hb2⟩; obtain ⟨hc2, hf2⟩ := bcell hb2; have hs2 := hb2.size))
        go_ret
        exact ⟨rfl, below_up (below1 _ _) hb2⟩
      · rw [q2] at hw2
        clear q2
        have hw3 := within44 rs ps 65536
        cases q3 : winF rs ps 65536
        · rw [q3] at hw3
          clear q3
          go_enter Try.func38, Try.ntmps38
          go_wp2_with (first
            | (go_at_call 36; with_reducible refine (hw1 _).mono ?_; rintro e1 w1 ⟨rfl, rfl⟩)
            | (go_at_call 36; with_reducible refine (hw2 _).mono ?_; rintro e1 w1 ⟨rfl, rfl⟩)
            | (go_at_call 36; with_reducible refine (hw3 _).mono ?_; rintro e1 w1 ⟨rfl, rfl⟩)
            | (go_at_call 60; refine (H46' _ (below1 _ _)).mono ?_; rintro e1 w2 ⟨rfl, hb2⟩; obtain ⟨hc2, hf2⟩ := bcell hb2; have hs2 := hb2.size))
          go_ret
          exact ⟨rfl, below_up (below1 _ _) hb2⟩
        · rw [q3] at hw3
          clear q3
          have hw4 := within44 sl 0 65536
          cases q4 : winF sl 0 65536
          · rw [q4] at hw4
            clear q4
            go_enter Try.func38, Try.ntmps38
            go_wp2_with (first
              | (go_at_call 36; with_reducible refine (hw1 _).mono ?_; rintro e1 w1 ⟨rfl, rfl⟩)
              | (go_at_call 36; with_reducible refine (hw2 _).mono ?_; rintro e1 w1 ⟨rfl, rfl⟩)
              | (go_at_call 36; with_reducible refine (hw3 _).mono ?_; rintro e1 w1 ⟨rfl, rfl⟩)
              | (go_at_call 36; with_reducible refine (hw4 _).mono ?_; rintro e1 w1 ⟨rfl, rfl⟩)
              | (go_at_call 60; refine (H46' _ (below1 _ _)).mono ?_; rintro e1 w2 ⟨rfl, hb2⟩; obtain ⟨hc2, hf2⟩ := bcell hb2; have hs2 := hb2.size))
            go_ret
            exact ⟨rfl, below_up (below1 _ _) hb2⟩
          · have hsl : 0 ≤ sl ∧ sl ≤ 65536 := of_decide_eq_true q4
            rw [q4] at hw4
            clear q4
            obtain ⟨hsl1, hsl2⟩ := hsl
            go_enter Try.func38, Try.ntmps38
            go_wp2_with (first
              | (go_at_call 36; with_reducible refine (hw1 _).mono ?_; rintro e1 w1 ⟨rfl, rfl⟩)
              | (go_at_call 36; with_reducible refine (hw2 _).mono ?_; rintro e1 w1 ⟨rfl, rfl⟩)
              | (go_at_call 36; with_reducible refine (hw3 _).mono ?_; rintro e1 w1 ⟨rfl, rfl⟩)
              | (go_at_call 36; with_reducible refine (hw4 _).mono ?_; rintro e1 w1 ⟨rfl, rfl⟩)
              | (go_at_call 60; refine (H46' _ (below1 _ _)).mono ?_; rintro e1 w2 ⟨rfl, hb2⟩; obtain ⟨hc2, hf2⟩ := bcell hb2; have hs2 := hb2.size))
            go_ret
            refine ⟨?_, below_up (below1 _ _) hb2⟩
            simp
            rfl
    · rw [decide_eq_false h2]
      have h2' : ¬ (sumF bl : Int) ≤ 65536 := by omega
      generalize sumF bl = s at *
      go_enter Try.func38, Try.ntmps38
      go_wp2_with (first
        | (go_at_call 36; with_reducible refine (hw1 _).mono ?_; rintro e1 w1 ⟨rfl, rfl⟩)
        | (go_at_call 60; refine (H46' _ (below1 _ _)).mono ?_; rintro e1 w2 ⟨rfl, hb2⟩; obtain ⟨hc2, hf2⟩ := bcell hb2; have hs2 := hb2.size))
      go_ret
      exact ⟨rfl, below_up (below1 _ _) hb2⟩
  · have e1 : winF (bl.length : Nat) 1 4096 = false := decide_eq_false (by omega)
    rw [e1] at hw1
    rw [decide_eq_false h1]
    unfold Fn.val
    clear e1 h1 H46
    go_enter Try.func38, Try.ntmps38
    go_wp2_with (go_at_call 36; with_reducible refine (hw1 _).mono ?_; rintro e1 w1 ⟨rfl, rfl⟩)
    go_ret
    exact ⟨rfl, below1 _ _⟩
end Go.Proofs.Ytiehlkhpblldaaa
