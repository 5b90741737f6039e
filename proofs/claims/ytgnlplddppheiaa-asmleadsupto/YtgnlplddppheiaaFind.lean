/- findLabels: the map of labels. -/
import Derived.Test.YtgnlplddppheiaaKept
import Derived.Test.YtgnlplddppheiaaLab
import Derived.Test.YtgnlplddppheiaaHolds
import Derived.Maps.OwnOps
import Derived.Test.YtgnlplddppheiaaQuiet
namespace Go.Proofs.Ytgnlplddppheiaa
open Go.RowKit Go.Maps
set_option linter.unusedVariables false

def Ln.cells (x : Ln) : List Value := [.int .i64 x.label, .int .i64 x.op, .int .i64 x.d, .int .i64 x.a, .int .i64 x.b, .int .i32 x.imm, .int .i64 x.to]
/-- A line's numbers are in their ranges. -/
structure Ln.wf (x : Ln) : Prop where
  l0 : -9223372036854775808 ≤ x.label
  l1 : x.label ≤ 9223372036854775807
  t0 : -9223372036854775808 ≤ x.to
  t1 : x.to ≤ 9223372036854775807
  i0 : -2147483648 ≤ x.imm
  i1 : x.imm ≤ 2147483647

/-- A block's cells are lines. -/
def LnsAt (w : World) (b : Nat) (ls : List Ln) : Prop := ∀ i (h : i < ls.length), w.cell? ⟨b, i * 7, none⟩ = some (.int .i64 ls[i].label) ∧ w.cell? ⟨b, i * 7 + 1, none⟩ = some (.int .i64 ls[i].op) ∧ w.cell? ⟨b, i * 7 + 2, none⟩ = some (.int .i64 ls[i].d) ∧
  w.cell? ⟨b, i * 7 + 3, none⟩ = some (.int .i64 ls[i].a) ∧ w.cell? ⟨b, i * 7 + 4, none⟩ = some (.int .i64 ls[i].b) ∧ w.cell? ⟨b, i * 7 + 5, none⟩ = some (.int .i32 ls[i].imm) ∧ w.cell? ⟨b, i * 7 + 6, none⟩ = some (.int .i64 ls[i].to)
/-- A slice is lines. -/
def IsLns (w : World) (v : Value) (ls : List Ln) : Prop := ls.length ≤ 2000000 ∧ (∀ x ∈ ls, x.wf) ∧
  ((ls = [] ∧ ∃ ao cap, v = .slice ao 0 cap) ∨ (1 ≤ ls.length ∧ ∃ b cap, v = .slice (some ⟨b, 0, none⟩) ls.length cap ∧ b < w.heap.size ∧ LnsAt w b ls))

theorem LnsAt.below {w w' : World} {b : Nat} {ls : List Ln} (h : LnsAt w b ls) (hb : Below w.heap.size w w') (hl : b < w.heap.size) : LnsAt w' b ls := fun i hi => by
  obtain ⟨h0, h1, h2, h3, h4, h5, h6⟩ := h i hi
  have B := fun o => hb.cell (p := ⟨b, o, none⟩) hl
  exact ⟨(B _).trans h0, (B _).trans h1, (B _).trans h2, (B _).trans h3, (B _).trans h4, (B _).trans h5, (B _).trans h6⟩
theorem IsLns.below {w w' : World} {v : Value} {ls : List Ln} (h : IsLns w v ls) (hb : Below w.heap.size w w') : IsLns w' v ls := by
  obtain ⟨h1, h2, h3 | ⟨h3, b, cap, hv, hl, ha⟩⟩ := h
  · exact ⟨h1, h2, .inl h3⟩
  · exact ⟨h1, h2, .inr ⟨h3, b, cap, hv, Nat.lt_of_lt_of_le hl hb.size, ha.below hb hl⟩⟩

/-- A block is a map of numbers to numbers. -/
def IsMapL (w : World) (mb : Nat) (n s : Nat) (f : Int → Option Nat) : Prop := ∃ D : DataW Unit, w.ownsMap Try.prog 3 (plainElem Try.prog 3) mb n D ∧ Maps.size D = s ∧
  ∀ k : Int, Maps.has D (.int .i64 k) = (f k).isSome ∧ D.atKey (.int .i64 k) (.lit (.int .i64 0)) = .lit (.int .i64 (((f k).getD 0 : Nat) : Int))

theorem law3 : Keyed Try.prog 3 := int_keyed Try.underlying3
theorem zero3 (w : World) : (zeroValue 3).run Try.prog w = .ok (.int .i64 0) w := by kernel_rfl

theorem IsMapL.made (w : World) : IsMapL (w.alloc (.map #[] 0)) w.heap.size 0 0 (fun _ => none) :=
  ⟨.map [], World.ownsMap_made _ _ _ _, rfl, fun k => ⟨rfl, rfl⟩⟩
theorem IsMapL.kept {w w' : World} {mb n s : Nat} {f : Int → Option Nat} {S : Nat → Prop} (h : IsMapL w mb n s f) (k : Kept S w w') (hn : ¬ S mb) : IsMapL w' mb n s f := by
  obtain ⟨D, ho, r⟩ := h
  exact ⟨D, k.omap ho hn, r⟩
theorem IsMapL.alloc {w : World} {mb n s : Nat} {f : Int → Option Nat} (h : IsMapL w mb n s f) (o : Obj) : IsMapL (w.alloc o) mb n s f := h.kept (S := fun _ => False) ((Kept.rfl _ w).alloc o) (fun e => e)
theorem IsMapL.lt {w : World} {mb n s : Nat} {f : Int → Option Nat} (h : IsMapL w mb n s f) : mb < w.heap.size := by obtain ⟨D, ho, _⟩ := h; exact ho.lt

theorem wf64 {k : Int} (h0 : -9223372036854775808 ≤ k) (h1 : k ≤ 9223372036854775807) : (Lit.int .i64 k).wf = true := WalkArith.wf_i64 (by omega)

/-- One key more. -/
theorem IsMapL.put {w w' : World} {mb n s : Nat} {f : Int → Option Nat} {D : DataW Unit} {k : Int} {p : Nat} (hs : Maps.size D = s) (hf : ∀ k : Int, Maps.has D (.int .i64 k) = (f k).isSome ∧ D.atKey (.int .i64 k) (.lit (.int .i64 0)) = .lit (.int .i64 (((f k).getD 0 : Nat) : Int)))
    (hD : w.ownsMap Try.prog 3 (plainElem Try.prog 3) mb n D) (hn : f k = none) (ho : w'.ownsMap Try.prog 3 (plainElem Try.prog 3) mb (n + 1) (D.put (.int .i64 k) (.lit (.int .i64 (p : Int))))) :
    IsMapL w' mb (n + 1) (s + 1) (fun j => if j = k then some p else f j) := by
  have hk : WideAt.IsKeyLit (.int .i64 k) := by unfold WideAt.IsKeyLit; trivial
  refine ⟨_, ho, ?_, fun j => ?_⟩
  · rw [size_put (hD.tidy law3), (hf k).1, hn]
    simp [hs]
  · by_cases e : j = k
    · subst e
      simp only [if_true]
      exact ⟨has_put_same hD.isMap hk _, atKey_put_same hD.isMap hk _ _⟩
    · simp only [e, if_false]
      rw [has_put_other (by simpa using e), atKey_put_other (by simpa using e)]
      exact hf j

set_option maxHeartbeats 1000000 in
theorem index46_none (ao : Option Addr) (cap : Nat) (f : Value) (w : World) :
    Calls Try.prog 46 #[.slice ao 0 cap, f] w fun e w' => e = .returned (.int .i64 (-1)) ∧ w' = w := by
  go_enter Try.func46, Try.ntmps46
  go_wp2
  refine wp_loop_rounds 1 ?_
  rw [rounds_succ]
  go_wp2
  go_ret
  exact ⟨rfl, rfl⟩

theorem contains35_none (ao : Option Addr) (cap : Nat) (f : Value) (w : World) :
    Calls Try.prog 35 #[.slice ao 0 cap, f] w fun e w' => e = .returned (.bool false) ∧ w' = w := by
  go_enter Try.func35, Try.ntmps35
  go_wp2_with (go_at_call 46; refine (index46_none _ _ _ _).mono ?_; rintro e w1 ⟨rfl, rfl⟩)
  go_ret
  exact ⟨rfl, rfl⟩

theorem contains35 {w : World} {v : Value} {ls : List Ln} (h : IsLns w v ls) :
    Calls Try.prog 35 #[v, .func (.func 36) #[] #[]] w fun e w' => e = .returned (.bool (ls.any fun x => !x.ok)) ∧ Below w.heap.size w w' := by
  obtain ⟨h1, h2, ⟨rfl, ao, cap, rfl⟩ | ⟨h3, b, cap, rfl, hl, ha⟩⟩ := h
  · refine (contains35_none _ _ _ _).mono ?_
    rintro e w' ⟨rfl, rfl⟩
    exact ⟨rfl, Below.refl _ _⟩
  · have eg : ∀ args w, (callFunc 36 args).run Try.prog w = .ok (.enter 36 args) w := enters_of Try.func36 (by kernel_rfl) rfl
    haveI : Inhabited Ln := ⟨⟨0, 0, 0, 0, 0, 0, 0⟩⟩
    have hcon := AnyQ.slices_ContainsFunc (α := Ln) Try.holdsL 7 Try.isAgg40 Try.sizeOf40 Ln.cells (fun _ => rfl) (fun x => !x.ok) 36 #[] eg b 0 ls.length cap ls w
      (fun W x hb => (notLine36 x W).mono (fun e w' ⟨he, hb'⟩ => ⟨he, hb.trans (hb'.mono hb.size)⟩)) (Nat.le_refl _) (by omega) hl (fun j hj i z hz => by
        rw [getElem!_pos ls j hj] at hz
        obtain ⟨c0, c1, c2, c3, c4, c5, c6⟩ := ha j hj
        have hi : i < 7 := by
          have := (List.getElem?_eq_some_iff.1 hz).1
          simpa [Ln.cells] using this
        have : i = 0 ∨ i = 1 ∨ i = 2 ∨ i = 3 ∨ i = 4 ∨ i = 5 ∨ i = 6 := by omega
        rcases this with rfl | rfl | rfl | rfl | rfl | rfl | rfl <;> simp [Ln.cells] at hz <;> subst hz <;> simpa using by assumption)
    change Calls Try.prog 35 _ _ _ at hcon
    rw [List.take_of_length_le (Nat.le_refl _)] at hcon
    exact hcon
end Go.Proofs.Ytgnlplddppheiaa
