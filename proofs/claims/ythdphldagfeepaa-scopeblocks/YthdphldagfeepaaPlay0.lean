/- play: a name laid in both scopes. -/
import Derived.Test.YthdphldagfeepaaPlayA
namespace Go.Proofs.Ythdphldagfeepaa
open Go.RowKit Go.Maps
set_option linter.unusedVariables false
set_option linter.unusedSimpArgs false

/-- What the program does leaves an act's box as it was. -/
theorem keepsA {B b : Nat} {w w' : World} {cs : Array Value} {f : Nat × Nat} (h : KP B w w') (hb : w.heap[b]? = some (.cells cs 29 f)) : ∀ o, w'.cell? ⟨b, o, none⟩ = w.cell? ⟨b, o, none⟩ := fun o => by
  refine Kept.cell h (Array.getElem?_eq_some_iff.1 hb).1 ?_
  rintro ⟨_, ⟨_, _, e⟩ | ⟨_, _, e⟩ | ⟨_, _, e⟩⟩ <;> (rw [hb] at e; cases e)

section
variable {w : World} {B C p q M k : Nat} {g : Blocks} {L : List Ent} {N x : Int} {s : ByteArray}
set_option maxHeartbeats 8000000 in
theorem play_0 (hS : Sc w B p M (k + 1) g) (hR : Rc w C q L N) (hs : s.size ≤ 140737488351232) (hx : (Lit.int .i64 x).wf = true) (hM : M ≤ 10000000000000) (hl : L.length * 32 ≤ 140737488351232) :
    Calls Try.prog 8 #[.pointer (some ⟨p, 0, none⟩), .pointer (some ⟨q, 0, none⟩), .agg #[.int .i64 0, .string s, .int .i64 x]] w (PlayOk w B C p q M (k + 1) g L N 0 s x) := by
  have hb := (box_below w (boxA 0 s x)).drew
  have HS := hid' (hS.below hb)
  have HR := hid' (hR.below hb)
  have HB : Hid (KB B C w ((w.alloc (boxA 0 s x)).drew)) := KB.of_below hb
  have hnew : ((w.alloc (boxA 0 s x)).drew).heap[w.heap.size]? = some (.cells #[.int .i64 0, .string s, .int .i64 x] 29 (0, 0)) := heap_alloc_new w _
  have HN := hid' hnew
  clear hS hR hb hnew
  go_enter Try.func8, Try.ntmps8
  go_wp2
  go_region_with (first
    | (go_at_call 15; with_reducible refine (declare15 HS.out s hs x hx hM).mono ?_; rintro e1 w1 ⟨rfl, hS1, hK1⟩; have hk1 := keepsA hK1 HN.out; replace hS1 := hid' hS1; have hR1 := hid' (HR.out.keepP hK1); replace hK1 := hid' hK1)
    | (go_at_call 16; with_reducible refine (rdecl hR1.out s x hl).mono ?_; rintro e2 w2 ⟨rfl, hR2, hK2⟩; have hS2 := hid' (hS1.out.keepR hK2); replace hR2 := hid' hR2; replace hK2 := hid' hK2; clear hk1))
  all_goals (go_wp2; go_ret; refine ⟨_, rfl, fun h => ?_, hS2.out, hR2.out, ?_⟩)
  all_goals first
    | (have := h.1 rfl; rw [show k + 1 - 1 = k from rfl] at this; rw [this]; simp)
    | exact (HB.out.trans hK1.out.both).trans hK2.out.both
end
end Go.Proofs.Ythdphldagfeepaa
