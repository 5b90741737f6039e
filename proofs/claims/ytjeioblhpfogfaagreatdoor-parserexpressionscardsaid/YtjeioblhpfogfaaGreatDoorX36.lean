/- The document's parser: does a type within parentheses come? -/
import Derived.Test.YtjeioblhpfogfaaGreatDoorX30
import Derived.Deep.RegionWith
set_option linter.unusedVariables false
set_option linter.unusedSimpArgs false
set_option maxRecDepth 20000
set_option maxHeartbeats 8000000
namespace Go.Proofs.YtjeioblhpfogfaaGreatDoor
open Go.RowKit

theorem RS.fork {w : World} {p k : Nat} {toks : List Tk} {tv : Value} {b : Bool} {q : Int} (h : RS w p toks tv k b q) (hn : k + 1 < toks.length) : RS (w.alloc (.cells #[tv, .int .i64 ((k : Int) + 1), .bool false, .int .i64 0] 49)) w.heap.size toks tv (k + 1) false 0 :=
  ⟨heap_alloc_new w _, owns_below h.tok (below1 w _), hn, h.few⟩
theorem cast139_n {w : World} {p k : Nat} {toks : List Tk} {tv : Value} {b : Bool} {q : Int} (hW : TokW toks) (hd : decide (signAt toks k = ⟨#[40]⟩) = false) (h : RS w p toks tv k b q) :
    Calls Tryz.prog 139 #[.pointer (some ⟨p, 0, none⟩)] w fun e w' => e = .returned (.bool false) ∧ Below w.heap.size w w' := by
  have H0 := hid' h
  obtain ⟨ao, cap, htv⟩ : ∃ ao cap, tv = .slice ao toks.length cap := by
    obtain ⟨_, ⟨e, e2⟩ | ⟨g, cap, cur, e, _⟩⟩ := h.tok
    · exact ⟨_, _, by rw [e, e2]⟩
    · exact ⟨_, _, e⟩
  subst htv
  have H42 : ∀ t : After w, _ := fun t => Calls.after t (mark_b ⟨#[40]⟩ _ hW rfl (by simp) hd (H0.out.below t.2))
  clear h
  go_enter Tryz.func139, Tryz.ntmps139
  go_wp2
  have hne := after_some w
  refine region_after 15 mixed (by kernel_rfl) ?_
  simp only [List.take_succ_cons, List.take_zero, List.drop_succ_cons, List.drop_zero]

  repeat go_big_quiet_step (first | with_reducible exact H42 _)
  refine wpQuiet_nil ?_
  intro w5 hb5
  have HB5 := hid' hb5
  clear hb5
  go_wp2
  go_ret
  exact ⟨rfl, HB5.out⟩
theorem cast139_y {w : World} {p k : Nat} {toks : List Tk} {tv : Value} {b : Bool} {q : Int} (hW : TokW toks) (hT : TokOk toks) (hd : decide (signAt toks k = ⟨#[40]⟩) = true) (h : RS w p toks tv k b q) :
    Calls Tryz.prog 139 #[.pointer (some ⟨p, 0, none⟩)] w fun e w' => e = .returned (.bool (tyWord (signAt toks (k + 1)))) ∧ Below w.heap.size w w' := by
  have H0 := hid' h
  have hn : k + 1 < toks.length := hT.sign (by simpa using hd) (by simp)
  have hfew := h.few
  obtain ⟨ao, cap, htv⟩ : ∃ ao cap, tv = .slice ao toks.length cap := by
    obtain ⟨_, ⟨e, e2⟩ | ⟨g, cap, cur, e, _⟩⟩ := h.tok
    · exact ⟨_, _, by rw [e, e2]⟩
    · exact ⟨_, _, e⟩
  have HC : Hid (Calls Tryz.prog 42 #[.pointer (some ⟨p, 0, none⟩), .string ⟨#[40]⟩] w.drew fun e w' => e = .returned (.bool true) ∧ Below w.drew.heap.size w.drew w') := hid' (mark_b ⟨#[40]⟩ _ hW rfl (by simp) hd h.drew)
  subst htv
  have hl : ¬ (toks.length : Int) ≤ (k : Int) + 1 := by omega
  have hl2 : (k : Int) + 1 < toks.length := by omega
  have hw1 : IntKind.i64.wrap ((k : Int) + 1) = (k : Int) + 1 := Go.IntWalk.i64_in _ (by omega)
  clear h
  go_enter Tryz.func139, Tryz.ntmps139
  go_wp2
  first
    | go_region_with (first
        | (go_at_call 42; (with_reducible refine HC.out.mono ?_); rintro e w1 ⟨rfl, hb⟩; have H1 := hid' (H0.out.drew.below hb); obtain ⟨r0, r1, r2, r3, rl⟩ := H1.out.cells; have b1 := hid' (((Below.refl w.heap.size w).drew).trans hb); clear hb))
    | fail
  all_goals
    have HN := hid' hn
    go_wp2
    go_region
    go_wp2_with (first
      | (go_at_call 79; (with_reducible refine (types79 hW (H1.out.fork HN.out).drew).mono ?_); rintro e w2 ⟨rfl, hb⟩))
    go_ret
    exact ⟨rfl, below_on (below_on b1.out (below1 w1 _).drew) hb⟩
/-- Does a type within parentheses come? -/
def castB (toks : List Tk) (k : Nat) : Bool := if signAt toks k = ⟨#[40]⟩ then tyWord (signAt toks (k + 1)) else false
theorem cast_b {w : World} {p k : Nat} {toks : List Tk} {tv : Value} {b : Bool} {q : Int} (d : Bool) (hW : TokW toks) (hT : TokOk toks) (hd : castB toks k = d) (h : RS w p toks tv k b q) :
    Calls Tryz.prog 139 #[.pointer (some ⟨p, 0, none⟩)] w fun e w' => e = .returned (.bool d) ∧ Below w.heap.size w w' := by
  rw [← hd]
  unfold castB
  split
  · rename_i hc
    exact cast139_y hW hT (dec_yes hc) h
  · rename_i hc
    exact cast139_n hW (dec_no hc) h
end Go.Proofs.YtjeioblhpfogfaaGreatDoor
