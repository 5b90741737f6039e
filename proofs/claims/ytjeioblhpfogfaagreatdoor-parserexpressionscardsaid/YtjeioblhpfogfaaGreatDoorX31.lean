/- The document's parser: operators, casts, places. -/
import Derived.Test.YtjeioblhpfogfaaGreatDoorX30
set_option linter.unusedVariables false
set_option linter.unusedSimpArgs false
set_option maxRecDepth 20000
set_option maxHeartbeats 8000000
namespace Go.Proofs.YtjeioblhpfogfaaGreatDoor
open Go.RowKit

def opL : List (List UInt8) := [[124, 124], [38, 38], [124], [94], [38], [61, 61], [33, 61], [60], [62], [60, 61], [62, 61], [60, 60], [62, 62], [43], [45], [42], [47], [37]]
def asgL : List ByteArray := [⟨#[61]⟩, ⟨#[43, 61]⟩, ⟨#[45, 61]⟩, ⟨#[42, 61]⟩, ⟨#[47, 61]⟩, ⟨#[37, 61]⟩, ⟨#[38, 61]⟩, ⟨#[124, 61]⟩, ⟨#[94, 61]⟩, ⟨#[60, 60, 61]⟩, ⟨#[62, 62, 61]⟩]
def asgB : List (List UInt8) := [[61], [43, 61], [45, 61], [42, 61], [47, 61], [37, 61], [38, 61], [124, 61], [94, 61], [60, 60, 61], [62, 62, 61]]
theorem level95_s {w : World} {p k : Nat} {toks : List Tk} {tv : Value} {b : Bool} {q : Int} {lv : Int} (hk : (tk toks k).kind = 4) (he : ((tk toks k).text, lv) ∈ opTab) (h : RS w p toks tv k b q) :
    Calls Tryz.prog 95 #[.pointer (some ⟨p, 0, none⟩)] w fun e w' => e = .returned (.int .i64 lv) ∧ Below w.heap.size w w' := by
  have H0 := hid' h
  have hf0 := fld42_0
  have hf1 := fld42_1
  clear h
  simp only [opTab, List.mem_cons, Prod.mk.injEq, List.not_mem_nil, or_false] at he
  rcases he with ⟨ht, rfl⟩ | ⟨ht, rfl⟩ | ⟨ht, rfl⟩ | ⟨ht, rfl⟩ | ⟨ht, rfl⟩ | ⟨ht, rfl⟩ | ⟨ht, rfl⟩ | ⟨ht, rfl⟩ | ⟨ht, rfl⟩ | ⟨ht, rfl⟩ | ⟨ht, rfl⟩ | ⟨ht, rfl⟩ | ⟨ht, rfl⟩ | ⟨ht, rfl⟩ | ⟨ht, rfl⟩ | ⟨ht, rfl⟩ | ⟨ht, rfl⟩ | ⟨ht, rfl⟩
  all_goals
    go_enter Tryz.func95, Tryz.ntmps95
    go_wp2_with (first
      | (go_at_call 21; (with_reducible refine (now21 H1.out).mono ?_); rintro e w2 ⟨rfl, hb⟩; have b2 := hid' (below_on b1.out hb); clear hb)
      | (go_at_call 21; (with_reducible refine (now21 H0.out).mono ?_); rintro e w1 ⟨rfl, hb⟩; have H1 := hid' (H0.out.below hb); have b1 := hid' hb; clear hb))
    go_ret
    exact ⟨rfl, b2.out⟩
theorem level95_d {w : World} {p k : Nat} {toks : List Tk} {tv : Value} {b : Bool} {q : Int} {sx : ByteArray} (hk : (tk toks k).kind = 4) (ht : (tk toks k).text = sx) (hn : ∀ e ∈ opL, ¬ sx = ⟨e.toArray⟩) (h : RS w p toks tv k b q) :
    Calls Tryz.prog 95 #[.pointer (some ⟨p, 0, none⟩)] w fun e w' => e = .returned (.int .i64 0) ∧ Below w.heap.size w w' := by
  have H0 := hid' h
  have hf0 := fld42_0
  have hf1 := fld42_1
  have hT : ∀ e ∈ opL, (sx.toList == e) = false := fun e he => toList_ne' (hn e he)
  simp only [opL, List.forall_mem_cons, List.not_mem_nil, false_implies, implies_true, and_true] at hT
  obtain ⟨t0, t1, t2, t3, t4, t5, t6, t7, t8, t9, t10, t11, t12, t13, t14, t15, t16, t17⟩ := hT
  clear h hn
  go_enter Tryz.func95, Tryz.ntmps95
  go_wp2_with (first
    | (go_at_call 21; (with_reducible refine (now21 H1.out).mono ?_); rintro e w2 ⟨rfl, hb⟩; have b2 := hid' (below_on b1.out hb); clear hb)
    | (go_at_call 21; (with_reducible refine (now21 H0.out).mono ?_); rintro e w1 ⟨rfl, hb⟩; have H1 := hid' (H0.out.below hb); have b1 := hid' hb; clear hb))
  go_ret
  exact ⟨rfl, b2.out⟩
theorem level95_n {w : World} {p k : Nat} {toks : List Tk} {tv : Value} {b : Bool} {q : Int} {kd : Int} (hk : (tk toks k).kind = kd) (hne : (kd != 4) = true) (h : RS w p toks tv k b q) :
    Calls Tryz.prog 95 #[.pointer (some ⟨p, 0, none⟩)] w fun e w' => e = .returned (.int .i64 0) ∧ Below w.heap.size w w' := by
  have H0 := hid' h
  have hf0 := fld42_0
  have hf1 := fld42_1
  clear h
  go_enter Tryz.func95, Tryz.ntmps95
  go_wp2_with (first
    | (go_at_call 21; (with_reducible refine (now21 H0.out).mono ?_); rintro e w1 ⟨rfl, hb⟩; have H1 := hid' (H0.out.below hb); have b1 := hid' hb; clear hb))
  go_ret
  exact ⟨rfl, b1.out⟩
theorem assigns52_s {w : World} {p k : Nat} {toks : List Tk} {tv : Value} {b : Bool} {q : Int} (hk : (tk toks k).kind = 4) (he : (tk toks k).text ∈ asgL) (h : RS w p toks tv k b q) :
    Calls Tryz.prog 52 #[.pointer (some ⟨p, 0, none⟩)] w fun e w' => e = .returned (.bool true) ∧ Below w.heap.size w w' := by
  have H0 := hid' h
  have hf0 := fld42_0
  have hf1 := fld42_1
  clear h
  simp only [asgL, List.mem_cons, List.not_mem_nil, or_false] at he
  rcases he with ht | ht | ht | ht | ht | ht | ht | ht | ht | ht | ht
  all_goals
    go_enter Tryz.func52, Tryz.ntmps52
    go_wp2_with (first
      | (go_at_call 21; (with_reducible refine (now21 H1.out).mono ?_); rintro e w2 ⟨rfl, hb⟩; have b2 := hid' (below_on b1.out hb); clear hb)
      | (go_at_call 21; (with_reducible refine (now21 H0.out).mono ?_); rintro e w1 ⟨rfl, hb⟩; have H1 := hid' (H0.out.below hb); have b1 := hid' hb; clear hb))
    go_ret
    exact ⟨rfl, b2.out⟩
theorem assigns52_d {w : World} {p k : Nat} {toks : List Tk} {tv : Value} {b : Bool} {q : Int} {sx : ByteArray} (hk : (tk toks k).kind = 4) (ht : (tk toks k).text = sx) (hn : ∀ e ∈ asgB, ¬ sx = ⟨e.toArray⟩) (h : RS w p toks tv k b q) :
    Calls Tryz.prog 52 #[.pointer (some ⟨p, 0, none⟩)] w fun e w' => e = .returned (.bool false) ∧ Below w.heap.size w w' := by
  have H0 := hid' h
  have hf0 := fld42_0
  have hf1 := fld42_1
  have hT : ∀ e ∈ asgB, (sx.toList == e) = false := fun e he => toList_ne' (hn e he)
  simp only [asgB, List.forall_mem_cons, List.not_mem_nil, false_implies, implies_true, and_true] at hT
  obtain ⟨t0, t1, t2, t3, t4, t5, t6, t7, t8, t9, t10⟩ := hT
  clear h hn
  go_enter Tryz.func52, Tryz.ntmps52
  go_wp2_with (first
    | (go_at_call 21; (with_reducible refine (now21 H1.out).mono ?_); rintro e w2 ⟨rfl, hb⟩; have b2 := hid' (below_on b1.out hb); clear hb)
    | (go_at_call 21; (with_reducible refine (now21 H0.out).mono ?_); rintro e w1 ⟨rfl, hb⟩; have H1 := hid' (H0.out.below hb); have b1 := hid' hb; clear hb))
  go_ret
  exact ⟨rfl, b2.out⟩
theorem assigns52_n {w : World} {p k : Nat} {toks : List Tk} {tv : Value} {b : Bool} {q : Int} {kd : Int} (hk : (tk toks k).kind = kd) (hne : (kd != 4) = true) (h : RS w p toks tv k b q) :
    Calls Tryz.prog 52 #[.pointer (some ⟨p, 0, none⟩)] w fun e w' => e = .returned (.bool false) ∧ Below w.heap.size w w' := by
  have H0 := hid' h
  have hf0 := fld42_0
  have hf1 := fld42_1
  clear h
  go_enter Tryz.func52, Tryz.ntmps52
  go_wp2_with (first
    | (go_at_call 21; (with_reducible refine (now21 H0.out).mono ?_); rintro e w1 ⟨rfl, hb⟩; have H1 := hid' (H0.out.below hb); have b1 := hid' hb; clear hb))
  go_ret
  exact ⟨rfl, b1.out⟩
theorem levFrom_off (sx : ByteArray) : ∀ l : List (ByteArray × Int), (∀ e ∈ l, ¬ sx = e.1) → levFrom sx l = 0
  | [], _ => rfl
  | e :: r, h => by
    rw [levFrom, if_neg, levFrom_off sx r fun x hx => h x (List.mem_cons_of_mem _ hx)]
    intro e1
    rw [beq_iff_eq, toList_data, toList_data] at e1
    apply h e (List.mem_cons_self ..)
    obtain ⟨⟨⟨a⟩⟩, l⟩ := e
    cases sx with
    | mk d =>
      cases d
      simp at e1
      subst e1
      rfl
theorem lev_low {sx : ByteArray} (h : lowB sx = true) : levF sx = 0 := levFrom_off sx opTab fun e he e1 => by
  rw [e1] at h
  simp only [opTab, List.mem_cons, List.not_mem_nil, or_false] at he
  rcases he with he | he | he | he | he | he | he | he | he | he | he | he | he | he | he | he | he | he <;> subst he <;> cases h
theorem sign_not {toks : List Tk} {k : Nat} (hW : TokW toks) (hk : k < toks.length) (h4 : ¬ (tk toks k).kind = 4) : lowB (signAt toks k) = true ∨ signAt toks k = ⟨#[]⟩ := by
  rw [sign_of hk]
  split
  · rename_i h
    exact .inl (hW.wd k (h.resolve_left h4))
  · exact .inr rfl
theorem lev_of {sx : ByteArray} {lv : Int} (h : (sx, lv) ∈ opTab) : levF sx = lv := by
  simp only [opTab, List.mem_cons, Prod.mk.injEq, List.not_mem_nil, or_false] at h
  rcases h with ⟨rfl, rfl⟩ | ⟨rfl, rfl⟩ | ⟨rfl, rfl⟩ | ⟨rfl, rfl⟩ | ⟨rfl, rfl⟩ | ⟨rfl, rfl⟩ | ⟨rfl, rfl⟩ | ⟨rfl, rfl⟩ | ⟨rfl, rfl⟩ | ⟨rfl, rfl⟩ | ⟨rfl, rfl⟩ | ⟨rfl, rfl⟩ | ⟨rfl, rfl⟩ | ⟨rfl, rfl⟩ | ⟨rfl, rfl⟩ | ⟨rfl, rfl⟩ | ⟨rfl, rfl⟩ | ⟨rfl, rfl⟩ <;> simp [levF, levFrom, opTab, toList_data]
theorem level95 {w : World} {p k : Nat} {toks : List Tk} {tv : Value} {b : Bool} {q : Int} (hW : TokW toks) (h : RS w p toks tv k b q) :
    Calls Tryz.prog 95 #[.pointer (some ⟨p, 0, none⟩)] w fun e w' => e = .returned (.int .i64 (levF (signAt toks k))) ∧ Below w.heap.size w w' := by
  by_cases hk : (tk toks k).kind = 4
  · have hs : signAt toks k = (tk toks k).text := by rw [sign_of h.at_, if_pos (.inl hk)]
    by_cases he : ∃ lv, ((tk toks k).text, lv) ∈ opTab
    · obtain ⟨lv, he⟩ := he
      rw [show levF (signAt toks k) = lv by rw [hs]; exact lev_of he]
      exact level95_s hk he h
    · rw [show levF (signAt toks k) = 0 by rw [hs]; exact levFrom_off _ opTab (fun e hm e1 => he ⟨e.2, by rw [e1]; exact hm⟩)]
      refine level95_d hk rfl (fun e hm e1 => he ?_) h
      rw [e1]
      simp only [opL, List.mem_cons, List.not_mem_nil, or_false] at hm
      rcases hm with rfl | rfl | rfl | rfl | rfl | rfl | rfl | rfl | rfl | rfl | rfl | rfl | rfl | rfl | rfl | rfl | rfl | rfl <;> simp [opTab]
  · rw [show levF (signAt toks k) = 0 by rcases sign_not hW h.at_ hk with h1 | h1; exact lev_low h1; rw [h1]; exact lev_none]
    exact level95_n rfl (by simpa using hk) h
theorem asg_low {sx : ByteArray} (h : lowB sx = true) : asgW sx = false := by
  have hn : ∀ l : List UInt8, lowB ⟨l.toArray⟩ = false → (sx.toList == l) = false := fun l hl => toList_ne' (fun e => by rw [e, hl] at h; cases h)
  unfold asgW
  rw [hn [61] rfl, hn [43, 61] rfl, hn [45, 61] rfl, hn [42, 61] rfl, hn [47, 61] rfl, hn [37, 61] rfl, hn [38, 61] rfl, hn [124, 61] rfl, hn [94, 61] rfl, hn [60, 60, 61] rfl, hn [62, 62, 61] rfl]
  rfl
theorem assigns52 {w : World} {p k : Nat} {toks : List Tk} {tv : Value} {b : Bool} {q : Int} (hW : TokW toks) (h : RS w p toks tv k b q) :
    Calls Tryz.prog 52 #[.pointer (some ⟨p, 0, none⟩)] w fun e w' => e = .returned (.bool (asgW (signAt toks k))) ∧ Below w.heap.size w w' := by
  by_cases hk : (tk toks k).kind = 4
  · have hs : signAt toks k = (tk toks k).text := by rw [sign_of h.at_, if_pos (.inl hk)]
    by_cases he : (tk toks k).text ∈ asgL
    · rw [show asgW (signAt toks k) = true by
        rw [hs]
        generalize (tk toks k).text = sx at he
        simp only [asgL, List.mem_cons, List.not_mem_nil, or_false] at he
        rcases he with rfl | rfl | rfl | rfl | rfl | rfl | rfl | rfl | rfl | rfl | rfl <;> simp [asgW, toList_data]]
      exact assigns52_s hk he h
    · have hn : ∀ e ∈ asgB, ¬ (tk toks k).text = ⟨e.toArray⟩ := fun e hm e1 => he (by
        rw [e1]
        simp only [asgB, List.mem_cons, List.not_mem_nil, or_false] at hm
        rcases hm with rfl | rfl | rfl | rfl | rfl | rfl | rfl | rfl | rfl | rfl | rfl <;> simp [asgL])
      rw [show asgW (signAt toks k) = false by
        rw [hs]
        have hT : ∀ e ∈ asgB, ((tk toks k).text.toList == e) = false := fun e he => toList_ne' (hn e he)
        simp only [asgB, List.forall_mem_cons, List.not_mem_nil, false_implies, implies_true, and_true] at hT
        obtain ⟨a0, a1, a2, a3, a4, a5, a6, a7, a8, a9, a10⟩ := hT
        unfold asgW
        rw [a0, a1, a2, a3, a4, a5, a6, a7, a8, a9, a10]
        rfl]
      exact assigns52_d hk rfl hn h
  · rw [show asgW (signAt toks k) = false by rcases sign_not hW h.at_ hk with h1 | h1; exact asg_low h1; rw [h1]; simp [asgW, toList_data]]
    exact assigns52_n rfl (by simpa using hk) h
end Go.Proofs.YtjeioblhpfogfaaGreatDoor
