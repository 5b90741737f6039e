/- A walk in depth: each node once, behind those that it leads to. -/
import Derived.Test.YtjhndnhldhmjnaaDoorRb
namespace Go.Proofs.YtjhndnhldhmjnaaDoor
open Go Go.RowKit Go.Maps
set_option linter.unusedVariables false
set_option linter.unusedSimpArgs false
def ints (l : List Nat) : List Int := l.map fun (n : Nat) => (n : Int)
theorem ints_len (l : List Nat) : (ints l).length = l.length := by simp [ints]
theorem ints_app (l m : List Nat) : ints (l ++ m) = ints l ++ ints m := by simp [ints]
def unseen (S : Nat → Bool) (n : Nat) : Nat := sumTo (fun k => if S k then 0 else 1) n
theorem unseen_le {S S' : Nat → Bool} {n : Nat} (h : ∀ x, x < n → S x = true → S' x = true) : unseen S' n ≤ unseen S n := sum_le n fun k hk => by
  by_cases c : S k = true
  · rw [if_pos c, if_pos (h k hk c)]; exact Nat.le_refl _
  · rw [if_neg c]; split <;> omega
theorem unseen_mark {S : Nat → Bool} {k : Nat} (hS : S k = false) : ∀ n, k < n → unseen (upd S k true) n + 1 = unseen S n
  | 0, h => absurd h (by omega)
  | n + 1, h => by
    unfold unseen sumTo
    by_cases e : k = n
    · subst e
      have : sumTo (fun j => if upd S k true j = true then 0 else 1) k = sumTo (fun j => if S j = true then 0 else 1) k := Nat.le_antisymm (sum_le k fun j hj => by rw [upd_ne _ _ (by omega : j ≠ k)]; exact Nat.le_refl _) (sum_le k fun j hj => by rw [upd_ne _ _ (by omega : j ≠ k)]; exact Nat.le_refl _)
      rw [this, upd_at, if_pos rfl, hS]
      rfl
    · have ih := unseen_mark hS n (by omega)
      unfold unseen at ih
      rw [upd_ne _ _ (Ne.symm e)]
      omega
/-- What a visit does to what is seen, and to the row of those that are left behind. -/
structure VisR (n : Nat) (S S' : Nat → Bool) (M : List Nat) : Prop where
  nd : M.Nodup
  un : ∀ x ∈ M, x < n ∧ S x = false
  se : ∀ x, x < n → S' x = (S x || decide (x ∈ M))
  le : M.length + unseen S' n ≤ unseen S n
theorem VisR.rfl' (n : Nat) (S : Nat → Bool) : VisR n S S [] := ⟨List.nodup_nil, (fun x h => by cases h), (fun x _ => by simp), by simp⟩
theorem VisR.trans {n : Nat} {S S1 S2 : Nat → Bool} {M N : List Nat} (h : VisR n S S1 M) (k : VisR n S1 S2 N) : VisR n S S2 (M ++ N) := by
  refine ⟨List.nodup_append.2 ⟨h.nd, k.nd, fun a ha b hb e => ?_⟩, fun x hx => ?_, fun x hx => ?_, ?_⟩
  · subst e
    have h1 := (k.un a hb).2
    rw [h.se a (k.un a hb).1, decide_eq_true ha, Bool.or_true] at h1
    cases h1
  · rcases List.mem_append.1 hx with hx | hx
    · exact h.un x hx
    · have h1 := (k.un x hx).2
      rw [h.se x (k.un x hx).1] at h1
      exact ⟨(k.un x hx).1, (Bool.or_eq_false_iff.1 h1).1⟩
  · rw [k.se x hx, h.se x hx, Bool.or_assoc]
    congr 1
    simp [List.mem_append]
  · have := h.le
    have := k.le
    rw [List.length_append]
    omega
theorem VisR.mark {n k : Nat} {S S' : Nat → Bool} {M : List Nat} (hk : k < n) (hS : S k = false) (h : VisR n (upd S k true) S' M) : VisR n S S' (M ++ [k]) := by
  have hnk : k ∉ M := fun hm => by
    have := (h.un k hm).2
    rw [upd_at] at this
    cases this
  refine ⟨List.nodup_append.2 ⟨h.nd, by simp, fun a ha b hb e => ?_⟩, fun x hx => ?_, fun x hx => ?_, ?_⟩
  · rw [List.mem_singleton] at hb
    exact hnk (by rw [← hb, ← e]; exact ha)
  · rcases List.mem_append.1 hx with hx1 | hx1
    · have h1 := h.un x hx1
      by_cases e : x = k
      · exact absurd (e ▸ hx1) hnk
      · rw [upd_ne _ _ e] at h1; exact h1
    · rw [List.mem_singleton.1 hx1]
      exact ⟨hk, hS⟩
  · rw [h.se x hx]
    by_cases e : x = k
    · subst e
      rw [upd_at]
      simp
    · rw [upd_ne _ _ e]
      simp [e]
  · have := h.le
    have := unseen_mark hS n hk
    rw [List.length_append, List.length_singleton]
    omega
def ptr (b : Nat) : Value := .pointer (some ⟨b, 0, none⟩)
/-- The walk in memory: what is seen, the rows, the walk itself, those left behind. -/
structure VM (w0 w : World) (n gs b1 b2 b3 b4 : Nat) (sv lv : Value) (S : Nat → Bool) (F : List Nat) : Prop where
  below : Below w0.heap.size w0 w
  c1 : w.rowIs b1 81 1 (fun _ => .slice (some ⟨gs, 0, none⟩) n n)
  c2 : w.rowIs b2 64 1 (fun _ => sv)
  c3 : w.rowIs b3 70 1 (fun _ => .func (.func 55) #[] #[.pointer (some ⟨b1, 0, none⟩), .pointer (some ⟨b2, 0, none⟩), .pointer (some ⟨b3, 0, none⟩), .pointer (some ⟨b4, 0, none⟩)])
  c4 : w.rowIs b4 46 1 (fun _ => lv)
  row : RowB w gs n S
  own : Own 3 1 icell w w0.heap.size lv (ints F)
  ge : w0.heap.size ≤ b4 ∧ w0.heap.size ≤ gs
theorem row_ne {w : World} {b b' n n' : Nat} {t t' : TypeId} {f f' : Nat → Value} (h : w.rowIs b t n f) (h' : w.rowIs b' t' n' f') (ht : t ≠ t') : b ≠ b' := fun e => by
  subst e
  obtain ⟨c, hc, _⟩ := h
  obtain ⟨c', hc', _⟩ := h'
  rw [hc] at hc'
  injection hc' with hc'
  injection hc' with _ h2
  exact ht h2
theorem row_own {w : World} {B b n m z : Nat} {t e : TypeId} {f : Nat → Value} {v : Value} {xs : List Value} (h : w.rowIs b t n f) (ho : w.ownsRow B e z v m xs) (ht : t ≠ e) : v.ownBlock ≠ some b := fun hb => by
  obtain ⟨cur, hc⟩ := own_block ho hb
  obtain ⟨c, hc', _⟩ := h
  rw [hc] at hc'
  injection hc' with hc'
  injection hc' with _ h2
  exact ht h2.symm
theorem VM.mark {w0 w : World} {n gs b1 b2 b3 b4 : Nat} {sv lv : Value} {S : Nat → Bool} {F : List Nat} (h : VM w0 w n gs b1 b2 b3 b4 sv lv S F) (k : Nat) : VM w0 (w.setCell ⟨gs, k, none⟩ (.bool true)) n gs b1 b2 b3 b4 sv lv (upd S k true) F := by
  have K := setK w gs k (.bool true)
  have hrow : w.rowIs gs 4 n (fun j => .bool (S j)) := h.row
  refine ⟨h.below.setCell h.ge.2 _, h.c1.setOther (row_ne h.c1 hrow (by decide)) _, h.c2.setOther (row_ne h.c2 hrow (by decide)) _, h.c3.setOther (row_ne h.c3 hrow (by decide)) _, h.c4.setOther (row_ne h.c4 hrow (by decide)) _, h.row.set k true, ?_, h.ge⟩
  exact K.owns h.own (fun b hb e => row_own hrow h.own (by decide) (by rw [hb, e]))
theorem VM.push {w0 w : World} {n gs b1 b2 b3 b4 : Nat} {sv lv : Value} {S : Nat → Bool} {F : List Nat} (h : VM w0 w n gs b1 b2 b3 b4 sv lv S F) (k : Nat) (hl : F.length ≤ 65536) :
    ∃ b cap w2, (∀ ty, (Builtin.append_ #[46, 46] ty #[lv, .slice (some ⟨w.heap.size, 0, none⟩) 1 1]).run Tryd.prog (w.alloc (.cells #[.int .i64 k] 3)) = .ok (.slice (some ⟨b, 0, none⟩) (F.length + 1) cap) w2) ∧ w2.cell? ⟨b4, 0, none⟩ = some lv ∧ w2.frozen? ⟨b4, 0, none⟩ = false ∧
      VM w0 (w2.setCell ⟨b4, 0, none⟩ (.slice (some ⟨b, 0, none⟩) (F.length + 1) cap)) n gs b1 b2 b3 b4 sv (.slice (some ⟨b, 0, none⟩) (F.length + 1) cap) S (F ++ [k]) := by
  have hq := heap_alloc_new w (.cells #[.int .i64 k] 3)
  have hqlt := (Array.getElem?_eq_some_iff.1 hq).1
  have hbq := below1 w (.cells #[.int .i64 k] 3)
  have hsrc : Src icell (w.alloc (.cells #[.int .i64 k] 3)) (.slice (some ⟨w.heap.size, 0, none⟩) 1 1) [(k : Int)] := .inr ⟨w.heap.size, 0, 1, rfl, hqlt, Nat.le_refl _, fun j u hj => by
    rw [Nat.zero_add, cell_of_row _ w.heap.size j _ 3 (0, 0) hq]
    simpa [flat, icell] using hj⟩
  have hO : Own 3 1 icell (w.alloc (.cells #[.int .i64 k] 3)) w0.heap.size lv (ints F) := World.ownsRow.alloc h.own _
  obtain ⟨v', w2, h1, h2, h3, h4⟩ := append_own2 (f := icell) (st := 46) (et := 3) (bytes := 8) ic1 (base := w0.heap.size) (v := lv) (x := .slice (some ⟨w.heap.size, 0, none⟩) 1 1) (m := [(k : Int)]) (fun y hy u hu => by
    obtain rfl := List.mem_singleton.1 hu
    rfl) Tryd.underlying46 info3 rfl (by decide) hO hsrc (by rw [ints_len]; simp only [List.length_singleton]; omega) (by rw [ints_len]; simp only [List.length_singleton]; unfold maxLen; omega) (Nat.le_trans h.below.size hbq.size) 46
  have h2' := h2
  unfold Own at h2'
  rw [List.length_append, List.length_singleton, ints_len] at h2'
  obtain ⟨b, cap, rfl⟩ := own_form h2'
  have al : ∀ {b n t f}, w.rowIs b t n f → (w.alloc (.cells #[.int .i64 k] 3)).rowIs b t n f := fun hr => hr.of_block (hbq.block _ hr.lt)
  have K := Kept.of_grown (S := fun k => lv.ownBlock = some k) h3 (fun _ e => e)
  have n1 := row_own (al h.c1) hO (by decide)
  have n2 := row_own (al h.c2) hO (by decide)
  have n3 := row_own (al h.c3) hO (by decide)
  have n4 := row_own (al h.c4) hO (by decide)
  have hrow : w.rowIs gs 4 n (fun j => .bool (S j)) := h.row
  have n5 := row_own (al hrow) hO (by decide)
  have r1 := K.row (al h.c1) n1
  have r2 := K.row (al h.c2) n2
  have r3 := K.row (al h.c3) n3
  have r4 := K.row (al h.c4) n4
  have r5 : w2.rowIs gs 4 n (fun j => .bool (S j)) := K.row (al hrow) n5
  have hb2 : Below w0.heap.size w0 w2 := (h.below.alloc h.below.size _).grown h3 (Nat.le_trans h.below.size hbq.size) (fun b hb => (World.ownsRow.lt hO b hb).1)
  refine ⟨b, cap, w2, fun ty => h1, r4.cell (by omega), r4.frozen 0, hb2.setCell h.ge.1 _, r1.setOther (row_ne r1 r4 (by decide)) _, r2.setOther (row_ne r2 r4 (by decide)) _, r3.setOther (row_ne r3 r4 (by decide)) _, (r4.set 0 _).congr (fun i hi => by
    have : i = 0 := by omega
    subst this
    simp), r5.setOther (row_ne r5 r4 (by decide)) _, ?_, h.ge⟩
  rw [show ints F ++ [(k : Int)] = ints (F ++ [k]) by simp [ints]] at h2
  have K4 := setK w2 b4 0 (.slice (some ⟨b, 0, none⟩) (F.length + 1) cap)
  exact K4.owns h2 (fun c hc e => row_own r4 h2 (by decide) (by rw [hc, e]))
end Go.Proofs.YtjhndnhldhmjnaaDoor
