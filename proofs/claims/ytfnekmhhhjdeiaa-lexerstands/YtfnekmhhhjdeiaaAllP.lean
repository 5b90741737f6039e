/- All: plain mathematics. -/
import Derived.Test.YtfnekmhhhjdeiaaNext
namespace Go.Proofs.Ytfnekmhhhjdeiaa
open Go.RowKit
set_option linter.unusedVariables false

/-- A token with its place. -/
abbrev TT := Tok × Nat × Nat
def allG : Nat → List UInt8 → Nat → Except Nat (List TT)
  | 0, _, _ => .ok []
  | f + 1, l, k =>
    match nextF (l.drop k) with
    | .error p => .error (k + p)
    | .ok (t, a, b) => if t.kind = 1 then .ok [(t, k + a, k + b)] else
      match allG f l (k + b) with
      | .error e => .error e
      | .ok r => .ok ((t, k + a, k + b) :: r)

theorem next_ok {l : List UInt8} {t : Tok} {a b : Nat} (h : nextF l = .ok (t, a, b)) : gap l = (a, true) ∧ a ≤ b ∧ b ≤ l.length ∧ 1 ≤ t.kind ∧ (t.kind = 1 ↔ a = l.length) ∧ (¬ t.kind = 1 → a < b) ∧ (t.kind = 1 → b = a) ∧ readF (l.drop a) = some (t, b - a) := by
  unfold nextF at h
  split at h
  · rename_i hg
    split at h
    · cases h
    · rename_i t' n hr
      have h' : (t', (gap l).1, (gap l).1 + n) = (t, a, b) := Except.ok.inj h
      simp only [Prod.mk.injEq] at h'
      obtain ⟨rfl, rfl, rfl⟩ := h'
      have h1 := readF_len hr
      have h2 := gap_len l
      have hnil : l.drop (gap l).1 = [] ↔ (gap l).1 = l.length := by
        rw [List.drop_eq_nil_iff]; omega
      rw [List.length_drop] at h1
      refine ⟨by rw [← hg], by omega, by omega, h1.1, h1.2.2.1.trans hnil, fun hk => ?_, fun hk => ?_, ?_⟩
      · have := h1.2.2.2 (fun e => hk (h1.2.2.1.2 e)); omega
      · have := hnil.1 (h1.2.2.1.1 hk); omega
      · rw [Nat.add_sub_cancel_left]; exact hr
  · cases h
theorem allG_fuel : ∀ (f g : Nat) (l : List UInt8) (k : Nat), k ≤ l.length → l.length + 1 - k ≤ f → l.length + 1 - k ≤ g → allG f l k = allG g l k
  | 0, g, l, k, hk, hf, hg => by omega
  | f + 1, 0, l, k, hk, hf, hg => by omega
  | f + 1, g + 1, l, k, hk, hf, hg => by
    unfold allG
    match h : nextF (l.drop k) with
    | .error p => rfl
    | .ok (t, a, b) =>
      have h1 := next_ok h
      rw [List.length_drop] at h1
      dsimp only
      split
      · rfl
      · rename_i hk1
        have := h1.2.2.2.2.2.1 hk1
        rw [allG_fuel f g l (k + b) (by omega) (by omega) (by omega)]
/-- The tokens from a place on. -/
def allAt (l : List UInt8) (k : Nat) : Except Nat (List TT) := allG (l.length + 1 - k) l k
theorem allAt_err {l : List UInt8} {k p : Nat} (hk : k ≤ l.length) (h : nextF (l.drop k) = .error p) : allAt l k = .error (k + p) := by
  unfold allAt
  rw [show l.length + 1 - k = l.length - k + 1 by omega]
  unfold allG
  rw [h]
theorem allAt_end {l : List UInt8} {k a b : Nat} {t : Tok} (hk : k ≤ l.length) (h : nextF (l.drop k) = .ok (t, a, b)) (ht : t.kind = 1) : allAt l k = .ok [(t, k + a, k + b)] := by
  unfold allAt
  rw [show l.length + 1 - k = l.length - k + 1 by omega]
  unfold allG
  rw [h]
  dsimp only
  rw [if_pos ht]
/-- More tokens ahead of those. -/
def prep (a : List TT) : Except Nat (List TT) → Except Nat (List TT)
  | .error e => .error e
  | .ok r => .ok (a ++ r)
theorem prep_prep (a b : List TT) (x : Except Nat (List TT)) : prep a (prep b x) = prep (a ++ b) x := by cases x <;> simp [prep]
theorem prep_nil (x : Except Nat (List TT)) : prep [] x = x := by cases x <;> rfl
theorem allAt_more {l : List UInt8} {k a b : Nat} {t : Tok} (hk : k ≤ l.length) (h : nextF (l.drop k) = .ok (t, a, b)) (ht : ¬ t.kind = 1) : allAt l k = prep [(t, k + a, k + b)] (allAt l (k + b)) := by
  have h1 := next_ok h
  rw [List.length_drop] at h1
  have h2 := h1.2.2.2.2.2.1 ht
  unfold allAt
  rw [show l.length + 1 - k = l.length - k + 1 by omega]
  conv => lhs; unfold allG
  rw [h]
  dsimp only
  rw [if_neg ht, allG_fuel (l.length - k) (l.length + 1 - (k + b)) l (k + b) (by omega) (by omega) (by omega)]
  cases allG (l.length + 1 - (k + b)) l (k + b) <;> rfl
def allF (l : List UInt8) : Except Nat (List TT) := allAt l 0

def cellsT1 (x : TT) : List Value := [.int .i64 (x.1.kind : Nat), .string (strL x.1.text), .int .u32 (x.1.num : Nat), .bool x.1.uns, .int .i64 (x.2.1 : Nat), .int .i64 (x.2.2 : Nat)]
def cellsT (l : List TT) : List Value := l.flatMap cellsT1
theorem cellsT_append (l m : List TT) : cellsT (l ++ m) = cellsT l ++ cellsT m := by simp [cellsT]
theorem cellsT_len (l : List TT) : (cellsT l).length = l.length * 6 := by
  induction l with
  | nil => rfl
  | cons x r ih =>
    have : cellsT (x :: r) = cellsT1 x ++ cellsT r := rfl
    rw [this, List.length_append, ih, List.length_cons]
    show 6 + _ = _
    omega

theorem info24' : (Try.prog.info? 24).map (fun i => (i.zero, i.size, i.bytes)) = some (some zeroV, 6, 48) := by kernel_rfl
theorem tok_six {w : World} {g : Nat} {a b c d e f : Value} (h0 : w.cell? ⟨g, 0, none⟩ = some a) (h1 : w.cell? ⟨g, 1, none⟩ = some b) (h2 : w.cell? ⟨g, 2, none⟩ = some c) (h3 : w.cell? ⟨g, 3, none⟩ = some d) (h4 : w.cell? ⟨g, 4, none⟩ = some e) (h5 : w.cell? ⟨g, 5, none⟩ = some f) :
    ∀ (j : Nat) (u : Value), [a, b, c, d, e, f][j]? = some u → w.cell? ((⟨g, 0, none⟩ : Addr).add j) = some u := by
  intro j u hj
  rw [Addr.add_lit]
  match j, hj with
  | 0, hj => simp at hj; subst hj; simpa using h0
  | 1, hj => simp at hj; subst hj; simpa using h1
  | 2, hj => simp at hj; subst hj; simpa using h2
  | 3, hj => simp at hj; subst hj; simpa using h3
  | 4, hj => simp at hj; subst hj; simpa using h4
  | 5, hj => simp at hj; subst hj; simpa using h5
/-- Tokens in a slice of a call's own. -/
def OwnT (w : World) (B : Nat) (v : Value) (l : List TT) : Prop := w.ownsRow B 24 6 v l.length (cellsT l)
theorem own_below {w w' : World} {B e z n : Nat} {v : Value} {xs : List Value} (h : w.ownsRow B e z v n xs) (hb : Below w.heap.size w w') : w'.ownsRow B e z v n xs := by
  obtain ⟨h1, h2, h3, h4, h5⟩ := hb
  exact h.kept (row := none) ⟨h1, h2, h3, h4, fun k hk _ => h5 k hk⟩ (by cases v.ownBlock <;> simp)
/-- What All answers. -/
def AllR (B : Nat) (w' : World) (r : Except Nat (List TT)) (e : Ending) : Prop :=
  (∃ p : Nat, r = .error p ∧ e = .returned (.tuple #[.slice none 0 0, .int .i64 (p : Int), .int .i64 70])) ∨ (∃ ts v, r = .ok ts ∧ e = .returned (.tuple #[v, .int .i64 0, .int .i64 0]) ∧ OwnT w' B v ts)
end Go.Proofs.Ytfnekmhhhjdeiaa
