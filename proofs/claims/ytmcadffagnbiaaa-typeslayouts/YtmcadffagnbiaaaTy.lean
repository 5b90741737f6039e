/- Types: what may be, sizes; the small functions. -/
import Derived.Test.YtmcadffagnbiaaaProg
import Derived.WalkKit
import Derived.Deep.OwnRows
import Derived.Laws.StructEq
namespace Go.Proofs.Ytmcadffagnbiaaa
open Go.RowKit
set_option linter.unusedVariables false
set_option linter.unusedSimpArgs false

theorem below1 (w : World) (o : Obj) : Below w.heap.size w (w.alloc o) := (Below.refl _ _).alloc (Nat.le_refl _) o
theorem below2 (w : World) (o p : Obj) : Below w.heap.size w ((w.alloc o).alloc p) := (below1 w o).alloc (by simp) p
theorem below3 (w : World) (o p q : Obj) : Below w.heap.size w (((w.alloc o).alloc p).alloc q) := (below2 w o p).alloc (by simp; omega) q
theorem bcell {W w1 : World} (hb : Below W.heap.size W w1) : (∀ b o, b < W.heap.size → w1.cell? ⟨b, o, none⟩ = W.cell? ⟨b, o, none⟩) ∧ (∀ b o, b < W.heap.size → w1.frozen? ⟨b, o, none⟩ = W.frozen? ⟨b, o, none⟩) :=
  ⟨fun b o h => hb.cell (p := ⟨b, o, none⟩) h, fun b o h => hb.frozen (p := ⟨b, o, none⟩) h⟩

/-- A type. -/
structure Ty where
  k : Int
  e : Int
  n : Int
  s : Int
def Ty.val (t : Ty) : Value := .agg #[.int .i64 t.k, .int .i64 t.e, .int .i64 t.n, .int .i64 t.s]

def scalF (k : Int) : Bool := k == 1 || (k == 2 || k == 3)
/-- May a type be, where there are r records? -/
def mayF (t : Ty) (r : Int) : Bool :=
  if t.k = 0 ∨ t.k = 1 ∨ t.k = 2 ∨ t.k = 3 then t.e == 0 && t.n == 0 && t.s == 0
  else if t.k = 4 then scalF t.e && decide (1 ≤ t.n) && decide (t.n ≤ 1024) && t.s == 0
  else if t.k = 5 ∨ t.k = 7 then t.e == 0 && t.n == 0 && decide (0 ≤ t.s) && decide (t.s < r)
  else if t.k = 6 then scalF t.e && t.n == 0 && t.s == 0
  else false
def byF (k : Int) : Int := if k = 3 then 1 else 4
def alF (t : Ty) : Int := if t.k = 4 then byF t.e else byF t.k
def upF (n u : Int) : Int := (n + u - 1) / u * u

theorem scal31 (k : Int) (w : World) : Calls Try.prog 31 #[.int .i64 k] w fun e w' => e = .returned (.bool (scalF k)) ∧ w' = w := by
  unfold scalF
  by_cases h1 : k = 1
  · subst h1
    go_enter Try.func31, Try.ntmps31
    go_wp2
    go_ret
    exact ⟨rfl, rfl⟩
  by_cases h2 : k = 2
  · subst h2
    go_enter Try.func31, Try.ntmps31
    go_wp2
    go_ret
    exact ⟨rfl, rfl⟩
  have e1 : (k == 1) = false := by simp [h1]
  have e2 : (k == 2) = false := by simp [h2]
  rw [e1, e2]
  go_enter Try.func31, Try.ntmps31
  go_wp2
  go_ret
  exact ⟨by simp, rfl⟩
theorem scal32 (k : Int) (w : World) : Calls Try.prog 32 #[.int .i64 k] w fun e w' => e = .returned (.bool (scalF k)) ∧ w' = w := by
  unfold scalF
  by_cases h1 : k = 1
  · subst h1
    go_enter Try.func32, Try.ntmps32
    go_wp2
    go_ret
    exact ⟨rfl, rfl⟩
  by_cases h2 : k = 2
  · subst h2
    go_enter Try.func32, Try.ntmps32
    go_wp2
    go_ret
    exact ⟨rfl, rfl⟩
  have e1 : (k == 1) = false := by simp [h1]
  have e2 : (k == 2) = false := by simp [h2]
  rw [e1, e2]
  go_enter Try.func32, Try.ntmps32
  go_wp2
  go_ret
  exact ⟨by simp, rfl⟩

theorem by26 (k : Int) (w : World) : Calls Try.prog 26 #[.int .i64 k] w fun e w' => e = .returned (.int .i64 (byF k)) ∧ w' = w := by
  unfold byF
  by_cases h : k = 3
  · subst h
    go_enter Try.func26, Try.ntmps26
    go_wp2
    go_ret
    exact ⟨rfl, rfl⟩
  · rw [if_neg h]
    go_enter Try.func26, Try.ntmps26
    go_wp2
    go_ret
    exact ⟨rfl, rfl⟩
theorem by28 (k : Int) (w : World) : Calls Try.prog 28 #[.int .i64 k] w fun e w' => e = .returned (.int .i64 (byF k)) ∧ w' = w := by
  unfold byF
  by_cases h : k = 3
  · subst h
    go_enter Try.func28, Try.ntmps28
    go_wp2
    go_ret
    exact ⟨rfl, rfl⟩
  · rw [if_neg h]
    go_enter Try.func28, Try.ntmps28
    go_wp2
    go_ret
    exact ⟨rfl, rfl⟩
def proF (k : Int) : Int := if k = 2 then 2 else 1
theorem pro17 (k : Int) (w : World) : Calls Try.prog 17 #[.int .i64 k] w fun e w' => e = .returned (.int .i64 (proF k)) ∧ w' = w := by
  unfold proF
  by_cases h : k = 2
  · subst h
    go_enter Try.func17, Try.ntmps17
    go_wp2
    go_ret
    exact ⟨rfl, rfl⟩
  · rw [if_neg h]
    go_enter Try.func17, Try.ntmps17
    go_wp2
    go_ret
    exact ⟨rfl, rfl⟩
theorem pro18 (k : Int) (w : World) : Calls Try.prog 18 #[.int .i64 k] w fun e w' => e = .returned (.int .i64 (proF k)) ∧ w' = w := by
  unfold proF
  by_cases h : k = 2
  · subst h
    go_enter Try.func18, Try.ntmps18
    go_wp2
    go_ret
    exact ⟨rfl, rfl⟩
  · rw [if_neg h]
    go_enter Try.func18, Try.ntmps18
    go_wp2
    go_ret
    exact ⟨rfl, rfl⟩

theorem scal15 (t : Ty) (w : World) : Calls Try.prog 15 #[t.val] w fun e w' => e = .returned (.bool (scalF t.k)) ∧ Below w.heap.size w w' := by
  obtain ⟨k, e, n, s⟩ := t
  unfold Ty.val
  go_enter Try.func15, Try.ntmps15
  go_wp2_with (go_at_call 31; refine (scal31 k _).mono ?_; rintro e1 w1 ⟨rfl, rfl⟩)
  go_ret
  exact ⟨rfl, below1 _ _⟩
theorem scal16 (t : Ty) (w : World) : Calls Try.prog 16 #[t.val] w fun e w' => e = .returned (.bool (scalF t.k)) ∧ Below w.heap.size w w' := by
  obtain ⟨k, e, n, s⟩ := t
  unfold Ty.val
  go_enter Try.func16, Try.ntmps16
  go_wp2_with (go_at_call 32; refine (scal32 k _).mono ?_; rintro e1 w1 ⟨rfl, rfl⟩)
  go_ret
  exact ⟨rfl, below1 _ _⟩
theorem al35 (t : Ty) (w : World) : Calls Try.prog 35 #[t.val] w fun e w' => e = .returned (.int .i64 (alF t)) ∧ Below w.heap.size w w' := by
  obtain ⟨k, e, n, s⟩ := t
  unfold Ty.val alF
  dsimp only
  by_cases h : k = 4
  · subst h
    go_enter Try.func35, Try.ntmps35
    go_wp2_with (go_at_call 26; refine (by26 _ _).mono ?_; rintro e1 w1 ⟨rfl, rfl⟩)
    go_ret
    exact ⟨rfl, below1 _ _⟩
  · rw [if_neg h]
    go_enter Try.func35, Try.ntmps35
    go_wp2_with (go_at_call 26; refine (by26 _ _).mono ?_; rintro e1 w1 ⟨rfl, rfl⟩)
    go_ret
    exact ⟨rfl, below1 _ _⟩
theorem al38 (t : Ty) (w : World) : Calls Try.prog 38 #[t.val] w fun e w' => e = .returned (.int .i64 (alF t)) ∧ Below w.heap.size w w' := by
  obtain ⟨k, e, n, s⟩ := t
  unfold Ty.val alF
  dsimp only
  by_cases h : k = 4
  · subst h
    go_enter Try.func38, Try.ntmps38
    go_wp2_with (go_at_call 28; refine (by28 _ _).mono ?_; rintro e1 w1 ⟨rfl, rfl⟩)
    go_ret
    exact ⟨rfl, below1 _ _⟩
  · rw [if_neg h]
    go_enter Try.func38, Try.ntmps38
    go_wp2_with (go_at_call 28; refine (by28 _ _).mono ?_; rintro e1 w1 ⟨rfl, rfl⟩)
    go_ret
    exact ⟨rfl, below1 _ _⟩

/-- The part of a type that counts. -/
def cntF (t : Ty) : Ty :=
  if t.k = 4 then ⟨t.k, t.e, t.n, 0⟩ else if t.k = 6 then ⟨t.k, t.e, 0, 0⟩ else if t.k = 5 ∨ t.k = 7 then ⟨t.k, 0, 0, t.s⟩ else ⟨t.k, 0, 0, 0⟩
set_option maxHeartbeats 2000000 in
theorem cnt29 (t : Ty) (w : World) : Calls Try.prog 29 #[t.val] w fun e w' => e = .returned (cntF t).val ∧ Below w.heap.size w w' := by
  obtain ⟨k, e, n, s⟩ := t
  unfold Ty.val cntF
  dsimp only
  by_cases h4 : k = 4
  · subst h4
    go_enter Try.func29, Try.ntmps29
    go_wp2
    exact bodyPost_ret (v := .agg #[.int .i64 4, .int .i64 e, .int .i64 n, .int .i64 0]) (by simp [results, Try.results29, go_sem]) rfl ⟨rfl, below2 _ _ _⟩
  by_cases h6 : k = 6
  · subst h6
    go_enter Try.func29, Try.ntmps29
    go_wp2
    exact bodyPost_ret (v := .agg #[.int .i64 6, .int .i64 e, .int .i64 0, .int .i64 0]) (by simp [results, Try.results29, go_sem]) rfl ⟨rfl, below2 _ _ _⟩
  by_cases h5 : k = 5
  · subst h5
    go_enter Try.func29, Try.ntmps29
    go_wp2
    exact bodyPost_ret (v := .agg #[.int .i64 5, .int .i64 0, .int .i64 0, .int .i64 s]) (by simp [results, Try.results29, go_sem]) rfl ⟨rfl, below2 _ _ _⟩
  by_cases h7 : k = 7
  · subst h7
    go_enter Try.func29, Try.ntmps29
    go_wp2
    exact bodyPost_ret (v := .agg #[.int .i64 7, .int .i64 0, .int .i64 0, .int .i64 s]) (by simp [results, Try.results29, go_sem]) rfl ⟨rfl, below2 _ _ _⟩
  rw [if_neg h4, if_neg h6, if_neg (by omega)]
  go_enter Try.func29, Try.ntmps29
  go_wp2
  exact bodyPost_ret (v := .agg #[.int .i64 k, .int .i64 0, .int .i64 0, .int .i64 0]) (by simp [results, Try.results29, go_sem]) rfl ⟨rfl, below2 _ _ _⟩

theorem up36 (n u : Int) (h0 : 0 ≤ n) (h1 : n ≤ 4000000000000000000) (hu : u = 1 ∨ u = 4) (w : World) : Calls Try.prog 36 #[.int .i64 n, .int .i64 u] w fun e w' => e = .returned (.int .i64 (upF n u)) ∧ w' = w := by
  unfold upF
  rcases hu with rfl | rfl
  · go_enter Try.func36, Try.ntmps36
    go_wp2
    go_ret
    exact ⟨by simp, rfl⟩
  · go_enter Try.func36, Try.ntmps36
    go_wp2
    go_ret
    exact ⟨by simp, rfl⟩
end Go.Proofs.Ytmcadffagnbiaaa
