/- findLabels and Check, whatever the lines. -/
import Derived.Test.YtgnlplddppheiaaFindW
namespace Go.Proofs.Ytgnlplddppheiaa
open Go.RowKit Go.Maps
set_option linter.unusedVariables false

set_option maxRecDepth 100000 in
set_option maxHeartbeats 1000000 in
theorem find_none (ao : Option Addr) (cap : Nat) (w : World) :
    Calls Try.prog 24 #[.slice ao 0 cap] w fun e w' => ∃ mb, e = .returned (.tuple #[.map (some mb), .int .i64 0]) ∧ w.heap.size ≤ mb ∧ IsMapL w' mb 0 0 (fun _ => none) ∧ Below w.heap.size w w' := by
  have hmm := @run_makeMap Try.prog
  go_enter Try.func24, Try.ntmps24
  go_wp2_with (go_at_call 35; refine (contains35_none _ _ _ _).mono ?_; rintro e w1 ⟨rfl, rfl⟩)
  refine wp_loop_rounds 1 ?_
  rw [rounds_succ]
  go_wp2
  refine wp_loop_rounds 1 ?_
  rw [rounds_succ]
  go_wp2
  go_ret2
  exact ⟨_, rfl, Nat.le_refl _, IsMapL.made _, below1 _ _⟩

/-- What findLabels hands back. -/
def FindR (w w' : World) (ls : List Ln) (e : Ending) : Prop :=
  (∃ er, ErrIs ls er ∧ er ≠ 0 ∧ e = .returned (.tuple #[.map none, .int .i64 er]) ∧ Below w.heap.size w w') ∨
  (ErrIs ls 0 ∧ ∃ mb, e = .returned (.tuple #[.map (some mb), .int .i64 0]) ∧ w.heap.size ≤ mb ∧ IsMapL w' mb ls.length (labL ls).length (labs ls) ∧ Below w.heap.size w w')

theorem find24 {w : World} {v : Value} {ls : List Ln} (h : IsLns w v ls) : Calls Try.prog 24 #[v] w fun e w' => FindR w w' ls e := by
  by_cases hl : 262144 < ls.length
  · obtain ⟨ao, cap, rfl⟩ : ∃ ao cap, v = .slice ao ls.length cap := by
      rcases h.2.2 with ⟨rfl, ao, cap, rfl⟩ | ⟨_, b, cap, rfl, _⟩
      · exact ⟨_, _, rfl⟩
      · exact ⟨_, _, rfl⟩
    refine (find_long ao ls.length cap w hl).mono ?_
    rintro e w' ⟨rfl, hb⟩
    exact .inl ⟨3, .inl ⟨hl, rfl⟩, by omega, rfl, hb⟩
  · cases hb : ls.any fun x => !x.ok with
    | true =>
      refine (find_bad h (by omega) hb).mono ?_
      rintro e w' ⟨rfl, hb'⟩
      obtain ⟨x, hx, hx2⟩ := List.any_eq_true.1 hb
      exact .inl ⟨1, .inr (.inl ⟨by omega, ⟨x, hx, by simpa using hx2⟩, rfl⟩), by omega, rfl, hb'⟩
    | false =>
      have hok : ∀ x ∈ ls, x.ok = true := fun x hx => by
        have := List.any_eq_false.1 hb x hx
        simpa using this
      have hC := contains35 h
      rw [hb] at hC
      obtain ⟨h1, h2, ⟨rfl, ao, cap, rfl⟩ | ⟨h3, b, cap, rfl, hlt, ha⟩⟩ := h
      · refine (find_none ao cap w).mono ?_
        rintro e w' ⟨mb, rfl, hm, hmp, hbl⟩
        exact .inr ⟨.inr (.inr (.inr ⟨by simp, by simp, by simp [labL], by simp, rfl⟩)), mb, rfl, hm, hmp.congr (by simp [labL]) (fun k => rfl), hbl⟩
      · refine (find_some hC (by omega) h2 hlt ha).mono ?_
        rintro e w' (⟨rfl, hd, hbl⟩ | ⟨mb, rfl, hm, hmp, hn, ht, hbl⟩)
        · exact .inl ⟨60, .inr (.inr (.inl ⟨by omega, hok, hd, rfl⟩)), by omega, rfl, hbl⟩
        · exact .inr ⟨.inr (.inr (.inr ⟨by omega, hok, hn, ht, rfl⟩)), mb, rfl, hm, hmp, hbl⟩

theorem check11 {w : World} {v : Value} {ls : List Ln} (h : IsLns w v ls) : Calls Try.prog 11 #[v] w fun e w' => ∃ er, ErrIs ls er ∧ e = .returned (.int .i64 er) ∧ Below w.heap.size w w' := by
  have hF : Calls Try.prog 24 #[v] w fun e w' => ∃ m er, ErrIs ls er ∧ e = .returned (.tuple #[m, .int .i64 er]) ∧ Below w.heap.size w w' := by
    refine (find24 h).mono ?_
    rintro e w' (⟨er, h1, _, rfl, hb⟩ | ⟨h1, mb, rfl, _, _, hb⟩)
    · exact ⟨_, er, h1, rfl, hb⟩
    · exact ⟨_, 0, h1, rfl, hb⟩
  go_enter Try.func11, Try.ntmps11
  go_wp2_with (go_at_call 24; refine hF.mono ?_; rintro e w1 ⟨m, er, h1, rfl, hb⟩)
  go_ret
  exact ⟨er, h1, rfl, hb⟩

/-- A branch's three numbers. -/
def brTo (k p : Nat) : Nat × Nat × Nat := if k < p then (k, k + 1, p) else (k, p, k)
def brGo (f : Int → Option Nat) (k : Nat) : List Ln → List (Nat × Nat × Nat)
  | [] => []
  | x :: r => if x.label = 0 then (if x.to ≠ 0 ∧ askF x.op = true then [brTo k ((f x.to).getD 0)] else []) ++ brGo f (k + 1) r else brGo f k r

theorem brGo_append (f : Int → Option Nat) (a b : List Ln) : ∀ k, brGo f k (a ++ b) = brGo f k a ++ brGo f (k + insN a) b := by
  induction a with
  | nil => intro k; simp [brGo, insN]
  | cons x r ih =>
    intro k
    have e : insN (x :: r) = insN [x] + insN r := insN_append [x] r
    rw [List.cons_append, brGo, brGo, e, insN_one]
    by_cases h : x.label = 0
    · simp only [h, if_true]
      rw [ih, List.append_assoc, Nat.add_assoc]
    · simp only [h, if_false]
      rw [ih, Nat.zero_add]
theorem brGo_one (f : Int → Option Nat) (k : Nat) (x : Ln) : brGo f k [x] = if x.label = 0 then (if x.to ≠ 0 ∧ askF x.op = true then [brTo k ((f x.to).getD 0)] else []) else [] := by
  simp [brGo]
theorem brGo_len (f : Int → Option Nat) (ls : List Ln) : ∀ k, (brGo f k ls).length ≤ ls.length := by
  induction ls with
  | nil => intro k; simp [brGo]
  | cons x r ih =>
    intro k
    rw [brGo]
    by_cases h : x.label = 0
    · simp only [h, if_true]
      have := ih (k + 1)
      by_cases h2 : x.to ≠ 0 ∧ askF x.op = true
      · rw [if_pos h2]; simp; omega
      · rw [if_neg h2]; simp; omega
    · simp only [h, if_false]
      have := ih k
      simp; omega
theorem brTo_ix (k p : Nat) : (brTo k p).1 = k := by unfold brTo; split <;> rfl
theorem brTo_ok (k p n : Nat) (hk : k < n) (hp : p ≤ n) : (brTo k p).2.1 ≤ (brTo k p).2.2 ∧ (brTo k p).2.2 ≤ n := by unfold brTo; split <;> simp <;> omega
theorem brGo_ge (f : Int → Option Nat) (ls : List Ln) : ∀ k, ∀ y ∈ brGo f k ls, k ≤ y.1 ∧ y.1 < k + insN ls := by
  induction ls with
  | nil => intro k y hy; simp [brGo] at hy
  | cons x r ih =>
    intro k y hy
    have e : insN (x :: r) = insN [x] + insN r := insN_append [x] r
    rw [brGo] at hy
    rw [e, insN_one]
    by_cases h : x.label = 0
    · simp only [h, if_true] at hy ⊢
      rcases List.mem_append.1 hy with hy | hy
      · by_cases h2 : x.to ≠ 0 ∧ askF x.op = true
        · rw [if_pos h2] at hy
          simp at hy
          rw [hy, brTo_ix]; omega
        · rw [if_neg h2] at hy; simp at hy
      · have := ih (k + 1) y hy; omega
    · simp only [h, if_false] at hy ⊢
      have := ih k y hy; omega
theorem brGo_nodup (f : Int → Option Nat) (ls : List Ln) : ∀ k, ((brGo f k ls).map (·.1)).Nodup := by
  induction ls with
  | nil => intro k; simp [brGo]
  | cons x r ih =>
    intro k
    rw [brGo]
    by_cases h : x.label = 0
    · simp only [h, if_true]
      by_cases h2 : x.to ≠ 0 ∧ askF x.op = true
      · rw [if_pos h2, List.singleton_append, List.map_cons, brTo_ix]
        refine List.nodup_cons.2 ⟨fun hm => ?_, ih (k + 1)⟩
        obtain ⟨y, hy, e⟩ := List.mem_map.1 hm
        have := (brGo_ge f r (k + 1) y hy).1
        omega
      · rw [if_neg h2, List.nil_append]; exact ih (k + 1)
    · simp only [h, if_false]; exact ih k
theorem brGo_ok (f : Int → Option Nat) (n : Nat) (hf : ∀ t p, f t = some p → p ≤ n) (ls : List Ln) : ∀ k, k + insN ls ≤ n → ∀ y ∈ brGo f k ls, y.2.1 ≤ y.2.2 ∧ y.2.2 ≤ n := by
  induction ls with
  | nil => intro k _ y hy; simp [brGo] at hy
  | cons x r ih =>
    intro k hk y hy
    have e : insN (x :: r) = insN [x] + insN r := insN_append [x] r
    rw [brGo] at hy
    rw [e, insN_one] at hk
    by_cases h : x.label = 0
    · simp only [h, if_true] at hy hk
      rcases List.mem_append.1 hy with hy | hy
      · by_cases h2 : x.to ≠ 0 ∧ askF x.op = true
        · rw [if_pos h2] at hy
          simp at hy
          rw [hy]
          refine brTo_ok _ _ _ (by omega) ?_
          cases hx : f x.to with
          | none => simp
          | some p => simpa using hf _ _ hx
        · rw [if_neg h2] at hy; simp at hy
      · exact ih (k + 1) (by omega) y hy
    · simp only [h, if_false] at hy hk
      exact ih k (by omega) y hy

theorem branchTo43 (k p : Nat) (hk : k ≤ 1000000) (hp : p ≤ 1000000) (w : World) :
    Calls Try.prog 43 #[.int .i64 (k : Int), .int .i64 (p : Int)] w fun e w' => e = .returned (.agg #[.int .i64 ((brTo k p).1 : Int), .int .i64 ((brTo k p).2.1 : Int), .int .i64 ((brTo k p).2.2 : Int)]) ∧ Below w.heap.size w w' := by
  unfold brTo
  by_cases h : k < p
  · rw [if_pos h]
    have h' : (k : Int) < p := by omega
    go_enter Try.func43, Try.ntmps43
    go_wp2
    refine bodyPost_ret (v := .agg #[.int .i64 (k : Int), .int .i64 ((k + 1 : Nat) : Int), .int .i64 (p : Int)]) (by simp [results, Try.results43, go_sem]) rfl ⟨rfl, below1 _ _⟩
  · rw [if_neg h]
    have h' : ¬ (k : Int) < p := by omega
    go_enter Try.func43, Try.ntmps43
    go_wp2
    refine bodyPost_ret (v := .agg #[.int .i64 (k : Int), .int .i64 (p : Int), .int .i64 (k : Int)]) (by simp [results, Try.results43, go_sem]) rfl ⟨rfl, below1 _ _⟩
end Go.Proofs.Ytgnlplddppheiaa
