/- How a run ends: End and Run of the program. -/
import Derived.Test.YtimbnlcegcmfiaaNew
namespace Go.Proofs.Ytimbnlcegcmfiaa
open Go.RowKit
set_option linter.unusedVariables false

/-- What was put, as a string. -/
def outS (l : List UInt8) : ByteArray := ⟨l.toArray⟩
theorem outS_nums (l : List UInt8) : strOfNums (l.map fun x => (x.toNat : Int)) = outS l := by
  unfold strOfNums outS
  simp [List.map_map, Function.comp_def]

theorem conv_own {W : World} {N : Nat} {sl : Value} {l : List UInt8} (h : W.ownsRow N 5 1 sl l.length (vals l)) : (convert 39 9 sl).run Try.prog W = .ok (.string (outS l)) W := by
  have h' := h
  obtain ⟨_, ⟨rfl, h0⟩ | ⟨g, cap, cur, rfl, _⟩⟩ := h
  · obtain rfl : l = [] := List.eq_nil_of_length_eq_zero h0
    exact run_convert_bytes_nil W 39 5 Try.underlying39 Try.underlying5 0 0 9 Try.underlying9
  · rw [← outS_nums]
    refine run_convert_bytes_arg W 39 5 Try.underlying39 Try.underlying5 g 0 l.length cap _ (by simp) (fun i hi => ?_) 9 Try.underlying9
    have := h'.cells (g := g) rfl i (.int .u8 (l[i].toNat : Int)) (by simp [vals, hi])
    rw [Addr.add_lit] at this
    simpa [List.getD, hi] using this

/-- How it ended, as a value. -/
abbrev endV (s : St) : Value := .agg #[.int .i64 s.kind, .int .i32 s.exit, .int .i64 s.trap, .string (outS s.out), .int .i64 s.used]

section
variable {w : World} {N p q r : Nat} {sl : Value} {s : St}
set_option maxHeartbeats 1000000 in
theorem end21 (h : IsM w N p q r sl s) :
    Calls Try.prog 21 #[.pointer (some ⟨p, 0, none⟩)] w fun e w' => e = .returned (endV s) ∧ Below w.heap.size w w' := by
  have hp := h.plt
  have hc20 := h.c20
  have hc21 := h.c21
  have hc22 := h.c22
  have hc23 := h.c23
  have hc24 := h.c24
  have hc25 := h.c25
  have hcv := conv_own ((h.alloc (.cells #[.int .i64 0, .int .i32 0, .int .i64 0, .string ⟨#[]⟩, .int .i64 0] 38)).alloc (.cells #[.int .i64 s.kind, .int .i32 s.exit, .int .i64 s.trap, .string ⟨#[]⟩, .int .i64 s.used] 38)).own
  go_enter Try.func21, Try.ntmps21
  go_wp2
  refine bodyPost_ret (v := endV s) (by simp [results, Try.results21, go_sem]) rfl ⟨rfl, ?_⟩
  exact ((Below.refl _ _).alloc (Nat.le_refl _) _).alloc (by simp) _
end

/-- So many steps. -/
def stepN : Nat → St → St
  | 0, s => s
  | n + 1, s => stepF (stepN n s)

theorem stepF_over {s : St} (h : ¬ s.kind = 3) : stepF s = s := by unfold stepF; rw [if_neg h]
theorem stepN_over {s : St} {k : Nat} (h : ¬ (stepN k s).kind = 3) : ∀ n, k ≤ n → stepN n s = stepN k s := by
  intro n hn
  induction n with
  | zero => obtain rfl : k = 0 := by omega
            rfl
  | succ n ih =>
    by_cases e : k = n + 1
    · subst e; rfl
    · have := ih (by omega)
      show stepF (stepN n s) = stepN k s
      rw [this, stepF_over h]
theorem stepN_ok {s : St} (h : Ok s) : ∀ n, Ok (stepN n s)
  | 0 => h
  | n + 1 => stepF_ok (stepN_ok h n)

theorem doF_out (s : St) (op : Int) (d a b : Nat) (i : Int) : ∃ l, (doF s op d a b i).out = s.out ++ l ∧ l.length ≤ 1 := by
  have h1 : (stF s op d a i).1.out = s.out := by unfold stF; split <;> rfl
  have h2 : (getS s).out = s.out := by unfold getS; split <;> rfl
  have h3 : (giF s op d a b i).1.out = s.out := by
    unfold giF
    split
    · exact h2
    · split <;> rfl
  unfold doF
  repeat' split
  all_goals first
    | exact ⟨[by8 (s.reg a)], rfl, Nat.le_refl 1⟩
    | exact ⟨[], (List.append_nil s.out).symm, Nat.zero_le 1⟩
    | exact ⟨[], h1.trans (List.append_nil s.out).symm, Nat.zero_le 1⟩
    | exact ⟨[], h3.trans (List.append_nil s.out).symm, Nat.zero_le 1⟩
theorem stepF_out (s : St) : ∃ l, (stepF s).out = s.out ++ l ∧ l.length ≤ 1 := by
  unfold stepF
  split
  · split
    · exact doF_out s _ _ _ _ _
    · exact ⟨[], by simp [trapS], by simp⟩
  · exact ⟨[], by simp, by simp⟩
theorem stepN_out {s : St} (h : s.out = []) : ∀ n, (stepN n s).out.length ≤ n
  | 0 => by show s.out.length ≤ 0; rw [h]; simp
  | n + 1 => by
    obtain ⟨l, h1, h2⟩ := stepF_out (stepN n s)
    have := stepN_out h n
    show (stepF (stepN n s)).out.length ≤ n + 1
    rw [h1, List.length_append]
    omega

/-- The cells of a new End of zeros, behind a call that has turned nothing. -/
theorem endz {w w1 : World} {X : Obj} (hb : Below ((w.alloc X).alloc (.cells #[.int .i64 0, .int .i32 0, .int .i64 0, .string ⟨#[]⟩, .int .i64 0] 38)).heap.size ((w.alloc X).alloc (.cells #[.int .i64 0, .int .i32 0, .int .i64 0, .string ⟨#[]⟩, .int .i64 0] 38)) w1) :
    (w1.cell? ⟨w.heap.size + 1, 0, none⟩ = some (.int .i64 0) ∧ w1.cell? ⟨w.heap.size + 1, 1, none⟩ = some (.int .i32 0) ∧ w1.cell? ⟨w.heap.size + 1, 2, none⟩ = some (.int .i64 0) ∧ w1.cell? ⟨w.heap.size + 1, 3, none⟩ = some (.string ⟨#[]⟩) ∧ w1.cell? ⟨w.heap.size + 1, 4, none⟩ = some (.int .i64 0)) ∧
    (∀ o, w1.frozen? ⟨w.heap.size + 1, o, none⟩ = false) ∧ Below w.heap.size w w1 ∧ w.heap.size + 1 < w1.heap.size := by
  obtain ⟨hc, hf⟩ := bcell hb
  have hl : w.heap.size + 1 < ((w.alloc X).alloc (.cells #[.int .i64 0, .int .i32 0, .int .i64 0, .string ⟨#[]⟩, .int .i64 0] 38)).heap.size := by simp
  refine ⟨⟨?_, ?_, ?_, ?_, ?_⟩, fun o => ?_, ?_, ?_⟩
  · rw [hc _ _ hl]; simp [go_sem]
  · rw [hc _ _ hl]; simp [go_sem]
  · rw [hc _ _ hl]; simp [go_sem]
  · rw [hc _ _ hl]; simp [go_sem]
  · rw [hc _ _ hl]; simp [go_sem]
  · rw [hf _ _ hl]; simp [go_sem]
  · exact below_box2 (below_box2 hb)
  · have := hb.size
    simp at this
    omega

theorem below_end {w w1 : World} (hb : Below w.heap.size w w1) (v0 v1 v2 v3 v4 : Value) :
    Below w.heap.size w (((((w1.setCell ⟨w.heap.size + 1, 0, none⟩ v0).setCell ⟨w.heap.size + 1, 1, none⟩ v1).setCell ⟨w.heap.size + 1, 2, none⟩ v2).setCell ⟨w.heap.size + 1, 3, none⟩ v3).setCell ⟨w.heap.size + 1, 4, none⟩ v4) :=
  ((((hb.setCell (Nat.le_succ _) _).setCell (Nat.le_succ _) _).setCell (Nat.le_succ _) _).setCell (Nat.le_succ _) _).setCell (Nat.le_succ _) _

theorem run23_arg (m : Im) (input : ByteArray) (fuel : Int) (h : m.may = false) (w : World) :
    Calls Try.prog 23 #[m.val, .string input, .int .i64 fuel] w fun e w' => e = .returned (.tuple #[.agg #[.int .i64 0, .int .i32 0, .int .i64 0, .string ⟨#[]⟩, .int .i64 0], .int .i64 1]) ∧ Below w.heap.size w w' := by
  go_enter Try.func23, Try.ntmps23
  go_wp2_with (first
    | (go_at_call 9; refine (new9_arg m input h _).mono ?_; rintro e w1 ⟨rfl, hb1⟩; obtain ⟨⟨k0, k1, k2, k3, k4⟩, hz, hb2, hs⟩ := endz hb1; have z0 := hz 0; have z1 := hz 1; have z2 := hz 2; have z3 := hz 3; have z4 := hz 4; clear hz hb1))
  refine bodyPost_ret (v := .tuple #[.agg #[.int .i64 0, .int .i32 0, .int .i64 0, .string ⟨#[]⟩, .int .i64 0], .int .i64 1]) (by simp [results, Try.results23, go_sem, k0, k1, k2, k3, k4]) rfl ⟨rfl, below_end hb2 _ _ _ _ _⟩

theorem run23_long (m : Im) (input : ByteArray) (fuel : Int) (h : m.may = true) (hi : ¬ input.size ≤ 1048576) (w : World) :
    Calls Try.prog 23 #[m.val, .string input, .int .i64 fuel] w fun e w' => e = .returned (.tuple #[.agg #[.int .i64 0, .int .i32 0, .int .i64 0, .string ⟨#[]⟩, .int .i64 0], .int .i64 3]) ∧ Below w.heap.size w w' := by
  go_enter Try.func23, Try.ntmps23
  go_wp2_with (first
    | (go_at_call 9; refine (new9_long m input h hi _).mono ?_; rintro e w1 ⟨rfl, hb1⟩; obtain ⟨⟨k0, k1, k2, k3, k4⟩, hz, hb2, hs⟩ := endz hb1; have z0 := hz 0; have z1 := hz 1; have z2 := hz 2; have z3 := hz 3; have z4 := hz 4; clear hz hb1))
  refine bodyPost_ret (v := .tuple #[.agg #[.int .i64 0, .int .i32 0, .int .i64 0, .string ⟨#[]⟩, .int .i64 0], .int .i64 3]) (by simp [results, Try.results23, go_sem, k0, k1, k2, k3, k4]) rfl ⟨rfl, below_end hb2 _ _ _ _ _⟩

theorem run23_fuel (m : Im) (input : ByteArray) (fuel : Int) (h : m.may = true) (hi : input.size ≤ 1048576) (hf : fuel < 0) (w : World) :
    Calls Try.prog 23 #[m.val, .string input, .int .i64 fuel] w fun e w' => e = .returned (.tuple #[.agg #[.int .i64 0, .int .i32 0, .int .i64 0, .string ⟨#[]⟩, .int .i64 0], .int .i64 1]) ∧ Below w.heap.size w w' := by
  go_enter Try.func23, Try.ntmps23
  go_wp2_with (first
    | (go_at_call 9; refine (new9_yes m input h hi _).mono ?_; rintro e w1 ⟨p, rfl, q, r, hM, _, _, _, hb1⟩; obtain ⟨⟨k0, k1, k2, k3, k4⟩, hz, hb2, hs⟩ := endz hb1; have z0 := hz 0; have z1 := hz 1; have z2 := hz 2; have z3 := hz 3; have z4 := hz 4; clear hz hb1 hM))
  refine bodyPost_ret (v := .tuple #[.agg #[.int .i64 0, .int .i32 0, .int .i64 0, .string ⟨#[]⟩, .int .i64 0], .int .i64 1]) (by simp [results, Try.results23, go_sem, k0, k1, k2, k3, k4]) rfl ⟨rfl, below_end hb2 _ _ _ _ _⟩

theorem hid {x : Prop} (h : x) : Hid x := h
theorem mine_ge {B N p q r : Nat} {sl : Value} {s : St} {w : World} (h : IsM w N p q r sl s) (hp : B ≤ p) (hr : B ≤ r) (hN : B ≤ N) : ∀ k, Mine p r sl k → B ≤ k := by
  rintro k (rfl | rfl | e)
  · exact hp
  · exact hr
  · exact Nat.le_trans hN (h.own.lt k e).1

set_option maxHeartbeats 2000000 in
theorem run23_ok (m : Im) (input : ByteArray) (n : Nat) (h : m.may = true) (hi : input.size ≤ 1048576) (hn : n ≤ 1000000) (w : World) :
    Calls Try.prog 23 #[m.val, .string input, .int .i64 n] w fun e w' => e = .returned (.tuple #[endV (stepN n (initS m input)), .int .i64 0]) ∧ Below w.heap.size w w' := by
  have hO : Hid (∀ k, Ok (stepN k (initS m input))) := stepN_ok (initS_ok h hi)
  have hl : Hid (∀ k, (stepN k (initS m input)).out.length ≤ k) := stepN_out rfl
  generalize hs0 : initS m input = s0 at *
  go_enter Try.func23, Try.ntmps23
  go_wp2_with (first
    | (go_at_call 9; refine (new9_yes m input h hi _).mono ?_; rintro e w1 ⟨p, rfl, q, r, hM, hp, hq, hr, hb1⟩))
  go_loopw [24] (fun i wr => ∃ k : Nat, k ≤ n ∧ i = .int .i64 k ∧ (∃ sl, IsM wr w1.heap.size p q r sl (stepN k s0)) ∧ Below ((w.alloc (.cells #[.string m.code, .string m.data, .int .i64 m.global, .int .i64 m.entry, .int .i64 m.frame] 23)).alloc (.cells #[.int .i64 0, .int .i32 0, .int .i64 0, .string ⟨#[]⟩, .int .i64 0] 38)).heap.size ((w.alloc (.cells #[.string m.code, .string m.data, .int .i64 m.global, .int .i64 m.entry, .int .i64 m.frame] 23)).alloc (.cells #[.int .i64 0, .int .i32 0, .int .i64 0, .string ⟨#[]⟩, .int .i64 0] 38)) wr) (fun i _ => n - (intOf i).toNat)
  case atStart => exact ⟨0, Nat.zero_le _, rfl, ⟨_, by rw [hs0] at hM; exact hM⟩, hb1⟩
  case round =>
    obtain ⟨k, hk, rfl, ⟨sl, hMk⟩, hbk⟩ := hrel
    have hs1 := hb1.size
    have hmine := hid (mine_ge hMk hp hr hs1)
    have hst := step17 hMk (hO.out k) (Nat.le_trans (hl.out k) (Nat.le_trans hk hn))
    have hsz := hid hbk.size
    clear hb1 hM
    by_cases hlt : k < n
    · by_cases hk3 : (stepN k s0).kind = 3
      · rw [decide_eq_true hk3] at hst
        unfold Steps at hst
        clear hMk
        go_wp2_with (first
          | (go_at_call 17; refine hst.mono ?_; rintro e w2 ⟨rfl, sl', hM2, hK2, _⟩))
        go_roundw
        case rel => exact ⟨k + 1, by omega, by go_num, ⟨sl', hM2⟩, hbk.trans (hK2.below hsz.out hmine.out)⟩
        case measure => simp [intOf]; omega
      · rw [decide_eq_false hk3, stepF_over hk3] at hst
        unfold Steps at hst
        clear hMk
        have hend := hid (stepN_over hk3 n (Nat.le_of_lt hlt))
        go_wp2_with (first
          | (go_at_call 17; refine hst.mono ?_; rintro e w2 ⟨rfl, sl', hM2, hK2, _⟩)
          | (go_at_call 21; refine (end21 hM2).mono ?_; rintro e w3 ⟨rfl, hb3⟩; have hb4 := (hbk.trans (hK2.below hsz.out hmine.out)).trans (hb3.mono (Nat.le_trans hsz.out hK2.size)); obtain ⟨⟨k0, k1, k2, k3, k4⟩, hz, hb5, hs⟩ := endz hb4; have z0 := hz 0; have z1 := hz 1; have z2 := hz 2; have z3 := hz 3; have z4 := hz 4; clear hz hb4))
        refine bodyPost_ret (v := .tuple #[endV (stepN k s0), .int .i64 0]) (by simp [results, Try.results23, go_sem, k0, k1, k2, k3, k4]) rfl ⟨?_, below_end hb5 _ _ _ _ _⟩
        rw [hend.out]
    · obtain rfl : k = n := by omega
      clear hst
      go_wp2_with (first
        | (go_at_call 21; refine (end21 hMk).mono ?_; rintro e w3 ⟨rfl, hb3⟩; have hb4 := hbk.trans (hb3.mono hsz.out); obtain ⟨⟨k0, k1, k2, k3, k4⟩, hz, hb5, hs⟩ := endz hb4; have z0 := hz 0; have z1 := hz 1; have z2 := hz 2; have z3 := hz 3; have z4 := hz 4; clear hz hb4))
      refine bodyPost_ret (v := .tuple #[endV (stepN k s0), .int .i64 0]) (by simp [results, Try.results23, go_sem, k0, k1, k2, k3, k4]) rfl ⟨rfl, below_end hb5 _ _ _ _ _⟩
end Go.Proofs.Ytimbnlcegcmfiaa
