/- Assemble and Place, by the document, whatever the lines. -/
import Derived.Test.YtgnlplddppheiaaRAsm
import Derived.Test.YtgnlplddppheiaaWake
import Derived.Test.YtgnlplddppheiaaPlace
namespace Go.Proofs.Ytgnlplddppheiaa
open Go.RowKit Go.Maps
set_option linter.unusedVariables false

theorem check12_er {w : World} {v : Value} {ls : List Ln} {er : Int} (h : IsLns w v ls) (hE : ErrIs ls er) : Calls Try.prog 12 #[v] w fun e w' => e = .returned (.int .i64 er) ∧ Below w.heap.size w w' :=
  (check12 h).mono fun e w' ⟨er', h1, he, hb⟩ => by rw [h1.unique hE] at he; exact ⟨he, hb⟩
theorem check11_er {w : World} {v : Value} {ls : List Ln} {er : Int} (h : IsLns w v ls) (hE : ErrIs ls er) : Calls Try.prog 11 #[v] w fun e w' => e = .returned (.int .i64 er) ∧ Below w.heap.size w w' :=
  (check11 h).mono fun e w' ⟨er', h1, he, hb⟩ => by rw [h1.unique hE] at he; exact ⟨he, hb⟩

set_option maxHeartbeats 1000000 in
theorem assembleR_err {w : World} {v : Value} {er : Int} (hne : er ≠ 0) (hC : Calls Try.prog 12 #[v] w fun e w' => e = .returned (.int .i64 er) ∧ Below w.heap.size w w') :
    Calls Try.prog 10 #[v] w fun e w' => e = .returned (.tuple #[.string ⟨#[]⟩, .int .i64 er]) ∧ Below w.heap.size w w' := by
  go_enter Try.func10, Try.ntmps10
  go_wp2_with (go_at_call 12; (with_reducible refine hC.mono ?_); rintro e w1 ⟨rfl, hb1⟩)
  go_ret2
  exact ⟨rfl, hb1⟩

set_option maxRecDepth 100000 in
set_option maxHeartbeats 2000000 in
theorem assembleR_long {w : World} {ls : List Ln} {ao : Option Addr} {cap : Nat} {S : Nat → Bool} (h : IsLns w (.slice ao ls.length cap) ls) (h0 : ErrIs ls 0) (hS : Least (bsOf ls) S) (h4 : 1048576 < 4 * atF S (insN ls))
    (hC : Calls Try.prog 12 #[.slice ao ls.length cap] w fun e w' => e = .returned (.int .i64 0) ∧ Below w.heap.size w w') :
    Calls Try.prog 10 #[.slice ao ls.length cap] w fun e w' => e = .returned (.tuple #[.string ⟨#[]⟩, .int .i64 3]) ∧ Below w.heap.size w w' := by
  have HL := hid' h
  have hlen := err_len h0
  have hSt : Hid (∀ W, Below w.heap.size w W → Calls Try.prog 21 #[.slice ao ls.length cap] W fun e w' => ∃ tb lb ab T A, e = .returned (.agg (layV tb lb ab ls.length)) ∧ Lay w' tb lb ab ls.length T S A ls ∧ (∀ i, i ≤ ls.length → A i = (atF S (ixF ls i) : Nat)) ∧ (∀ i, TOk ls T i) ∧ Below W.heap.size W w') := fun W hb => (settled21 (HL.out.below hb) h0).mono fun e w' ⟨tb, lb, ab, T, S', A, he, hLay, hL', hA, hT, hB⟩ => by
    rw [hL'.unique hS] at hLay hA
    exact ⟨tb, lb, ab, T, A, he, hLay, hA, hT, hB⟩
  have hix := ixF_all ls
  have h4' : (262144 : Int) < (atF S (insN ls) : Int) := by omega
  clear h hS
  go_enter Try.func10, Try.ntmps10
  go_wp2_with (first
    | (go_at_call 12; refine hC.mono ?_; rintro e w1 ⟨rfl, hb1⟩)
    | (go_at_call 21; refine (hSt.out _ hb1).mono ?_; rintro e w2 ⟨tb, lb, ab, T, A, rfl, hLay, hA, hT, hb2⟩; have hAn := (hLay.at_.cell (i := ls.length) (by omega)); rw [hA _ (Nat.le_refl _), hix] at hAn; have alt := hLay.at_.lt))
  go_ret2
  exact ⟨rfl, (hb1.trans (hb2.mono hb1.size)).alloc (Nat.le_trans hb1.size hb2.size) _⟩

theorem assemble10 {w : World} {v : Value} {ls : List Ln} (h : IsLns w v ls) : Calls Try.prog 10 #[v] w fun e w' => ∃ s er, e = .returned (.tuple #[.string s, .int .i64 er]) ∧ AsmIs ls s er ∧ Below w.heap.size w w' := by
  obtain ⟨er, hE⟩ := ErrIs.ex ls
  obtain ⟨ao, cap, rfl⟩ : ∃ ao cap, v = .slice ao ls.length cap := by
    rcases h.2.2 with ⟨rfl, ao, cap, rfl⟩ | ⟨_, b, cap, rfl, _⟩
    · exact ⟨_, _, rfl⟩
    · exact ⟨_, _, rfl⟩
  have hC := check12_er h hE
  by_cases h0 : er = 0
  · subst h0
    obtain ⟨S, hS⟩ := least_ls ls
    by_cases h4 : 1048576 < 4 * atF S (insN ls)
    · exact (assembleR_long h hE hS h4 hC).mono fun e w' ⟨he, hb⟩ => ⟨_, _, he, .inr ⟨hE, S, hS, .inl ⟨h4, rfl, rfl⟩⟩, hb⟩
    · exact (assembleR_ok h hE hS (by omega) hC).mono fun e w' ⟨he, hb⟩ => ⟨_, _, he, .inr ⟨hE, S, hS, .inr ⟨by omega, rfl, rfl⟩⟩, hb⟩
  · exact (assembleR_err h0 hC).mono fun e w' ⟨he, hb⟩ => ⟨_, _, he, .inl ⟨hE, h0, rfl⟩, hb⟩

/-- No label of its own is none or below. -/
theorem lab_pos {ls : List Ln} (h0 : ErrIs ls 0) {n : Int} (h : n ∈ labL ls) : 0 < n := by
  obtain ⟨j, hj, e⟩ := labL_pos h
  have hok : ∀ x ∈ ls, x.ok = true := by
    rcases h0 with ⟨_, e⟩ | ⟨_, _, e⟩ | ⟨_, _, _, e⟩ | ⟨h1, h2, _⟩
    · omega
    · omega
    · omega
    · exact h2
  have hx := hok ls[j] (List.getElem_mem hj)
  rw [labAt_get hj] at e
  unfold Ln.ok at hx
  have hne : n ≠ 0 := by
    unfold labL at h
    obtain ⟨x, hx, e⟩ := List.mem_map.1 h
    have := (List.mem_filter.1 hx).2
    simp at this
    omega
  rw [if_neg (by omega)] at hx
  simp only [Bool.and_eq_true, decide_eq_true_eq] at hx
  omega
theorem lab_mem {ls : List Ln} {i : Nat} {n : Int} (hi : i < ls.length) (h : labAt ls i = n) (hn : n ≠ 0) : n ∈ labL ls := by
  unfold labL
  rw [labAt_get hi] at h
  refine List.mem_map.2 ⟨ls[i], List.mem_filter.2 ⟨List.getElem_mem hi, ?_⟩, h⟩
  simp
  omega

set_option maxHeartbeats 1000000 in
theorem placeR_err {w : World} {v : Value} {n er : Int} {s : ByteArray} (hne : er ≠ 0) (hC : Calls Try.prog 10 #[v] w fun e w' => e = .returned (.tuple #[.string s, .int .i64 er]) ∧ Below w.heap.size w w') :
    Calls Try.prog 15 #[v, .int .i64 n] w fun e w' => e = .returned (.tuple #[.int .i64 0, .int .i64 er]) ∧ Below w.heap.size w w' := by
  go_enter Try.func15, Try.ntmps15
  go_wp2_with (go_at_call 10; (with_reducible refine hC.mono ?_); rintro e w1 ⟨rfl, hb1⟩)
  go_ret2
  exact ⟨rfl, hb1⟩
set_option maxHeartbeats 1000000 in
theorem placeR_low {w : World} {v : Value} {n : Int} {s : ByteArray} (hn : n < 1) (hC : Calls Try.prog 10 #[v] w fun e w' => e = .returned (.tuple #[.string s, .int .i64 0]) ∧ Below w.heap.size w w') :
    Calls Try.prog 15 #[v, .int .i64 n] w fun e w' => e = .returned (.tuple #[.int .i64 0, .int .i64 4]) ∧ Below w.heap.size w w' := by
  go_enter Try.func15, Try.ntmps15
  go_wp2_with (go_at_call 10; (with_reducible refine hC.mono ?_); rintro e w1 ⟨rfl, hb1⟩)
  go_ret2
  exact ⟨rfl, hb1⟩

set_option maxRecDepth 100000 in
set_option maxHeartbeats 4000000 in
theorem placeR_find {w : World} {ls : List Ln} {ao : Option Addr} {cap : Nat} {n : Int} {s : ByteArray} {S : Nat → Bool} (h : IsLns w (.slice ao ls.length cap) ls) (h0 : ErrIs ls 0) (hS : Least (bsOf ls) S) (hn : 1 ≤ n)
    (hC : Calls Try.prog 10 #[.slice ao ls.length cap] w fun e w' => e = .returned (.tuple #[.string s, .int .i64 0]) ∧ Below w.heap.size w w') :
    Calls Try.prog 15 #[.slice ao ls.length cap, .int .i64 n] w fun e w' => (∃ p er, e = .returned (.tuple #[.int .i64 p, .int .i64 er]) ∧ ((labs ls n = none ∧ p = 0 ∧ er = 4) ∨ (∃ k, labs ls n = some k ∧ p = 4 * (atF S k : Int) ∧ er = 0))) ∧ Below w.heap.size w w' := by
  have HL := hid' h
  have hlen := err_len h0
  have hnd : (labL ls).Nodup := by
    rcases h0 with ⟨_, e⟩ | ⟨_, _, e⟩ | ⟨_, _, _, e⟩ | ⟨h1, h2, h3, _⟩
    · omega
    · omega
    · omega
    · exact h3
  have HND := hid' hnd
  have hSt : Hid (∀ W, Below w.heap.size w W → Calls Try.prog 21 #[.slice ao ls.length cap] W fun e w' => ∃ tb lb ab T A, e = .returned (.agg #[.slice (some ⟨tb, 0, none⟩) ls.length ls.length, .slice (some ⟨lb, 0, none⟩) ls.length ls.length, .slice (some ⟨ab, 0, none⟩) (ls.length + 1) (ls.length + 1)]) ∧ Lay w' tb lb ab ls.length T S A ls ∧ (∀ i, i ≤ ls.length → A i = (atF S (ixF ls i) : Nat)) ∧ (∀ i, TOk ls T i) ∧ Below W.heap.size W w') := fun W hb => (settled21 (HL.out.below hb) h0).mono fun e w' ⟨tb, lb, ab, T, S', A, he, hLay, hL', hA, hT, hB⟩ => by
    rw [hL'.unique hS] at hLay hA
    exact ⟨tb, lb, ab, T, A, he, hLay, hA, hT, hB⟩
  have hfd : ∀ (x y z : Value) (W : World), (Instr.field 56 (.agg #[x, y, z]) 2).run Try.prog W = .ok z W := fun _ _ _ _ => by kernel_rfl
  clear h hS hnd
  go_enter Try.func15, Try.ntmps15
  go_upto_region 7 with (first
    | (go_at_call 10; (with_reducible refine hC.mono ?_); rintro e w1 ⟨rfl, hb1⟩)
    | (go_at_call 26; refine (sorted_all (HL.out.below hb1)).mono ?_; rintro e w2 ⟨sv, s, rfl, hs, hSr, hb2, hfr⟩)
    | (go_at_call 27; refine (find27 ((HL.out.below hb1).below hb2) hs hSr).mono ?_; rintro e w3 ⟨r, rfl, rfl, hr⟩))
  have HB2 : Hid (Below w.heap.size w w3) := hb1.trans (hb2.mono hb1.size)
  rcases hr with ⟨rfl, hno⟩ | ⟨i, rfl, hi, hl⟩
  · have HN : Hid (labs ls n = none) := by
      show _ = none
      rw [labs_none]
      refine .inl (fun hm => ?_)
      obtain ⟨j, hj, e⟩ := labL_pos hm
      exact hno j (by omega) e
    clear hno hb1 hb2 hs hSr hfr
    go_wp2
    go_ret2
    exact ⟨⟨_, _, rfl, .inl ⟨HN.out, rfl, rfl⟩⟩, HB2.out⟩
  · have hlb := labs_ix HND.out hi hl (by omega)
    have HLB := hid' hlb
    have hb3 := atF_le S (ixF ls i)
    have hb4 := ixF_le ls i
    clear hlb hb1 hb2 hs hSr hfr
    obtain ⟨P, hP⟩ : ∃ P, P = atF S (ixF ls i) := ⟨_, rfl⟩
    rw [← hP] at hb3
    have HP := hid' hP
    clear hP
    go_wp2_with (go_at_call 21; refine (hSt.out _ HB2.out).mono ?_; rintro e w5 ⟨tb, lb, ab, T, A, rfl, hLay, hA, hT, hb5⟩; have hAn := (hLay.at_.cell (i := i) (by omega)); rw [hA _ (by omega), ← HP.out] at hAn; have alt := hLay.at_.lt)
    go_ret2
    exact ⟨⟨_, _, rfl, .inr ⟨_, HLB.out, by rw [HP.out], rfl⟩⟩, HB2.out.trans (hb5.mono HB2.out.size)⟩

theorem place15 {w : World} {v : Value} {ls : List Ln} {n : Int} (h : IsLns w v ls) : Calls Try.prog 15 #[v, .int .i64 n] w fun e w' => ∃ p er, e = .returned (.tuple #[.int .i64 p, .int .i64 er]) ∧ PlaceIs ls n p er ∧ Below w.heap.size w w' := by
  obtain ⟨er, hE⟩ := ErrIs.ex ls
  obtain ⟨ao, cap, rfl⟩ : ∃ ao cap, v = .slice ao ls.length cap := by
    rcases h.2.2 with ⟨rfl, ao, cap, rfl⟩ | ⟨_, b, cap, rfl, _⟩
    · exact ⟨_, _, rfl⟩
    · exact ⟨_, _, rfl⟩
  have hC := check12_er h hE
  by_cases h0 : er = 0
  · subst h0
    obtain ⟨S, hS⟩ := least_ls ls
    by_cases h4 : 1048576 < 4 * atF S (insN ls)
    · exact (placeR_err (by omega) (assembleR_long h hE hS h4 hC)).mono fun e w' ⟨he, hb⟩ => ⟨_, _, he, .inr ⟨hE, S, hS, .inl ⟨h4, rfl, rfl⟩⟩, hb⟩
    · have hA := assembleR_ok h hE hS (by omega) hC
      by_cases hn : n < 1
      · refine (placeR_low hn hA).mono fun e w' ⟨he, hb⟩ => ⟨_, _, he, .inr ⟨hE, S, hS, .inr ⟨by omega, .inl ⟨?_, rfl, rfl⟩⟩⟩, hb⟩
        rw [labs_none]
        by_cases hz : n = 0
        · exact .inr hz
        · exact .inl (fun hm => by have := lab_pos hE hm; omega)
      · exact (placeR_find h hE hS (by omega) hA).mono fun e w' ⟨⟨p, er, he, hr⟩, hb⟩ => ⟨p, er, he, .inr ⟨hE, S, hS, .inr ⟨by omega, hr⟩⟩, hb⟩
  · exact (placeR_err h0 (assembleR_err h0 hC)).mono fun e w' ⟨he, hb⟩ => ⟨_, _, he, .inl ⟨hE, h0, rfl⟩, hb⟩
end Go.Proofs.Ytgnlplddppheiaa
