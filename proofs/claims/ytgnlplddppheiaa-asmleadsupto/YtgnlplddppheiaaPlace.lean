/- Place. -/
import Derived.Test.YtgnlplddppheiaaAsm
namespace Go.Proofs.Ytgnlplddppheiaa
open Go.RowKit Go.Maps
set_option linter.unusedVariables false

/-- What Place answers. -/
def PlaceIs (ls : List Ln) (n : Int) (p er : Int) : Prop :=
  (ErrIs ls er ∧ er ≠ 0 ∧ p = 0) ∨
  (ErrIs ls 0 ∧ ∃ S, Least (bsOf ls) S ∧ ((1048576 < 4 * atF S (insN ls) ∧ p = 0 ∧ er = 3) ∨
    (4 * atF S (insN ls) ≤ 1048576 ∧ ((labs ls n = none ∧ p = 0 ∧ er = 4) ∨ (∃ k, labs ls n = some k ∧ p = 4 * (atF S k : Int) ∧ er = 0)))))

theorem PlaceIs.unique {ls : List Ln} {n p p' e e' : Int} (h : PlaceIs ls n p e) (h' : PlaceIs ls n p' e') : p = p' ∧ e = e' := by
  rcases h with ⟨h1, h2, h3⟩ | ⟨h1, S, hS, hr⟩ <;> rcases h' with ⟨h1', h2', h3'⟩ | ⟨h1', S', hS', hr'⟩
  · exact ⟨h3.trans h3'.symm, h1.unique h1'⟩
  · exact absurd (h1.unique h1') h2
  · exact absurd (h1'.unique h1) h2'
  · rw [hS'.unique hS] at hr'
    rcases hr with ⟨a, rfl, rfl⟩ | ⟨a, ⟨b, rfl, rfl⟩ | ⟨k, b, rfl, rfl⟩⟩ <;> rcases hr' with ⟨c, rfl, rfl⟩ | ⟨c, ⟨d, rfl, rfl⟩ | ⟨k', d, rfl, rfl⟩⟩
    any_goals exact ⟨rfl, rfl⟩
    any_goals omega
    · rw [b] at d; cases d
    · rw [b] at d; cases d
    · rw [b] at d; cases d; exact ⟨rfl, rfl⟩

theorem place_err {w : World} {v : Value} {n er : Int} (hne : er ≠ 0) (hL : Calls Try.prog 17 #[v] w fun e w' => e = .returned (.tuple #[.agg #[.map none, .slice none 0 0], .int .i64 er]) ∧ Below w.heap.size w w') :
    Calls Try.prog 14 #[v, .int .i64 n] w fun e w' => e = .returned (.tuple #[.int .i64 0, .int .i64 er]) ∧ Below w.heap.size w w' := by
  go_enter Try.func14, Try.ntmps14
  go_wp2_with (go_at_call 17; refine hL.mono ?_; rintro e w1 ⟨rfl, hb1⟩)
  go_ret2
  exact ⟨rfl, hb1.trans ((below1 _ _).mono hb1.size)⟩

set_option maxRecDepth 100000 in
set_option maxHeartbeats 2000000 in
theorem place_ok {w : World} {ls : List Ln} {v : Value} {S : Nat → Bool} {n : Int} (hn0 : -9223372036854775808 ≤ n) (hn1 : n ≤ 9223372036854775807) (h4 : 4 * atF S (insN ls) ≤ 1048576) (hlen : ls.length ≤ 262144)
    (hL : Calls Try.prog 17 #[v] w fun e w' => ∃ mb ab, e = .returned (.tuple #[.agg #[.map (some mb), .slice (some ⟨ab, 0, none⟩) (insN ls + 1) (insN ls + 1)], .int .i64 0]) ∧ w.heap.size ≤ mb ∧ w.heap.size ≤ ab ∧ mb ≠ ab ∧ IsMapL w' mb ls.length (labL ls).length (labs ls) ∧ IsAt w' ab (insN ls + 1) (atF S) ∧ Below w.heap.size w w') :
    Calls Try.prog 14 #[v, .int .i64 n] w fun e w' => ((labs ls n = none ∧ e = .returned (.tuple #[.int .i64 0, .int .i64 4])) ∨ (∃ k, labs ls n = some k ∧ e = .returned (.tuple #[.int .i64 (4 * (atF S k : Int)), .int .i64 0]))) ∧ Below w.heap.size w w' := by
  have hkey : keyOf Try.prog 3 (.int .i64 n) = some (.int .i64 n) := keyOf_int_mk Try.underlying3 (wf64 hn0 hn1)
  have HK := hid' hkey
  clear hkey
  cases hq : labs ls n with
  | none =>
    have HQ := hid' hq
    clear hq
    go_enter Try.func14, Try.ntmps14
    go_wp2_with (first
      | (go_at_call 17; refine hL.mono ?_; rintro e w1 ⟨mb, ab, rfl, h1, h2, h3, ⟨D, hD, hsz, hf⟩, hat, hb1⟩; have hD' := fun o => hD.alloc (P := Try.prog) o; have hh : Maps.has D (.int .i64 n) = false := by rw [(hf n).1, HQ.out]; rfl)
      | (at_lookup; refine wpList_lookup_own_ok_int _ rfl _ _ 38 rfl 3 3 .i64 law3 Try.underlying38 Try.underlying3 (zero3 _) mb ls.length D rfl (hD' _) _ _ rfl HK.out ?_; intro c hat' hwc; rw [hh]))
    go_ret2
    exact ⟨.inl ⟨by trivial, rfl⟩, hb1.trans ((below1 _ _).mono hb1.size)⟩
  | some k =>
    have HQ := hid' hq
    have hkl := labs_le hq
    have hle := atF_le S k
    have hil := insN_le ls
    clear hq
    have hwr : IntKind.i64.wrap (4 * (atF S k : Int)) = 4 * (atF S k : Int) := by simp [IntKind.wrap, IntKind.bits, IntKind.signed]; omega
    go_enter Try.func14, Try.ntmps14
    go_wp2_with (first
      | (go_at_call 17; (refine hL.mono ?_; rintro e w1 ⟨mb, ab, rfl, h1, h2, h3, ⟨D, hD, hsz, hf⟩, hat, hb1⟩; have hD' := fun o => hD.alloc (P := Try.prog) o; have hh : Maps.has D (.int .i64 n) = true := (by rw [(hf n).1, HQ.out]; rfl); have hck := hat.cell (i := k) (by omega); have hal := hat.lt; have hfk := (hf n).2; rw [HQ.out] at hfk))
      | (at_lookup; refine wpList_lookup_own_ok_int _ rfl _ _ 38 rfl 3 3 .i64 law3 Try.underlying38 Try.underlying3 (zero3 _) mb ls.length D rfl (hD' _) _ _ rfl HK.out ?_; intro c hat' hwc; rw [hh]; have hcp := at_c (p := k) hfk hat'; subst hcp))
    go_ret2
    exact ⟨.inr ⟨k, rfl, rfl⟩, hb1.trans ((below1 _ _).mono hb1.size)⟩

theorem place14 {w : World} {v : Value} {ls : List Ln} {n : Int} (hn0 : -9223372036854775808 ≤ n) (hn1 : n ≤ 9223372036854775807) (h : IsLns w v ls) : Calls Try.prog 14 #[v, .int .i64 n] w fun e w' => ∃ p er, e = .returned (.tuple #[.int .i64 p, .int .i64 er]) ∧ PlaceIs ls n p er ∧ Below w.heap.size w w' := by
  obtain ⟨er, hE⟩ := ErrIs.ex ls
  by_cases h0 : er = 0
  · subst h0
    obtain ⟨S, hS⟩ := least_ls ls
    by_cases h4 : 1048576 < 4 * atF S (insN ls)
    · refine (place_err (er := 3) (by omega) ((layOut17 h).mono ?_)).mono ?_
      · rintro e w' (⟨er', h1, h2, _⟩ | ⟨_, S', hS', ⟨_, rfl, hb⟩ | ⟨h5, _⟩⟩)
        · exact absurd (h1.unique hE) h2
        · exact ⟨rfl, hb⟩
        · rw [hS'.unique hS] at h5; omega
      · rintro e w' ⟨rfl, hb⟩
        exact ⟨_, _, rfl, .inr ⟨hE, S, hS, .inl ⟨h4, rfl, rfl⟩⟩, hb⟩
    · refine (place_ok (S := S) hn0 hn1 (by omega) (err_len hE) ((layOut17 h).mono ?_)).mono ?_
      · rintro e w' (⟨er', h1, h2, _⟩ | ⟨_, S', hS', ⟨h5, _⟩ | ⟨h5, mb, ab, r⟩⟩)
        · exact absurd (h1.unique hE) h2
        · rw [hS'.unique hS] at h5; omega
        · rw [hS'.unique hS] at r
          exact ⟨mb, ab, r⟩
      · rintro e w' ⟨⟨hq, rfl⟩ | ⟨k, hq, rfl⟩, hb⟩
        · exact ⟨_, _, rfl, .inr ⟨hE, S, hS, .inr ⟨by omega, .inl ⟨hq, rfl, rfl⟩⟩⟩, hb⟩
        · exact ⟨_, _, rfl, .inr ⟨hE, S, hS, .inr ⟨by omega, .inr ⟨k, hq, rfl, rfl⟩⟩⟩, hb⟩
  · refine (place_err h0 ((layOut17 h).mono ?_)).mono ?_
    · rintro e w' (⟨er', h1, h2, rfl, hb⟩ | ⟨h1, _⟩)
      · rw [h1.unique hE]; exact ⟨rfl, hb⟩
      · exact absurd (hE.unique h1) h0
    · rintro e w' ⟨rfl, hb⟩
      exact ⟨_, _, rfl, .inl ⟨hE, h0, rfl⟩, hb⟩
end Go.Proofs.Ytgnlplddppheiaa
