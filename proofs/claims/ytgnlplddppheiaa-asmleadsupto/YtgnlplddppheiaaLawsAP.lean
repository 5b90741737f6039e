/- The laws of Assemble and of Place. -/
import Derived.Test.YtgnlplddppheiaaRAsmAll
import Derived.Test.YtgnlplddppheiaaOps
namespace Go.Proofs.Ytgnlplddppheiaa
open Go.RowKit Go.Maps
set_option linter.unusedVariables false

theorem asm_ex (ls : List Ln) : ∃ s er, AsmIs ls s er := by
  obtain ⟨er, hE⟩ := ErrIs.ex ls
  by_cases h0 : er = 0
  · subst h0
    obtain ⟨S, hS⟩ := least_ls ls
    by_cases h4 : 1048576 < 4 * atF S (insN ls)
    · exact ⟨_, _, .inr ⟨hE, S, hS, .inl ⟨h4, rfl, rfl⟩⟩⟩
    · exact ⟨_, _, .inr ⟨hE, S, hS, .inr ⟨by omega, rfl, rfl⟩⟩⟩
  · exact ⟨_, _, .inl ⟨hE, h0, rfl⟩⟩
theorem asm8_is {w : World} {v : Value} {ls : List Ln} {s : ByteArray} {er : Int} (h : IsLns w v ls) (hA : AsmIs ls s er) : Calls Try.prog 8 #[v] w fun e w' => e = .returned (.tuple #[.string s, .int .i64 er]) ∧ Below w.heap.size w w' :=
  (assemble8 h).mono fun e w' ⟨s', er', he, h2, hb⟩ => by obtain ⟨rfl, rfl⟩ := h2.unique hA; exact ⟨he, hb⟩
theorem asm10_is {w : World} {v : Value} {ls : List Ln} {s : ByteArray} {er : Int} (h : IsLns w v ls) (hA : AsmIs ls s er) : Calls Try.prog 10 #[v] w fun e w' => e = .returned (.tuple #[.string s, .int .i64 er]) ∧ Below w.heap.size w w' :=
  (assemble10 h).mono fun e w' ⟨s', er', he, h2, hb⟩ => by obtain ⟨rfl, rfl⟩ := h2.unique hA; exact ⟨he, hb⟩

theorem lines_len {hd tl : List Ln} {o d a b i N : Int} (hl : hd.length + tl.length ≤ 1100000) : (linesL hd tl o d a b i N).length ≤ 1400000 := by
  have : midN N ≤ 262153 := by unfold midN; split <;> omega
  unfold linesL
  simp
  omega

set_option maxHeartbeats 4000000 in
theorem assembles3 {w : World} {hv tv : Value} {hd tl : List Ln} {o d a b i N : Int} (hh : Src7 w hv hd) (ht : Src7 w tv tl) (hl : hd.length + tl.length ≤ 1100000) (hN : N ≤ 9223372036854775807) (hw : ∀ x ∈ linesL hd tl o d a b i N, x.wf) :
    Calls Try.prog 3 #[.agg #[hv, .int .i64 o, .int .i64 d, .int .i64 a, .int .i64 b, .int .i32 i, .int .i64 N, tv]] w fun e w' => e = .returned (.bool true) ∧ Below w.heap.size w w' := by
  have hlen := lines_len (o := o) (d := d) (a := a) (b := b) (i := i) (N := N) hl
  have hL : Hid (∀ W, Below w.heap.size w W → Calls Try.prog 7 #[.agg #[hv, .int .i64 o, .int .i64 d, .int .i64 a, .int .i64 b, .int .i32 i, .int .i64 N, tv]] W fun e w' => ∃ v', e = .returned v' ∧ LnOwn w' W.heap.size v' (linesL hd tl o d a b i N) ∧ Below W.heap.size W w') := fun W hW => lines7 (hh.below hW) (ht.below hW) hl hN
  generalize linesL hd tl o d a b i N = ls at *
  clear hh ht
  obtain ⟨s, er, hA⟩ := asm_ex ls
  obtain ⟨ec, hE⟩ := ErrIs.ex ls
  go_enter Try.func3, Try.ntmps3
  go_wp2_with (first
    | (go_at_call 7; (with_reducible refine (hL.out _ (below1 _ _)).mono ?_); rintro e w1 ⟨vl, rfl, hol, hb1⟩; have hl1 := hid' (hol.lns (by omega) hw); have hs1 := hid' hol.src; replace hb1 := hid' (below_call hb1))
    | (go_at_call 9; (with_reducible refine (own9 hs1.out (by omega)).mono ?_); rintro e w2 ⟨vm, rfl, hom, hb2⟩; have hl2 := hid' (hom.lns (by omega) hw); have hl2a := hid' (hl1.out.below hb2); have hs2 := hid' (hs1.out.below hb2); replace hb2 := hid' hb2)
    | (go_at_call 8; (with_reducible refine (asm8_is hl2.out hA).mono ?_); rintro e w3 ⟨rfl, hb3⟩; have hl3 := hid' (hl2a.out.below hb3); have hs3 := hid' (hs2.out.below hb3); replace hb3 := hid' hb3)
    | (go_at_call 10; (with_reducible refine (asm10_is hl3.out hA).mono ?_); rintro e w4 ⟨rfl, hb4⟩; have hl4 := hid' (hl3.out.below hb4); have hs4 := hid' (hs3.out.below hb4); replace hb4 := hid' hb4)
    | (go_at_call 9; (with_reducible refine (own9 hs4.out (by omega)).mono ?_); rintro e w5 ⟨vn, rfl, hon, hb5⟩; have hl5 := hid' (hon.lns (by omega) hw); have hl5a := hid' (hl4.out.below hb5); replace hb5 := hid' hb5)
    | (go_at_call 11; (with_reducible refine (check11_er hl5.out hE).mono ?_); rintro e w6 ⟨rfl, hb6⟩; have hl6 := hid' (hl5a.out.below hb6); replace hb6 := hid' hb6)
    | (go_at_call 12; (with_reducible refine (check12_er hl6.out hE).mono ?_); rintro e w7 ⟨rfl, hb7⟩; replace hb7 := hid' hb7)
    | (go_at_call 13; (with_reducible refine (awake13 _).mono ?_); rintro e w8 ⟨rfl, hb8⟩; replace hb8 := hid' hb8))
  go_ret
  exact ⟨rfl, below_on (below_on (below_on (below_on (below_on (below_on (below_on hb1.out hb2.out) hb3.out) hb4.out) hb5.out) hb6.out) hb7.out) hb8.out⟩

theorem place_ex (ls : List Ln) (n : Int) : ∃ p er, PlaceIs ls n p er := by
  obtain ⟨er, hE⟩ := ErrIs.ex ls
  by_cases h0 : er = 0
  · subst h0
    obtain ⟨S, hS⟩ := least_ls ls
    by_cases h4 : 1048576 < 4 * atF S (insN ls)
    · exact ⟨_, _, .inr ⟨hE, S, hS, .inl ⟨h4, rfl, rfl⟩⟩⟩
    · cases hl : labs ls n with
      | none => exact ⟨_, _, .inr ⟨hE, S, hS, .inr ⟨by omega, .inl ⟨hl, rfl, rfl⟩⟩⟩⟩
      | some k => exact ⟨_, _, .inr ⟨hE, S, hS, .inr ⟨by omega, .inr ⟨k, hl, rfl, rfl⟩⟩⟩⟩
  · exact ⟨_, _, .inl ⟨hE, h0, rfl⟩⟩

set_option maxHeartbeats 4000000 in
theorem places4 {w : World} {hv tv : Value} {hd tl : List Ln} {o d a b i N n : Int} (hh : Src7 w hv hd) (ht : Src7 w tv tl) (hl : hd.length + tl.length ≤ 1100000) (hN : N ≤ 9223372036854775807) (hw : ∀ x ∈ linesL hd tl o d a b i N, x.wf) (hn0 : -9223372036854775808 ≤ n) (hn1 : n ≤ 9223372036854775807) :
    Calls Try.prog 4 #[.agg #[hv, .int .i64 o, .int .i64 d, .int .i64 a, .int .i64 b, .int .i32 i, .int .i64 N, tv], .int .i64 n] w fun e w' => e = .returned (.bool true) ∧ Below w.heap.size w w' := by
  have hlen := lines_len (o := o) (d := d) (a := a) (b := b) (i := i) (N := N) hl
  have hL : Hid (∀ W, Below w.heap.size w W → Calls Try.prog 7 #[.agg #[hv, .int .i64 o, .int .i64 d, .int .i64 a, .int .i64 b, .int .i32 i, .int .i64 N, tv]] W fun e w' => ∃ v', e = .returned v' ∧ LnOwn w' W.heap.size v' (linesL hd tl o d a b i N) ∧ Below W.heap.size W w') := fun W hW => lines7 (hh.below hW) (ht.below hW) hl hN
  generalize linesL hd tl o d a b i N = ls at *
  clear hh ht
  obtain ⟨p, er, hP⟩ := place_ex ls n
  have h14 : Hid (∀ {W : World} {v : Value}, IsLns W v ls → Calls Try.prog 14 #[v, .int .i64 n] W fun e w' => e = .returned (.tuple #[.int .i64 p, .int .i64 er]) ∧ Below W.heap.size W w') := fun h => (place14 hn0 hn1 h).mono fun e w' ⟨p', er', he, h2, hb⟩ => by obtain ⟨rfl, rfl⟩ := h2.unique hP; exact ⟨he, hb⟩
  have h15 : Hid (∀ {W : World} {v : Value}, IsLns W v ls → Calls Try.prog 15 #[v, .int .i64 n] W fun e w' => e = .returned (.tuple #[.int .i64 p, .int .i64 er]) ∧ Below W.heap.size W w') := fun h => (place15 h).mono fun e w' ⟨p', er', he, h2, hb⟩ => by obtain ⟨rfl, rfl⟩ := h2.unique hP; exact ⟨he, hb⟩
  go_enter Try.func4, Try.ntmps4
  go_wp2_with (first
    | (go_at_call 7; (with_reducible refine (hL.out _ (below1 _ _)).mono ?_); rintro e w1 ⟨vl, rfl, hol, hb1⟩; have hl1 := hid' (hol.lns (by omega) hw); have hs1 := hid' hol.src; replace hb1 := hid' (below_call hb1))
    | (go_at_call 9; (with_reducible refine (own9 hs1.out (by omega)).mono ?_); rintro e w2 ⟨vm, rfl, hom, hb2⟩; have hl2 := hid' (hom.lns (by omega) hw); have hl2a := hid' (hl1.out.below hb2); replace hb2 := hid' hb2)
    | (go_at_call 14; (with_reducible refine (h14.out hl2.out).mono ?_); rintro e w3 ⟨rfl, hb3⟩; have hl3 := hid' (hl2a.out.below hb3); replace hb3 := hid' hb3)
    | (go_at_call 15; (with_reducible refine (h15.out hl3.out).mono ?_); rintro e w4 ⟨rfl, hb4⟩; replace hb4 := hid' hb4)
    | (go_at_call 13; (with_reducible refine (awake13 _).mono ?_); rintro e w8 ⟨rfl, hb8⟩; replace hb8 := hid' hb8))
  go_ret
  exact ⟨rfl, below_on (below_on (below_on (below_on hb1.out hb2.out) hb3.out) hb4.out) hb8.out⟩
end Go.Proofs.Ytgnlplddppheiaa
