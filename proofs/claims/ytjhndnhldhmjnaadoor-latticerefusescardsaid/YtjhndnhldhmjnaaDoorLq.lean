/- The law of what is refused. -/
import Derived.Test.YtjhndnhldhmjnaaDoorLl
namespace Go.Proofs.YtjhndnhldhmjnaaDoor
open Go Go.RowKit Go.Maps
set_option linter.unusedVariables false
set_option linter.unusedSimpArgs false
theorem solve_nil {w : World} {q : Nat} {ev : Value} {n : Nat} (hl : n ≤ 64) : Calls Tryd.prog 10 #[prbV n ev 0 (.func (.func 31) #[] #[.pointer (some ⟨q, 0, none⟩)]) (.func (.func 32) #[] #[]) (.func (.func 33) #[] #[]) .nilFunc, .int .i64 1048576] w (NoneR 1 w) :=
  solve10_no (by decide) (fun W hW => mayBe28_nil (by omega))
theorem solve_neg {w : World} {ev s j q f : Value} : Calls Tryd.prog 10 #[prbV (-1) ev 0 s j q f, .int .i64 1048576] w (NoneR 1 w) :=
  solve10_no (by decide) (fun W hW => mayBe28_no (by omega))
/-- The problem in a box. -/
def pbox (n : Nat) (ev : Value) (q : Nat) : Array Value := #[.int .i64 n, ev, .int .u64 0, .func (.func 31) #[] #[.pointer (some ⟨q, 0, none⟩)], .func (.func 32) #[] #[], .func (.func 33) #[] #[], .func (.func 34) #[] #[.pointer (some ⟨q, 0, none⟩)]]
set_option maxRecDepth 20000 in
set_option maxHeartbeats 8000000 in
theorem refuses7 {w : World} {nv ev : Value} {ns : List Nd} {l : List (Int × Int)} (hn : Src Nd.cells w nv ns) (he : Src ecell w ev l) (hT : TabM w) (hnb : ns.length * 24 ≤ big) (hlb : l.length * 16 ≤ big) (most : Int) :
    Calls Tryd.prog 7 #[nv, ev, .int .i64 most] w fun e w' => e = .returned (.bool true) ∧ Below w.heap.size w w' := by
  obtain ⟨ao, cap, rfl⟩ := hn.len
  obtain ⟨bo, cap2, rfl⟩ := he.len
  unfold big at hnb hlb
  have HN := hid' hn
  have HE := hid' he
  have HT := hid' hT
  clear hn he hT
  by_cases c1 : 64 < ns.length
  · go_enter Tryd.func7, Tryd.ntmps7
    go_wp2_with (go_at_call 9; refine (awake9 _).mono ?_; rintro e9 w9 ⟨rfl, hb9⟩)
    go_ret
    exact ⟨rfl, hb9⟩
  by_cases c2 : 256 < l.length
  · go_enter Tryd.func7, Tryd.ntmps7
    go_wp2_with (go_at_call 9; refine (awake9 _).mono ?_; rintro e9 w9 ⟨rfl, hb9⟩)
    go_ret
    exact ⟨rfl, hb9⟩
  have KP := problem11 HN.out HE.out (by omega) (by omega)
  go_enter Tryd.func7, Tryd.ntmps7
  go_wp2_with (go_at_call 11; refine of_mark ?_)
  unfold Mark
  refine KP.mono ?_
  rintro e1 w1 ⟨q, ev', rfl, hB1, hs1, hb1⟩
  have hlen := hs1.len
  obtain ⟨vo, vc, rfl⟩ := hlen
  have hbx := below1 w1 (.cells (pbox ns.length (.slice vo l.length vc) q) 35)
  have HC : Hid (∀ W, Below (w1.alloc (.cells (pbox ns.length (.slice vo l.length vc) q) 35)).heap.size (w1.alloc (.cells (pbox ns.length (.slice vo l.length vc) q) 35)) W → W.heap[w1.heap.size]? = some (.cells (pbox ns.length (.slice vo l.length vc) q) 35 (0, 0))) := fun W hW => (hW.block _ (by simp)).trans (heap_alloc_new _ _)
  have HB01 := hid' hb1
  have HB1 := hid' (below_up hb1 hbx)
  have HBQ := hid' (hB1.on hbx)
  have HS1 := hid' (hs1.on hbx)
  unfold prbV
  unfold pbox at HC HB1 HBQ HS1
  clear KP hB1 hs1 hb1 hbx
  by_cases hm1 : most < 1
  · have KS := fun W => solve10_few (w := W) (n := ns.length) (bot := 0) (most := most) (ev := .slice vo l.length vc) (s := .func (.func 31) #[] #[.pointer (some ⟨q, 0, none⟩)]) (j := .func (.func 32) #[] #[]) (q := .func (.func 33) #[] #[]) (f := .func (.func 34) #[] #[.pointer (some ⟨q, 0, none⟩)]) hm1
    unfold prbV at KS
    have hm2 : ¬ (1 ≤ most) := by omega
    go_wp2_with (go_at_call 10; refine of_mark ?_)
    unfold Mark
    refine (KS _).mono ?_
    rintro e2 w2 ⟨rfl, hb2⟩
    cases hE : edgesF l ns.length with
    | false =>
      have HB2 := hid' (below_up HB1.out hb2)
      have b2 := HC.out w2 hb2
      have d := fun o => cell_of_row w2 _ o _ 35 (0, 0) b2
      have d0 : w2.cell? ⟨w1.heap.size, 0, none⟩ = some (.int .i64 ns.length) := d 0
      have d1 : w2.cell? ⟨w1.heap.size, 1, none⟩ = some (.slice vo l.length vc) := d 1
      have d2 : w2.cell? ⟨w1.heap.size, 2, none⟩ = some (.int .u64 0) := d 2
      have d3 : w2.cell? ⟨w1.heap.size, 3, none⟩ = some (.func (.func 31) #[] #[.pointer (some ⟨q, 0, none⟩)]) := d 3
      have d4 : w2.cell? ⟨w1.heap.size, 4, none⟩ = some (.func (.func 32) #[] #[]) := d 4
      have d5 : w2.cell? ⟨w1.heap.size, 5, none⟩ = some (.func (.func 33) #[] #[]) := d 5
      have d6 : w2.cell? ⟨w1.heap.size, 6, none⟩ = some (.func (.func 34) #[] #[.pointer (some ⟨q, 0, none⟩)]) := d 6
      have z : w2.frozen? ⟨w1.heap.size, 6, none⟩ = false := by simp [World.frozen?, b2]
      have hge1 : w.heap.size ≤ w1.heap.size := HB01.out.size
      have KE := edges12 (HE.out.on HB2.out) (by unfold big; omega) ns.length
      rw [hE] at KE
      have HB3 : Hid (Below w.heap.size w (w2.setCell ⟨w1.heap.size, 6, none⟩ .nilFunc)) := HB2.out.setCell hge1 _
      have KN := solve_nil (w := w2.setCell ⟨w1.heap.size, 6, none⟩ .nilFunc) (q := q) (ev := .slice vo l.length vc) (n := ns.length) (by omega)
      unfold prbV at KN
      clear d b2 KS hb2
      go_wp2_with (first
        | (go_at_call 12; refine KE.mono ?_; rintro e3 w3 ⟨rfl, rfl⟩)
        | (go_at_call 10; refine of_mark ?_))
      unfold Mark
      refine KN.mono ?_
      rintro e4 w4 ⟨rfl, hb4⟩
      have HB4 := hid' (below_up HB3.out hb4)
      have KP5 := problem11 (HN.out.on HB4.out) (HE.out.on HB4.out) (by omega) (by omega)
      clear KN KE d0 d1 d2 d3 d4 d5 d6 z hb4
      go_wp2_with (go_at_call 11; refine of_mark ?_)
      unfold Mark
      refine KP5.mono ?_
      rintro e5 w5 ⟨q5, ev5, rfl, hB5, hs5, hb5⟩
      obtain ⟨vo5, vc5, rfl⟩ := hs5.len
      have HB5 := hid' (below_up HB4.out hb5)
      have KG : ∀ W, _ := fun W => solve_neg (w := W) (ev := .slice vo5 l.length vc5) (s := .func (.func 31) #[] #[.pointer (some ⟨q5, 0, none⟩)]) (j := .func (.func 32) #[] #[]) (q := .func (.func 33) #[] #[]) (f := .func (.func 34) #[] #[.pointer (some ⟨q5, 0, none⟩)])
      unfold prbV at KG ⊢
      clear KP5 hB5 hs5 hb5
      go_wp2_with (first
        | (go_at_call 10; refine (KG _).mono ?_; rintro e6 w6 ⟨rfl, hb6⟩)
        | (go_at_call 9; refine (awake9 _).mono ?_; rintro e9 w9 ⟨rfl, hb9⟩))
      go_ret
      exact ⟨rfl, below_up (below_up (HB5.out.alloc HB5.out.size _) hb6) hb9⟩
    | true =>
      have HB2 := hid' (below_up HB1.out hb2)
      have b2 := HC.out w2 hb2
      have d := fun o => cell_of_row w2 _ o _ 35 (0, 0) b2
      have d0 : w2.cell? ⟨w1.heap.size, 0, none⟩ = some (.int .i64 ns.length) := d 0
      have d1 : w2.cell? ⟨w1.heap.size, 1, none⟩ = some (.slice vo l.length vc) := d 1
      have d2 : w2.cell? ⟨w1.heap.size, 2, none⟩ = some (.int .u64 0) := d 2
      have d3 : w2.cell? ⟨w1.heap.size, 3, none⟩ = some (.func (.func 31) #[] #[.pointer (some ⟨q, 0, none⟩)]) := d 3
      have d4 : w2.cell? ⟨w1.heap.size, 4, none⟩ = some (.func (.func 32) #[] #[]) := d 4
      have d5 : w2.cell? ⟨w1.heap.size, 5, none⟩ = some (.func (.func 33) #[] #[]) := d 5
      have d6 : w2.cell? ⟨w1.heap.size, 6, none⟩ = some (.func (.func 34) #[] #[.pointer (some ⟨q, 0, none⟩)]) := d 6
      have z : w2.frozen? ⟨w1.heap.size, 6, none⟩ = false := by simp [World.frozen?, b2]
      have hge1 : w.heap.size ≤ w1.heap.size := HB01.out.size
      have KE := edges12 (HE.out.on HB2.out) (by unfold big; omega) ns.length
      rw [hE] at KE
      have HB3 : Hid (Below w.heap.size w (w2.setCell ⟨w1.heap.size, 6, none⟩ .nilFunc)) := HB2.out.setCell hge1 _
      have KN := solve_nil (w := w2.setCell ⟨w1.heap.size, 6, none⟩ .nilFunc) (q := q) (ev := .slice vo l.length vc) (n := ns.length) (by omega)
      unfold prbV at KN
      clear d b2 KS hb2
      go_wp2_with (first
        | (go_at_call 12; refine KE.mono ?_; rintro e3 w3 ⟨rfl, rfl⟩)
        | (go_at_call 10; refine of_mark ?_))
      unfold Mark
      refine KN.mono ?_
      rintro e4 w4 ⟨rfl, hb4⟩
      have HB4 := hid' (below_up HB3.out hb4)
      have KP5 := problem11 (HN.out.on HB4.out) (HE.out.on HB4.out) (by omega) (by omega)
      clear KN KE d0 d1 d2 d3 d4 d5 d6 z hb4
      go_wp2_with (go_at_call 11; refine of_mark ?_)
      unfold Mark
      refine KP5.mono ?_
      rintro e5 w5 ⟨q5, ev5, rfl, hB5, hs5, hb5⟩
      obtain ⟨vo5, vc5, rfl⟩ := hs5.len
      have HB5 := hid' (below_up HB4.out hb5)
      have KG : ∀ W, _ := fun W => solve_neg (w := W) (ev := .slice vo5 l.length vc5) (s := .func (.func 31) #[] #[.pointer (some ⟨q5, 0, none⟩)]) (j := .func (.func 32) #[] #[]) (q := .func (.func 33) #[] #[]) (f := .func (.func 34) #[] #[.pointer (some ⟨q5, 0, none⟩)])
      unfold prbV at KG ⊢
      clear KP5 hB5 hs5 hb5
      go_wp2_with (first
        | (go_at_call 10; refine (KG _).mono ?_; rintro e6 w6 ⟨rfl, hb6⟩)
        | (go_at_call 9; refine (awake9 _).mono ?_; rintro e9 w9 ⟨rfl, hb9⟩))
      go_ret
      exact ⟨rfl, below_up (below_up (HB5.out.alloc HB5.out.size _) hb6) hb9⟩
  · cases hE : edgesF l ns.length with
    | false =>
      have KS := solveNo (q := q) (most := most) hE HS1.out (by omega) (by omega) (by omega)
      unfold prbV at KS
      go_wp2_with (go_at_call 10; refine of_mark ?_)
      unfold Mark
      refine KS.mono ?_
      rintro e2 w2 ⟨rfl, hb2⟩
      have HB2 := hid' (below_up HB1.out hb2)
      have b2 := HC.out w2 hb2
      have d := fun o => cell_of_row w2 _ o _ 35 (0, 0) b2
      have d0 : w2.cell? ⟨w1.heap.size, 0, none⟩ = some (.int .i64 ns.length) := d 0
      have d1 : w2.cell? ⟨w1.heap.size, 1, none⟩ = some (.slice vo l.length vc) := d 1
      have d2 : w2.cell? ⟨w1.heap.size, 2, none⟩ = some (.int .u64 0) := d 2
      have d3 : w2.cell? ⟨w1.heap.size, 3, none⟩ = some (.func (.func 31) #[] #[.pointer (some ⟨q, 0, none⟩)]) := d 3
      have d4 : w2.cell? ⟨w1.heap.size, 4, none⟩ = some (.func (.func 32) #[] #[]) := d 4
      have d5 : w2.cell? ⟨w1.heap.size, 5, none⟩ = some (.func (.func 33) #[] #[]) := d 5
      have d6 : w2.cell? ⟨w1.heap.size, 6, none⟩ = some (.func (.func 34) #[] #[.pointer (some ⟨q, 0, none⟩)]) := d 6
      have z : w2.frozen? ⟨w1.heap.size, 6, none⟩ = false := by simp [World.frozen?, b2]
      have hge1 : w.heap.size ≤ w1.heap.size := HB01.out.size
      have KE := edges12 (HE.out.on HB2.out) (by unfold big; omega) ns.length
      rw [hE] at KE
      have HB3 : Hid (Below w.heap.size w (w2.setCell ⟨w1.heap.size, 6, none⟩ .nilFunc)) := HB2.out.setCell hge1 _
      have KN := solve_nil (w := w2.setCell ⟨w1.heap.size, 6, none⟩ .nilFunc) (q := q) (ev := .slice vo l.length vc) (n := ns.length) (by omega)
      unfold prbV at KN
      clear d b2 KS hb2
      go_wp2_with (first
        | (go_at_call 12; refine KE.mono ?_; rintro e3 w3 ⟨rfl, rfl⟩)
        | (go_at_call 10; refine of_mark ?_))
      unfold Mark
      refine KN.mono ?_
      rintro e4 w4 ⟨rfl, hb4⟩
      have HB4 := hid' (below_up HB3.out hb4)
      have KP5 := problem11 (HN.out.on HB4.out) (HE.out.on HB4.out) (by omega) (by omega)
      clear KN KE d0 d1 d2 d3 d4 d5 d6 z hb4
      go_wp2_with (go_at_call 11; refine of_mark ?_)
      unfold Mark
      refine KP5.mono ?_
      rintro e5 w5 ⟨q5, ev5, rfl, hB5, hs5, hb5⟩
      obtain ⟨vo5, vc5, rfl⟩ := hs5.len
      have HB5 := hid' (below_up HB4.out hb5)
      have KG : ∀ W, _ := fun W => solve_neg (w := W) (ev := .slice vo5 l.length vc5) (s := .func (.func 31) #[] #[.pointer (some ⟨q5, 0, none⟩)]) (j := .func (.func 32) #[] #[]) (q := .func (.func 33) #[] #[]) (f := .func (.func 34) #[] #[.pointer (some ⟨q5, 0, none⟩)])
      unfold prbV at KG ⊢
      clear KP5 hB5 hs5 hb5
      go_wp2_with (first
        | (go_at_call 10; refine (KG _).mono ?_; rintro e6 w6 ⟨rfl, hb6⟩)
        | (go_at_call 9; refine (awake9 _).mono ?_; rintro e9 w9 ⟨rfl, hb9⟩))
      go_ret
      exact ⟨rfl, below_up (below_up (HB5.out.alloc HB5.out.size _) hb6) hb9⟩
    | true =>
      have KS := solveOr (most := most) hE HBQ.out HS1.out (HT.out.on HB1.out) (by omega) (by omega) (by omega)
      unfold prbV at KS
      go_wp2_with (go_at_call 10; refine of_mark ?_)
      unfold Mark
      refine KS.mono ?_
      rintro e2 w2 (⟨gi, go_, i, o, rfl, hri, hro, hFx, hLw, hb2⟩ | ⟨⟨rfl, hb2⟩, hlt⟩)
      · by_cases hbig : 65 * ((ns.length : Int) + l.length + 1) ≤ most
        · clear hri hro hFx hLw
          have HB2 := hid' (below_up HB1.out hb2)
          have b2 := HC.out w2 hb2
          have d := fun o => cell_of_row w2 _ o _ 35 (0, 0) b2
          have d0 : w2.cell? ⟨w1.heap.size, 0, none⟩ = some (.int .i64 ns.length) := d 0
          have d1 : w2.cell? ⟨w1.heap.size, 1, none⟩ = some (.slice vo l.length vc) := d 1
          have d2 : w2.cell? ⟨w1.heap.size, 2, none⟩ = some (.int .u64 0) := d 2
          have d3 : w2.cell? ⟨w1.heap.size, 3, none⟩ = some (.func (.func 31) #[] #[.pointer (some ⟨q, 0, none⟩)]) := d 3
          have d4 : w2.cell? ⟨w1.heap.size, 4, none⟩ = some (.func (.func 32) #[] #[]) := d 4
          have d5 : w2.cell? ⟨w1.heap.size, 5, none⟩ = some (.func (.func 33) #[] #[]) := d 5
          have d6 : w2.cell? ⟨w1.heap.size, 6, none⟩ = some (.func (.func 34) #[] #[.pointer (some ⟨q, 0, none⟩)]) := d 6
          have z : w2.frozen? ⟨w1.heap.size, 6, none⟩ = false := by simp [World.frozen?, b2]
          have hge1 : w.heap.size ≤ w1.heap.size := HB01.out.size
          have KE := edges12 (HE.out.on HB2.out) (by unfold big; omega) ns.length
          rw [hE] at KE
          have HB3 : Hid (Below w.heap.size w (w2.setCell ⟨w1.heap.size, 6, none⟩ .nilFunc)) := HB2.out.setCell hge1 _
          have KN := solve_nil (w := w2.setCell ⟨w1.heap.size, 6, none⟩ .nilFunc) (q := q) (ev := .slice vo l.length vc) (n := ns.length) (by omega)
          unfold prbV at KN
          clear d b2 KS hb2
          go_wp2_with (first
            | (go_at_call 12; refine KE.mono ?_; rintro e3 w3 ⟨rfl, rfl⟩)
            | (go_at_call 10; refine of_mark ?_))
          unfold Mark
          refine KN.mono ?_
          rintro e4 w4 ⟨rfl, hb4⟩
          have HB4 := hid' (below_up HB3.out hb4)
          have KP5 := problem11 (HN.out.on HB4.out) (HE.out.on HB4.out) (by omega) (by omega)
          clear KN KE d0 d1 d2 d3 d4 d5 d6 z hb4
          go_wp2_with (go_at_call 11; refine of_mark ?_)
          unfold Mark
          refine KP5.mono ?_
          rintro e5 w5 ⟨q5, ev5, rfl, hB5, hs5, hb5⟩
          obtain ⟨vo5, vc5, rfl⟩ := hs5.len
          have HB5 := hid' (below_up HB4.out hb5)
          have KG : ∀ W, _ := fun W => solve_neg (w := W) (ev := .slice vo5 l.length vc5) (s := .func (.func 31) #[] #[.pointer (some ⟨q5, 0, none⟩)]) (j := .func (.func 32) #[] #[]) (q := .func (.func 33) #[] #[]) (f := .func (.func 34) #[] #[.pointer (some ⟨q5, 0, none⟩)])
          unfold prbV at KG ⊢
          clear KP5 hB5 hs5 hb5
          go_wp2_with (first
            | (go_at_call 10; refine (KG _).mono ?_; rintro e6 w6 ⟨rfl, hb6⟩)
            | (go_at_call 9; refine (awake9 _).mono ?_; rintro e9 w9 ⟨rfl, hb9⟩))
          go_ret
          exact ⟨rfl, below_up (below_up (HB5.out.alloc HB5.out.size _) hb6) hb9⟩
        · clear hri hro hFx hLw
          have HB2 := hid' (below_up HB1.out hb2)
          have b2 := HC.out w2 hb2
          have d := fun o => cell_of_row w2 _ o _ 35 (0, 0) b2
          have d0 : w2.cell? ⟨w1.heap.size, 0, none⟩ = some (.int .i64 ns.length) := d 0
          have d1 : w2.cell? ⟨w1.heap.size, 1, none⟩ = some (.slice vo l.length vc) := d 1
          have d2 : w2.cell? ⟨w1.heap.size, 2, none⟩ = some (.int .u64 0) := d 2
          have d3 : w2.cell? ⟨w1.heap.size, 3, none⟩ = some (.func (.func 31) #[] #[.pointer (some ⟨q, 0, none⟩)]) := d 3
          have d4 : w2.cell? ⟨w1.heap.size, 4, none⟩ = some (.func (.func 32) #[] #[]) := d 4
          have d5 : w2.cell? ⟨w1.heap.size, 5, none⟩ = some (.func (.func 33) #[] #[]) := d 5
          have d6 : w2.cell? ⟨w1.heap.size, 6, none⟩ = some (.func (.func 34) #[] #[.pointer (some ⟨q, 0, none⟩)]) := d 6
          have z : w2.frozen? ⟨w1.heap.size, 6, none⟩ = false := by simp [World.frozen?, b2]
          have hge1 : w.heap.size ≤ w1.heap.size := HB01.out.size
          have KE := edges12 (HE.out.on HB2.out) (by unfold big; omega) ns.length
          rw [hE] at KE
          have HB3 : Hid (Below w.heap.size w (w2.setCell ⟨w1.heap.size, 6, none⟩ .nilFunc)) := HB2.out.setCell hge1 _
          have KN := solve_nil (w := w2.setCell ⟨w1.heap.size, 6, none⟩ .nilFunc) (q := q) (ev := .slice vo l.length vc) (n := ns.length) (by omega)
          unfold prbV at KN
          clear d b2 KS hb2
          go_wp2_with (first
            | (go_at_call 12; refine KE.mono ?_; rintro e3 w3 ⟨rfl, rfl⟩)
            | (go_at_call 10; refine of_mark ?_))
          unfold Mark
          refine KN.mono ?_
          rintro e4 w4 ⟨rfl, hb4⟩
          have HB4 := hid' (below_up HB3.out hb4)
          have KP5 := problem11 (HN.out.on HB4.out) (HE.out.on HB4.out) (by omega) (by omega)
          clear KN KE d0 d1 d2 d3 d4 d5 d6 z hb4
          go_wp2_with (go_at_call 11; refine of_mark ?_)
          unfold Mark
          refine KP5.mono ?_
          rintro e5 w5 ⟨q5, ev5, rfl, hB5, hs5, hb5⟩
          obtain ⟨vo5, vc5, rfl⟩ := hs5.len
          have HB5 := hid' (below_up HB4.out hb5)
          have KG : ∀ W, _ := fun W => solve_neg (w := W) (ev := .slice vo5 l.length vc5) (s := .func (.func 31) #[] #[.pointer (some ⟨q5, 0, none⟩)]) (j := .func (.func 32) #[] #[]) (q := .func (.func 33) #[] #[]) (f := .func (.func 34) #[] #[.pointer (some ⟨q5, 0, none⟩)])
          unfold prbV at KG ⊢
          clear KP5 hB5 hs5 hb5
          go_wp2_with (first
            | (go_at_call 10; refine (KG _).mono ?_; rintro e6 w6 ⟨rfl, hb6⟩)
            | (go_at_call 9; refine (awake9 _).mono ?_; rintro e9 w9 ⟨rfl, hb9⟩))
          go_ret
          exact ⟨rfl, below_up (below_up (HB5.out.alloc HB5.out.size _) hb6) hb9⟩
      · have hbig : ¬ (65 * ((ns.length : Int) + l.length + 1) ≤ most) := by omega
        have HB2 := hid' (below_up HB1.out hb2)
        have b2 := HC.out w2 hb2
        have d := fun o => cell_of_row w2 _ o _ 35 (0, 0) b2
        have d0 : w2.cell? ⟨w1.heap.size, 0, none⟩ = some (.int .i64 ns.length) := d 0
        have d1 : w2.cell? ⟨w1.heap.size, 1, none⟩ = some (.slice vo l.length vc) := d 1
        have d2 : w2.cell? ⟨w1.heap.size, 2, none⟩ = some (.int .u64 0) := d 2
        have d3 : w2.cell? ⟨w1.heap.size, 3, none⟩ = some (.func (.func 31) #[] #[.pointer (some ⟨q, 0, none⟩)]) := d 3
        have d4 : w2.cell? ⟨w1.heap.size, 4, none⟩ = some (.func (.func 32) #[] #[]) := d 4
        have d5 : w2.cell? ⟨w1.heap.size, 5, none⟩ = some (.func (.func 33) #[] #[]) := d 5
        have d6 : w2.cell? ⟨w1.heap.size, 6, none⟩ = some (.func (.func 34) #[] #[.pointer (some ⟨q, 0, none⟩)]) := d 6
        have z : w2.frozen? ⟨w1.heap.size, 6, none⟩ = false := by simp [World.frozen?, b2]
        have hge1 : w.heap.size ≤ w1.heap.size := HB01.out.size
        have KE := edges12 (HE.out.on HB2.out) (by unfold big; omega) ns.length
        rw [hE] at KE
        have HB3 : Hid (Below w.heap.size w (w2.setCell ⟨w1.heap.size, 6, none⟩ .nilFunc)) := HB2.out.setCell hge1 _
        have KN := solve_nil (w := w2.setCell ⟨w1.heap.size, 6, none⟩ .nilFunc) (q := q) (ev := .slice vo l.length vc) (n := ns.length) (by omega)
        unfold prbV at KN
        clear d b2 KS hb2
        go_wp2_with (first
          | (go_at_call 12; refine KE.mono ?_; rintro e3 w3 ⟨rfl, rfl⟩)
          | (go_at_call 10; refine of_mark ?_))
        unfold Mark
        refine KN.mono ?_
        rintro e4 w4 ⟨rfl, hb4⟩
        have HB4 := hid' (below_up HB3.out hb4)
        have KP5 := problem11 (HN.out.on HB4.out) (HE.out.on HB4.out) (by omega) (by omega)
        clear KN KE d0 d1 d2 d3 d4 d5 d6 z hb4
        go_wp2_with (go_at_call 11; refine of_mark ?_)
        unfold Mark
        refine KP5.mono ?_
        rintro e5 w5 ⟨q5, ev5, rfl, hB5, hs5, hb5⟩
        obtain ⟨vo5, vc5, rfl⟩ := hs5.len
        have HB5 := hid' (below_up HB4.out hb5)
        have KG : ∀ W, _ := fun W => solve_neg (w := W) (ev := .slice vo5 l.length vc5) (s := .func (.func 31) #[] #[.pointer (some ⟨q5, 0, none⟩)]) (j := .func (.func 32) #[] #[]) (q := .func (.func 33) #[] #[]) (f := .func (.func 34) #[] #[.pointer (some ⟨q5, 0, none⟩)])
        unfold prbV at KG ⊢
        clear KP5 hB5 hs5 hb5
        go_wp2_with (first
          | (go_at_call 10; refine (KG _).mono ?_; rintro e6 w6 ⟨rfl, hb6⟩)
          | (go_at_call 9; refine (awake9 _).mono ?_; rintro e9 w9 ⟨rfl, hb9⟩))
        go_ret
        exact ⟨rfl, below_up (below_up (HB5.out.alloc HB5.out.size _) hb6) hb9⟩
end Go.Proofs.YtjhndnhldhmjnaaDoor
