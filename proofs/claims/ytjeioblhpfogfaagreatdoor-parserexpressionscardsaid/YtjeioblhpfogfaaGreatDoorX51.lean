/- Placed: the same tree twice, places and all. -/
import Derived.Test.YtjeioblhpfogfaaGreatDoorX11
import Derived.Test.YtjeioblhpfogfaaGreatDoorX39
import Derived.Test.YtjeioblhpfogfaaGreatDoorX47
import Derived.Test.YtjeioblhpfogfaaGreatDoorX50
set_option linter.unusedVariables false
set_option linter.unusedSimpArgs false
set_option maxRecDepth 20000
set_option maxHeartbeats 8000000
namespace Go.Proofs.YtjeioblhpfogfaaGreatDoor
open Go.RowKit

theorem NdAt.below {w w' : World} {b o : Nat} {x : NdH} {kv : Value} (h : NdAt w b o x kv) (hb : Below w.heap.size w w') (hl : b < w.heap.size) : NdAt w' b o x kv := h.kept (S := fun _ => False) (Kept.of_below hb) hl (fun e => e)
theorem two_boxes {w : World} {a0 a1 a2 a3 a4 a5 b0 b1 b2 b3 b4 b5 : Value} {W : World} (h : Below ((w.alloc (.cells #[a0, a1, a2, a3, a4, a5] 25)).alloc (.cells #[b0, b1, b2, b3, b4, b5] 25)).heap.size ((w.alloc (.cells #[a0, a1, a2, a3, a4, a5] 25)).alloc (.cells #[b0, b1, b2, b3, b4, b5] 25)) W) :
    W.cell? ⟨w.heap.size, 4, none⟩ = some a4 ∧ W.cell? ⟨w.heap.size + 1, 4, none⟩ = some b4 ∧ w.heap.size + 1 < W.heap.size := by
  refine ⟨?_, ?_, ?_⟩
  · rw [h.cell (p := ⟨w.heap.size, 4, none⟩) (by simp; omega)]
    simp [go_sem]
  · rw [h.cell (p := ⟨w.heap.size + 1, 4, none⟩) (by simp)]
    simp [go_sem]
  · have := h.size
    simp at this
    omega
theorem node_eq {x y : NdH} {a b : List Tr} (h : Tr.node x a = Tr.node y b) : x = y ∧ a = b := by
  unfold Tr.node at h
  injection h with h1 h2
  injection h2 with h2
  injection h2 with h2
  exact ⟨h2, h1⟩

theorem placed10 {cb cb' : Nat} : ∀ (n n' : Nat) {w : World} {x : NdH} {kv kv' : Value} {ks : List Tr}, Ks cb n w kv ks → Ks cb' n' w kv' ks →
    Calls Tryz.prog 10 #[ndV x kv, ndV x kv'] w fun e w' => e = .returned (.bool true) ∧ Below w.heap.size w w' := fun n => by
  induction n using Nat.strongRecOn with
  | ind n ih =>
  intro n' w x kv kv' ks hK hL
  obtain ⟨hkl, ao, cap, rfl⟩ := hK.shape
  obtain ⟨hll, al, capl, rfl⟩ := hL.shape
  have HK := hid' hK
  have HL := hid' hL
  have IH := hid' ih
  clear hK hL ih hll
  unfold ndV
  obtain ⟨k, s, m, f, p⟩ := x
  dsimp only
  have HB0 : Hid (Below w.heap.size w ((w.alloc (.cells #[.int .i64 k, .string s, .int .u32 m, .bool f, .slice ao ks.length cap, .int .i64 p] 25)).alloc (.cells #[.int .i64 k, .string s, .int .u32 m, .bool f, .slice al ks.length capl, .int .i64 p] 25))) := (below1 _ _).alloc (by simp) _
  obtain ⟨W0, hW0⟩ : ∃ W0, W0 = ((w.alloc (.cells #[.int .i64 k, .string s, .int .u32 m, .bool f, .slice ao ks.length cap, .int .i64 p] 25)).alloc (.cells #[.int .i64 k, .string s, .int .u32 m, .bool f, .slice al ks.length capl, .int .i64 p] 25)) := ⟨_, rfl⟩
  have HBX : Hid (∀ W, Below W0.heap.size W0 W → W.cell? ⟨w.heap.size, 4, none⟩ = some (.slice ao ks.length cap) ∧ W.cell? ⟨w.heap.size + 1, 4, none⟩ = some (.slice al ks.length capl) ∧ w.heap.size + 1 < W.heap.size) := fun W h => by
    rw [hW0] at h
    exact two_boxes h
  rw [← hW0] at HB0
  go_enter Tryz.func10, Tryz.ntmps10
  go_wp2
  rw [← hW0]
  clear hW0
  go_loopw [5] (fun i W => ∃ j : Nat, j ≤ ks.length ∧ i = .int .i64 j ∧ Hid (Below W0.heap.size W0 W)) (fun i _ => ks.length - (intOf i).toNat)
  case atStart => exact ⟨0, Nat.zero_le _, rfl, Below.refl _ _⟩
  case round =>
    obtain ⟨j, hj, rfl, HB⟩ := hrel
    obtain ⟨e4, g4, el⟩ := HBX.out wr HB.out
    by_cases hlt : j < ks.length
    · obtain ⟨m1, b1, off1, x1, kv1, ks1, hm1, rfl, ⟨hbl1, _⟩, hke1, hat1, hK1⟩ := HK.out.kid j hlt
      obtain ⟨m2, b2, off2, x2, kv2, ks2, hm2, rfl, ⟨hbl2, _⟩, hke2, hat2, hK2⟩ := HL.out.kid j hlt
      obtain ⟨rfl, rfl⟩ := node_eq (hke1.symm.trans hke2)
      have hbw : Below w.heap.size w wr := below_on HB0.out HB.out
      have ha : ∀ t : After wr, Below w.heap.size w t.1 := fun t => below_on hbw t.2
      have H10 := fun t : After wr => Calls.after t (IH.out m1 hm1 m2 (x := x1) (hK1.below (ha t)) (hK2.below (ha t)))
      unfold ndV at H10
      have y4 : ∀ t : After wr, t.1.cell? ⟨w.heap.size, 4, none⟩ = some (.slice (some ⟨b1, off1, none⟩) ks.length cap) := fun t => (HBX.out t.1 (below_on HB.out t.2)).1
      have z4 : ∀ t : After wr, t.1.cell? ⟨w.heap.size + 1, 4, none⟩ = some (.slice (some ⟨b2, off2, none⟩) ks.length capl) := fun t => (HBX.out t.1 (below_on HB.out t.2)).2.1
      have n1 : ∀ t : After wr, NdAt t.1 b1 (off1 + j * 6) x1 kv1 := fun t => hat1.below (ha t) hbl1
      have n2 : ∀ t : After wr, NdAt t.1 b2 (off2 + j * 6) x1 kv2 := fun t => hat2.below (ha t) hbl2
      have q0 := fun t => (n1 t).1
      have q1 := fun t => (n1 t).2.1
      have q2 := fun t => (n1 t).2.2.1
      have q3 := fun t => (n1 t).2.2.2.1
      have q4 := fun t => (n1 t).2.2.2.2.1
      have q5 := fun t => (n1 t).2.2.2.2.2
      have r0 := fun t => (n2 t).1
      have r1 := fun t => (n2 t).2.1
      have r2 := fun t => (n2 t).2.2.1
      have r3 := fun t => (n2 t).2.2.2.1
      have r4 := fun t => (n2 t).2.2.2.2.1
      have r5 := fun t => (n2 t).2.2.2.2.2
      have HBW := hid' hbw
      clear n1 n2 hat1 hat2 hK1 hK2 hke1 hke2 hbw ha
      go_wp2
      have hne := after_some wr
      refine region_after 11 mixed (by kernel_rfl) ?_
      simp only [List.take_succ_cons, List.take_zero, List.drop_succ_cons, List.drop_zero]
      repeat quiet_step (first | with_reducible exact H10 _)
      refine wpQuiet_nil ?_
      intro w5 hb5
      clear H10 y4 z4 q0 q1 q2 q3 q4 q5 r0 r1 r2 r3 r4 r5
      have HB5 := hid' hb5
      clear hb5
      go_wp2
      exact ⟨⟨j + 1, by omega, by go_num, below_on HB.out HB5.out⟩, by simp [intOf]; omega⟩
    · skip
      go_wp2
      go_ret
      exact ⟨rfl, below_on HB0.out HB.out⟩
end Go.Proofs.YtjeioblhpfogfaaGreatDoor
namespace Go.Proofs.YtjeioblhpfogfaaGreatDoor
open Go.RowKit
open Go.Proofs.YtjeioblhpfogfaaGreatDoorLx (TT allF lst HM AllR OwnT all13 all13_long)

theorem tells_err {W : World} {p er : Int} {e : Ending} {w' : World} (h : Tells W (.error (p, er)) e w') : e = .returned (.tuple #[.agg #[.int .i64 0, .string ⟨#[]⟩, .int .u32 0, .bool false, .slice none 0 0, .int .i64 0], .int .i64 p, .int .i64 er]) ∧ Below W.heap.size W w' := ⟨h.2, h.1⟩
theorem tells_ok {W : World} {t : Tr} {e : Ending} {w' : World} (h : Tells W (.ok t) e w') : ∃ x ao ks cap n, t = Tr.node x ks ∧ e = .returned (.tuple #[.agg #[.int .i64 x.kind, .string x.str, .int .u32 x.num, .bool x.flag, .slice ao ks.length cap, .int .i64 x.pos], .int .i64 0, .int .i64 0]) ∧ KsB W.heap.size n w' (.slice ao ks.length cap) ks ∧ Below W.heap.size W w' := by
  obtain ⟨hb, x, kv, ks, n, h1, h2, h3⟩ := h
  obtain ⟨_, ao, cap, rfl⟩ := h3.any.shape
  exact ⟨x, ao, ks, cap, n, h1, h2, h3, hb⟩
theorem parse8_of {s : ByteArray} {X : Except (Int × Int) Tr} {w : World} (HT : Hid (∀ W, Below w.heap.size w W → Calls Tryz.prog 19 #[.string s, .func (.func 20) #[] #[]] W (Tells W X))) : Calls Tryz.prog 8 #[.string s] w (Tells w X) := by
  cases X with
  | error p =>
    obtain ⟨p, er⟩ := p
    go_enter Tryz.func8, Tryz.ntmps8
    go_wp2_with (go_at_call 19; (with_reducible refine (HT.out _ (below1 _ _)).mono ?_); intro e w1 ht; obtain ⟨rfl, hb⟩ := tells_err ht; have X1 := hid' ((Bx.new w zN (.slice none 0 0)).below hb); have B1 := hid' (below_call hb); clear ht; obtain ⟨x0, x1, x2, x3, x4, x5, xf, xl⟩ := X1.out.six; have f0 := xf 0; have f1 := xf 1; have f2 := xf 2; have f3 := xf 3; have f4 := xf 4; have f5 := xf 5; clear hb xf)
    refine ret_b3 (p := p) (er := er) (bx := w.heap.size) (X1.out.set6 zN (.slice none 0 0)) (fun W c0 c1 c2 c3 c4 c5 => by simp [results, Tryz.results8, go_sem, c0, c1, c2, c3, c4, c5]) rfl ⟨?_, rfl⟩
    exact below_set6' B1.out (Nat.le_refl _) _ _ _ _ _ _
  | ok t =>
    go_enter Tryz.func8, Tryz.ntmps8
    go_wp2_with (go_at_call 19; (with_reducible refine (HT.out _ (below1 _ _)).mono ?_); intro e w1 ht; obtain ⟨x, ao, ks, cap, n, rfl, rfl, hK, hb⟩ := tells_ok ht; have K1 : Hid (KsB (w.heap.size + 1) n w1 (.slice ao ks.length cap) ks) := hid' (hK.less (by simp)); have X1 := hid' ((Bx.new w zN (.slice none 0 0)).below hb); have B1 := hid' (below_call hb); clear ht hK; obtain ⟨x0, x1, x2, x3, x4, x5, xf, xl⟩ := X1.out.six; have f0 := xf 0; have f1 := xf 1; have f2 := xf 2; have f3 := xf 3; have f4 := xf 4; have f5 := xf 5; clear hb xf)
    refine ret_b3 (p := 0) (er := 0) (bx := w.heap.size) (X1.out.set6 x (.slice ao ks.length cap)) (fun W c0 c1 c2 c3 c4 c5 => by simp [results, Tryz.results8, go_sem, c0, c1, c2, c3, c4, c5]) rfl ⟨?_, ?_⟩
    · exact below_set6' B1.out (Nat.le_refl _) _ _ _ _ _ _
    · exact ⟨x, _, ks, n, rfl, rfl, (K1.out.set6 (Nat.lt_succ_self _) _ _ _ _ _ _).less (Nat.le_succ _)⟩
theorem expression12_of {s : ByteArray} {X : Except (Int × Int) Tr} {w : World} (HT : Hid (∀ W, Below w.heap.size w W → Calls Tryz.prog 19 #[.string s, .func (.func 24) #[] #[]] W (Tells W X))) : Calls Tryz.prog 12 #[.string s] w (Tells w X) := by
  cases X with
  | error p =>
    obtain ⟨p, er⟩ := p
    go_enter Tryz.func12, Tryz.ntmps12
    go_wp2_with (go_at_call 19; (with_reducible refine (HT.out _ (below1 _ _)).mono ?_); intro e w1 ht; obtain ⟨rfl, hb⟩ := tells_err ht; have X1 := hid' ((Bx.new w zN (.slice none 0 0)).below hb); have B1 := hid' (below_call hb); clear ht; obtain ⟨x0, x1, x2, x3, x4, x5, xf, xl⟩ := X1.out.six; have f0 := xf 0; have f1 := xf 1; have f2 := xf 2; have f3 := xf 3; have f4 := xf 4; have f5 := xf 5; clear hb xf)
    refine ret_b3 (p := p) (er := er) (bx := w.heap.size) (X1.out.set6 zN (.slice none 0 0)) (fun W c0 c1 c2 c3 c4 c5 => by simp [results, Tryz.results12, go_sem, c0, c1, c2, c3, c4, c5]) rfl ⟨?_, rfl⟩
    exact below_set6' B1.out (Nat.le_refl _) _ _ _ _ _ _
  | ok t =>
    go_enter Tryz.func12, Tryz.ntmps12
    go_wp2_with (go_at_call 19; (with_reducible refine (HT.out _ (below1 _ _)).mono ?_); intro e w1 ht; obtain ⟨x, ao, ks, cap, n, rfl, rfl, hK, hb⟩ := tells_ok ht; have K1 : Hid (KsB (w.heap.size + 1) n w1 (.slice ao ks.length cap) ks) := hid' (hK.less (by simp)); have X1 := hid' ((Bx.new w zN (.slice none 0 0)).below hb); have B1 := hid' (below_call hb); clear ht hK; obtain ⟨x0, x1, x2, x3, x4, x5, xf, xl⟩ := X1.out.six; have f0 := xf 0; have f1 := xf 1; have f2 := xf 2; have f3 := xf 3; have f4 := xf 4; have f5 := xf 5; clear hb xf)
    refine ret_b3 (p := 0) (er := 0) (bx := w.heap.size) (X1.out.set6 x (.slice ao ks.length cap)) (fun W c0 c1 c2 c3 c4 c5 => by simp [results, Tryz.results12, go_sem, c0, c1, c2, c3, c4, c5]) rfl ⟨?_, ?_⟩
    · exact below_set6' B1.out (Nat.le_refl _) _ _ _ _ _ _
    · exact ⟨x, _, ks, n, rfl, rfl, (K1.out.set6 (Nat.lt_succ_self _) _ _ _ _ _ _).less (Nat.le_succ _)⟩
theorem OpT.next {w w' : World} (h : OpT w) (h0 : 0 < w.heap.size) (hb : Below w.heap.size w w') : OpT w' := h.below (B := 0) hb h0
theorem parse8 {s : ByteArray} {X : Except (Int × Int) Tr} {m : Int} {w : World} (hX : Ask (lst s) (.prog []) X) (hm : HM m w) (hO : OpT w) (h0 : 0 < w.heap.size) : Calls Tryz.prog 8 #[.string s] w (Tells w X) :=
  parse8_of (hid' fun W hb => tree19 hX (hm.below hb) (hO.next h0 hb) (Nat.lt_of_lt_of_le h0 hb.size) (fun a b c d => top_prog a b c d))
theorem expression12 {s : ByteArray} {X : Except (Int × Int) Tr} {m : Int} {w : World} (hX : Ask (lst s) .expr X) (hm : HM m w) (hO : OpT w) (h0 : 0 < w.heap.size) : Calls Tryz.prog 12 #[.string s] w (Tells w X) :=
  expression12_of (hid' fun W hb => tree19 hX (hm.below hb) (hO.next h0 hb) (Nat.lt_of_lt_of_le h0 hb.size) (fun a b c d => top_expr a b c d))
/-- What two runs come to is the same. -/
theorem run_same {toks : List Tk} {n m : Nat} {g : Pg} {r r' : Rs} (h : runP toks n g = some r) (h' : runP toks m g = some r') : r = r' := by
  have h1 := runP_more toks n _ _ h (max n m) (by omega)
  have h2 := runP_more toks m _ _ h' (max n m) (by omega)
  rw [h1] at h2
  injection h2
/-- What the document's end makes of what was read. -/
theorem ask_end {toks : List Tk} {c : Pc} {X : Except (Int × Int) Tr} {k : Nat} {b : Bool} {q : Int} {x : NdH} {ks : List Tr} (hX : AskT toks c X) (o : OutD toks c 0 false 0 k b q [Tr.node x ks]) :
    (b = true ∧ X = .error (q, 90)) ∨ (b = false ∧ ¬ (tk toks k).kind = 1 ∧ X = .error ((tk toks k).pos, 90)) ∨ (b = false ∧ (tk toks k).kind = 1 ∧ X = if dpR (Tr.node x ks) ≤ 200 then .ok (Tr.node x ks) else .error (0, 91)) := by
  obtain ⟨n, r, h1, h2⟩ := hX
  have key : ∀ r', (∃ m, runP toks m (topP toks c) = some r') → r = r' := fun r' ⟨m, h⟩ => run_same h1 h
  cases b with
  | true =>
    obtain ⟨m, e⟩ := (Red.wrong (k := 0) (c := c) (f := fun ts k => if (tk toks k).kind = 1 then Pg.back ts k else .wrong toks k) (o.at_.bad rfl rfl)) 0 _ runP_ret
    have := key _ ⟨m, e⟩
    subst this
    exact .inl ⟨rfl, h2⟩
  | false =>
    have hR := Red.call (k := 0) (c := c) (f := fun ts k => if (tk toks k).kind = 1 then Pg.back ts k else .wrong toks k) (o.at_.good rfl rfl)
    by_cases hk : (tk toks k).kind = 1
    · rw [if_pos hk] at hR
      obtain ⟨m, e⟩ := hR 0 _ runP_ret
      have := key _ ⟨m, e⟩
      subst this
      obtain ⟨y, ls, h3, h4⟩ := h2
      have h3' : [Tr.node x ks] = [Tr.node y ls] := h3
      injection h3' with h3' _
      obtain ⟨rfl, rfl⟩ := node_inj h3'
      exact .inr (.inr ⟨rfl, hk, h4⟩)
    · rw [if_neg hk] at hR
      obtain ⟨m, e⟩ := hR 0 _ runP_ret
      have := key _ ⟨m, e⟩
      subst this
      exact .inr (.inl ⟨rfl, hk, h2⟩)
theorem allD_ok {s : ByteArray} (hs : s.size ≤ 65536) {ts : List TT} (hF : allF (lst s) = .ok ts) {m : Int} {W : World} (hm : HM m W) : Calls Tryz.prog 18 #[.string s] W fun e w' => ∃ ao n cap, e = .returned (.tuple #[.slice ao n cap, .int .i64 0, .int .i64 0]) ∧ w'.ownsRow 0 42 6 (.slice ao n cap) (ts.map toTk).length (tksC (ts.map toTk)) ∧ Below W.heap.size W w' :=
  (all13 s hs m W hm).mono fun e w' ⟨h1, h2⟩ => by
    rcases h1 with ⟨q, h3, h4⟩ | ⟨ts', v, h3, h4, h5⟩
    · rw [hF] at h3
      cases h3
    · rw [hF] at h3
      injection h3 with h3
      subst h3
      unfold OwnT at h5
      rw [cells_toTk] at h5
      obtain ⟨ao, cap, rfl⟩ := own_slice h5
      exact ⟨ao, _, cap, h4, by rw [List.length_map]; exact own_zero h5, h2⟩
theorem exprD13_any {s : ByteArray} {w : World} {p er : Int} (he : ¬ er = 0) (HA : Hid (∀ W, Below w.heap.size w W → Calls Tryz.prog 18 #[.string s] W fun e w' => e = .returned (.tuple #[.slice none 0 0, .int .i64 p, .int .i64 er]) ∧ Below W.heap.size W w')) : Calls Tryz.prog 13 #[.string s] w (Tells w (.error (p, er))) := by
  have he' : (er == 0) = false := by simpa using he
  clear he
  go_enter Tryz.func13, Tryz.ntmps13
  go_wp2_with (go_at_call 18; (with_reducible refine (HA.out _ (below1 _ _)).mono ?_); rintro e w1 ⟨rfl, hb⟩; have X1 := hid' ((Bx.new w zN (.slice none 0 0)).below hb); have HB := hid' (below_call hb); obtain ⟨x0, x1, x2, x3, x4, x5, xf, xl⟩ := X1.out.six; have f0 := xf 0; have f1 := xf 1; have f2 := xf 2; have f3 := xf 3; have f4 := xf 4; have f5 := xf 5; clear hb xf)
  refine ret_b3 (bx := w.heap.size) (X1.out.set6 zN (.slice none 0 0)) (fun W c0 c1 c2 c3 c4 c5 => by simp [results, Tryz.results13, go_sem, c0, c1, c2, c3, c4, c5]) rfl ⟨?_, rfl⟩
  exact below_set6' HB.out (Nat.le_refl _) _ _ _ _ _ _
theorem exprD13_long (s : ByteArray) (hs : ¬ s.size ≤ 65536) (w : World) : Calls Tryz.prog 13 #[.string s] w (Tells w (.error (0, 3))) :=
  exprD13_any (by decide) (hid' fun W _ => (all13_long s hs W).mono fun e w' ⟨h1, h2⟩ => ⟨h1, by rw [h2]; exact Below.refl _ _⟩)
theorem exprD13_lex (s : ByteArray) (hs : s.size ≤ 65536) {p : Nat} (hF : allF (lst s) = .error p) {m : Int} {w : World} (hm : HM m w) : Calls Tryz.prog 13 #[.string s] w (Tells w (.error ((p : Int), 70))) :=
  exprD13_any (by decide) (hid' fun W hb => (all13 s hs m W (hm.below hb)).mono fun e w' ⟨h1, h2⟩ => by
    refine ⟨?_, h2⟩
    rcases h1 with ⟨q, h3, h4⟩ | ⟨ts, v, h3, _⟩
    · rw [hF] at h3
      injection h3 with h3
      subst h3
      exact h4
    · rw [hF] at h3
      cases h3)
/-- The document's reader, made. -/
theorem rs_new {w : World} {toks : List Tk} {tv : Value} (ht : w.ownsRow 0 42 6 tv toks.length (tksC toks)) (hpos : 0 < toks.length) (hl : toks.length ≤ 1000000) : RS (w.alloc (.cells #[tv, .int .i64 0, .bool false, .int .i64 0] 49)) w.heap.size toks tv 0 false 0 :=
  ⟨heap_alloc_new w _, owns_below ht (below1 _ _), hpos, hl⟩
/-- What the document's ended tells. -/
def EndR (B n : Nat) (x : NdH) (ks : List Tr) (X : Except (Int × Int) Tr) (e : Ending) (w' : World) : Prop := match X with
  | .error y => e = .returned (.tuple #[.agg #[.int .i64 0, .string ⟨#[]⟩, .int .u32 0, .bool false, .slice none 0 0, .int .i64 0], .int .i64 y.1, .int .i64 y.2])
  | .ok t => ∃ ka kc, t = Tr.node x ks ∧ e = .returned (.tuple #[.agg #[.int .i64 x.kind, .string x.str, .int .u32 x.num, .bool x.flag, .slice ka ks.length kc, .int .i64 x.pos], .int .i64 0, .int .i64 0]) ∧ KsB B n w' (.slice ka ks.length kc) ks
theorem kf_ksb {B : Nat} {w : World} {v : Value} {ks : List Tr} (h : Kf B w v ks) : ∃ n, KsB B n w v ks := by
  obtain ⟨n, h⟩ := h
  exact ⟨n, fun cb hc => h.ks hc⟩
/-- What the document's ended leaves behind what was read. -/
theorem ended23 {w : World} {p k B n : Nat} {toks : List Tk} {tv : Value} {b : Bool} {q : Int} {x : NdH} {ao : Option Addr} {m cap : Nat} {ks : List Tr} {c : Pc} {X : Except (Int × Int) Tr} (hX : AskT toks c X) (o : OutD toks c 0 false 0 k b q [Tr.node x ks]) (hK : KsB B n w (.slice ao m cap) ks) (hp : p < B) (h : RS w p toks tv k b q) :
    Calls Tryz.prog 23 #[.pointer (some ⟨p, 0, none⟩), .agg #[.int .i64 x.kind, .string x.str, .int .u32 x.num, .bool x.flag, .slice ao m cap, .int .i64 x.pos]] w fun e w' => Kp p w w' ∧ EndR B n x ks X e w' := by
  rcases ask_end hX o with ⟨rfl, rfl⟩ | ⟨rfl, hk, rfl⟩ | ⟨rfl, hk, rfl⟩
  · exact (ended23_bad h).mono fun e w' h => ⟨h.2, h.1⟩
  · exact (ended23_more h hk).mono fun e w' h => ⟨h.2, h.1⟩
  · refine (ended23_end hK.any h hk).mono fun e w' h => ?_
    obtain ⟨h1, h2⟩ := h
    by_cases hle : dpR (Tr.node x ks) ≤ 200
    · rw [if_pos hle] at h1
      rw [if_pos hle]
      obtain ⟨_, ka, kc, e0⟩ := hK.any.shape
      injection e0 with e1 e2 e3
      subst e1 e2 e3
      exact ⟨Kp.of_below h2, ao, cap, rfl, h1, hK.below h2⟩
    · rw [if_neg hle] at h1
      rw [if_neg hle]
      exact ⟨Kp.of_below h2, h1⟩
theorem exprD13_ok {s : ByteArray} (hs : s.size ≤ 65536) {ts : List TT} (hF : allF (lst s) = .ok ts) {X : Except (Int × Int) Tr} {m : Int} {w : World} (hm : HM m w) (hX : AskT (ts.map toTk) .expr X) : Calls Tryz.prog 13 #[.string s] w (Tells w X) := by
  obtain ⟨hR, hRl⟩ := allF_row hF
  have hlen : (lst s).length = s.size := Go.Proofs.YtjeioblhpfogfaaGreatDoorLx.lst_len s
  have hT : TokOk (ts.map toTk) := row_ok (by omega) hR
  have hW : TokW (ts.map toTk) := row_w hR
  have hpos : 0 < (ts.map toTk).length := by rw [List.length_map]; exact hR.pos
  have hl : (ts.map toTk).length ≤ 1000000 := by rw [List.length_map]; omega
  have HA := hid' (allD_ok hs hF (hm.below (below1 w (.cells #[.int .i64 0, .string ⟨#[]⟩, .int .u32 0, .bool false, .slice none 0 0, .int .i64 0] 25))))
  have HX := hid' hX
  generalize ts.map toTk = toks at *
  have HE : Hid (∀ (W : World) (p : Nat) (tv : Value), RS W p toks tv 0 false 0 → Calls Tryz.prog 25 #[.pointer (some ⟨p, 0, none⟩)] W (RP p toks tv .expr 0 false 0 W)) := fun W p tv h => (eh hW hT ((toks.length - 0) * 8 + 6 + 1)).ex (Nat.lt_succ_self _) h
  have HN : Hid (∀ (w1 : World) (tv : Value), w1.ownsRow 0 42 6 tv toks.length (tksC toks) → RS (w1.alloc (.cells #[tv, .int .i64 0, .bool false, .int .i64 0] 49)) w1.heap.size toks tv 0 false 0) := fun w1 tv h => rs_new h hpos hl
  clear hs hF hm hX hR hRl hlen hT hW hpos hl
  cases X with
  | error y =>
    obtain ⟨y1, y2⟩ := y
    go_enter Tryz.func13, Tryz.ntmps13
    go_wp2_with (first
      | (go_at_call 18; (with_reducible refine HA.out.mono ?_); rintro e w1 ⟨ao, n, cap, rfl, ho, hb⟩; have H1 := hid' (HN.out _ _ ho); have X1 := hid' ((Bx.new w zN (.slice none 0 0)).below hb); have B1 := hid' (below_call hb); have hs1 : w.heap.size < w1.heap.size := X1.out.lt; clear ho hb)
      | (go_at_call 25; (with_reducible refine (HE.out _ _ _ H1.out).mono ?_); rintro e w2 ⟨kd, st, nu, fl, ka, km, kc, ps, ks, k', b', q', rfl, hk, hr, hK, o⟩; obtain ⟨kn, hK⟩ := kf_ksb hK; have X2 := hid' ((X1.out.alloc _).kp H1.out hk); have K2 := hid' hK; have H2 := hid' hr; have O2 := hid' o; have P2 := hid' hk; clear hk hr hK o))
    refine (ended23 (x := ⟨kd, st, nu, fl, ps⟩) HX.out O2.out K2.out (by simp) H2.out).mono ?_
    rintro e w3 ⟨hk, he⟩
    have he' : e = .returned (.tuple #[.agg #[.int .i64 0, .string ⟨#[]⟩, .int .u32 0, .bool false, .slice none 0 0, .int .i64 0], .int .i64 y1, .int .i64 y2]) := he
    subst he'
    clear he
    have X3 := hid' (X2.out.kp H2.out hk)
    have B3 : Hid (Below w.heap.size w w3) := hid' (kept_below (kept_below (B1.out.alloc B1.out.size _) P2.out B1.out.size) hk B1.out.size)
    obtain ⟨x0, x1, x2, x3, x4, x5, xf, xl⟩ := X3.out.six
    have f0 := xf 0
    have f1 := xf 1
    have f2 := xf 2
    have f3 := xf 3
    have f4 := xf 4
    have f5 := xf 5
    clear xf hk P2 O2 HX HE HA HN
    go_wp2
    refine ret_b3 (bx := w.heap.size) (p := y1) (er := y2) (X3.out.set6 zN (.slice none 0 0)) (fun W c0 c1 c2 c3 c4 c5 => by simp [results, Tryz.results13, go_sem, c0, c1, c2, c3, c4, c5]) rfl ⟨?_, rfl⟩
    exact below_set6' B3.out (Nat.le_refl _) _ _ _ _ _ _
  | ok t =>
    go_enter Tryz.func13, Tryz.ntmps13
    go_wp2_with (first
      | (go_at_call 18; (with_reducible refine HA.out.mono ?_); rintro e w1 ⟨ao, n, cap, rfl, ho, hb⟩; have H1 := hid' (HN.out _ _ ho); have X1 := hid' ((Bx.new w zN (.slice none 0 0)).below hb); have B1 := hid' (below_call hb); have hs1 : w.heap.size < w1.heap.size := X1.out.lt; clear ho hb)
      | (go_at_call 25; (with_reducible refine (HE.out _ _ _ H1.out).mono ?_); rintro e w2 ⟨kd, st, nu, fl, ka, km, kc, ps, ks, k', b', q', rfl, hk, hr, hK, o⟩; obtain ⟨kn, hK⟩ := kf_ksb hK; have X2 := hid' ((X1.out.alloc _).kp H1.out hk); have K2 := hid' hK; have H2 := hid' hr; have O2 := hid' o; have P2 := hid' hk; clear hk hr hK o))
    refine (ended23 (x := ⟨kd, st, nu, fl, ps⟩) HX.out O2.out K2.out (by simp) H2.out).mono ?_
    rintro e w3 ⟨hk, he⟩
    obtain ⟨la, lc, rfl, rfl, hK⟩ := he
    have K3 : Hid (KsB (w.heap.size + 1) kn w3 (.slice la ks.length lc) ks) := hid' (hK.less (by simp; omega))
    clear hK
    have X3 := hid' (X2.out.kp H2.out hk)
    have B3 : Hid (Below w.heap.size w w3) := hid' (kept_below (kept_below (B1.out.alloc B1.out.size _) P2.out B1.out.size) hk B1.out.size)
    obtain ⟨x0, x1, x2, x3, x4, x5, xf, xl⟩ := X3.out.six
    have f0 := xf 0
    have f1 := xf 1
    have f2 := xf 2
    have f3 := xf 3
    have f4 := xf 4
    have f5 := xf 5
    clear xf hk P2 O2 HX HE HA HN
    go_wp2
    refine ret_b3 (bx := w.heap.size) (p := 0) (er := 0) (X3.out.set6 ⟨kd, st, nu, fl, ps⟩ (.slice la ks.length lc)) (fun W c0 c1 c2 c3 c4 c5 => by simp [results, Tryz.results13, go_sem, c0, c1, c2, c3, c4, c5]) rfl ⟨?_, ?_⟩
    · exact below_set6' B3.out (Nat.le_refl _) _ _ _ _ _ _
    · exact ⟨_, _, ks, kn, rfl, rfl, (K3.out.set6 (Nat.lt_succ_self _) _ _ _ _ _ _).less (Nat.le_succ _)⟩
theorem exprD13 {s : ByteArray} {X : Except (Int × Int) Tr} {m : Int} {w : World} (hX : Ask (lst s) .expr X) (hm : HM m w) : Calls Tryz.prog 13 #[.string s] w (Tells w X) := by
  have hl : (lst s).length = s.size := Go.Proofs.YtjeioblhpfogfaaGreatDoorLx.lst_len s
  rcases hX with ⟨h1, rfl⟩ | ⟨h1, ⟨p, h2, rfl⟩ | ⟨ts, h2, h3⟩⟩
  · exact exprD13_long s (by omega) w
  · exact exprD13_lex s (by omega) h2 hm
  · exact exprD13_ok (by omega) h2 hm h3
end Go.Proofs.YtjeioblhpfogfaaGreatDoor
namespace Go.Proofs.YtjeioblhpfogfaaGreatDoor
open Go.RowKit
open Go.Proofs.YtjeioblhpfogfaaGreatDoorLx (TT allF lst Tok HM)

def awS : ByteArray := ⟨#[105, 110, 116, 32, 120, 32, 61, 32, 49, 32, 43, 32, 50, 32, 42, 32, 51, 59]⟩
def awT : List TT := [(⟨3, [105, 110, 116], 0, false⟩, 0, 3), (⟨2, [120], 0, false⟩, 4, 5), (⟨4, [61], 0, false⟩, 6, 7), (⟨5, [], 1, false⟩, 8, 9), (⟨4, [43], 0, false⟩, 10, 11), (⟨5, [], 2, false⟩, 12, 13), (⟨4, [42], 0, false⟩, 14, 15), (⟨5, [], 3, false⟩, 16, 17), (⟨4, [59], 0, false⟩, 17, 18), (⟨1, [], 0, false⟩, 18, 18)]
theorem aw_all : allF (lst awS) = .ok awT := by kernel_rfl
def num (v p : Int) : Tr := Tr.node ⟨1, ⟨#[]⟩, v, false, p⟩ []
def awV : List Tr := [Tr.node ⟨16, ⟨#[105, 110, 116]⟩, 0, false, 0⟩ [], Tr.node ⟨43, ⟨#[120]⟩, 0, false, 4⟩ [Tr.node ⟨10, ⟨#[43]⟩, 0, false, 8⟩ [num 1 8, Tr.node ⟨10, ⟨#[42]⟩, 0, false, 12⟩ [num 2 12, num 3 16]]]]
def awP : Tr := Tr.node ⟨40, ⟨#[]⟩, 0, false, 0⟩ [Tr.node ⟨42, ⟨#[]⟩, 0, false, 0⟩ awV]
theorem Red.then {toks : List Tk} {c : Pc} {k k1 : Nat} {ts : List Tr} {f : List Tr → Nat → Pg} {g : Pg} (h : Red toks (body toks c k) (.back ts k1)) (h' : Red toks (f ts k1) g) : Red toks (.call c k f) g := (Red.call h).trans h'
theorem Red.yes {toks : List Tk} {c : Prop} [Decidable c] {a b g : Pg} (hc : c) (h : Red toks a g) : Red toks (if c then a else b) g := by rw [if_pos hc]; exact h
theorem Red.no {toks : List Tk} {c : Prop} [Decidable c] {a b g : Pg} (hc : ¬ c) (h : Red toks b g) : Red toks (if c then a else b) g := by rw [if_neg hc]; exact h
/-- A number, with nothing behind it that belongs to it. -/
theorem red_un {T : List Tk} {k : Nat} {s : ByteArray} (h5 : (tk T k).kind = 5) (hs : signAt T k = ⟨#[]⟩) (hn : signAt T (k + 1) = s) (h1 : ¬ s = ⟨#[91]⟩) (h2 : ¬ s = ⟨#[46]⟩) (h3 : ¬ s = ⟨#[45, 62]⟩) : Red T (body T .un k) (.back [Tr.node ⟨1, ⟨#[]⟩, (tk T k).num, (tk T k).uns, (tk T k).pos⟩ []] (k + 1)) := by
  rw [body_un, hs]
  refine Red.no (by simp) (Red.no (by simp) (Red.no (by simp) ?_))
  refine Red.then (ts := [Tr.node ⟨1, ⟨#[]⟩, (tk T k).num, (tk T k).uns, (tk T k).pos⟩ []]) (k1 := k + 1) ?_ Red.rfl
  rw [body_post]
  refine Red.then (ts := [Tr.node ⟨1, ⟨#[]⟩, (tk T k).num, (tk T k).uns, (tk T k).pos⟩ []]) (k1 := k + 1) ?_ ?_
  · rw [body_prim, hs]
    exact Red.no (by simp) (Red.yes h5 Red.rfl)
  · refine Red.then (ts := [Tr.node ⟨1, ⟨#[]⟩, (tk T k).num, (tk T k).uns, (tk T k).pos⟩ []]) (k1 := k + 1) ?_ Red.rfl
    rw [body_postR, hn]
    exact Red.no h1 (Red.no h2 (Red.no h3 Red.rfl))
theorem red_bin {T : List Tk} {k k' : Nat} {lv : Int} {ts : List Tr} {x : Tr} (h : Red T (body T .un k) (.back [x] (k + 1))) (h' : Red T (body T (.binR lv (tk T k).pos [x]) (k + 1)) (.back ts k')) : Red T (body T (.bin lv) k) (.back ts k') := by
  rw [body_bin]
  exact Red.then h (Red.then h' Red.rfl)
theorem red_stop {T : List Tk} {k : Nat} {lv fr : Int} {n : List Tr} (h : levF (signAt T k) < lv ∨ levF (signAt T k) = 0) : Red T (body T (.binR lv fr n) k) (.back n k) := by
  rw [body_binR]
  exact Red.yes h Red.rfl
theorem red_op {T : List Tk} {k k1 k' : Nat} {lv fr : Int} {n a ts : List Tr} (h : ¬ (levF (signAt T k) < lv ∨ levF (signAt T k) = 0)) (h1 : Red T (body T (.bin (levF (signAt T k) + 1)) (k + 1)) (.back a k1)) (h2 : Red T (body T (.binR lv fr [Tr.node ⟨if levF (signAt T k) ≤ 3 then 11 else 10, signAt T k, 0, false, fr⟩ (n ++ a)]) k1) (.back ts k')) : Red T (body T (.binR lv fr n) k) (.back ts k') := by
  rw [body_binR]
  exact Red.no h (Red.then h1 (Red.then h2 Red.rfl))
theorem lev43 : levF ⟨#[43]⟩ = 10 := by simp [levF, levFrom, opTab, toList_data]
theorem lev42 : levF ⟨#[42]⟩ = 11 := by simp [levF, levFrom, opTab, toList_data]
theorem lev59 : levF ⟨#[59]⟩ = 0 := by simp [levF, levFrom, opTab, toList_data]
theorem aw_expr {T : List Tk} (k0 : tk T 0 = ⟨3, ⟨#[105, 110, 116]⟩, 0, false, 0, 3⟩) (s0 : signAt T 0 = ⟨#[105, 110, 116]⟩) (k1 : tk T 1 = ⟨2, ⟨#[120]⟩, 0, false, 4, 5⟩) (s1 : signAt T 1 = ⟨#[]⟩) (k2 : tk T 2 = ⟨4, ⟨#[61]⟩, 0, false, 6, 7⟩) (s2 : signAt T 2 = ⟨#[61]⟩) (k3 : tk T 3 = ⟨5, ⟨#[]⟩, 1, false, 8, 9⟩) (s3 : signAt T 3 = ⟨#[]⟩) (k4 : tk T 4 = ⟨4, ⟨#[43]⟩, 0, false, 10, 11⟩) (s4 : signAt T 4 = ⟨#[43]⟩) (k5 : tk T 5 = ⟨5, ⟨#[]⟩, 2, false, 12, 13⟩) (s5 : signAt T 5 = ⟨#[]⟩) (k6 : tk T 6 = ⟨4, ⟨#[42]⟩, 0, false, 14, 15⟩) (s6 : signAt T 6 = ⟨#[42]⟩) (k7 : tk T 7 = ⟨5, ⟨#[]⟩, 3, false, 16, 17⟩) (s7 : signAt T 7 = ⟨#[]⟩) (k8 : tk T 8 = ⟨4, ⟨#[59]⟩, 0, false, 17, 18⟩) (s8 : signAt T 8 = ⟨#[59]⟩) (k9 : tk T 9 = ⟨1, ⟨#[]⟩, 0, false, 18, 18⟩) (s9 : signAt T 9 = ⟨#[]⟩) : Red T (body T .expr 3) (.back [Tr.node ⟨10, ⟨#[43]⟩, 0, false, 8⟩ [num 1 8, Tr.node ⟨10, ⟨#[42]⟩, 0, false, 12⟩ [num 2 12, num 3 16]]] 8) := by
  have u3 := red_un (T := T) (k := 3) (by rw [k3]) s3 s4 (by simp) (by simp) (by simp)
  have u5 := red_un (T := T) (k := 5) (by rw [k5]) s5 s6 (by simp) (by simp) (by simp)
  have u7 := red_un (T := T) (k := 7) (by rw [k7]) s7 s8 (by simp) (by simp) (by simp)
  rw [k3] at u3
  rw [k5] at u5
  rw [k7] at u7
  have st8 : ∀ lv fr n, Red T (body T (.binR lv fr n) 8) (.back n 8) := fun lv fr n => red_stop (by rw [s8, lev59]; exact .inr rfl)
  have b7 : Red T (body T (.bin 12) 7) (.back [num 3 16] 8) := red_bin u7 (st8 _ _ _)
  have b5 : Red T (body T (.bin 11) 5) (.back [Tr.node ⟨10, ⟨#[42]⟩, 0, false, 12⟩ [num 2 12, num 3 16]] 8) := by
    refine red_bin u5 (red_op (a := [num 3 16]) (k1 := 8) (by rw [s6, lev42]; decide) (by rw [s6, lev42]; exact b7) ?_)
    rw [s6, lev42, k5]
    exact st8 _ _ _
  have b3 : Red T (body T (.bin 2) 3) (.back [Tr.node ⟨10, ⟨#[43]⟩, 0, false, 8⟩ [num 1 8, Tr.node ⟨10, ⟨#[42]⟩, 0, false, 12⟩ [num 2 12, num 3 16]]] 8) := by
    refine red_bin u3 (red_op (a := [Tr.node ⟨10, ⟨#[42]⟩, 0, false, 12⟩ [num 2 12, num 3 16]]) (k1 := 8) (by rw [s4, lev43]; decide) (by rw [s4, lev43]; exact b5) ?_)
    rw [s4, lev43, k3]
    exact st8 _ _ _
  rw [body_expr]
  refine Red.then (ts := [Tr.node ⟨10, ⟨#[43]⟩, 0, false, 8⟩ [num 1 8, Tr.node ⟨10, ⟨#[42]⟩, 0, false, 12⟩ [num 2 12, num 3 16]]]) (k1 := 8) ?_ ?_
  · rw [body_cond]
    refine Red.then b3 (Red.then (ts := [Tr.node ⟨10, ⟨#[43]⟩, 0, false, 8⟩ [num 1 8, Tr.node ⟨10, ⟨#[42]⟩, 0, false, 12⟩ [num 2 12, num 3 16]]]) (k1 := 8) ?_ Red.rfl)
    rw [body_condR, s8]
    exact Red.no (by simp) Red.rfl
  · refine Red.then (ts := [Tr.node ⟨10, ⟨#[43]⟩, 0, false, 8⟩ [num 1 8, Tr.node ⟨10, ⟨#[42]⟩, 0, false, 12⟩ [num 2 12, num 3 16]]]) (k1 := 8) ?_ Red.rfl
    rw [body_exprR, s8]
    exact Red.no (by simp [asgW, toList_data]) Red.rfl
theorem aw_red {T : List Tk} (k0 : tk T 0 = ⟨3, ⟨#[105, 110, 116]⟩, 0, false, 0, 3⟩) (s0 : signAt T 0 = ⟨#[105, 110, 116]⟩) (k1 : tk T 1 = ⟨2, ⟨#[120]⟩, 0, false, 4, 5⟩) (s1 : signAt T 1 = ⟨#[]⟩) (k2 : tk T 2 = ⟨4, ⟨#[61]⟩, 0, false, 6, 7⟩) (s2 : signAt T 2 = ⟨#[61]⟩) (k3 : tk T 3 = ⟨5, ⟨#[]⟩, 1, false, 8, 9⟩) (s3 : signAt T 3 = ⟨#[]⟩) (k4 : tk T 4 = ⟨4, ⟨#[43]⟩, 0, false, 10, 11⟩) (s4 : signAt T 4 = ⟨#[43]⟩) (k5 : tk T 5 = ⟨5, ⟨#[]⟩, 2, false, 12, 13⟩) (s5 : signAt T 5 = ⟨#[]⟩) (k6 : tk T 6 = ⟨4, ⟨#[42]⟩, 0, false, 14, 15⟩) (s6 : signAt T 6 = ⟨#[42]⟩) (k7 : tk T 7 = ⟨5, ⟨#[]⟩, 3, false, 16, 17⟩) (s7 : signAt T 7 = ⟨#[]⟩) (k8 : tk T 8 = ⟨4, ⟨#[59]⟩, 0, false, 17, 18⟩) (s8 : signAt T 8 = ⟨#[59]⟩) (k9 : tk T 9 = ⟨1, ⟨#[]⟩, 0, false, 18, 18⟩) (s9 : signAt T 9 = ⟨#[]⟩) : Red T (body T (.prog []) 0) (.back [awP] 9) := by
  have hE := aw_expr k0 s0 k1 s1 k2 s2 k3 s3 k4 s4 k5 s5 k6 s6 k7 s7 k8 s8 k9 s9
  rw [body_prog]
  refine Red.no (by rw [k0]; decide) (Red.then (c := .outer) (ts := [Tr.node ⟨42, ⟨#[]⟩, 0, false, 0⟩ awV]) (k1 := 9) ?_ (Red.then (ts := [awP]) (k1 := 9) ?_ Red.rfl))
  · rw [body_outer]
    unfold typ
    rw [s0]
    refine Red.yes (by simp [tyWord, toList_data]) (Red.no (by simp) (Red.no (by simp) ?_))
    unfold nam
    rw [k1]
    refine Red.yes rfl ?_
    dsimp only
    rw [s2]
    refine Red.no (by simp) (Red.then (ts := [Tr.node ⟨42, ⟨#[]⟩, 0, false, 0⟩ awV]) (k1 := 9) ?_ Red.rfl)
    rw [body_varsR]
    refine Red.then (ts := [Tr.node ⟨43, ⟨#[120]⟩, 0, false, 4⟩ [Tr.node ⟨10, ⟨#[43]⟩, 0, false, 8⟩ [num 1 8, Tr.node ⟨10, ⟨#[42]⟩, 0, false, 12⟩ [num 2 12, num 3 16]]]]) (k1 := 8) ?_ ?_
    · rw [body_var]
      unfold nam
      rw [k1]
      refine Red.yes rfl ?_
      dsimp only
      rw [s2]
      refine Red.no (by simp) (Red.then (ts := [Tr.node ⟨43, ⟨#[120]⟩, 0, false, 4⟩ [Tr.node ⟨10, ⟨#[43]⟩, 0, false, 8⟩ [num 1 8, Tr.node ⟨10, ⟨#[42]⟩, 0, false, 12⟩ [num 2 12, num 3 16]]]]) (k1 := 8) ?_ Red.rfl)
      rw [body_init, s2]
      exact Red.no (by simp) (Red.no (by simp) (Red.then hE Red.rfl))
    · rw [s8]
      refine Red.no (by simp) ?_
      unfold eat
      rw [s8]
      refine Red.yes rfl ?_
      dsimp only
      unfold tyT
      rw [k0]
      exact Red.rfl
  · rw [body_prog]
    refine Red.yes (by rw [k9]) ?_
    exact Red.rfl
theorem aw_ask : Ask (lst awS) (.prog []) (.ok awP) := by
  have hR : Red (awT.map toTk) (body (awT.map toTk) (.prog []) 0) (.back [awP] 9) := aw_red rfl rfl rfl rfl rfl rfl rfl rfl rfl rfl rfl rfl rfl rfl rfl rfl rfl rfl rfl rfl
  obtain ⟨n, e⟩ := (Red.call (f := fun ts k => if (tk (awT.map toTk) k).kind = 1 then Pg.back ts k else .wrong (awT.map toTk) k) hR) 0 (.ok ([awP], 9)) (by rw [if_pos (by rfl)]; exact runP_ret)
  refine .inr ⟨by decide, .inr ⟨awT, aw_all, n, _, e, _, _, rfl, ?_⟩⟩
  have : dpR awP ≤ 200 := by simp [dpR, awP, awV, num, szT_node, dpT_node, szL_cons, szL_nil, dpL_cons, dpL_nil]
  exact (if_pos this).symm
theorem awake11 {m : Int} {w : World} (hm : HM m w) (hO : OpT w) (h0 : 0 < w.heap.size) : Calls Tryz.prog 11 #[] w fun e w' => e = .returned (.bool true) ∧ Below w.heap.size w w' := by
  have HP := hid' (parse8 aw_ask hm hO h0)
  unfold awS at HP
  clear hm hO h0
  go_enter Tryz.func11, Tryz.ntmps11
  go_wp2_with (go_at_call 8; (with_reducible refine HP.out.mono ?_); intro e w1 ht; obtain ⟨x, ao, ks, cap, n, ht1, rfl, hK, hb⟩ := tells_ok ht; have HB := hid' hb; have HK := hid' hK; obtain ⟨rfl, rfl⟩ := node_inj (show Tr.node ⟨40, ⟨#[]⟩, 0, false, 0⟩ [Tr.node ⟨42, ⟨#[]⟩, 0, false, 0⟩ awV] = Tr.node x ks from ht1); obtain ⟨m1, b1, off1, x1, kv1, ks1, hm1, rfl, ⟨hbl1, _⟩, hke1, ⟨c0, c1, c2, c3, c4, c5⟩, hK1⟩ := HK.out.any.kid 0 (by simp); obtain ⟨rfl, rfl⟩ := node_inj (show Tr.node ⟨42, ⟨#[]⟩, 0, false, 0⟩ awV = Tr.node x1 ks1 from hke1); have hrm := HK.out.any.room (by simp); obtain ⟨_, ka1, kc1, rfl⟩ := hK1.shape; rw [show awV.length = 2 from rfl] at c4; simp only [Nat.zero_mul, Nat.add_zero] at c0 c4; clear ht hK hb ht1 hke1 hK1)
  go_ret
  exact ⟨rfl, HB.out.alloc HB.out.size _⟩
end Go.Proofs.YtjeioblhpfogfaaGreatDoor
namespace Go.Proofs.YtjeioblhpfogfaaGreatDoor
open Go.RowKit
open Go.Proofs.YtjeioblhpfogfaaGreatDoorLx (lst HM)

theorem placed10' {cb cb' n n' : Nat} {w : World} {x : NdH} {kv kv' : Value} {ks : List Tr} (h : Ks cb n w kv ks) (h' : Ks cb' n' w kv' ks) : Calls Tryz.prog 10 #[.agg #[.int .i64 x.kind, .string x.str, .int .u32 x.num, .bool x.flag, kv, .int .i64 x.pos], .agg #[.int .i64 x.kind, .string x.str, .int .u32 x.num, .bool x.flag, kv', .int .i64 x.pos]] w fun e w' => e = .returned (.bool true) ∧ Below w.heap.size w w' := placed10 n n' h h'
theorem expressions4_of {s : ByteArray} {X : Except (Int × Int) Tr} {w : World} (HA : Hid (∀ W, Below w.heap.size w W → Calls Tryz.prog 12 #[.string s] W (Tells W X))) (HD : Hid (∀ W, Below w.heap.size w W → Calls Tryz.prog 13 #[.string s] W (Tells W X))) (HK : Hid (∀ W, Below w.heap.size w W → Calls Tryz.prog 11 #[] W fun e w' => e = .returned (.bool true) ∧ Below W.heap.size W w')) :
    Calls Tryz.prog 4 #[.string s] w fun e w' => e = .returned (.bool true) ∧ Below w.heap.size w w' := by
  cases X with
  | error p =>
    obtain ⟨p, er⟩ := p
    have HP : Hid (∀ W, Calls Tryz.prog 10 #[.agg #[.int .i64 0, .string ⟨#[]⟩, .int .u32 0, .bool false, .slice none 0 0, .int .i64 0], .agg #[.int .i64 0, .string ⟨#[]⟩, .int .u32 0, .bool false, .slice none 0 0, .int .i64 0]] W fun e w' => e = .returned (.bool true) ∧ Below W.heap.size W w') := fun W => placed10 (cb := 0) (cb' := 0) 0 0 (x := zN) (ks := []) ⟨rfl, none, 0, rfl⟩ ⟨rfl, none, 0, rfl⟩
    go_enter Tryz.func4, Tryz.ntmps4
    go_wp2_with (first
      | (go_at_call 12; (with_reducible refine (HA.out _ (Below.refl _ _)).mono ?_); intro e w1 ht; obtain ⟨rfl, hb⟩ := tells_err ht; have B1 := hid' (hb.alloc hb.size (.cells #[.int .i64 0, .string ⟨#[]⟩, .int .u32 0, .bool false, .slice none 0 0, .int .i64 0] 25)); clear ht hb)
      | (go_at_call 13; (with_reducible refine (HD.out _ B1.out).mono ?_); intro e w2 ht; obtain ⟨rfl, hb⟩ := tells_err ht; have X2 := hid' ((Bx.new w1 zN (.slice none 0 0)).below hb); have B2 := hid' (below_on B1.out hb); obtain ⟨x0, x1, x2, x3, x4, x5, xf, xl⟩ := X2.out.six; have hne : ¬ w1.heap.size = w2.heap.size := Nat.ne_of_lt xl; clear ht hb xf)
      | (go_at_call 10; (with_reducible refine (HP.out _).mono ?_); rintro e w3 ⟨rfl, hb⟩; have B3 := hid' (below_on (B2.out.alloc B2.out.size _) hb); clear hb)
      | (go_at_call 11; (with_reducible refine (HK.out _ B3.out).mono ?_); rintro e w4 ⟨rfl, hb⟩; have B4 := hid' (below_on B3.out hb); clear hb))
    go_ret
    exact ⟨rfl, B4.out⟩
  | ok t =>
    go_enter Tryz.func4, Tryz.ntmps4
    go_wp2_with (first
      | (go_at_call 12; (with_reducible refine (HA.out _ (Below.refl _ _)).mono ?_); intro e w1 ht; obtain ⟨x, ao, ks, cap, n, rfl, rfl, hK, hb⟩ := tells_ok ht; have B1 := hid' (hb.alloc hb.size (.cells #[.int .i64 x.kind, .string x.str, .int .u32 x.num, .bool x.flag, .slice ao ks.length cap, .int .i64 x.pos] 25)); have K1 := hid' hK.any; clear ht hb hK)
      | (go_at_call 13; (with_reducible refine (HD.out _ B1.out).mono ?_); intro e w2 ht; obtain ⟨y, al, ls, capl, n2, ht1, rfl, hK, hb⟩ := tells_ok ht; obtain ⟨rfl, rfl⟩ := node_inj ht1; have X2 := hid' ((Bx.new w1 x (.slice ao ks.length cap)).below hb); have B2 := hid' (below_on B1.out hb); have K2 := hid' hK.any; have J2 := hid' ((K1.out.below (below1 _ _)).below hb); obtain ⟨x0, x1, x2, x3, x4, x5, xf, xl⟩ := X2.out.six; have hne : ¬ w1.heap.size = w2.heap.size := Nat.ne_of_lt xl; clear ht hb hK ht1 xf)
      | (go_at_call 10; (with_reducible refine (placed10' (x := x) (J2.out.below (below1 _ _)) (K2.out.below (below1 _ _))).mono ?_); rintro e w3 ⟨rfl, hb⟩; have B3 := hid' (below_on (B2.out.alloc B2.out.size _) hb); clear hb)
      | (go_at_call 11; (with_reducible refine (HK.out _ B3.out).mono ?_); rintro e w4 ⟨rfl, hb⟩; have B4 := hid' (below_on B3.out hb); clear hb))
    go_ret
    exact ⟨rfl, B4.out⟩
theorem expressions4 {s : ByteArray} {m : Int} {w : World} (hm : HM m w) (hO : OpT w) (h0 : 0 < w.heap.size) : Calls Tryz.prog 4 #[.string s] w fun e w' => e = .returned (.bool true) ∧ Below w.heap.size w w' := by
  obtain ⟨X, hX⟩ := ask_some (lst s) (c := .expr) trivial trivial trivial
  exact expressions4_of (hid' fun W hb => expression12 hX (hm.below hb) (hO.next h0 hb) (Nat.lt_of_lt_of_le h0 hb.size)) (hid' fun W hb => exprD13 hX (hm.below hb)) (hid' fun W hb => awake11 (hm.below hb) (hO.next h0 hb) (Nat.lt_of_lt_of_le h0 hb.size))
end Go.Proofs.YtjeioblhpfogfaaGreatDoor
