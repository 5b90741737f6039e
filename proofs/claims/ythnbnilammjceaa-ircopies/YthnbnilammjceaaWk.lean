/- Check; awake. -/
import Derived.Test.YthnbnilammjceaaChk
import Derived.Test.YthnbnilammjceaaRch
import Derived.Test.YthnbnilammjceaaPur
namespace Go.Proofs.Ythnbnilammjceaa
open Go.RowKit Go.Maps
set_option linter.unusedVariables false
set_option linter.unusedSimpArgs false

/-- May a program be? -/
def pgF (p : Pg) : Bool := mayF p && p.funcs.all (fnF p)
set_option maxRecDepth 20000 in
set_option maxHeartbeats 8000000 in
theorem check8 {w : World} {p : Pg} (hp : Pg.ok w p) :
    Calls Try.prog 8 #[p.val] w fun e w' => e = .returned (.int .i64 (errF (pgF p))) ∧ Below w.heap.size w w' := by
  have H25 : Hid (∀ W, Below w.heap.size w W → Calls Try.prog 25 #[p.val] W fun e w' => e = .returned (.bool (mayF p)) ∧ Below W.heap.size W w') := fun W hW => mayBe25 (hp.on hW)
  have H12 : Hid (∀ W, Below w.heap.size w W → ∀ k (hk : k < p.funcs.length), Calls Try.prog 12 #[p.val, (p.funcs[k]).val] W fun e w' => e = .returned (.int .i64 (errF (fnF p p.funcs[k]))) ∧ Below W.heap.size W w') := fun W hW k hk => checkFunc12 (hp.on hW) ((hp.fns _ (List.getElem_mem hk)).on hW)
  have HNO : Hid (∀ k (hk : k < p.funcs.length), fnF p p.funcs[k] = false → p.funcs.all (fnF p) = false) := fun k hk h => all_no k hk h
  have HYES : Hid ((∀ k (hk : k < p.funcs.length), fnF p p.funcs[k] = true) → p.funcs.all (fnF p) = true) := fun h => all_yes h
  have HFN := hid' hp.fns
  unfold pgF
  generalize fnF p = F at *
  obtain ⟨fv, funcs, gl, dv, data, main⟩ := p
  obtain ⟨fo, fc, ef, hff⟩ := hp.f.form fn5
  obtain ⟨dd, dc, ed⟩ := hp.d.len
  have hfl := hp.fl
  dsimp only at *
  subst ef ed
  have HF := hid' hff
  unfold big at hfl
  clear hp hff
  generalize hq : mayF ⟨.slice fo funcs.length fc, funcs, gl, .slice dd data.length dc, data, main⟩ = q at *
  clear hq
  unfold Pg.val at *
  dsimp only at *
  cases q
  · clear H12
    go_enter Try.func8, Try.ntmps8
    go_wp2_with (go_at_call 25; refine (H25.out _ (below1 _ _)).mono ?_; rintro e1 w1 ⟨rfl, hb1⟩)
    go_ret
    exact ⟨rfl, below_up (below1 _ _) hb1⟩
  · go_enter Try.func8, Try.ntmps8
    go_wp2_with (go_at_call 25; refine (H25.out _ (below1 _ _)).mono ?_; rintro e1 w1 ⟨rfl, hb1⟩; have HB1 := hid' hb1; obtain ⟨_, _, g0, g1, g2, g3⟩ := pbox hb1)
    go_loopw [12] (fun i wr => ∃ k : Nat, k ≤ funcs.length ∧ i = .int .i64 k ∧ (∀ j (hj : j < funcs.length), j < k → F funcs[j] = true) ∧ Below (w.alloc (.cells #[.slice fo funcs.length fc, .int .i64 gl, .slice dd data.length dc, .int .i64 main] 25)).heap.size (w.alloc (.cells #[.slice fo funcs.length fc, .int .i64 gl, .slice dd data.length dc, .int .i64 main] 25)) wr) (fun i _ => funcs.length - (intOf i).toNat)
    case atStart => exact ⟨0, Nat.zero_le _, rfl, fun j _ hj => by omega, HB1.out⟩
    case round =>
      obtain ⟨k, hk, rfl, hok, hbw⟩ := hrel
      have HK := hid' hok
      have HB := hid' hbw
      obtain ⟨hsz, hB0, p0, p1, p2, p3⟩ := pbox hbw
      have HB0 := hid' hB0
      clear hok hbw hB0 g0 g1 g2 g3
      by_cases hlt : k < funcs.length
      · obtain ⟨b, o, rfl, hb1, hc1, hx⟩ := HF.out k hlt
        obtain ⟨c0, c1, c2, c3, c4⟩ := fn_cells (hx wr HB0.out)
        have ho := HFN.out _ (List.getElem_mem hlt)
        obtain ⟨bo, bc, eb⟩ := ho.b.len
        have HC := fun W hW => H12.out W hW k hlt
        have HN : Hid (F funcs[k] = true → ∀ j (hj : j < funcs.length), j < k + 1 → F funcs[j] = true) := fun he j hj hjk => by
          by_cases e : j = k
          · subst e; exact he
          · exact HK.out j hj (by omega)
        have HNO2 := hid' (HNO.out k hlt)
        unfold Fn.val at HC
        rw [eb] at c4 HC
        have hnb : ¬ b = wr.heap.size := by have := HB0.out.size; omega
        have hnw : ¬ w.heap.size = wr.heap.size := by omega
        clear hx ho eb
        generalize F funcs[k] = q at *
        generalize funcs[k] = x at *
        unfold errF at HC
        cases q
        · rw [if_neg (by decide)] at HC
          go_wp2_with (go_at_call 12; refine (HC _ (HB0.out.alloc HB0.out.size _)).mono ?_; rintro e1 w2 ⟨rfl, hb2⟩)
          go_ret
          exact ⟨by rw [HNO2.out (by trivial)]; rfl, below_on (HB0.out.alloc HB0.out.size _) hb2 (by have := HB0.out.size; simp; omega)⟩
        · rw [if_pos rfl] at HC
          go_wp2_with (go_at_call 12; refine (HC _ (HB0.out.alloc HB0.out.size _)).mono ?_; rintro e1 w2 ⟨rfl, hb2⟩)
          go_roundw
          case rel => exact ⟨k + 1, by omega, by go_num, HN.out (by trivial), below_on (HB.out.alloc HB.out.size _) hb2 (by have := HB.out.size; simp at this ⊢; omega)⟩
          case measure => simp [intOf]; omega
      · have e : k = funcs.length := by omega
        subst e
        have HR := hid' (HYES.out (fun k hk => HK.out k hk hk))
        go_wp2_with fail
        go_ret
        exact ⟨by rw [HR.out]; rfl, HB0.out⟩

/-- The least program. -/
def oneB : Bl := ⟨.slice none 0 0, [], 3, -1, .slice none 0 0, []⟩
def oneF (b : Nat) : Fn := ⟨⟨#[109, 97, 105, 110]⟩, 0, 0, 0, .slice (some ⟨b, 0, none⟩) 1 1, [oneB]⟩
def oneP (b c : Nat) : Pg := ⟨.slice (some ⟨c, 0, none⟩) 1 1, [oneF b], 0, .slice none 0 0, [], 0⟩
def zeroP : Pg := ⟨.slice none 0 0, [], 0, .slice none 0 0, [], 0⟩
theorem zero_ok (w : World) : Pg.ok w zeroP := ⟨.inl ⟨rfl, _, _, rfl⟩, by decide, .inl ⟨rfl, _, _, rfl⟩, by decide, fun x hx => (by cases hx), fun x hx => (by cases hx)⟩
theorem src_one {α : Type} {f : α → List Value} {w : World} {b : Nat} {x : α} {t : TypeId} (h : w.heap[b]? = some (.cells (f x).toArray t (0, 0))) : Src f w (.slice (some ⟨b, 0, none⟩) 1 1) [x] := by
  refine .inr ⟨b, 0, 1, rfl, (Array.getElem?_eq_some_iff.1 h).1, Nat.le_refl _, fun j u hj => ?_⟩
  simp only [flat, List.flatMap_cons, List.flatMap_nil, List.append_nil] at hj
  simp [World.cell?, h, hj]
theorem one_ok {w : World} {b c : Nat} (h1 : w.heap[b]? = some (.cells #[.slice none 0 0, .int .i64 3, .int .i64 (-1), .slice none 0 0] 54 (0, 0))) (h2 : w.heap[c]? = some (.cells #[.string ⟨#[109, 97, 105, 110]⟩, .int .i64 0, .int .i64 0, .int .i64 0, .slice (some ⟨b, 0, none⟩) 1 1] 33 (0, 0))) : Pg.ok w (oneP b c) := by
  have hB : Bl.ok w oneB := ⟨.inl ⟨rfl, _, _, rfl⟩, by decide, .inl ⟨rfl, _, _, rfl⟩, by decide, fun x hx => by cases hx⟩
  have hF : Fn.ok w (oneF b) := ⟨src_one h1, (by show 1 * 64 ≤ 140737488351232; omega), (by show 4 ≤ 140737488351232; omega), fun x hx => by
    have : x = oneB := by simpa [oneF] using hx
    subst this
    exact hB⟩
  exact ⟨src_one h2, (by show 1 * 64 ≤ 140737488351232; omega), .inl ⟨rfl, _, _, rfl⟩, (by show 0 * 24 ≤ 140737488351232; omega), fun x hx => (by
    have : x = oneF b := by simpa [oneP] using hx
    subst this
    exact hF), fun x hx => (by cases hx)⟩
theorem one_is (b c : Nat) : pgF (oneP b c) = true := by
  have h1 : mayF (oneP b c) = true := rfl
  have h2 : fnF (oneP b c) (oneF b) = true := rfl
  unfold pgF
  rw [h1]
  simp [oneP]
  exact h2
theorem zero_is : pgF zeroP = false := rfl
theorem one_reach : reachF [oneB] = [true] := rfl
theorem heap3 (w : World) (a b c : Obj) : (((w.alloc a).alloc b).alloc c).heap[w.heap.size + 1]? = some b ∧ (((w.alloc a).alloc b).alloc c).heap[w.heap.size + 1 + 1]? = some c := by
  have s1 : (w.alloc a).heap.size = w.heap.size + 1 := by simp
  have s2 : ((w.alloc a).alloc b).heap.size = w.heap.size + 1 + 1 := by simp
  constructor
  · rw [Below.heap_alloc _ _ _ (by rw [s2]; omega), ← s1]
    exact heap_alloc_new _ _
  · rw [← s2]
    exact heap_alloc_new _ _
def OneR (w : World) (e : Ending) (w' : World) : Prop := e = .returned (.agg #[.slice (some ⟨w.heap.size + 1 + 1, 0, none⟩) 1 1, .int .i64 0, .slice none 0 0, .int .i64 0]) ∧ Pg.ok w' (oneP (w.heap.size + 1) (w.heap.size + 1 + 1)) ∧ w'.heap[w.heap.size + 1 + 1]? = some (.cells #[.string ⟨#[109, 97, 105, 110]⟩, .int .i64 0, .int .i64 0, .int .i64 0, .slice (some ⟨w.heap.size + 1, 0, none⟩) 1 1] 33 (0, 0)) ∧ Below w.heap.size w w'
theorem one26 (w : World) : Calls Try.prog 26 #[] w (OneR w) := by
  go_enter Try.func26, Try.ntmps26
  go_wp2
  refine bodyPost_ret (v := .agg #[.slice (some ⟨w.heap.size + 1 + 1, 0, none⟩) 1 1, .int .i64 0, .slice none 0 0, .int .i64 0]) (by simp [results, Try.results26, go_sem]) rfl ⟨rfl, ?_, (heap3 _ _ _ _).2, below3 _ _ _ _⟩
  exact one_ok (heap3 _ _ _ _).1 (heap3 _ _ _ _).2

set_option maxRecDepth 20000 in
set_option maxHeartbeats 8000000 in
theorem awake11 (w : World) : Calls Try.prog 11 #[] w fun e w' => e = .returned (.bool true) ∧ Below w.heap.size w w' := by
  have H8 : Hid (∀ W b c, Pg.ok W (oneP b c) → Calls Try.prog 8 #[.agg #[.slice (some ⟨c, 0, none⟩) 1 1, .int .i64 0, .slice none 0 0, .int .i64 0]] W fun e w' => e = .returned (.int .i64 0) ∧ Below W.heap.size W w') := fun W b c h => by
    have := check8 h
    rw [one_is] at this
    exact this
  have H8z : Hid (∀ W, Calls Try.prog 8 #[.agg #[.slice none 0 0, .int .i64 0, .slice none 0 0, .int .i64 0]] W fun e w' => e = .returned (.int .i64 1) ∧ Below W.heap.size W w') := fun W => by
    have := check8 (zero_ok W)
    rw [zero_is] at this
    exact this
  have H16 : Hid (∀ W b c, Pg.ok W (oneP b c) → Calls Try.prog 16 #[.agg #[.string ⟨#[109, 97, 105, 110]⟩, .int .i64 0, .int .i64 0, .int .i64 0, .slice (some ⟨b, 0, none⟩) 1 1]] W fun e w' => ∃ (bb o cap : Nat), e = .returned (.slice (some ⟨bb, o, none⟩) 1 cap) ∧ w'.cell? ⟨bb, o, none⟩ = some (.bool true) ∧ Below W.heap.size W w') := fun W b c h => by
    refine (reached16 (h.fns (oneF b) (by simp [oneP]))).mono ?_
    rintro e w' ⟨ao, cap, rfl, hs, hb⟩
    have e1 : reachF (oneF b).blocks = [true] := one_reach
    rw [e1] at hs
    have e2 : (oneF b).blocks.length = 1 := rfl
    rw [e2] at hs ⊢
    rcases hs with ⟨h, _⟩ | ⟨bb, o, cp, hv, hl, hc, hx⟩
    · cases h
    · injection hv with a1 a2 a3
      subst a1 a3
      refine ⟨bb, o, cap, rfl, ?_, hb⟩
      have := hx 0 (.bool true) (by simp [flat, bcl])
      simpa using this
  go_enter Try.func11, Try.ntmps11
  go_wp2_with (first
    | (go_at_call 26; refine (one26 _).mono ?_; rintro e1 w1 ⟨rfl, hok, h2, hb1⟩; have HOK := hid' hok; have HB1 := hid' hb1; have c0 : w1.cell? ⟨w.heap.size + 1 + 1, 0, none⟩ = some (.string ⟨#[109, 97, 105, 110]⟩) := (by simp [World.cell?, h2]); have c1 : w1.cell? ⟨w.heap.size + 1 + 1, 1, none⟩ = some (.int .i64 0) := (by simp [World.cell?, h2]); have c2 : w1.cell? ⟨w.heap.size + 1 + 1, 2, none⟩ = some (.int .i64 0) := (by simp [World.cell?, h2]); have c3 : w1.cell? ⟨w.heap.size + 1 + 1, 3, none⟩ = some (.int .i64 0) := (by simp [World.cell?, h2]); have c4 : w1.cell? ⟨w.heap.size + 1 + 1, 4, none⟩ = some (.slice (some ⟨w.heap.size + 1, 0, none⟩) 1 1) := (by simp [World.cell?, h2]); have hlt1 : w.heap.size + 1 + 1 < w1.heap.size := World.block_lt_of_cell? w1 _ c0; have hne1 : ¬ w.heap.size + 1 + 1 = w1.heap.size := (by omega); clear hok h2 hb1)
    | (go_at_call 16; refine (H16.out _ _ _ (HOK.out.on (below1 _ _))).mono ?_; rintro e2 w2 ⟨bb, oo, cp, rfl, hcell, hb2⟩; have HB2 := hid' hb2; have HC2 := hid' hcell; obtain ⟨_, _, d0, d1, d2, d3⟩ := pbox hb2; clear c0 c1 c2 c3 c4 hcell hb2)
    | (go_at_call 8; with_reducible refine (H8.out _ _ _ ((HOK.out.on (below1 _ _)).on HB2.out)).mono ?_; rintro e3 w3 ⟨rfl, hb3⟩; have HB3 := hid' hb3; have HC3 := hid' (keep_cell HC2.out hb3); clear hb3)
    | (go_at_call 8; with_reducible refine (H8z.out _).mono ?_; rintro e4 w4 ⟨rfl, hb4⟩; have HB4 := hid' hb4; have c9 := keep_cell HC3.out hb4; clear hb4))
  go_ret
  exact ⟨rfl, below_up (below_up (below_up (below_up HB1.out (below1 _ _)) HB2.out) HB3.out) HB4.out⟩
end Go.Proofs.Ythnbnilammjceaa
