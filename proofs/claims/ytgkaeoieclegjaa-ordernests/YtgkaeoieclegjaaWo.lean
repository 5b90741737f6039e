/- Rows of bools; a stop ahead of an append. The document's without: what is reached with a block made empty. -/
import Derived.Test.YtgkaeoieclegjaaNn
import Derived.Test.YtgkaeoieclegjaaPrd
import Derived.Test.YtgkaeoieclegjaaBf
import Derived.Test.YtgkaeoieclegjaaTd
namespace Go.Proofs.Ytgkaeoieclegjaa
section
open Go Go.RowKit Go.Maps
set_option linter.unusedVariables false
set_option linter.unusedSimpArgs false
/-- A row of n bools in block g. -/
def RowB (w : World) (g n : Nat) (f : Nat → Bool) : Prop := w.rowIs g 4 n (fun j => .bool (f j))
theorem RowB.cell {w : World} {g n i : Nat} {f : Nat → Bool} (h : RowB w g n f) (hi : i < n) : w.cell? ⟨g, i, none⟩ = some (.bool (f i)) := World.rowIs.cell h hi
theorem RowB.fro {w : World} {g n : Nat} {f : Nat → Bool} (h : RowB w g n f) (i : Nat) : w.frozen? ⟨g, i, none⟩ = false := World.rowIs.frozen h i
theorem RowB.lt {w : World} {g n : Nat} {f : Nat → Bool} (h : RowB w g n f) : g < w.heap.size := World.rowIs.lt h
theorem RowB.on {w w' : World} {g n : Nat} {f : Nat → Bool} (h : RowB w g n f) (hb : Below w.heap.size w w') : RowB w' g n f := World.rowIs.of_block h (hb.block _ (World.rowIs.lt h))
theorem RowB.kept {S : Nat → Prop} {w w' : World} {g n : Nat} {f : Nat → Bool} (h : RowB w g n f) (hk : Kept S w w') (hn : ¬ S g) : RowB w' g n f := hk.row h hn
theorem RowB.set {w : World} {g n : Nat} {f : Nat → Bool} (h : RowB w g n f) (i : Nat) (x : Bool) : RowB (w.setCell ⟨g, i, none⟩ (.bool x)) g n (Dfs.upd f i x) :=
  World.rowIs.congr (World.rowIs.set h i (.bool x)) (fun j _ => by unfold Dfs.upd; split <;> rfl)
theorem RowB.congr {w : World} {g n : Nat} {f f' : Nat → Bool} (h : RowB w g n f) (e : ∀ i, i < n → f i = f' i) : RowB w g n f' := World.rowIs.congr h (fun i hi => by rw [e i hi])
theorem RowB.ty {w : World} {g n : Nat} {f : Nat → Bool} (h : RowB w g n f) : ∃ c, w.heap[g]? = some (.cells c 4 (0, 0)) := by
  obtain ⟨c, hc, _⟩ := h
  exact ⟨c, hc⟩
theorem make_bools (w : World) {n : Nat} (hn : n * 8 ≤ big) :
    ∃ w', (Instr.makeSlice 34 (.int .i64 (n : Nat)) (.int .i64 (n : Nat))).run Try.prog w = .ok (.slice (some ⟨w.heap.size, 0, none⟩) n n) w' ∧ RowB w' w.heap.size n (fun _ => false) ∧ Below w.heap.size w w' ∧ w'.heap.size = w.heap.size + 1 := by
  unfold big at hn
  obtain ⟨i0, hi, e0, e1, e2⟩ := info_parts info4
  have hmul : ((1 : Nat) : Int) * ((n : Nat) : Int) ≤ 281474976710656 := by omega
  have hr := run_make (P := Try.prog) w 34 4 i0 (.bool false) Try.underlying34 hi e0 .i64 .i64 (n : Nat) (n : Nat) (by omega) (Int.le_refl _) (by rw [e2]; exact hmul) (by omega)
  rw [Int.toNat_natCast, e1] at hr
  refine ⟨_, hr, ?_, below1 _ _, by simp⟩
  have := World.rowIs_made w (.bool false) (n * 1) 4
  rw [Nat.mul_one] at this
  unfold RowB
  simpa [Value.cells] using this
/-- The walk stops ahead of an append. -/
theorem stop_append {P : Program} {ops : Array Oper} {Q : Exit → Act → World → Prop} {rest : List Oper} {a : Act} {w : World} {dst : Option Nat} {xs : Array Operand} {ts : Array TypeId} {ty : TypeId} {pos : String} {af : Array Edge} {gd : Option (Nat × Bool)}
    (h : Mark (wpList P ops Q ({ dst := dst, op := .call { callee := .builtin .append, args := xs, argTypes := ts }, type := ty, pos := pos, after := af, guard := gd } :: rest) a w)) : wpList P ops Q ({ dst := dst, op := .call { callee := .builtin .append, args := xs, argTypes := ts }, type := ty, pos := pos, after := af, guard := gd } :: rest) a w := h
end
section
open Go Go.RowKit Go.Maps
set_option linter.unusedVariables false
set_option linter.unusedSimpArgs false
def zeroB : Bl := ⟨.slice none 0 0, [], 0, 0, .slice none 0 0, []⟩
theorem zero_ok (w : World) : Bl.ok w zeroB := ⟨.inl ⟨rfl, _, _, rfl⟩, by simp [zeroB], .inl ⟨rfl, _, _, rfl⟩, by simp [zeroB], fun y hy => by simp [zeroB] at hy⟩
theorem own_zero {W : World} {B b cap i : Nat} {l : List Bl} (h : Own 45 4 Bl.cells W B (.slice (some ⟨b, 0, none⟩) l.length cap) l) (hi : i < l.length) :
    Own 45 4 Bl.cells ((((W.setCell ⟨b, i * 4, none⟩ (.slice none 0 0)).setCell ⟨b, i * 4 + 1, none⟩ (.int .i64 0)).setCell ⟨b, i * 4 + 2, none⟩ (.int .i64 0)).setCell ⟨b, i * 4 + 3, none⟩ (.slice none 0 0)) B (.slice (some ⟨b, 0, none⟩) l.length cap) (l.set i zeroB) := by
  have h1 := (World.ownsRow.stored h (i * 4) (.slice none 0 0)).1
  have h2 := (World.ownsRow.stored h1 (i * 4 + 1) (.int .i64 0)).1
  have h3 := (World.ownsRow.stored h2 (i * 4 + 2) (.int .i64 0)).1
  have h4 := (World.ownsRow.stored h3 (i * 4 + 3) (.slice none 0 0)).1
  obtain ⟨y1, e1⟩ : ∃ y1 : Bl, y1 = { l[i] with cv := .slice none 0 0 } := ⟨_, rfl⟩
  obtain ⟨y2, e2⟩ : ∃ y2 : Bl, y2 = { y1 with en := 0 } := ⟨_, rfl⟩
  obtain ⟨y3, e3⟩ : ∃ y3 : Bl, y3 = { y2 with arg := 0 } := ⟨_, rfl⟩
  have f1 := flat_set Bl.cells bl4 l i 0 y1 (.slice none 0 0) hi (by omega) (by rw [e1]; rfl)
  have f2 := flat_set Bl.cells bl4 (l.set i y1) i 1 y2 (.int .i64 0) (by simpa using hi) (by omega) (by rw [List.getElem_set_self, e2]; rfl)
  have f3 := flat_set Bl.cells bl4 ((l.set i y1).set i y2) i 2 y3 (.int .i64 0) (by simpa using hi) (by omega) (by rw [List.getElem_set_self, e3]; rfl)
  have f4 := flat_set Bl.cells bl4 (((l.set i y1).set i y2).set i y3) i 3 zeroB (.slice none 0 0) (by simpa using hi) (by omega) (by rw [List.getElem_set_self, e3, e2, e1]; rfl)
  rw [f3, f2, f1] at f4
  simp only [List.set_set, Nat.add_zero] at f4
  unfold Own
  rw [List.length_set, f4]
  exact h4
/-- None is reached by ways that miss the beginning. -/
theorem way_zero {E : Nat → Nat → Prop} {b : Nat} : ¬ W E (fun z => z ≠ 0) 0 b := fun h => (h (fun _ => True) (fun _ => trivial) (fun _ _ _ _ _ => trivial)).1 rfl
/-- What it tells. -/
def WoR (bl : List Bl) (k : Nat) (w : World) (e : Ending) (w' : World) : Prop :=
  ∃ (g cap : Nat) (f : Nat → Bool), e = .returned (.slice (some ⟨g, 0, none⟩) bl.length cap) ∧ bl.length ≤ cap ∧ g < w'.heap.size ∧ (∀ j, j < bl.length → w'.cell? ⟨g, j, none⟩ = some (.bool (f j))) ∧ (∀ b, b < bl.length → (f b = true ↔ ¬ DomB bl k b)) ∧ Below w.heap.size w w'
theorem wo_dom {bl : List Bl} {k b : Nat} (hk : k < bl.length) (hk0 : k ≠ 0) : ((if b = k then false else reN (bl.set k zeroB) b) = true) ↔ ¬ DomB bl k b := by
  have hr := reach_way (bl := bl.set k zeroB) (by rw [List.length_set]; omega) (b := b)
  have hw := way_without (bl := bl) (d := k) (b := b) (x := zeroB) rfl hk hk0
  unfold DomB
  by_cases e : b = k
  · rw [if_pos e]
    exact ⟨fun h => (by cases h), fun h => h.elim fun h2 => h2.last e⟩
  · rw [if_neg e, hr]
    constructor
    · exact fun h h2 => h2 (hw.1 ⟨h, e⟩)
    · exact fun h => (hw.2 (Classical.not_not.1 h)).1
set_option maxRecDepth 20000 in
set_option maxHeartbeats 8000000 in
theorem without30 {w : World} {f : Fn} (h : Fn.ok w f) {k : Nat} (hk : k < f.blocks.length) : Calls Try.prog 30 #[f.val, .int .i64 k] w (WoR f.blocks k w) := by
  have HOK := hid' h
  have hbl := h.bl
  obtain ⟨nm, ps, rs, sl, bv, bl⟩ := f
  obtain ⟨bo, bc, eb⟩ := h.b.len
  dsimp only at *
  subst eb
  have hbl2 := hbl
  unfold big at hbl
  unfold Fn.val
  dsimp only
  clear h
  obtain ⟨w0, ew0⟩ : ∃ w0, w0 = w.alloc (.cells #[.string nm, .int .i64 ps, .int .i64 rs, .int .i64 sl, .slice bo bl.length bc] 24) := ⟨_, rfl⟩
  have HW0 := hid' ew0
  have HB0 : Hid (Below w.heap.size w w0) := by unfold Hid; rw [ew0]; exact below1 _ _
  have HBX : Hid (∀ W, Below w0.heap.size w0 W → _) := fun W hW => fbox (w := w) (W := W) (by rw [← ew0]; exact hW)
  clear ew0
  go_enter Try.func30, Try.ntmps30
  go_upto_region 1 with fail
  rw [← HW0.out]
  obtain ⟨w1, ew1⟩ : ∃ w1, w1 = w0.alloc (.cells #[] 45) := ⟨_, rfl⟩
  have hb1 : Below w0.heap.size w0 w1 := by rw [ew1]; exact below1 _ _
  have hh1 : w1.heap[w0.heap.size]? = some (.cells #[] 45 (0, 0)) := by rw [ew1]; exact heap_alloc_new _ _
  have ho1 : Own 45 4 Bl.cells w1 w.heap.size (.slice (some ⟨w0.heap.size, 0, none⟩) 0 0) [] := ⟨rfl, .inr ⟨w0.heap.size, 0, #[], rfl, HB0.out.size, hh1, Nat.le_refl _, Nat.zero_le _, by simp, by simp; rfl⟩⟩
  have HB1 : Hid (Below w.heap.size w w1) := below_up HB0.out hb1
  obtain ⟨v2, w2, hr2, ho2, hg2, hl2⟩ := append_own2 (f := Bl.cells) (st := 22) (et := 45) (bytes := 64) bl4 (l := []) (m := bl) (base := w.heap.size) (w := w1) (x := .slice bo bl.length bc) (fun x hx => bl_one (HOK.out.bls x hx)) Try.underlying22 infB rfl (by decide) ho1 (HOK.out.b.on HB1.out) (by simp; omega) (by simp; unfold maxLen; omega) HB1.out.size 22
  rw [List.nil_append] at ho2
  obtain ⟨n', en⟩ : ∃ n', bl.length = n' + 1 := ⟨bl.length - 1, by omega⟩
  have ho3 := ho2
  unfold Own at ho3
  rw [en] at ho3
  obtain ⟨b2, cap2, e2⟩ := own_form ho3
  rw [← en] at e2
  subst e2
  clear ho3 en
  have K2 := grown_kept hg2
  have HB2 : Hid (Below w.heap.size w w2) := HB1.out.trans (K2.below HB1.out.size (fun k e => (World.ownsRow.lt ho1 k e).1))
  obtain ⟨_, _, a0, a1, a2, a3, a4⟩ := HBX.out w1 hb1
  have HX2 : Hid (Below w0.heap.size w0 w2) := hb1.trans (K2.below hb1.size (fun k e => by injection e with e; exact Nat.le_of_eq e))
  have HR2 := hid' hr2
  have HO2 := hid' ho2
  have HW1 := hid' ew1
  clear hr2 ho2 hg2 hl2 K2 hh1 ho1 ew1
  rw [HW1.out] at a4
  have HR3 := HR2
  rw [HW1.out] at HR3
  go_wp2_with (with_reducible refine stop_append ?_)
  unfold Mark
  refine wpList_append_run rfl (.tmp 7) (.tmp 9) rfl (.slice (some ⟨w0.heap.size, 0, none⟩) 0 0) (.slice bo bl.length bc) _ (by rfl) (by rfl) HR3.out ?_
  obtain ⟨w3, ew3⟩ : ∃ w3, w3 = w2.alloc (.cells #[.string ⟨#[]⟩, .int .i64 0, .int .i64 0, .int .i64 0, .slice (some ⟨b2, 0, none⟩) bl.length cap2] 24) := ⟨_, rfl⟩
  have hb3 : Below w2.heap.size w2 w3 := by rw [ew3]; exact below1 _ _
  have HX3 : Hid (Below w0.heap.size w0 w3) := below_up HX2.out hb3
  obtain ⟨w4, hm4, hR4, hb4, hs4⟩ := make_bools w3 (n := bl.length) (by unfold big; omega)
  rw [ew3] at hm4
  have HX4 : Hid (Below w0.heap.size w0 w4) := below_up HX3.out hb4
  obtain ⟨_, _, _, _, _, _, d4⟩ := HBX.out _ HX3.out
  rw [ew3] at d4
  go_upto_region 3 with fail
  have HO4 := hid' ((Kept.of_below (S := fun _ => False) (below_up hb3 hb4)).owns HO2.out (fun _ _ e => e))
  have hg3 : w3.heap[w2.heap.size]? = some (.cells #[.string ⟨#[]⟩, .int .i64 0, .int .i64 0, .int .i64 0, .slice (some ⟨b2, 0, none⟩) bl.length cap2] 24 (0, 0)) := by rw [ew3]; exact heap_alloc_new _ _
  have HG4 : Hid (w4.heap[w2.heap.size]? = some (.cells #[.string ⟨#[]⟩, .int .i64 0, .int .i64 0, .int .i64 0, .slice (some ⟨b2, 0, none⟩) bl.length cap2] 24 (0, 0))) := (hb4.block _ (Array.getElem?_eq_some_iff.1 hg3).1).trans hg3
  have hz3 : w3.heap.size = w2.heap.size + 1 := by rw [ew3]; simp
  rw [hz3] at hR4
  have HR4 := hid' hR4
  have HW4 := hid' (below_up HB0.out HX4.out)
  obtain ⟨_, _, c0, c1, c2, c3, c4⟩ := HBX.out _ HX4.out
  clear hm4 d4 a0 a1 a2 a3 a4 HW1 hR4 hg3 ew3 HR2 HR3
  by_cases hk0 : k = 0
  · subst hk0
    go_wp2_with fail
    go_ret
    exact ⟨w2.heap.size + 1, bl.length, fun _ => false, rfl, Nat.le_refl _, HR4.out.lt, fun j hj => HR4.out.cell hj, fun b hb => ⟨fun h => (by cases h), fun h => h.elim way_zero⟩, HW4.out⟩
  · have t1 : ((k : Int) == 0) = false := beq_eq_false_iff_ne.2 (by omega)
    have t2 : ((bl.length : Int) == 0) = false := beq_eq_false_iff_ne.2 (by omega)
    have g4 := cell_of_row w4 w2.heap.size 4 _ 24 (0, 0) HG4.out
    simp only [List.getElem?_toArray, List.getElem?_cons_zero, List.getElem?_cons_succ] at g4
    have ho4 := HO4.out
    obtain ⟨cur, hcur⟩ := own_block ho4 (b := b2) rfl
    have hcl : ∀ c, c < 4 → w4.cell? ⟨b2, k * 4 + c, none⟩ = (Bl.cells bl[k])[c]? := fun c hc => by
      have h1 := World.ownsRow.cellAt ho4 (k * 4 + c) (by omega)
      rw [h1, flat_get bl4 _ k c hk hc]
    have q0 := hcl 0 (by omega)
    have q1 := hcl 1 (by omega)
    have q2 := hcl 2 (by omega)
    have q3 := hcl 3 (by omega)
    simp only [Bl.cells, List.getElem?_cons_zero, List.getElem?_cons_succ, Nat.add_zero] at q0 q1 q2 q3
    have f0 := frozen_of_row w4 b2 (k * 4) _ 45 hcur
    have f1 := frozen_of_row w4 b2 (k * 4 + 1) _ 45 hcur
    have f2 := frozen_of_row w4 b2 (k * 4 + 2) _ 45 hcur
    have f3 := frozen_of_row w4 b2 (k * 4 + 3) _ 45 hcur
    have hcl2 : (k : Int) < bl.length := by omega
    have HCUR := hid' hcur
    clear ho4 hcl hcur
    go_upto_region 6 with fail
    have ho5 := own_zero HO4.out hk
    have K5 : Kept (fun q => q = b2) w4 ((((w4.setCell ⟨b2, k * 4, none⟩ (.slice none 0 0)).setCell ⟨b2, k * 4 + 1, none⟩ (.int .i64 0)).setCell ⟨b2, k * 4 + 2, none⟩ (.int .i64 0)).setCell ⟨b2, k * 4 + 3, none⟩ (.slice none 0 0)) := (((setK w4 b2 (k * 4) _).set (a := ⟨b2, k * 4 + 1, none⟩) (.inl rfl) _).set (a := ⟨b2, k * 4 + 2, none⟩) (.inl rfl) _).set (a := ⟨b2, k * 4 + 3, none⟩) (.inl rfl) _
    clear q0 q1 q2 q3 f0 f1 f2 f3 g4 c0 c1 c2 c3 c4
    generalize (((w4.setCell ⟨b2, k * 4, none⟩ (.slice none 0 0)).setCell ⟨b2, k * 4 + 1, none⟩ (.int .i64 0)).setCell ⟨b2, k * 4 + 2, none⟩ (.int .i64 0)).setCell ⟨b2, k * 4 + 3, none⟩ (.slice none 0 0) = w5 at *
    have hne : w2.heap.size ≠ b2 := fun e => by
      have h1 := HCUR.out
      rw [← e, HG4.out] at h1
      injection h1 with h1
      injection h1 with _ h2
      cases h2
    have hg5 := (K5.block _ (Array.getElem?_eq_some_iff.1 HG4.out).1 hne).trans HG4.out
    have hlt2 := World.ownsRow.lt HO4.out b2 rfl
    have HW5 := hid' (HW4.out.trans (K5.below HW4.out.size (fun q e => by subst e; exact hlt2.1)))
    have hok5 : Fn.ok w5 ⟨⟨#[]⟩, 0, 0, 0, .slice (some ⟨b2, 0, none⟩) bl.length cap2, bl.set k zeroB⟩ := by
      refine ⟨Own.src bl4 ho5, by rw [List.length_set]; exact hbl2, (by show 0 ≤ big; exact Nat.zero_le _), fun x hx => ?_⟩
      rcases List.mem_or_eq_of_mem_set hx with hx | rfl
      · exact (HOK.out.bls x hx).on HW5.out
      · exact zero_ok _
    have h24 := reached17 hok5
    unfold Fn.val RchR at h24
    simp only [List.length_set] at h24
    have H24 := hid' h24
    have g5 := fun o => cell_of_row w5 w2.heap.size o _ 24 (0, 0) hg5
    have r0 := g5 0
    have r1 := g5 1
    have r2 := g5 2
    have r3 := g5 3
    have r4 := g5 4
    simp only [List.getElem?_toArray, List.getElem?_cons_zero, List.getElem?_cons_succ] at r0 r1 r2 r3 r4
    have hrl := reach_len (bl.set k zeroB)
    rw [List.length_set] at hrl
    have HRL := hid' hrl
    obtain ⟨n', en⟩ : ∃ n', bl.length = n' + 1 := ⟨bl.length - 1, by omega⟩
    have HEN := hid' en
    clear ho5 K5 hok5 h24 g5 hg5 hne hrl en
    go_upto_region 7 with (go_at_call 24; refine H24.out.mono ?_; rintro e6 w6 ⟨ao, cap, rfl, hsrc, hb6, hblk, B, hown⟩)
    have HB6 := hid' hb6
    obtain ⟨ao', cap', e', hle⟩ := own_len (by unfold Own at hown; rw [HRL.out] at hown; exact hown)
    injection e' with ea _ ec
    subst ea ec
    have hown2 := hown
    unfold Own at hown2
    rw [HRL.out, HEN.out] at hown2
    obtain ⟨g, capg, eg⟩ := own_form hown2
    injection eg with eg _ egc
    subst eg egc
    obtain ⟨cur, hcur⟩ := own_block hown (b := g) rfl
    have hgl := (Array.getElem?_eq_some_iff.1 hcur).1
    have hge := hblk g 0 rfl
    have hcell : ∀ j, j < bl.length → w6.cell? ⟨g, j, none⟩ = some (.bool (reN (bl.set k zeroB) j)) := fun j hj => by
      have h1 := hown
      unfold Own at h1
      rw [HRL.out] at h1
      have h2 := World.ownsRow.cellAt h1 j (by omega)
      rw [h2, flat_b, List.getElem?_map, List.getElem?_eq_getElem (by rw [HRL.out]; exact hj)]
      unfold reN
      simp [HRL.out, hj]
    have q0 := hcell k hk
    have f0 := frozen_of_row w6 g k _ 4 hcur
    have HC := hid' hcell
    clear hown hown2 hcell hcur hsrc hblk hb6 HEN HRL
    go_wp2_with fail
    go_ret
    refine ⟨g, cap, fun j => if j = k then false else reN (bl.set k zeroB) j, rfl, hle, by simpa [World.setCell] using hgl, fun j hj => ?_, fun b hb => wo_dom hk hk0, ?_⟩
    · by_cases e : j = k
      · subst e
        dsimp only
        rw [if_pos rfl]
        simp [go_sem, q0]
      · dsimp only
        rw [if_neg e, ← HC.out j hj]
        simp [go_sem, e, Ne.symm e]
    · exact (below_up HW5.out HB6.out).trans ((setK w6 g k _).below (below_up HW5.out HB6.out).size (fun q e => by subst e; exact Nat.le_trans HW5.out.size hge))
end
end Go.Proofs.Ytgkaeoieclegjaa
