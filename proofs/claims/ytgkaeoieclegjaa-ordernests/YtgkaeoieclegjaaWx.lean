/- The document's walk. -/
import Derived.Test.YtgkaeoieclegjaaTn
import Derived.Test.YtgkaeoieclegjaaSc
namespace Go.Proofs.Ytgkaeoieclegjaa
open Go Go.RowKit Go.Maps
set_option linter.unusedVariables false
set_option linter.unusedSimpArgs false
/-- How many are not met. -/
def unm (F : Nat → Bool) (n : Nat) : Nat := rest (fun _ => 1) (fun x => if F x = true then 1 else 0) n
theorem unm_less {F : Nat → Bool} {n b : Nat} (hb : b < n) (h : F b = false) : unm (Dfs.upd F b true) n + 1 = unm F n := by
  unfold unm
  have e : (fun x => if Dfs.upd F b true x = true then 1 else 0) = Dfs.upd (fun x => if F x = true then 1 else 0) b ((if F b = true then 1 else 0) + 1) := by
    funext x
    by_cases e : x = b
    · subst e
      rw [Dfs.upd_same, Dfs.upd_same, h]
      rfl
    · rw [Dfs.upd_ne _ _ e, Dfs.upd_ne _ _ e]
  rw [e]
  exact rest_less (len := fun _ => 1) (tri := fun x => if F x = true then 1 else 0) (b := b) (by rw [h]; simp) n hb
theorem unm_none : ∀ n, unm (fun _ => false) n = n
  | 0 => rfl
  | n + 1 => by
    have := unm_none n
    unfold unm at *
    unfold rest
    rw [this]
    simp
/-- What walk leaves. -/
def WkR (bl : List Bl) (W0 : World) (g b : Nat) (F : Nat → Bool) (v : Value) (l : List Nat) (w : World) (e : Ending) (w' : World) : Prop :=
  ∃ (v' : Value) (F' : Nat → Bool) (l' : List Nat), e = .returned v' ∧ RowB w' g bl.length F' ∧ Own 3 1 icell w' W0.heap.size v' (ints l') ∧ Below W0.heap.size W0 w' ∧ Kept (fun q => q = g ∨ v.ownBlock = some q) w w' ∧
    (∀ q, v'.ownBlock = some q → q < w.heap.size → v.ownBlock = some q) ∧ l'.length + unm F' bl.length ≤ l.length + unm F bl.length ∧ l.length ≤ l'.length ∧ (∀ x, F x = true → F' x = true) ∧
    (∀ stk, RunsS (succN bl) bl.length (fun x => F x = true ∨ x = b, (b, 0) :: stk, l) (fun x => F' x = true, stk, l'))
/-- In the midst of it. -/
structure WkI (bl : List Bl) (W0 : World) (fc : Array Value) (g b : Nat) (F0 : Nat → Bool) (v0 : Value) (l0 : List Nat) (w : World) (i : Nat) (v : Value) (F : Nat → Bool) (l : List Nat) (W : World) : Prop where
  box : W.heap[w.heap.size]? = some (.cells fc 24 (0, 0))
  row : RowB W g bl.length F
  own : Own 3 1 icell W W0.heap.size v (ints l)
  below : Below W0.heap.size W0 W
  kept : Kept (fun q => q = g ∨ v0.ownBlock = some q) w W
  blk : ∀ q, v.ownBlock = some q → q < w.heap.size → v0.ownBlock = some q
  cnt : l.length + unm F bl.length + 1 ≤ l0.length + unm F0 bl.length
  len : l0.length ≤ l.length
  mono : ∀ x, F0 x = true → F x = true
  at_ : F b = true
  runs : ∀ stk, RunsS (succN bl) bl.length (fun x => F0 x = true ∨ x = b, (b, 0) :: stk, l0) (fun x => F x = true, (b, i) :: stk, l)
section
variable {bl : List Bl} {W0 : World} {fc : Array Value} {g b : Nat} {F0 : Nat → Bool} {v0 : Value} {l0 : List Nat} {w : World} {i : Nat} {v : Value} {F : Nat → Bool} {l : List Nat} {W : World}
theorem WkI.skip (h : WkI bl W0 fc g b F0 v0 l0 w i v F l W) {t : Int} (ht : (succN bl b)[i]? = some t) (hm : 0 ≤ t → t < bl.length → F t.toNat = true) : WkI bl W0 fc g b F0 v0 l0 w (i + 1) v F l W :=
  { h with runs := fun stk => (h.runs stk).trans (.one (stepS_skip ht hm)) }
theorem WkI.call (h : WkI bl W0 fc g b F0 v0 l0 w i v F l W) {t : Nat} (ht : (succN bl b)[i]? = some (t : Int)) (htn : t < bl.length) (hm : F t = false) {e : Ending} {W' : World} (hr : WkR bl W0 g t F v l W e W') :
    ∃ v' F' l', e = .returned v' ∧ WkI bl W0 fc g b F0 v0 l0 w (i + 1) v' F' l' W' := by
  obtain ⟨v', F', l', rfl, hrow, hown, hbel, hk, hbk, hc, hl, hmo, hruns⟩ := hr
  refine ⟨v', F', l', rfl, ?_, hrow, hown, hbel, ?_, ?_, by have := h.cnt; omega, by have := h.len; omega, fun x hx => hmo x (h.mono x hx), hmo b h.at_, fun stk => ?_⟩
  · refine (hk.block _ (Array.getElem?_eq_some_iff.1 h.box).1 (fun e => ?_)).trans h.box
    rcases e with e | e
    · obtain ⟨c, hc4⟩ := h.row.ty
      rw [← e, h.box] at hc4
      injection hc4 with hc4
      injection hc4 with _ h2
      cases h2
    · obtain ⟨c, hc3⟩ := own_block h.own e
      rw [h.box] at hc3
      injection hc3 with hc3
      injection hc3 with _ h2
      cases h2
  · exact h.kept.ahead hk (fun q hq e => e.elim .inl fun e => .inr (h.blk q e hq))
  · intro q hq hlt
    exact h.blk q (hbk q hq (Nat.lt_of_lt_of_le hlt h.kept.size)) hlt
  · have h1 := h.runs stk
    have h2 := hruns ((b, i + 1) :: stk)
    exact (h1.trans (.one (stepS_push ht htn (by rw [hm]; exact fun h => (by cases h))))).trans h2
end
theorem WkI.begin {bl : List Bl} {W0 w W : World} {fc : Array Value} {g b : Nat} {F0 : Nat → Bool} {v0 : Value} {l0 : List Nat} (hb : b < bl.length) (hF : F0 b = false) (hbox : W.heap[w.heap.size]? = some (.cells fc 24 (0, 0))) (hrow : RowB W g bl.length F0) (hown : Own 3 1 icell W W0.heap.size v0 (ints l0)) (hbel : Below W0.heap.size W0 W) (hg : W0.heap.size ≤ g) (hk : Below w.heap.size w W) :
    WkI bl W0 fc g b F0 v0 l0 w 0 v0 (Dfs.upd F0 b true) l0 (W.setCell ⟨g, b, none⟩ (.bool true)) := by
  have K := setK W g b (.bool true)
  obtain ⟨c, hc4⟩ := hrow.ty
  refine ⟨(K.block _ (Array.getElem?_eq_some_iff.1 hbox).1 (fun e => ?_)).trans hbox, hrow.set b true, own_ty hown hc4 (by decide) K, hbel.trans (K.below hbel.size (fun q e => by subst e; exact hg)), ((Kept.of_below hk).set (.inl (.inl rfl)) _), fun q hq _ => hq, by have := unm_less hb hF; omega, Nat.le_refl _, fun x hx => ?_, Dfs.upd_same _ _ _, fun stk => ?_⟩
  · rw [← e, hbox] at hc4
    injection hc4 with hc4
    injection hc4 with _ h2
    cases h2
  · by_cases e : x = b
    · subst e; exact Dfs.upd_same _ _ _
    · rw [Dfs.upd_ne _ _ e]; exact hx
  · have e : (fun x => F0 x = true ∨ x = b) = (fun x => Dfs.upd F0 b true x = true) := by
      funext x
      by_cases e : x = b
      · subst e
        rw [Dfs.upd_same]
        simp
      · rw [Dfs.upd_ne _ _ e]
        simp [e]
    rw [e]
    exact .refl _
/-- An int more. -/
theorem app_int2 {W : World} {B q : Nat} {v : Value} {l : List Int} {x : Int} (h : Own 3 1 icell W B v l) (hB : B ≤ W.heap.size) (hq : W.heap[q]? = some (.cells #[.int .i64 x] 3 (0, 0))) (ha : (l.length + 1) * 8 ≤ 140737488355328) :
    ∃ b cap w', (∀ ty, (Builtin.append_ #[26, 26] ty #[v, .slice (some ⟨q, 0, none⟩) 1 1]).run Try.prog W = .ok (.slice (some ⟨b, 0, none⟩) (l.length + 1) cap) w') ∧ Own 3 1 icell w' B (.slice (some ⟨b, 0, none⟩) (l.length + 1) cap) (l ++ [x]) ∧ Below B W w' ∧ Kept (fun k => v.ownBlock = some k) W w' ∧ (v.ownBlock = some b ∨ W.heap.size ≤ b) := by
  have hqlt := (Array.getElem?_eq_some_iff.1 hq).1
  have hsrc : Src icell W (.slice (some ⟨q, 0, none⟩) 1 1) [x] := .inr ⟨q, 0, 1, rfl, hqlt, Nat.le_refl _, fun j u hj => by
    rw [Nat.zero_add, cell_of_row W q j _ 3 (0, 0) hq]
    simpa [flat, icell] using hj⟩
  obtain ⟨v', w', h1, h2, h3, h4⟩ := append_own2 (f := icell) (st := 26) (et := 3) (bytes := 8) ic1 (base := B) (w := W) (v := v) (x := .slice (some ⟨q, 0, none⟩) 1 1) (m := [x]) (fun y hy u hu => by
    obtain rfl := List.mem_singleton.1 hu
    rfl) Try.underlying26 info3 rfl (by decide) h hsrc (by simp only [List.length_singleton]; omega) (by simp only [List.length_singleton]; unfold maxLen; omega) hB 26
  have h2' := h2
  unfold Own at h2'
  rw [List.length_append, List.length_singleton] at h2'
  obtain ⟨b, cap, rfl⟩ := own_form h2'
  have K := grown_kept h3
  exact ⟨b, cap, w', fun ty => h1, h2, K.below hB (fun k e => (World.ownsRow.lt h k e).1), K, h4.elim (fun e => .inl e.symm) (fun e => .inr (by have : b = W.heap.size := (by injection e); omega))⟩
set_option maxRecDepth 20000 in
set_option maxHeartbeats 16000000 in
theorem walk37 {W0 : World} {f : Fn} (hf : Fn.ok W0 f) : ∀ (k : Nat) (w : World) (g b : Nat) (F : Nat → Bool) (v : Value) (l : List Nat), unm F f.blocks.length ≤ k → b < f.blocks.length → F b = false → Below W0.heap.size W0 w → W0.heap.size ≤ g → RowB w g f.blocks.length F → Own 3 1 icell w W0.heap.size v (ints l) → l.length + unm F f.blocks.length ≤ f.blocks.length →
    Calls Try.prog 37 #[f.val, .int .i64 (b : Nat), .slice (some ⟨g, 0, none⟩) f.blocks.length f.blocks.length, v] w (WkR f.blocks W0 g b F v l w)
  | 0, w, g, b, F, v, l, hk, hb, hF, _, _, _, _, _ => by
    have := unm_less hb hF
    omega
  | k + 1, w, g, b, F0, v0, l0, hk, hb, hF, hbel, hg, hrow, hown, hcnt => by
    have ih := hid' (walk37 hf k)
    have hbl := hf.bl
    obtain ⟨nm, ps, rs, sl, bv, bl⟩ := f
    obtain ⟨bo, bc, eb, hfb⟩ := hf.b.form bl4
    have hbls := hf.bls _ (List.getElem_mem hb)
    dsimp only at *
    subst eb
    obtain ⟨bb, boff, rfl, _, hbc, hbx⟩ := hfb b hb
    have HBX4 := hid' hbx
    obtain ⟨to_, tc, etv⟩ := hbls.t.len
    have hsrct := hbls.t
    have hsu : succN bl b = bl[b].to := by unfold succN; rw [List.getElem?_eq_getElem hb]; rfl
    have htl := hbls.tl
    rw [etv] at hsrct
    rw [← hsu] at hsrct htl etv
    have HTS := hid' hsrct
    have HETV := hid' etv
    unfold big at hbl htl
    unfold Fn.val at *
    dsimp only at *
    have hb0 := below1 w (.cells #[.string nm, .int .i64 ps, .int .i64 rs, .int .i64 sl, .slice (some ⟨bb, boff, none⟩) bl.length bc] 24)
    have hbox := heap_alloc_new w (.cells #[.string nm, .int .i64 ps, .int .i64 rs, .int .i64 sl, .slice (some ⟨bb, boff, none⟩) bl.length bc] 24)
    have hI := WkI.begin (W0 := W0) (v0 := v0) (l0 := l0) hb hF hbox (hrow.on hb0) ((Kept.of_below (S := fun _ => False) hb0).owns hown (fun _ _ e => e)) (hbel.trans (hb0.mono hbel.size)) hg hb0
    have hgc := (hrow.on hb0).cell hb
    have hgf := (hrow.on hb0).fro b
    have HI := hid' hI
    clear hbls hfb hbx hsrct etv hsu hbox hI hf hbel hrow hown hb0
    go_enter Try.func37, Try.ntmps37
    go_upto_region 2 with fail
    generalize (w.alloc (.cells #[.string nm, .int .i64 ps, .int .i64 rs, .int .i64 sl, .slice (some ⟨bb, boff, none⟩) bl.length bc] 24)).setCell ⟨g, b, none⟩ (.bool true) = w1 at *
    clear hgc hgf
    go_wp2_with fail
    go_loopw [3, 9] (fun ov iv wr => ∃ (i : Nat) (F : Nat → Bool) (l : List Nat) (ou : Value), ou = ov ∧ i ≤ (succN bl b).length ∧ iv = .int .i64 i ∧ WkI bl W0 #[.string nm, .int .i64 ps, .int .i64 rs, .int .i64 sl, .slice (some ⟨bb, boff, none⟩) bl.length bc] g b F0 v0 l0 w i ov F l wr) (fun _ iv _ => (succN bl b).length - (intOf iv).toNat)
    case atStart => exact ⟨0, _, _, _, rfl, Nat.zero_le _, rfl, HI.out⟩
    case round =>
      obtain ⟨i, F, l, ou, rfl, hi, rfl, hI⟩ := hrel
      have HI2 := hid' hI
      have hcell := fun o => cell_of_row wr w.heap.size o _ 24 (0, 0) hI.box
      have a0 := hcell 0
      have a1 := hcell 1
      have a2 := hcell 2
      have a3 := hcell 3
      have a4 := hcell 4
      simp only [List.getElem?_toArray, List.getElem?_cons_zero, List.getElem?_cons_succ] at a0 a1 a2 a3 a4
      obtain ⟨_, _, _, c3⟩ := bl_cells (HBX4.out wr hI.below)
      rw [HETV.out] at c3
      have HCN := hid' hI.cnt
      have HLN := hid' hI.len
      clear hcell hI
      by_cases hil : i < (succN bl b).length
      · obtain ⟨aoS, capS, eS, hcS⟩ := (HTS.out.below (Nat.le_refl _) HI2.out.below).ints
        injection eS with eS1 _ eS3
        subst eS1 eS3
        obtain ⟨pb, poff, rfl, _, hple, hpcell⟩ := hcS i hil
        have q0 := hpcell wr (Below.refl _ _)
        have hti : (succN bl b)[i]? = some (succN bl b)[i] := List.getElem?_eq_getElem hil
        clear hcS hpcell
        generalize (succN bl b)[i] = t at *
        by_cases h0 : 0 ≤ t
        · by_cases h1 : t < bl.length
          · obtain ⟨tn, rfl⟩ : ∃ tn : Nat, t = tn := ⟨t.toNat, by omega⟩
            have htn : tn < bl.length := by omega
            have q1 := HI2.out.row.cell htn
            cases hm : F tn with
            | true =>
              rw [hm] at q1
              have HS := hid' (HI2.out.skip hti (fun _ _ => by simpa using hm))
              clear hm hti
              generalize (succN bl b).length = sl' at *
              go_wp2_with fail
              go_roundw
              case rel => exact ⟨i + 1, F, l, _, rfl, by omega, by go_num, HS.out⟩
              case measure => simp [intOf]; omega
            | false =>
              rw [hm] at q1
              have h37 := ih.out wr g tn F ou l (by have := HCN.out; have := HLN.out; omega) htn hm HI2.out.below hg HI2.out.row HI2.out.own (by have := HCN.out; have := HLN.out; omega)
              have H37 := hid' h37
              have HCALL := hid' (fun (e : Ending) (W' : World) (hr : WkR bl W0 g tn F ou l wr e W') => HI2.out.call hti htn hm hr)
              clear hm hti h37
              generalize (succN bl b).length = sl' at *
              go_wp2_with (go_at_call 37; refine H37.out.mono ?_; intro e9 w9 hr9; obtain ⟨v9, F9, l9, rfl, hI9⟩ := HCALL.out e9 w9 hr9; have HI9 := hid' hI9; clear hI9 hr9)
              go_roundw
              case rel => exact ⟨i + 1, F9, l9, _, rfl, by omega, by go_num, HI9.out⟩
              case measure => simp [intOf]; omega
          · have HS := hid' (HI2.out.skip hti (fun _ h => absurd h h1))
            clear hti
            generalize (succN bl b).length = sl' at *
            go_wp2_with fail
            go_roundw
            case rel => exact ⟨i + 1, F, l, _, rfl, by omega, by go_num, HS.out⟩
            case measure => simp [intOf]; omega
        · have HS := hid' (HI2.out.skip hti (fun h _ => absurd h h0))
          clear hti
          generalize (succN bl b).length = sl' at *
          go_wp2_with fail
          go_roundw
          case rel => exact ⟨i + 1, F, l, _, rfl, by omega, by go_num, HS.out⟩
          case measure => simp [intOf]; omega
      · have e : i = (succN bl b).length := by omega
        subst e
        have hpop : stepS (succN bl) bl.length (fun x => F x = true, [], l) = stepS (succN bl) bl.length (fun x => F x = true, [], l) := rfl
        obtain ⟨wq, ewq⟩ : ∃ wq, wq = wr.alloc (.cells #[.int .i64 (b : Int)] 3) := ⟨_, rfl⟩
        have hbq : Below wr.heap.size wr wq := by rw [ewq]; exact below1 _ _
        have hqq : wq.heap[wr.heap.size]? = some (.cells #[.int .i64 (b : Int)] 3 (0, 0)) := by rw [ewq]; exact heap_alloc_new _ _
        have hoq := (Kept.of_below (S := fun _ => False) hbq).owns HI2.out.own (fun _ _ e => e)
        have hlen : (ints l).length = l.length := by simp [ints]
        obtain ⟨b7, cap7, w7, hr7, hO7, hB7, hK7, hN7⟩ := app_int2 hoq (Nat.le_trans HI2.out.below.size hbq.size) hqq (by rw [hlen]; have := HCN.out; omega)
        rw [hlen] at hr7 hO7
        have e5 : ints l ++ [(b : Int)] = ints (l ++ [b]) := by simp [ints]
        rw [e5] at hO7
        have hKr : Kept (fun q => ou.ownBlock = some q) wr w7 := (Kept.of_below hbq).trans hK7
        have HFIN : Hid (WkR bl W0 g b F0 v0 l0 w (.returned (.slice (some ⟨b7, 0, none⟩) (l.length + 1) cap7)) w7) := by
          refine ⟨_, F, l ++ [b], rfl, HI2.out.row.kept hKr (fun e => ?_), hO7, HI2.out.below.trans ((hbq.mono HI2.out.below.size).trans hB7), HI2.out.kept.ahead hKr (fun q hq e => .inr (HI2.out.blk q e hq)), fun q hq hlt => ?_, by rw [List.length_append, List.length_singleton]; have := HCN.out; omega, by rw [List.length_append, List.length_singleton]; have := HLN.out; omega, HI2.out.mono, fun stk => (HI2.out.runs stk).trans (.one (stepS_pop (List.getElem?_eq_none (Nat.le_refl _))))⟩
          · obtain ⟨c, hc3⟩ := own_block HI2.out.own e
            obtain ⟨c', hc4⟩ := HI2.out.row.ty
            rw [hc4] at hc3
            injection hc3 with hc3
            injection hc3 with _ h2
            cases h2
          · have hbq' : b7 = q := by injection hq
            subst hbq'
            rcases hN7 with h | h
            · exact HI2.out.blk b7 h hlt
            · have h1 := HI2.out.kept.size
              have h2 := hbq.size
              omega
        have HR7 := hid' (hr7 26)
        rw [ewq] at HR7
        clear hbq hqq hoq hr7 hO7 hB7 hK7 hN7 hKr ewq e5 hpop
        generalize (succN bl b).length = sl' at *
        go_wp2_with (at_builtin; refine of_mark ?_)
        unfold Mark
        refine wpList_append_run rfl (.tmp 55) (.tmp 57) rfl ou (.slice (some ⟨wr.heap.size, 0, none⟩) 1 1) _ (by rfl) (by rfl) HR7.out ?_
        go_wp2_with fail
        go_ret
        exact HFIN.out
end Go.Proofs.Ytgkaeoieclegjaa
