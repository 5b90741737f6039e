/- The law of where the code leads. -/
import Derived.Test.YtgnlplddppheiaaLCodeAll
import Derived.Test.YtgnlplddppheiaaLawsAP
import Derived.Deep.RegionWith
import Derived.Deep.DeepCutAuto
import Derived.Deep.CutBlock
namespace Go.Proofs.Ytgnlplddppheiaa
open Go.RowKit Go.Maps
set_option linter.unusedVariables false

/-- A map's entries: the places of some lines' labels. -/
structure PM (ls : List Ln) (S : Nat → Bool) (P : Nat → Prop) (f : Int → Option Nat) : Prop where
  has : ∀ i, P i → i < ls.length → 0 < labAt ls i → f (labAt ls i) = some (4 * atF S (ixF ls i))
  only : ∀ j, f j ≠ none → 0 < j ∧ ∃ i, P i ∧ i < ls.length ∧ labAt ls i = j
theorem PM.start (ls : List Ln) (S : Nat → Bool) : PM ls S (fun i => i < 0) (fun _ => none) := ⟨fun i h => absurd h (Nat.not_lt_zero i), fun j h => absurd rfl h⟩
theorem PM.skip {ls : List Ln} {S : Nat → Bool} {P Q : Nat → Prop} {f : Int → Option Nat} (h : PM ls S P f) {k : Nat} (hPQ : ∀ i, P i → Q i) (hQP : ∀ i, Q i → P i ∨ i = k) (hk : ¬ 0 < labAt ls k) : PM ls S Q f :=
  ⟨fun i hq hi hl => by
    rcases hQP i hq with hp | rfl
    · exact h.has i hp hi hl
    · exact absurd hl hk, fun j hj => by
    obtain ⟨h1, i, h2, h3⟩ := h.only j hj
    exact ⟨h1, i, hPQ i h2, h3⟩⟩
theorem lab_inj {ls : List Ln} (hnd : (labL ls).Nodup) {i j : Nat} (hi : i < ls.length) (hj : j < ls.length) (h : labAt ls i = labAt ls j) (hp : 0 < labAt ls i) : i = j := by
  by_cases q : i = j
  · exact q
  · exact absurd hnd (not_nodup q hi hj (by omega) (by omega))
theorem PM.new {ls : List Ln} {S : Nat → Bool} {P : Nat → Prop} {f : Int → Option Nat} (h : PM ls S P f) (hnd : (labL ls).Nodup) {k : Nat} (hk : k < ls.length) (hl : 0 < labAt ls k) (hP : ¬ P k) : f (labAt ls k) = none := by
  cases e : f (labAt ls k) with
  | none => rfl
  | some v =>
    obtain ⟨_, i, h2, h3, h4⟩ := h.only (labAt ls k) (by rw [e]; simp)
    have := lab_inj hnd h3 hk h4 (by omega)
    subst this
    exact absurd h2 hP
theorem PM.put {ls : List Ln} {S : Nat → Bool} {P Q : Nat → Prop} {f : Int → Option Nat} (h : PM ls S P f) (hnd : (labL ls).Nodup) {k : Nat} (hk : k < ls.length) (hl : 0 < labAt ls k) (hP : ¬ P k) (hPQ : ∀ i, P i → Q i) (hQk : Q k) (hQP : ∀ i, Q i → P i ∨ i = k) :
    PM ls S Q (fun j => if j = labAt ls k then some (4 * atF S (ixF ls k)) else f j) := by
  refine ⟨fun i hq hi hli => ?_, fun j hj => ?_⟩
  · rcases hQP i hq with hp | rfl
    · have : labAt ls i ≠ labAt ls k := fun e => hP (by rw [← lab_inj hnd hi hk e hli]; exact hp)
      simp only [this, if_false]
      exact h.has i hp hi hli
    · simp
  · by_cases e : j = labAt ls k
    · exact ⟨by omega, k, hQk, hk, e.symm⟩
    · simp only [e, if_false] at hj
      obtain ⟨h1, i, h2, h3⟩ := h.only j hj
      exact ⟨h1, i, hPQ i h2, h3⟩

theorem mid_lab {hd tl : List Ln} {x : Ln} {m k : Nat} (h1 : hd.length ≤ k) (h2 : k < hd.length + m) (hk : k < (hd ++ List.replicate m x ++ tl).length) : (hd ++ List.replicate m x ++ tl)[k] = x := by
  rw [List.getElem_append_left (by simp; omega), List.getElem_append_right h1, List.getElem_replicate]
theorem label0 {ls : List Ln} (h0 : ErrIs ls 0) {k : Nat} (hk : k < ls.length) : 0 ≤ ls[k].label := by
  rcases h0 with ⟨_, e⟩ | ⟨_, _, e⟩ | ⟨_, _, _, e⟩ | ⟨h1, h2, h3, _⟩
  · omega
  · omega
  · omega
  · have := h2 ls[k] (List.getElem_mem hk)
    unfold Ln.ok at this
    by_cases hz : ls[k].label = 0
    · omega
    · rw [if_neg hz] at this
      simp only [Bool.and_eq_true, decide_eq_true_eq] at this
      have := this.1.1.1.1.1.1
      omega
theorem to_at {ls : List Ln} {S : Nat → Bool} {f : Int → Option Nat} (h0 : ErrIs ls 0) (hnd : (labL ls).Nodup) (h4 : 4 * atF S (insN ls) ≤ 1048576) (hcov : ∀ i, i < ls.length → 0 < labAt ls i → f (labAt ls i) = some (4 * atF S (ixF ls i))) (hz : f 0 = none) {k : Nat} (hk : k < ls.length) : ∃ T : Nat, (f ls[k].to).getD 0 = 4 * T ∧ T ≤ 262144 ∧ (ls[k].to ≠ 0 → T = atF S ((labs ls ls[k].to).getD 0)) := by
  by_cases ht : ls[k].to = 0
  · exact ⟨0, by rw [ht, hz]; rfl, by omega, fun h => absurd ht h⟩
  · have hin : ls[k].to ∈ labL ls := by
      rcases h0 with ⟨_, e⟩ | ⟨_, _, e⟩ | ⟨_, _, _, e⟩ | ⟨_, _, _, h, _⟩
      · omega
      · omega
      · omega
      · exact h _ (List.getElem_mem hk) ht
    obtain ⟨j, hj, e⟩ := labL_pos hin
    have hp := label0 h0 hj
    rw [← labAt_get hj] at hp
    have hc := hcov j hj (by omega)
    rw [e] at hc
    have hl := labs_ix hnd hj e ht
    have hm := atF_mono S (show ixF ls j ≤ insN ls by rw [← ixF_all]; exact ixF_mono ls (by omega) (Nat.le_refl _))
    exact ⟨atF S (ixF ls j), by rw [hc]; rfl, by omega, fun _ => by rw [hl]; rfl⟩

/-- In the midst of the law: the map of places. -/
structure LM (w1 : World) (ls : List Ln) (S : Nat → Bool) (mb q : Nat) (P : Nat → Prop) (W : World) : Prop where
  map : ∃ c f, c ≤ q ∧ IsMapL W mb c c f ∧ PM ls S P f
  below : Below w1.heap.size w1 W
  lt : mb < W.heap.size
theorem LM.congr {w1 W : World} {ls : List Ln} {S : Nat → Bool} {mb q q' : Nat} {P Q : Nat → Prop} (h : LM w1 ls S mb q P W) (hq : q ≤ q') (hPQ : ∀ i, P i ↔ Q i) : LM w1 ls S mb q' Q W := by
  obtain ⟨⟨c, f, hc, hm, hp⟩, hb, hl⟩ := h
  refine ⟨⟨c, f, by omega, hm, ⟨fun i hi => hp.has i ((hPQ i).2 hi), fun j hj => ?_⟩⟩, hb, hl⟩
  obtain ⟨h1, i, h2, h3⟩ := hp.only j hj
  exact ⟨h1, i, (hPQ i).1 h2, h3⟩
theorem LM.skip {w1 W : World} {ls : List Ln} {S : Nat → Bool} {mb q q' k : Nat} {P Q : Nat → Prop} (h : LM w1 ls S mb q P W) (hq : q ≤ q') (hPQ : ∀ i, P i → Q i) (hQP : ∀ i, Q i → P i ∨ i = k) (hk : ¬ 0 < labAt ls k) : LM w1 ls S mb q' Q W := by
  obtain ⟨⟨c, f, hc, hm, hp⟩, hb, hl⟩ := h
  exact ⟨⟨c, f, by omega, hm, hp.skip hPQ hQP hk⟩, hb, hl⟩
theorem LM.next {w1 W W' : World} {ls : List Ln} {S : Nat → Bool} {mb q : Nat} {P : Nat → Prop} (h : LM w1 ls S mb q P W) (hb : Below W.heap.size W W') : LM w1 ls S mb q P W' := by
  obtain ⟨⟨c, f, hc, hm, hp⟩, hb1, hl⟩ := h
  exact ⟨⟨c, f, hc, hm.kept (S := fun _ => False) (Kept.of_below hb) (fun e => e), hp⟩, hb1.trans (hb.mono hb1.size), Nat.lt_of_lt_of_le hl hb.size⟩
/-- What a map's entry is. -/
theorem LM.look {w1 W : World} {ls : List Ln} {S : Nat → Bool} {mb q : Nat} {P : Nat → Prop} (h : LM w1 ls S mb q P W) : ∃ f, PM ls S P f ∧ ∀ (t : Int), -9223372036854775808 ≤ t → t ≤ 9223372036854775807 → ∀ W', Below W.heap.size W W' → (Instr.lookup 38 (.map (some mb)) (.int .i64 t) false).run Try.prog W' = .ok (.int .i64 (((f t).getD 0 : Nat) : Int)) W' := by
  obtain ⟨⟨c, f, hc, hm, hp⟩, hb1, hl⟩ := h
  refine ⟨f, hp, fun t t0 t1 W' hb => ?_⟩
  obtain ⟨D, hD, hs, hf⟩ := hm.kept (S := fun _ => False) (Kept.of_below hb) (fun e => e)
  have hkey : keyOf Try.prog 3 (.int .i64 t) = some (.int .i64 t) := keyOf_int_mk Try.underlying3 (wf64 t0 t1)
  obtain ⟨c, hrun, hat, _⟩ := hD.lookup_int law3 Try.underlying38 Try.underlying3 (zero3 _) hkey
  have e := at_c (hf t).2 hat
  rw [hrun, e]

set_option maxRecDepth 100000 in
set_option maxHeartbeats 8000000 in
theorem leads5_ok {w : World} {hv tv : Value} {hd tl ls : List Ln} {o d a b i N : Int} {S : Nat → Bool} (hh : Src7 w hv hd) (ht : Src7 w tv tl)
    (hls : ls = linesL hd tl o d a b i N) (hlen : ls.length ≤ 1400000) (hw : ∀ x ∈ ls, x.wf) (h0 : ErrIs ls 0) (hS : Least (bsOf ls) S) (h4 : 4 * atF S (insN ls) ≤ 1048576)
    (hL : ∀ W, Below w.heap.size w W → Calls Try.prog 7 #[.agg #[hv, .int .i64 o, .int .i64 d, .int .i64 a, .int .i64 b, .int .i32 i, .int .i64 N, tv]] W fun e w' => ∃ v', e = .returned v' ∧ LnOwn w' W.heap.size v' ls ∧ Below W.heap.size W w') :
    Calls Try.prog 5 #[.agg #[hv, .int .i64 o, .int .i64 d, .int .i64 a, .int .i64 b, .int .i32 i, .int .i64 N, tv]] w fun e w' => e = .returned (.bool true) ∧ Below w.heap.size w w' := by
  have hA : AsmIs ls (strL (codeGo (labs ls) S 0 ls)) 0 := .inr ⟨h0, S, hS, .inr ⟨h4, rfl, rfl⟩⟩
  replace hL := hid' hL
  replace hls := hid' hls
  have hmm := @run_makeMap Try.prog
  obtain ⟨hao, hcap, rfl⟩ : ∃ ao cap, hv = .slice ao hd.length cap := by
    rcases hh with ⟨rfl, ao, cap, rfl⟩ | ⟨b, off, cap, rfl, _⟩
    · exact ⟨_, _, rfl⟩
    · exact ⟨_, _, rfl⟩
  obtain ⟨tao, tcap, rfl⟩ : ∃ ao cap, tv = .slice ao tl.length cap := by
    rcases ht with ⟨rfl, ao, cap, rfl⟩ | ⟨b, off, cap, rfl, _⟩
    · exact ⟨_, _, rfl⟩
    · exact ⟨_, _, rfl⟩
  clear hh ht
  go_enter Try.func5, Try.ntmps5
  go_upto_block 0 with (first
    | (go_at_call 7; (with_reducible refine (hL.out _ (below1 _ _)).mono ?_); rintro e w1 ⟨vl, rfl, hol, hb1⟩; have hl1 := hid' (hol.lns (by omega) hw); have hs1 := hid' hol.src; replace hb1 := hid' hb1; obtain ⟨al, cl, rfl⟩ := own_shape hol; have HOL := hid' hol; clear hol)
    | (go_at_call 9; (with_reducible refine (own9 hs1.out (by omega)).mono ?_); rintro e w2 ⟨vm, rfl, hom, hb2⟩; have hl2 := hid' (hom.lns (by omega) hw); replace hb2 := hid' hb2)
    | (go_at_call 8; (with_reducible refine (asm8_is hl2.out hA).mono ?_); rintro e w3 ⟨rfl, hb3⟩; replace hb3 := hid' hb3))
  have B3 : Hid (Below w1.heap.size w1 w3) := hb2.out.trans (hb3.out.mono hb2.out.size)
  have hB01 := hid' (below_call hb1.out)
  have x0 : w1.cell? ⟨w.heap.size, 0, none⟩ = some (.slice hao hd.length hcap) := (hb1.out.cell (p := ⟨w.heap.size, 0, none⟩) (by simp)).trans (by simp [go_sem])
  have x7 : w1.cell? ⟨w.heap.size, 7, none⟩ = some (.slice tao tl.length tcap) := (hb1.out.cell (p := ⟨w.heap.size, 7, none⟩) (by simp)).trans (by simp [go_sem])
  have hlw : w.heap.size < w1.heap.size := Nat.lt_of_lt_of_le (by simp) hb1.out.size
  clear hl2 hom hb2 hb3 hL hmm
  have hnd : (labL ls).Nodup := by
    rcases h0 with ⟨_, e⟩ | ⟨_, _, e⟩ | ⟨_, _, _, e⟩ | ⟨h1, h2, h3, _⟩
    · omega
    · omega
    · omega
    · exact h3
  have HND := hid' hnd
  have hPl : Hid (∀ {W : World} {v : Value} (k : Nat), k < ls.length → 0 < labAt ls k → IsLns W v ls → Calls Try.prog 14 #[v, .int .i64 (labAt ls k)] W fun e w' => e = .returned (.tuple #[.int .i64 ((4 * atF S (ixF ls k) : Nat) : Int), .int .i64 0]) ∧ Below W.heap.size W w') := fun {W v} k hk hl hI => by
    have hwf := hw ls[k] (List.getElem_mem hk)
    have hP : PlaceIs ls (labAt ls k) (4 * (atF S (ixF ls k) : Int)) 0 := .inr ⟨h0, S, hS, .inr ⟨h4, .inr ⟨ixF ls k, labs_ix hnd hk rfl (by omega), rfl, rfl⟩⟩⟩
    refine (place14 (by rw [labAt_get hk]; exact hwf.l0) (by rw [labAt_get hk]; exact hwf.l1) hI).mono fun e w' ⟨p', er', he, h2, hb⟩ => ?_
    obtain ⟨rfl, rfl⟩ := h2.unique hP
    exact ⟨by rw [he, Int.natCast_mul]; rfl, hb⟩
  have hln : Hid (∀ k, k < ls.length → hd.length ≤ k → k < ls.length - tl.length → labAt ls k = 0) := fun k hk h1 h2 => by
    rw [labAt_get hk]
    have hlen2 : ls.length = hd.length + midN N + tl.length := by rw [hls.out]; unfold linesL; simp; omega
    have key : ∀ (L : List Ln) (hL : L = hd ++ List.replicate (midN N) (midLn o d a b i) ++ tl) (hk' : k < L.length), L[k].label = 0 := fun L hL hk' => by
      subst hL
      rw [mid_lab h1 (by omega) hk']
      rfl
    exact key ls hls.out hk
  have hhl : hd.length + tl.length ≤ ls.length := by
    rw [hls.out]
    unfold linesL
    simp
  obtain ⟨mb, hmb⟩ : ∃ mb, mb = w3.heap.size := ⟨_, rfl⟩
  have hst : LM w1 ls S mb 0 (fun i => i < 0) (w3.alloc (.map #[] 0)) := by
    rw [hmb]
    exact ⟨⟨0, fun _ => none, Nat.zero_le _, IsMapL.made w3, PM.start ls S⟩, B3.out.trans ((below1 w3 _).mono B3.out.size), by simp⟩
  have hmw : w1.heap.size ≤ mb := by rw [hmb]; exact B3.out.size
  have HST := hid' hst
  rw [← hmb]
  clear hst hmb hnd
  go_cut [7] (fun i wx => LM w1 ls S mb hd.length (fun i => i < hd.length) wx)
  case first =>
    go_wp2_with fail
    go_loopw [7] (fun i wr => ∃ k : Nat, k ≤ hd.length ∧ i = .int .i64 (k : Nat) ∧ LM w1 ls S mb k (fun i => i < k) wr) (fun i _ => hd.length - (intOf i).toNat)
    case atStart => exact ⟨0, Nat.zero_le _, rfl, HST.out⟩
    case round =>
      obtain ⟨k, hk, rfl, hM⟩ := hrel
      have y0 := (hM.below.cell (p := ⟨w.heap.size, 0, none⟩) hlw).trans x0
      have hlw' : w.heap.size < wr.heap.size := Nat.lt_of_lt_of_le hlw hM.below.size
      by_cases hlt : k < hd.length
      · have hkl : k < ls.length := by omega
        obtain ⟨al', cl', e', hform⟩ := (hl1.out.below hM.below).form
        injection e' with e1 e2 e3
        subst e1 e3
        obtain ⟨b, rfl, hb, hAt⟩ := hform k hkl
        obtain ⟨c0, _⟩ := hAt k hkl
        rw [← labAt_get hkl] at c0
        have HM := hid' hM
        clear hM hform hAt
        by_cases hlb : 0 < labAt ls k
        · obtain ⟨c, f, hc, hmap, hpm⟩ := HM.out.map
          have hnew := hpm.new HND.out hkl hlb (fun h => by omega)
          have hput := hpm.put (Q := fun i => i < k + 1) HND.out hkl hlb (fun h => by omega) (fun i h => by omega) (by omega) (fun i h => by omega)
          obtain ⟨D, hD, hsz, hf⟩ := hmap
          have hwf := hw ls[k] (List.getElem_mem hkl)
          have hkey : keyOf Try.prog 3 (.int .i64 (labAt ls k)) = some (.int .i64 (labAt ls k)) := keyOf_int_mk Try.underlying3 (wf64 (by rw [labAt_get hkl]; exact hwf.l0) (by rw [labAt_get hkl]; exact hwf.l1))
          have HK := hid' hkey
          have HD := hid' hD
          have HF := hid' hf
          have HPU := hid' hput
          have HNW := hid' hnew
          have HSZ := hid' hsz
          have hPk : Hid (∀ (W : World) (v : Value), IsLns W v ls → Calls Try.prog 14 #[v, .int .i64 (labAt ls k)] W fun e w' => e = .returned (.tuple #[.int .i64 ((4 * atF S (ixF ls k) : Nat) : Int), .int .i64 0]) ∧ Below W.heap.size W w') := fun W v hI => hPl.out k hkl hlb hI
          have hpb : 4 * atF S (ixF ls k) ≤ 1048576 := by
            have := atF_mono S (show ixF ls k ≤ insN ls by rw [← ixF_all]; exact ixF_mono ls (by omega) (Nat.le_refl _))
            omega
          have hlr := hid' (hl1.out.below HM.out.below)
          have hsr := hid' (hs1.out.below HM.out.below)
          clear hD hf hput hnew hsz hkey hwf hpm
          generalize labAt ls k = L at *
          generalize hpp : 4 * atF S (ixF ls k) = pp at *
          have hwp : (Lit.int .i64 (pp : Int)).wf = true := wf64 (by omega) (by omega)
          have B0 : Below wr.heap.size wr wr.drew := ⟨rfl, rfl, rfl, Nat.le_refl _, fun _ _ => rfl⟩
          have hs0 := hid' (hsr.out.below B0)
          have HB0 := hid' B0
          clear B0
          go_upto_region 10 with fail
          go_region_with (first
            | (go_at_call 9; (with_reducible refine (own9 hs0.out (by omega)).mono ?_); rintro e4 w4 ⟨v4, rfl, ho4, hb4⟩; have hI4 := hid' (ho4.lns (by omega) hw); have c4 : w4.cell? ⟨b, k * 7, none⟩ = some (.int .i64 L) := (hb4.cell (p := ⟨b, k * 7, none⟩) hb).trans c0; have hb4' : b < w4.heap.size := Nat.lt_of_lt_of_le hb hb4.size; replace hb4 := hid' (HB0.out.trans hb4))
            | (go_at_call 14; (with_reducible refine (hPk.out _ _ hI4.out).mono ?_); rintro e5 w5 ⟨rfl, hb5⟩; have hD5 := (Kept.of_below (S := fun _ => False) (hb4.out.trans (hb5.mono hb4.out.size))).omap HD.out (fun e => e); obtain ⟨w6, hrun, r1, r2⟩ := hD5.update (t := 38) (e := 3) law3 Try.underlying38 (by unfold maxLen; omega) HK.out (plainElem_int Try.underlying3 hwp); have c5 : w5.cell? ⟨b, k * 7, none⟩ = some (.int .i64 L) := (hb5.cell (p := ⟨b, k * 7, none⟩) hb4').trans c4; replace r1 := hid' r1; replace r2 := hid' r2; replace hb5 := hid' hb5; replace hD5 := hid' hD5))
          all_goals
            have HN : Hid (LM w1 ls S mb (k + 1) (fun i => i < k + 1) w6) := by
              refine ⟨⟨c + 1, _, by omega, IsMapL.put HSZ.out HF.out hD5.out HNW.out r1.out, HPU.out⟩, ?_, ?_⟩
              · have b5 : Below w1.heap.size w1 w5 := (HM.out.below.trans (hb4.out.mono HM.out.below.size)).trans (hb5.out.mono (Nat.le_trans HM.out.below.size hb4.out.size))
                exact b5.grown r2.out b5.size (fun j hj => by have : j = mb := (Option.some.inj hj).symm; omega)
              · exact Nat.lt_of_lt_of_le (Nat.lt_of_lt_of_le HM.out.lt (Nat.le_trans hb4.out.size hb5.out.size)) r2.out.size
            clear hI4 c4 hb4' hb4 c5 r1 r2 hb5 hD5 hrun
            go_wp2
            go_roundw
            case rel => exact ⟨k + 1, by omega, by go_num, HN.out⟩
            case measure => simp [intOf]; omega
        · have HN := hid' (HM.out.skip (Q := fun i => i < k + 1) (q' := k + 1) (k := k) (by omega) (fun i h => by omega) (fun i h => by omega) hlb)
          have hlb' : ¬ (0 : Int) < labAt ls k := hlb
          clear hlb
          generalize labAt ls k = L at *
          go_wp2
          go_roundw
          case rel => exact ⟨k + 1, by omega, by go_num, HN.out⟩
          case measure => simp [intOf]; omega
      · have hk' : k = hd.length := by omega
        subst hk'
        have HM := hid' hM
        clear hM
        by_cases hll : hd.length < ls.length
        · go_wp2
          go_meet
          case rel => exact HM.out
        · go_wp2
          go_meet
          case rel => exact HM.out
  case rest =>
    have hM := hcut
    have HM := hid' (hM.congr (q' := hd.length + (ls.length - tl.length)) (Q := fun i => i < hd.length ∨ (ls.length - tl.length ≤ i ∧ i < ls.length - tl.length)) (by omega) (fun i => by omega))
    have y7 := (hM.below.cell (p := ⟨w.heap.size, 7, none⟩) hlw).trans x7
    have hlw' : w.heap.size < wc.heap.size := Nat.lt_of_lt_of_le hlw hM.below.size
    clear hM hcut
    go_wp2
    go_loopw [8] (fun i wr => ∃ k : Nat, ls.length - tl.length ≤ k ∧ k ≤ ls.length ∧ i = .int .i64 (k : Nat) ∧ LM w1 ls S mb (hd.length + k) (fun i => i < hd.length ∨ (ls.length - tl.length ≤ i ∧ i < k)) wr) (fun i _ => ls.length - (intOf i).toNat)
    case atStart => exact ⟨ls.length - tl.length, Nat.le_refl _, by omega, by go_num, HM.out⟩
    case round =>
      obtain ⟨k, hk0, hk, rfl, hM⟩ := hrel
      have y0 := (hM.below.cell (p := ⟨w.heap.size, 0, none⟩) hlw).trans x0
      have hlw' : w.heap.size < wr.heap.size := Nat.lt_of_lt_of_le hlw hM.below.size
      by_cases hkl : k < ls.length
      · obtain ⟨al', cl', e', hform⟩ := (hl1.out.below hM.below).form
        injection e' with e1 e2 e3
        subst e1 e3
        obtain ⟨b, rfl, hb, hAt⟩ := hform k hkl
        obtain ⟨c0, _⟩ := hAt k hkl
        rw [← labAt_get hkl] at c0
        have HM := hid' hM
        clear hM hform hAt
        by_cases hlb : 0 < labAt ls k
        · obtain ⟨c, f, hc, hmap, hpm⟩ := HM.out.map
          have hnew := hpm.new HND.out hkl hlb (fun h => by omega)
          have hput := hpm.put (Q := fun i => i < hd.length ∨ (ls.length - tl.length ≤ i ∧ i < k + 1)) HND.out hkl hlb (fun h => by omega) (fun i h => by omega) (by omega) (fun i h => by omega)
          obtain ⟨D, hD, hsz, hf⟩ := hmap
          have hwf := hw ls[k] (List.getElem_mem hkl)
          have hkey : keyOf Try.prog 3 (.int .i64 (labAt ls k)) = some (.int .i64 (labAt ls k)) := keyOf_int_mk Try.underlying3 (wf64 (by rw [labAt_get hkl]; exact hwf.l0) (by rw [labAt_get hkl]; exact hwf.l1))
          have HK := hid' hkey
          have HD := hid' hD
          have HF := hid' hf
          have HPU := hid' hput
          have HNW := hid' hnew
          have HSZ := hid' hsz
          have hPk : Hid (∀ (W : World) (v : Value), IsLns W v ls → Calls Try.prog 14 #[v, .int .i64 (labAt ls k)] W fun e w' => e = .returned (.tuple #[.int .i64 ((4 * atF S (ixF ls k) : Nat) : Int), .int .i64 0]) ∧ Below W.heap.size W w') := fun W v hI => hPl.out k hkl hlb hI
          have hpb : 4 * atF S (ixF ls k) ≤ 1048576 := by
            have := atF_mono S (show ixF ls k ≤ insN ls by rw [← ixF_all]; exact ixF_mono ls (by omega) (Nat.le_refl _))
            omega
          have hlr := hid' (hl1.out.below HM.out.below)
          have hsr := hid' (hs1.out.below HM.out.below)
          clear hD hf hput hnew hsz hkey hwf hpm
          generalize labAt ls k = L at *
          generalize hpp : 4 * atF S (ixF ls k) = pp at *
          have hwp : (Lit.int .i64 (pp : Int)).wf = true := wf64 (by omega) (by omega)
          have B0 : Below wr.heap.size wr wr.drew := ⟨rfl, rfl, rfl, Nat.le_refl _, fun _ _ => rfl⟩
          have hs0 := hid' (hsr.out.below B0)
          have HB0 := hid' B0
          clear B0
          go_upto_region 15 with fail
          go_region_with (first
            | (go_at_call 9; (with_reducible refine (own9 hs0.out (by omega)).mono ?_); rintro e4 w4 ⟨v4, rfl, ho4, hb4⟩; have hI4 := hid' (ho4.lns (by omega) hw); have c4 : w4.cell? ⟨b, k * 7, none⟩ = some (.int .i64 L) := (hb4.cell (p := ⟨b, k * 7, none⟩) hb).trans c0; have hb4' : b < w4.heap.size := Nat.lt_of_lt_of_le hb hb4.size; replace hb4 := hid' (HB0.out.trans hb4))
            | (go_at_call 14; (with_reducible refine (hPk.out _ _ hI4.out).mono ?_); rintro e5 w5 ⟨rfl, hb5⟩; have hD5 := (Kept.of_below (S := fun _ => False) (hb4.out.trans (hb5.mono hb4.out.size))).omap HD.out (fun e => e); obtain ⟨w6, hrun, r1, r2⟩ := hD5.update (t := 38) (e := 3) law3 Try.underlying38 (by unfold maxLen; omega) HK.out (plainElem_int Try.underlying3 hwp); have c5 : w5.cell? ⟨b, k * 7, none⟩ = some (.int .i64 L) := (hb5.cell (p := ⟨b, k * 7, none⟩) hb4').trans c4; replace r1 := hid' r1; replace r2 := hid' r2; replace hb5 := hid' hb5; replace hD5 := hid' hD5))
          all_goals
            have HN : Hid (LM w1 ls S mb (hd.length + (k + 1)) (fun i => i < hd.length ∨ (ls.length - tl.length ≤ i ∧ i < k + 1)) w6) := by
              refine ⟨⟨c + 1, _, by omega, IsMapL.put HSZ.out HF.out hD5.out HNW.out r1.out, HPU.out⟩, ?_, ?_⟩
              · have b5 : Below w1.heap.size w1 w5 := (HM.out.below.trans (hb4.out.mono HM.out.below.size)).trans (hb5.out.mono (Nat.le_trans HM.out.below.size hb4.out.size))
                exact b5.grown r2.out b5.size (fun j hj => by have : j = mb := (Option.some.inj hj).symm; omega)
              · exact Nat.lt_of_lt_of_le (Nat.lt_of_lt_of_le HM.out.lt (Nat.le_trans hb4.out.size hb5.out.size)) r2.out.size
            clear hI4 c4 hb4' hb4 c5 r1 r2 hb5 hD5 hrun
            go_wp2
            go_roundw
            case rel => exact ⟨k + 1, by omega, by omega, by go_num, HN.out⟩
            case measure => simp [intOf]; omega
        · have HN := hid' (HM.out.skip (Q := fun i => i < hd.length ∨ (ls.length - tl.length ≤ i ∧ i < k + 1)) (q' := hd.length + (k + 1)) (k := k) (by omega) (fun i h => by omega) (fun i h => by omega) hlb)
          have hlb' : ¬ (0 : Int) < labAt ls k := hlb
          clear hlb
          generalize labAt ls k = L at *
          go_wp2
          go_roundw
          case rel => exact ⟨k + 1, by omega, by omega, by go_num, HN.out⟩
          case measure => simp [intOf]; omega
      · have hk' : k = ls.length := by omega
        subst hk'
        obtain ⟨f, hpm, hlk⟩ := hM.look
        have HPM := hid' hpm
        have HLK := hid' hlk
        have HBM := hid' hM.below
        have hcov : Hid (∀ i, i < ls.length → 0 < labAt ls i → f (labAt ls i) = some (4 * atF S (ixF ls i))) := fun i hi hl => hpm.has i (by
          by_cases q1 : i < hd.length
          · exact .inl q1
          · by_cases q2 : i < ls.length - tl.length
            · have := hln.out i hi (by omega) q2
              omega
            · exact .inr ⟨by omega, hi⟩) hi hl
        have hz0 : Hid (f 0 = none) := by
          show f 0 = none
          cases e : f 0 with
          | none => rfl
          | some v => have := (hpm.only 0 (by rw [e]; simp)).1; omega
        have htot := code_len hS ls.length (Nat.le_refl _)
        rw [List.take_of_length_le (Nat.le_refl _), ixF_all] at htot
        have hss := strL_size (codeGo (labs ls) S 0 ls)
        rw [htot] at hss
        have hLd : Hid (∀ (k : Nat) (hk : k < ls.length), ls[k].label = 0 → ∀ (t : Int), (ls[k].to ≠ 0 → t = (atF S ((labs ls ls[k].to).getD 0) : Int)) → ∀ w, Calls Try.prog 16 #[.string (strL (codeGo (labs ls) S 0 ls)), .int .i64 (atF S (ixF ls k) : Int), ls[k].val, .int .i64 t] w fun e w' => e = .returned (.tuple #[.int .i64 ((atF S (ixF ls (k + 1)) : Int) - (atF S (ixF ls k) : Int)), .bool true]) ∧ Below w.heap.size w w') := fun k hk hl t ht w => leads_line h0 hS h4 hk hl t ht w
        obtain ⟨w4, hw4⟩ : ∃ w4, w4 = wr := ⟨_, rfl⟩
        have HLK4 : Hid (∀ (t : Int), -9223372036854775808 ≤ t → t ≤ 9223372036854775807 → ∀ W', Below w4.heap.size w4 W' → (Instr.lookup 38 (.map (some mb)) (.int .i64 t) false).run Try.prog W' = .ok (.int .i64 (((f t).getD 0 : Nat) : Int)) W') := by rw [hw4]; exact hlk
        have HB4 : Hid (Below w1.heap.size w1 w4) := by rw [hw4]; exact hM.below
        rw [← hw4]
        generalize hcode : strL (codeGo (labs ls) S 0 ls) = code at *
        clear hpm hlk hM HLK HBM hw4 htot hcode
        go_wp2
        go_loopw [9, 10] (fun a i wx => ∃ k : Nat, k ≤ ls.length ∧ i = .int .i64 (k : Nat) ∧ a = .int .i64 (atF S (ixF ls k) : Int) ∧ Below w4.heap.size w4 wx) (fun _ i _ => ls.length - (intOf i).toNat)
        case atStart => exact ⟨0, Nat.zero_le _, rfl, by rw [ixF_zero, atF_zero]; rfl, Below.refl _ _⟩
        case round =>
          obtain ⟨k, hk, rfl, rfl, hBw⟩ := hrel
          have hB1 := HB4.out.trans (hBw.mono HB4.out.size)
          have HBW := hid' hBw
          have HB1 := hid' hB1
          have hak := atF_mono S (show ixF ls k ≤ insN ls by rw [← ixF_all]; exact ixF_mono ls hk (Nat.le_refl _))
          by_cases hkl : k < ls.length
          · obtain ⟨al', cl', e', hform⟩ := (hl1.out.below hB1).form
            injection e' with e1 e2 e3
            subst e1 e3
            obtain ⟨b, rfl, hb, hAt⟩ := hform k hkl
            obtain ⟨c0, c1, c2, c3, c4, c5, c6⟩ := hAt k hkl
            have hst := atF_ix (S := S) hkl
            have hwf := hw ls[k] (List.getElem_mem hkl)
            have hlg := labAt_get hkl
            have hcv := hcov.out k hkl
            rw [hlg] at hcv
            have hLk := hLd.out k hkl
            clear hform hAt hB1 hBw
            by_cases hlb : 0 < ls[k].label
            · have hlk := HLK4.out ls[k].label hwf.l0 hwf.l1 wr HBW.out
              rw [hcv hlb] at hlk
              simp only [Option.getD_some] at hlk
              have hA1 : atF S (ixF ls (k + 1)) = atF S (ixF ls k) := by
                rw [hst, hlg, if_neg (by omega)]
                unfold lgF
                rw [hlg]
                have : (ls[k].label == 0) = false := by simp; omega
                rw [this]
                simp
              have HA1 := hid' hA1
              clear hst hlg hcv hLk hA1 hwf
              generalize atF S (ixF ls k) = A at *
              generalize ls[k].label = L at *
              have hm : ((4 * A : Nat) : Int) = 4 * (A : Int) := by omega
              rw [hm] at hlk
              go_wp2
              go_roundw
              case rel => exact ⟨k + 1, by omega, by go_num, by rw [HA1.out], HBW.out⟩
              case measure => simp [intOf]; omega
            · have hl0 : ls[k].label = 0 := by have := label0 h0 hkl; omega
              obtain ⟨T, hT, hT1, hT2⟩ : ∃ T : Nat, (f ls[k].to).getD 0 = 4 * T ∧ T ≤ 262144 ∧ (ls[k].to ≠ 0 → T = atF S ((labs ls ls[k].to).getD 0)) := to_at h0 HND.out h4 hcov.out hz0.out hkl
              have B0 : Below wr.heap.size wr wr.drew := ⟨rfl, rfl, rfl, Nat.le_refl _, fun _ _ => rfl⟩
              have hlk := HLK4.out ls[k].to hwf.t0 hwf.t1 wr.drew (HBW.out.trans (B0.mono HBW.out.size))
              rw [hT] at hlk
              obtain ⟨n, hn, hn1⟩ : ∃ n : Nat, atF S (ixF ls (k + 1)) = atF S (ixF ls k) + n ∧ n ≤ 2 := ⟨atF S (ixF ls (k + 1)) - atF S (ixF ls k), by
                have : atF S (ixF ls k) ≤ atF S (ixF ls (k + 1)) := by rw [hst]; omega
                omega, by rw [hst]; split <;> split <;> omega⟩
              have hC := hLk hl0 (T : Int) (fun h => by rw [hT2 h])
              have e : ((atF S (ixF ls (k + 1)) : Int) - (atF S (ixF ls k) : Int)) = (n : Int) := by omega
              rw [e] at hC
              have HN := hid' hn
              have hC' : ∀ W, Calls Try.prog 16 #[.string code, .int .i64 (atF S (ixF ls k) : Int), .agg #[.int .i64 0, .int .i64 ls[k].op, .int .i64 ls[k].d, .int .i64 ls[k].a, .int .i64 ls[k].b, .int .i32 ls[k].imm, .int .i64 ls[k].to], .int .i64 (IntKind.i64.wrap (T : Int))] W fun e w' => e = .returned (.tuple #[.int .i64 (n : Int), .bool true]) ∧ Below W.heap.size W w' := fun W => by
                have := hC W
                unfold Ln.val at this
                rw [hl0] at this
                rw [Go.IntWalk.i64_in (T : Int) (by omega)]
                exact this
              have HC := hid' hC'
              have HB0 := hid' B0
              have hm : ((4 * T : Nat) : Int) = 4 * (T : Int) := by omega
              rw [hm] at hlk
              clear hcv hLk hst hwf hlg hT hT2 hn hC hC' e B0 hlb hm
              generalize atF S (ixF ls k) = A at *
              generalize ls[k] = x at *
              go_upto_region 23 with fail
              go_region_with (first
                | (go_at_call 16; (with_reducible refine (HC.out _).mono ?_); rintro e5 w5 ⟨rfl, hb5⟩; replace hb5 := hid' hb5))
              all_goals
                have HBX : Hid (Below w4.heap.size w4 w5) := HBW.out.trans ((HB0.out.trans hb5.out).mono HBW.out.size)
                clear hb5
                go_wp2
                go_roundw
                case rel => exact ⟨k + 1, by omega, by go_num, by rw [HN.out]; go_num, HBX.out⟩
                case measure => simp [intOf]; omega
          · have hk' : k = ls.length := by omega
            subst hk'
            have hix := ixF_all (ls := ls)
            rw [hix]
            go_wp2_with (go_at_call 13; (with_reducible refine (awake13 _).mono ?_); rintro e w8 ⟨rfl, hb8⟩; replace hb8 := hid' hb8)
            go_ret
            exact ⟨rfl, below_on (below_on hB01.out HB1.out) hb8.out⟩
end Go.Proofs.Ytgnlplddppheiaa
