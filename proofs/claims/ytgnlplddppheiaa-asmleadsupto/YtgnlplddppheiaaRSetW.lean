/- The document's settled. -/
import Derived.Test.YtgnlplddppheiaaRSetP
namespace Go.Proofs.Ytgnlplddppheiaa
open Go.RowKit Go.Maps
set_option linter.unusedVariables false

theorem SPl.rc {w W : World} {yb tb lb ab n : Nat} (h : SPl w W yb tb lb ab n) : W.cell? ⟨w.heap.size, 0, none⟩ = some (.slice none 0 0) ∧ W.cell? ⟨w.heap.size, 1, none⟩ = some (.slice none 0 0) ∧ W.cell? ⟨w.heap.size, 2, none⟩ = some (.slice none 0 0) ∧ ∀ i, W.frozen? ⟨w.heap.size, i, none⟩ = false := by
  have := h.res
  simp [World.cell?, World.frozen?, this]

theorem labL_pos {ls : List Ln} {n : Int} (h : n ∈ labL ls) : ∃ j, j < ls.length ∧ labAt ls j = n := by
  unfold labL at h
  obtain ⟨x, hx, e⟩ := List.mem_map.1 h
  obtain ⟨j, hj, ej⟩ := List.getElem_of_mem (List.mem_filter.1 hx).1
  exact ⟨j, hj, by rw [labAt_get hj, ej]; exact e⟩

theorem find_at {W : World} {v sv : Value} {ls : List Ln} {s : List Nat} {n : Int} {j : Nat} (hL : IsLns W v ls) (hs : ISrc W sv s) (hS : Srt ls 0 ls.length s) (hnd : (labL ls).Nodup) (hj : j < ls.length) (e : labAt ls j = n) (hn : 0 < n) :
    Calls Try.prog 27 #[v, sv, .int .i64 n] W fun e w' => e = .returned (.int .i64 (j : Nat)) ∧ w' = W := by
  refine (find27 hL hs hS).mono ?_
  rintro e' w' ⟨r, rfl, rfl, ⟨_, h⟩ | ⟨i, rfl, hi, hl⟩⟩
  · exact absurd e (h j (by omega))
  · have : i = j := by
      by_cases q : i = j
      · exact q
      · exact absurd hnd (not_nodup q hi hj (by omega) (by omega))
    subst this
    exact ⟨rfl, rfl⟩

theorem ISrc.kept {w w' : World} {v : Value} {l : List Nat} {Q : Nat → Prop} (h : ISrc w v l) (k : Kept Q w w') (hn : ∀ b, v.ownBlock = some b → ¬ Q b) : ISrc w' v l := by
  rcases h with h | ⟨h1, b, off, cap, rfl, hc, hl, hx⟩
  · exact .inl h
  · exact .inr ⟨h1, b, off, cap, rfl, hc, Nat.lt_of_lt_of_le hl k.size, fun j hj => (k.cell hl (hn b rfl)).trans (hx j hj)⟩

theorem own_form {W : World} {base : Nat} {v : Value} {gl : List Nat} (h : W.ownsRow base 3 1 v gl.length (ints gl)) : ∃ ao cp, v = .slice ao gl.length cp ∧ ∀ i (hi : i < gl.length), ∃ gb, ao = some ⟨gb, 0, none⟩ ∧ base ≤ gb ∧ gb < W.heap.size ∧ W.cell? ⟨gb, i, none⟩ = some (.int .i64 (gl[i] : Nat)) := by
  have h' := h
  obtain ⟨_, ⟨rfl, h0⟩ | ⟨g, cap, cur, rfl, hg1, hg2, hg3, _⟩⟩ := h
  · exact ⟨none, 0, by rw [h0], fun i hi => by omega⟩
  · refine ⟨_, cap, rfl, fun i hi => ⟨g, rfl, hg1, (Array.getElem?_eq_some_iff.1 hg2).1, ?_⟩⟩
    have := World.ownsRow.cells h' (g := g) rfl i (.int .i64 (gl[i] : Nat)) (by simp [ints, hi])
    rw [Addr.add_lit, Nat.zero_add] at this
    exact this
theorem skipG {G : Nat → Prop} {gl : List Nat} {k : Nat} (h : ∀ j, j ∈ gl ↔ j < k ∧ G j) (hk : ¬ G k) : ∀ j, j ∈ gl ↔ j < k + 1 ∧ G j := fun j => by
  rw [h j]
  constructor
  · rintro ⟨h1, h2⟩; exact ⟨by omega, h2⟩
  · rintro ⟨h1, h2⟩
    refine ⟨?_, h2⟩
    rcases Nat.lt_or_ge j k with e | e
    · exact e
    · have : j = k := by omega
      subst this; exact absurd h2 hk
theorem takeG {G : Nat → Prop} {gl : List Nat} {k : Nat} (h : ∀ j, j ∈ gl ↔ j < k ∧ G j) (hk : G k) : ∀ j, j ∈ gl ++ [k] ↔ j < k + 1 ∧ G j := fun j => by
  rw [List.mem_append, h j, List.mem_singleton]
  constructor
  · rintro (⟨h1, h2⟩ | rfl)
    · exact ⟨by omega, h2⟩
    · exact ⟨by omega, hk⟩
  · rintro ⟨h1, h2⟩
    rcases Nat.lt_or_ge j k with e | e
    · exact .inl ⟨e, h2⟩
    · exact .inr (by omega)

set_option maxRecDepth 100000 in
set_option maxHeartbeats 16000000 in
theorem settled21 {w : World} {v : Value} {ls : List Ln} (h : IsLns w v ls) (h0 : ErrIs ls 0) : Calls Try.prog 21 #[v] w fun e w' => ∃ tb lb ab T S A, e = .returned (.agg (layV tb lb ab ls.length)) ∧ Lay w' tb lb ab ls.length T S A ls ∧ Least (bsOf ls) S ∧ (∀ i, i ≤ ls.length → A i = (atF S (ixF ls i) : Nat)) ∧ (∀ i, TOk ls T i) ∧ Below w.heap.size w w' := by
  have HL := hid' h
  obtain ⟨ao, cap, rfl, hform⟩ := h.form
  have HF := hid' hform
  obtain ⟨hlen, hok, hnd, hin⟩ : ls.length ≤ 262144 ∧ (∀ x ∈ ls, x.ok = true) ∧ (labL ls).Nodup ∧ (∀ x ∈ ls, x.to ≠ 0 → x.to ∈ labL ls) := by
    rcases h0 with ⟨_, e⟩ | ⟨_, _, e⟩ | ⟨_, _, _, e⟩ | ⟨h1, h2, h3, h4, _⟩
    · omega
    · omega
    · omega
    · exact ⟨h1, h2, h3, h4⟩
  have HOK := hid' hok
  have HND := hid' hnd
  have HIN := hid' hin
  clear hok hnd hin h0
  have hmk1 := run_make45 ls.length (by omega)
  have hmk2 := run_make54 ls.length (by omega)
  have hmk3 := run_make45 (ls.length + 1) (by omega)
  rw [show ((ls.length + 1 : Nat) : Int) = (ls.length : Int) + 1 by omega] at hmk3
  clear h hform
  go_enter Try.func21, Try.ntmps21
  go_upto_region 1 with fail
  go_cut [3] from 12 to 22 (fun y wc => ∃ tb lb ab yb, y = .pointer (some ⟨yb, 0, none⟩) ∧ SPl w wc yb tb lb ab ls.length ∧ wc.heap[tb]? = some (.cells (madeCells #[.int .i64 0] ls.length) 3) ∧ wc.heap[lb]? = some (.cells (madeCells #[.bool false] ls.length) 4) ∧ wc.heap[ab]? = some (.cells (madeCells #[.int .i64 0] (ls.length + 1)) 3) ∧ tb ≠ lb ∧ tb ≠ ab ∧ lb ≠ ab)
  case first =>
    go_region
    all_goals
      go_wp2
      go_meet
      case rel =>
        obtain ⟨q0, q1, q2, q3, q4, q5⟩ := five w _ _ _ _ _
        refine ⟨_, _, _, _, rfl, ⟨?_, q0, q5, ?_, ?_, ?_, ?_, ?_, ?_, ?_⟩, (by first | exact q1 | exact q2 | exact q3 | exact q4), (by first | exact q1 | exact q2 | exact q3 | exact q4), (by first | exact q1 | exact q2 | exact q3 | exact q4), ?_, ?_, ?_⟩
        · first | exact q1 | exact q2 | exact q3 | exact q4
        all_goals omega
  case rest =>
    obtain ⟨tb, lb, ab, yb, rfl, hPl, q1, q2, q3, n1, n2, n3⟩ := hcut
    have hSM := SM.start hPl q1 q2 q3 n1 n2 n3
    have tlt : tb < wc.heap.size := hSM.lay.to.lt
    have HPl := hid' hPl
    clear q1 q2 q3 hmk1 hmk2 hmk3
    go_wp2_with (go_at_call 26; refine (sorted_all (HL.out.below HPl.out.below)).mono ?_; rintro e w2 ⟨sv, s, rfl, hs, hS, hb2, hfr⟩)
    have HM2 := hid' (hSM.next hb2)
    have HS := hid' hS
    obtain ⟨so, scap, rfl, hsf⟩ := hs.form
    have HSF := hid' hsf
    have HIS := hid' hs
    have HFR := hid' hfr
    have hsz2 := hb2.size
    have HL2 := hid' (HL.out.below (HM2.out.pl.below))
    clear hSM hs hS hsf hfr hPl HPl hb2
    go_loopw [5] (fun i wr => ∃ k : Nat, k ≤ ls.length ∧ i = .int .i64 k ∧ Kept (fun b => b = tb) w2 wr ∧ ∃ T, SM w wr yb tb lb ab ls T (fun _ => false) (fun _ => 0) ∧ ∀ i, i < k → TOk ls T i) (fun i _ => ls.length - (intOf i).toNat)
    case atStart => exact ⟨0, Nat.zero_le _, rfl, Kept.rfl _ _, _, HM2.out, fun i hi => by omega⟩
    case round =>
      obtain ⟨k, hk, rfl, hKp, T, hM, hT⟩ := hrel
      have HKp := hid' hKp
      have HM := hid' hM
      have HT := hid' hT
      clear hKp hM hT
      by_cases hlt : k < ls.length
      · obtain ⟨y0, y1, y2⟩ := HM.out.pl.yc0
        have ct := HM.out.lay.to.cell hlt
        have fz := HM.out.lay.to.frozen
        have ylt := HM.out.pl.ylt
        have tlt' := HM.out.lay.to.lt
        have yne := HM.out.pl.ne1
        obtain ⟨b, rfl, hl, ha⟩ := HF.out k hlt
        have c6 := (ha.below HM.out.pl.below hl k hlt).2.2.2.2.2.2
        have bne : b ≠ tb := by have := HM.out.pl.ht; omega
        have h0to := ok_to (HOK.out ls[k] (List.getElem_mem hlt))
        clear ha
        by_cases ht : ls[k].to = 0
        · have HN := hid' (HM.out.setT k (-1))
          rw [ht] at c6
          have HT2 : Hid (∀ i, i < k + 1 → TOk ls (fun j => if j = k then -1 else T j) i) := fun i hi h hp => by
            by_cases e : i = k
            · subst e; omega
            · simp only [e, if_false]; exact HT.out i (by omega) h hp
          have HK2 := hid' (HKp.out.set (a := ⟨tb, k, none⟩) (.inl rfl) (.int .i64 (-1)))
          go_wp2
          go_roundw
          case rel => exact ⟨k + 1, by omega, by go_num, HK2.out, _, HN.out, HT2.out⟩
          case measure => simp [intOf]; omega
        · have hp : 0 < ls[k].to := by omega
          obtain ⟨j, hj, ej⟩ := labL_pos (HIN.out ls[k] (List.getElem_mem hlt) ht)
          obtain ⟨t, et⟩ : ∃ t, t = ls[k].to := ⟨_, rfl⟩
          rw [← et] at c6 hp ej
          have HN1 := hid' (HM.out.setT k (-1))
          have HK1 := hid' (HKp.out.set (a := ⟨tb, k, none⟩) (.inl rfl) (.int .i64 (-1)))
          have hFi : ∀ n, Calls Try.prog 27 #[.slice (some ⟨b, 0, none⟩) ls.length cap, .slice so s.length scap, .int .i64 t] ((wr.setCell ⟨tb, k, none⟩ (.int .i64 (-1))).drewN n) fun e w' => e = .returned (.int .i64 (j : Nat)) ∧ w' = (wr.setCell ⟨tb, k, none⟩ (.int .i64 (-1))).drewN n := fun n =>
            find_at (HL.out.below (HN1.out.drewN n).pl.below) (HIS.out.kept (HK1.out.drewN n) (fun q hq e => by have := HFR.out q hq; omega)) HS.out HND.out hj ej hp
          have HT2 : Hid (∀ i, i < k + 1 → TOk ls (fun q => if q = k then (j : Int) else (if q = k then -1 else T q)) i) := fun i hi h hp' => by
            by_cases e : i = k
            · subst e; exact ⟨j, by simp, hj, by rw [ej, et]⟩
            · simp only [e, if_false]; exact HT.out i (by omega) h hp'
          clear h0to ht et
          go_wp2
          refine region_quiet_tail (C := fun w' => ∃ n, w' = (wr.setCell ⟨tb, k, none⟩ (.int .i64 (-1))).drewN n) 12 mixed (by kernel_rfl) ⟨1, rfl⟩ ?_
          simp only [List.take_succ_cons, List.take_zero, List.drop_succ_cons, List.drop_zero]
          repeat quiet_step (exact Calls.quiet_of_same (hFi _))
          refine wpQuiet_nil ?_
          rintro _ ⟨nr, rfl⟩
          have HN2 := hid' ((HN1.out.drewN nr).setT k j)
          have HK2 := hid' ((HK1.out.drewN nr).set (a := ⟨tb, k, none⟩) (.inl rfl) (.int .i64 (j : Int)))
          clear hFi
          go_wp2
          go_roundw
          case rel => exact ⟨k + 1, by omega, by go_num, HK2.out, _, HN2.out, HT2.out⟩
          case measure => simp [intOf]; omega
      · have : k = ls.length := by omega
        subst this
        have HT' : Hid (∀ i, TOk ls T i) := fun i h hp => HT.out i h h hp
        clear HT HKp HIS HSF HFR HS HL2 HM2
        go_wp2
        go_loopw [6] (fun m wr => ∃ S A, SM w wr yb tb lb ab ls T S A ∧ Low (bsOf ls) S ∧ (m = .bool true ∨ (m = .bool false ∧ Closed (bsOf ls) S ∧ ∀ i, i ≤ ls.length → A i = (atF S (ixF ls i) : Nat)))) (fun m wr => 2 * cntW wr lb ls.length + boolN m)
        case atStart => exact ⟨_, _, HM.out, Low.none _, .inl rfl⟩
        case round =>
          obtain ⟨S, A, hM, hLow, rfl | ⟨rfl, hCl, hA⟩⟩ := hrel
          · have HMr := hid' hM
            have HLow := hid' hLow
            clear hM hLow HM
            obtain ⟨y0, y1, y2⟩ := HMr.out.pl.yc0
            have hav : 0 < ls.length → ∀ b, Value.ownBlock (.slice ao ls.length cap) = some b → b ≠ ab := fun h0 b hb => by
              obtain ⟨b', e, hl, _⟩ := HF.out 0 h0
              rw [e] at hb
              have hb' : b' = b := Option.some.inj hb
              have := HMr.out.pl.ha
              omega
            have hla := laid33 (HL.out.below HMr.out.pl.below) (by omega) HMr.out.lay hav
            go_wp2_with (go_at_call 33; (with_reducible refine hla.mono ?_); rintro e w1 ⟨rfl, ⟨A', hLay, hA'⟩, hK1⟩)
            have HM1 : Hid (SM w w1 yb tb lb ab ls T S A') := ⟨HMr.out.pl.kept hK1 (by have := HMr.out.pl.ne3; omega) (by have := HMr.out.pl.ha; omega) (fun b e => by have := HMr.out.pl.ha; omega), hLay⟩
            have HA' := hid' hA'
            obtain ⟨wr', hwr'⟩ : ∃ wr', wr' = wr := ⟨_, rfl⟩
            have HLr : Hid (wr'.rowIs lb 4 ls.length (fun i => .bool (lgF ls S i))) := by rw [hwr']; exact HMr.out.lay.long
            replace hwr' := hid' hwr'
            have ablt : ab < w1.heap.size := HM1.out.lay.at_.lt
            have lblt : lb < w1.heap.size := HM1.out.lay.long.lt
            clear hav hla hLay hA' hK1 y0 y1 y2 HMr
            obtain ⟨i3, hi3, z30, z31, z32⟩ := info_parts info3'
            go_loopw [7, 8] (fun g i wx => ∃ (k : Nat) (gl : List Nat), k ≤ ls.length ∧ i = .int .i64 k ∧ gl.length ≤ k ∧ wx.ownsRow w1.heap.size 3 1 g gl.length (ints gl) ∧ Below w1.heap.size w1 wx ∧ ∀ j, j ∈ gl ↔ j < k ∧ GrowP ls T S A' j) (fun _ i _ => ls.length - (intOf i).toNat)
            case atStart => exact ⟨0, [], Nat.zero_le _, rfl, Nat.le_refl _, ⟨rfl, .inl ⟨rfl, rfl⟩⟩, Below.refl _ _, fun j => by simp⟩
            case round =>
              obtain ⟨k, gl, hk, rfl, hgk, hO, hB, hG⟩ := hrel
              have HO := hid' hO
              have HB := hid' hB
              have HG := hid' hG
              have hsz := hB.size
              have HMx := hid' (HM1.out.next hB)
              clear hO hB hG
              by_cases hlt : k < ls.length
              · obtain ⟨y0, y1, y2⟩ := HMx.out.pl.yc0
                have ylt := HMx.out.pl.ylt
                obtain ⟨b, rfl, hl, ha⟩ := HF.out k hlt
                have cL := ha.below HMx.out.pl.below hl k hlt
                have c1 := cL.2.1
                have c6 := cL.2.2.2.2.2.2
                have cg := HMx.out.lay.long.cell hlt
                have ck := HMx.out.lay.at_.cell (i := k) (by omega)
                have llt := HMx.out.lay.long.lt
                have alt := HMx.out.lay.at_.lt
                have h0to := ok_to (HOK.out ls[k] (List.getElem_mem hlt))
                clear ha cL
                by_cases ht : ls[k].to = 0
                · have HN := hid' (skipG HG.out (fun ⟨_, q, _⟩ => q ht))
                  rw [ht] at c6
                  clear ht h0to
                  go_wp2
                  go_roundw
                  case rel => exact ⟨k + 1, gl, by omega, by go_num, by omega, HO.out, HB.out, HN.out⟩
                  case measure => simp [intOf]; omega
                · have ht' : ((ls[k].to : Int) == 0) = false := by simp; exact ht
                  cases hlg : lgF ls S k with
                  | true =>
                    have HN := hid' (skipG HG.out (fun ⟨_, _, _, q, _⟩ => by rw [hlg] at q; cases q))
                    rw [hlg] at cg
                    clear hlg ht h0to
                    go_wp2
                    go_roundw
                    case rel => exact ⟨k + 1, gl, by omega, by go_num, by omega, HO.out, HB.out, HN.out⟩
                    case measure => simp [intOf]; omega
                  | false =>
                    rw [hlg] at cg
                    cases has : askF ls[k].op with
                    | false =>
                      have HN := hid' (skipG HG.out (fun ⟨_, _, q, _⟩ => by rw [has] at q; cases q))
                      have e1 : ((ls[k].op : Int) != 39) = true := by unfold askF at has; simp at has; simp; exact has.1
                      have e2 : ((ls[k].op : Int) != 40) = true := by unfold askF at has; simp at has; simp; exact has.2
                      clear hlg has ht h0to
                      go_wp2
                      go_roundw
                      case rel => exact ⟨k + 1, gl, by omega, by go_num, by omega, HO.out, HB.out, HN.out⟩
                      case measure => simp [intOf]; omega
                    | true =>
                      obtain ⟨q, hq, hql, hqt⟩ := HT'.out k hlt (by omega)
                      have hAq := HA'.out q (by omega)
                      have hAk := HA'.out k hk
                      have hb1 := atF_le S (ixF ls q)
                      have hb2 := atF_le S (ixF ls k)
                      have hb3 := ixF_le ls q
                      have hb4 := ixF_le ls k
                      have hop : ls[k].op = 39 ∨ ls[k].op = 40 := by unfold askF at has; simpa using has
                      have HP : Hid ((A' q - (A' k + 1) < -32768 ∨ 32767 < A' q - (A' k + 1)) → GrowP ls T S A' k) := fun hf => ⟨hlt, ht, has, hlg, by rw [hq]; exact hf⟩
                      have HNP : Hid (¬ (A' q - (A' k + 1) < -32768 ∨ 32767 < A' q - (A' k + 1)) → ¬ GrowP ls T S A' k) := fun hf ⟨_, _, _, _, h⟩ => hf (by rw [hq] at h; exact h)
                      have r1 : 0 ≤ A' q := by omega
                      have r2 : A' q ≤ 600000 := by omega
                      have r3 : 0 ≤ A' k := by omega
                      have r4 : A' k ≤ 600000 := by omega
                      have hAw : ∀ t : After wr, Calls Try.prog 23 #[.agg #[.slice (some ⟨tb, 0, none⟩) ls.length ls.length, .slice (some ⟨lb, 0, none⟩) ls.length ls.length, .slice (some ⟨ab, 0, none⟩) (ls.length + 1) (ls.length + 1)], .int .i64 (k : Int), .int .i64 (A' k + 1)] t.1 fun e w' => e = .returned (.int .i64 (A' q - (A' k + 1))) ∧ Below t.1.heap.size t.1 w' := fun t =>
                        away23 ((Kept.of_below (S := fun _ => False) t.2).row HMx.out.lay.to (fun e => e)) ((Kept.of_below (S := fun _ => False) t.2).row HMx.out.lay.at_ (fun e => e)) hlt hq (by omega) (by omega) (by omega) (by omega) (by omega)
                      have ya0 : ∀ t : After wr, t.1.cell? ⟨yb, 0, none⟩ = some (.slice (some ⟨tb, 0, none⟩) ls.length ls.length) := fun t => (t.2.cell (p := ⟨yb, 0, none⟩) ylt).trans y0
                      have ya1 : ∀ t : After wr, t.1.cell? ⟨yb, 1, none⟩ = some (.slice (some ⟨lb, 0, none⟩) ls.length ls.length) := fun t => (t.2.cell (p := ⟨yb, 1, none⟩) ylt).trans y1
                      have ya2 : ∀ t : After wr, t.1.cell? ⟨yb, 2, none⟩ = some (.slice (some ⟨ab, 0, none⟩) (ls.length + 1) (ls.length + 1)) := fun t => (t.2.cell (p := ⟨yb, 2, none⟩) ylt).trans y2
                      have yak : ∀ t : After wr, t.1.cell? ⟨ab, k, none⟩ = some (.int .i64 (A' k)) := fun t => (t.2.cell (p := ⟨ab, k, none⟩) alt).trans ck
                      have hne := after_some wr
                      have ix1 : 0 ≤ (k : Int) ∧ (k : Int) < (ls.length : Int) + 1 := by omega
                      have ix2 : 0 ≤ (k : Int) ∧ (k : Int) < ((ls.length + 1 : Nat) : Int) := by omega
                      have ix3 : k < ls.length + 1 := by omega
                      clear hlg has ht h0to hAq hAk hb1 hb2 hb3 hb4
                      obtain ⟨x, hx⟩ : ∃ x, x = A' k := ⟨_, rfl⟩
                      rw [← hx] at HP HNP r3 r4 ck
                      simp only [← hx] at yak hAw
                      clear hx
                      obtain ⟨D, hD⟩ : ∃ D, D = A' q - (x + 1) := ⟨_, rfl⟩
                      rw [← hD, ← Go.IntWalk.i64_in (x + 1) (by omega)] at hAw
                      have HD := hid' hD
                      clear hD
                      rcases hop with hop | hop
                      · rw [hop] at c1
                        go_wp2
                        refine region_after 9 mixed (by kernel_rfl) ?_
                        simp only [List.take_succ_cons, List.take_zero, List.drop_succ_cons, List.drop_zero]
                        repeat quiet_step (with_reducible exact Calls.after _ (hAw _))
                        refine wpQuiet_nil ?_
                        intro w5 hb5
                        have HB5 : Hid (Below w1.heap.size w1 w5) := HB.out.trans (hb5.mono hsz)
                        have HO5 := hid' ((Kept.of_below (S := fun _ => False) hb5).owns HO.out (fun _ _ e => e))
                        have hsz5 : w1.heap.size ≤ w5.heap.size := Nat.le_trans hsz hb5.size
                        clear hAw ya0 ya1 ya2 yak hne hb5 ix1 ix2 ix3
                        by_cases hf1 : D < -32768
                        · have HN := hid' (takeG HG.out (HP.out (.inl (by rw [← HD.out]; exact hf1))))
                          go_wp2_with (at_builtin; refine of_mark ?_)
                          unfold Mark
                          refine wpList_append_own_at _ rfl _ _ 45 rfl w1.heap.size 3 i3 (.int .i64 0) 1 8 Try.underlying45 hi3 z30 z31 z32 rfl (by decide) _ _ _ rfl (HO5.out.alloc _) ⟨w5.heap.size, 0, none⟩ 1 1 [.int .i64 (k : Int)] rfl rfl (cell_one_at (World.cell?_alloc_at _ _ _ _ rfl)) (ints_oneCell .i64 [(k : Int)]) (by unfold maxLen; omega) (by omega) (by simp; omega) ?_
                          intro v' w6 hown' hgrow hnil hloc
                          have HB6 : Hid (Below w1.heap.size w1 w6) := (HB5.out.alloc hsz5 _).grown hgrow (by simp; omega) (fun k hk => (HO5.out.lt k hk).1)
                          have HO6 : Hid (w6.ownsRow w1.heap.size 3 1 v' (gl ++ [k]).length (ints (gl ++ [k]))) := by rw [ints_append, List.length_append]; exact hown'
                          clear hown' hgrow hnil hloc
                          go_wp2
                          go_roundw
                          case rel => exact ⟨k + 1, gl ++ [k], by omega, by go_num, by simp; omega, HO6.out, HB6.out, HN.out⟩
                          case measure => simp [intOf]; omega
                        · by_cases hf2 : 32767 < D
                          · have HN := hid' (takeG HG.out (HP.out (.inr (by rw [← HD.out]; exact hf2))))
                            go_wp2_with (at_builtin; refine of_mark ?_)
                            unfold Mark
                            refine wpList_append_own_at _ rfl _ _ 45 rfl w1.heap.size 3 i3 (.int .i64 0) 1 8 Try.underlying45 hi3 z30 z31 z32 rfl (by decide) _ _ _ rfl (HO5.out.alloc _) ⟨w5.heap.size, 0, none⟩ 1 1 [.int .i64 (k : Int)] rfl rfl (cell_one_at (World.cell?_alloc_at _ _ _ _ rfl)) (ints_oneCell .i64 [(k : Int)]) (by unfold maxLen; omega) (by omega) (by simp; omega) ?_
                            intro v' w6 hown' hgrow hnil hloc
                            have HB6 : Hid (Below w1.heap.size w1 w6) := (HB5.out.alloc hsz5 _).grown hgrow (by simp; omega) (fun k hk => (HO5.out.lt k hk).1)
                            have HO6 : Hid (w6.ownsRow w1.heap.size 3 1 v' (gl ++ [k]).length (ints (gl ++ [k]))) := by rw [ints_append, List.length_append]; exact hown'
                            clear hown' hgrow hnil hloc
                            go_wp2
                            go_roundw
                            case rel => exact ⟨k + 1, gl ++ [k], by omega, by go_num, by simp; omega, HO6.out, HB6.out, HN.out⟩
                            case measure => simp [intOf]; omega
                          · have HN := hid' (skipG HG.out (HNP.out (by rw [← HD.out]; omega)))
                            go_wp2
                            go_roundw
                            case rel => exact ⟨k + 1, gl, by omega, by go_num, by omega, HO5.out, HB5.out, HN.out⟩
                            case measure => simp [intOf]; omega
                      · rw [hop] at c1
                        go_wp2
                        refine region_after 9 mixed (by kernel_rfl) ?_
                        simp only [List.take_succ_cons, List.take_zero, List.drop_succ_cons, List.drop_zero]
                        repeat quiet_step (with_reducible exact Calls.after _ (hAw _))
                        refine wpQuiet_nil ?_
                        intro w5 hb5
                        have HB5 : Hid (Below w1.heap.size w1 w5) := HB.out.trans (hb5.mono hsz)
                        have HO5 := hid' ((Kept.of_below (S := fun _ => False) hb5).owns HO.out (fun _ _ e => e))
                        have hsz5 : w1.heap.size ≤ w5.heap.size := Nat.le_trans hsz hb5.size
                        clear hAw ya0 ya1 ya2 yak hne hb5 ix1 ix2 ix3
                        by_cases hf1 : D < -32768
                        · have HN := hid' (takeG HG.out (HP.out (.inl (by rw [← HD.out]; exact hf1))))
                          go_wp2_with (at_builtin; refine of_mark ?_)
                          unfold Mark
                          refine wpList_append_own_at _ rfl _ _ 45 rfl w1.heap.size 3 i3 (.int .i64 0) 1 8 Try.underlying45 hi3 z30 z31 z32 rfl (by decide) _ _ _ rfl (HO5.out.alloc _) ⟨w5.heap.size, 0, none⟩ 1 1 [.int .i64 (k : Int)] rfl rfl (cell_one_at (World.cell?_alloc_at _ _ _ _ rfl)) (ints_oneCell .i64 [(k : Int)]) (by unfold maxLen; omega) (by omega) (by simp; omega) ?_
                          intro v' w6 hown' hgrow hnil hloc
                          have HB6 : Hid (Below w1.heap.size w1 w6) := (HB5.out.alloc hsz5 _).grown hgrow (by simp; omega) (fun k hk => (HO5.out.lt k hk).1)
                          have HO6 : Hid (w6.ownsRow w1.heap.size 3 1 v' (gl ++ [k]).length (ints (gl ++ [k]))) := by rw [ints_append, List.length_append]; exact hown'
                          clear hown' hgrow hnil hloc
                          go_wp2
                          go_roundw
                          case rel => exact ⟨k + 1, gl ++ [k], by omega, by go_num, by simp; omega, HO6.out, HB6.out, HN.out⟩
                          case measure => simp [intOf]; omega
                        · by_cases hf2 : 32767 < D
                          · have HN := hid' (takeG HG.out (HP.out (.inr (by rw [← HD.out]; exact hf2))))
                            go_wp2_with (at_builtin; refine of_mark ?_)
                            unfold Mark
                            refine wpList_append_own_at _ rfl _ _ 45 rfl w1.heap.size 3 i3 (.int .i64 0) 1 8 Try.underlying45 hi3 z30 z31 z32 rfl (by decide) _ _ _ rfl (HO5.out.alloc _) ⟨w5.heap.size, 0, none⟩ 1 1 [.int .i64 (k : Int)] rfl rfl (cell_one_at (World.cell?_alloc_at _ _ _ _ rfl)) (ints_oneCell .i64 [(k : Int)]) (by unfold maxLen; omega) (by omega) (by simp; omega) ?_
                            intro v' w6 hown' hgrow hnil hloc
                            have HB6 : Hid (Below w1.heap.size w1 w6) := (HB5.out.alloc hsz5 _).grown hgrow (by simp; omega) (fun k hk => (HO5.out.lt k hk).1)
                            have HO6 : Hid (w6.ownsRow w1.heap.size 3 1 v' (gl ++ [k]).length (ints (gl ++ [k]))) := by rw [ints_append, List.length_append]; exact hown'
                            clear hown' hgrow hnil hloc
                            go_wp2
                            go_roundw
                            case rel => exact ⟨k + 1, gl ++ [k], by omega, by go_num, by simp; omega, HO6.out, HB6.out, HN.out⟩
                            case measure => simp [intOf]; omega
                          · have HN := hid' (skipG HG.out (HNP.out (by rw [← HD.out]; omega)))
                            go_wp2
                            go_roundw
                            case rel => exact ⟨k + 1, gl, by omega, by go_num, by omega, HO5.out, HB5.out, HN.out⟩
                            case measure => simp [intOf]; omega
              · have : k = ls.length := by omega
                subst this
                have HG2 : Hid (∀ j, j ∈ gl ↔ GrowP ls T S A' j) := fun j => (HG.out j).trans ⟨fun h => h.2, fun h => ⟨h.1, h⟩⟩
                obtain ⟨gao, gcap, rfl, hgc⟩ := own_form HO.out
                have HGC : Hid (∀ i (h : i < gl.length), ∃ gb, gao = some ⟨gb, 0, none⟩ ∧ gb ≠ lb ∧ gb < wr.heap.size ∧ wr.cell? ⟨gb, i, none⟩ = some (.int .i64 (gl[i] : Nat))) := fun i h => by
                  obtain ⟨gb, e, h1, h2, h3⟩ := hgc i h
                  exact ⟨gb, e, by omega, h2, h3⟩
                clear HG HO HB hgc hsz
                go_wp2
                go_loopw [6, 11] (fun m i wx => ∃ (c : Nat) (S' : Nat → Bool), c ≤ gl.length ∧ i = .int .i64 c ∧ ((c = 0 ∧ m = .bool false ∧ S' = S) ∨ (0 < c ∧ m = .bool true)) ∧ SM w wx yb tb lb ab ls T S' A' ∧ Low (bsOf ls) S' ∧ (∀ j, j < ls.length → lgF ls S j = true → lgF ls S' j = true) ∧ (∀ e (h : e < gl.length), e < c → lgF ls S' gl[e] = true) ∧ (∀ i (h : i < gl.length), ∃ gb, gao = some ⟨gb, 0, none⟩ ∧ gb ≠ lb ∧ gb < wx.heap.size ∧ wx.cell? ⟨gb, i, none⟩ = some (.int .i64 (gl[i] : Nat)))) (fun _ i _ => gl.length - (intOf i).toNat)
                case atStart => exact ⟨0, S, Nat.zero_le _, rfl, .inl ⟨rfl, rfl, rfl⟩, HMx.out, HLow.out, fun j _ h => h, fun e h h2 => by omega, HGC.out⟩
                case round =>
                  obtain ⟨c, S', hc, rfl, hcase, hSM, hLw, hmono, hset, hcells⟩ := hrel
                  have HSM := hid' hSM
                  have HLw := hid' hLw
                  have HMo := hid' hmono
                  have HSe := hid' hset
                  have HCe := hid' hcells
                  clear hSM hLw hmono hset hcells HGC HMx
                  by_cases hcl : c < gl.length
                  · have hgG := (HG2.out gl[c]).1 (List.getElem_mem hcl)
                    have hgl := hgG.1
                    obtain ⟨hg0, hmust⟩ := grow_must HOK.out HND.out HT'.out HA'.out HLow.out hgG
                    obtain ⟨gb, rfl, hgn, hgs, hgcell⟩ := HCe.out c hcl
                    obtain ⟨g, hg⟩ : ∃ g, g = gl[c] := ⟨_, rfl⟩
                    rw [← hg] at hgl hg0 hmust hgcell
                    have Hg := hid' hg
                    have Hmust := hid' hmust
                    clear hgG hg hmust
                    obtain ⟨y0, y1, y2⟩ := HSM.out.pl.yc0
                    have ylt := HSM.out.pl.ylt
                    have cgl := HSM.out.lay.long.cell hgl
                    have fzl := HSM.out.lay.long.frozen
                    have llt := HSM.out.lay.long.lt
                    have ix1 : 0 ≤ (c : Int) ∧ (c : Int) < (gl.length : Int) := by omega
                    have ix2 : 0 ≤ (g : Int) ∧ (g : Int) < (ls.length : Int) := by omega
                    have HN : Hid (∀ n, SM w ((wr.drewN n).setCell ⟨lb, g, none⟩ (.bool true)) yb tb lb ab ls T (addS S' (ixF ls g)) A') := fun n => (HSM.out.drewN n).setL hgl hg0
                    have HNC : Hid (∀ n i (h : i < gl.length), ∃ gb', (some ⟨gb, 0, none⟩ : Option Addr) = some ⟨gb', 0, none⟩ ∧ gb' ≠ lb ∧ gb' < ((wr.drewN n).setCell ⟨lb, g, none⟩ (.bool true)).heap.size ∧ ((wr.drewN n).setCell ⟨lb, g, none⟩ (.bool true)).cell? ⟨gb', i, none⟩ = some (.int .i64 (gl[i] : Nat))) := fun n i h => by
                      obtain ⟨gb', e, h1, h2, h3⟩ := HCe.out i h
                      have K : Kept (fun b => b = lb) wr ((wr.drewN n).setCell ⟨lb, g, none⟩ (.bool true)) := ((Kept.rfl (fun b => b = lb) wr).drewN n).set (.inl rfl) _
                      exact ⟨gb', e, h1, Nat.lt_of_lt_of_le h2 K.size, (K.cell h2 h1).trans h3⟩
                    have HG0 := hid' hg0
                    clear hg0
                    go_wp2
                    refine region_quiet_tail (C := fun w' => ∃ n, w' = wr.drewN n) 7 mixed (by kernel_rfl) ⟨1, rfl⟩ ?_
                    simp only [List.take_succ_cons, List.take_zero, List.drop_succ_cons, List.drop_zero]
                    repeat quiet_step (fail)
                    refine wpQuiet_nil ?_
                    rintro _ ⟨nr, rfl⟩
                    go_wp2
                    go_roundw
                    case rel =>
                      refine ⟨c + 1, addS S' (ixF ls g), by omega, by go_num, .inr ⟨by omega, rfl⟩, HN.out nr, HLw.out.add Hmust.out, fun j hj h => ?_, fun e h h2 => ?_, HNC.out nr⟩
                      · rw [lgF_add hgl HG0.out hj]
                        split
                        · rfl
                        · exact HMo.out j hj h
                      · rw [lgF_add hgl HG0.out ((HG2.out gl[e]).1 (List.getElem_mem h)).1]
                        split
                        · rfl
                        · rename_i hne
                          refine HSe.out e h ?_
                          have : e ≠ c := fun q => hne (by subst q; exact Hg.out.symm)
                          omega
                    case measure => simp [intOf]; omega
                  · have hce : c = gl.length := by omega
                    rcases hcase with ⟨h0, rfl, rfl⟩ | ⟨h0, rfl⟩
                    · have hnil : gl = [] := List.eq_nil_of_length_eq_zero (by omega)
                      have HCl : Hid (Closed (bsOf ls) S') := closed_of HOK.out HND.out HT'.out HA'.out (fun j h => by have := (HG2.out j).2 h; rw [hnil] at this; cases this)
                      have HCn : Hid (cntW wr lb ls.length = cntW wr' lb ls.length) := by
                        show _ = _
                        rw [cntW_row HSM.out.lay.long, cntW_row HLr.out]
                      clear hnil
                      go_wp2
                      go_roundw
                      case rel => exact ⟨S', A', HSM.out, HLw.out, .inr ⟨rfl, HCl.out, HA'.out⟩⟩
                      case measure => have := HCn.out; rw [hwr'.out] at this; simp [boolN]; omega
                    · have hgG := (HG2.out (gl[0]'(by omega))).1 (List.getElem_mem (by omega))
                      have HLt : Hid (cntW wr lb ls.length < cntW wr' lb ls.length) := cnt_lt HLr.out HSM.out.lay.long HMo.out hgG.1 hgG.2.2.2.1 (HSe.out 0 (by omega) (by omega))
                      clear hgG
                      go_wp2
                      go_roundw
                      case rel => exact ⟨S', A', HSM.out, HLw.out, .inl rfl⟩
                      case measure => have := HLt.out; rw [hwr'.out] at this; simp [boolN]; omega
          · have HMr := hid' hM
            have HLe : Hid (Least (bsOf ls) S) := ⟨hCl, hLow⟩
            have HA := hid' hA
            clear hM hLow hCl hA HM
            obtain ⟨y0, y1, y2⟩ := HMr.out.pl.yc0
            obtain ⟨r0, r1, r2, rf⟩ := HMr.out.pl.rc
            have rlt := HMr.out.pl.rlt
            have K : Kept (fun b => b = w.heap.size) wr (((wr.setCell ⟨w.heap.size, 0, none⟩ (.slice (some ⟨tb, 0, none⟩) ls.length ls.length)).setCell ⟨w.heap.size, 1, none⟩ (.slice (some ⟨lb, 0, none⟩) ls.length ls.length)).setCell ⟨w.heap.size, 2, none⟩ (.slice (some ⟨ab, 0, none⟩) (ls.length + 1) (ls.length + 1))) :=
              (((Kept.rfl (fun b => b = w.heap.size) wr).set (.inl rfl) _).set (.inl rfl) _).set (.inl rfl) _
            have HR := hid' (show Lay (((wr.setCell ⟨w.heap.size, 0, none⟩ (.slice (some ⟨tb, 0, none⟩) ls.length ls.length)).setCell ⟨w.heap.size, 1, none⟩ (.slice (some ⟨lb, 0, none⟩) ls.length ls.length)).setCell ⟨w.heap.size, 2, none⟩ (.slice (some ⟨ab, 0, none⟩) (ls.length + 1) (ls.length + 1))) tb lb ab ls.length T S A ls from
              ⟨K.row HMr.out.lay.to (by have := HMr.out.pl.ht; omega), K.row HMr.out.lay.long (by have := HMr.out.pl.hl; omega), K.row HMr.out.lay.at_ (by have := HMr.out.pl.ha; omega), HMr.out.lay.ne1, HMr.out.lay.ne2, HMr.out.lay.ne3⟩)
            have HB := hid' (HMr.out.pl.below.trans (K.below HMr.out.pl.below.size (fun b e => by omega)))
            clear K
            go_wp2
            exact bodyPost_ret (v := .agg (layV tb lb ab ls.length)) (by simp [results, Try.results21, go_sem, r0, r1, r2]) rfl ⟨tb, lb, ab, T, S, A, rfl, HR.out, HLe.out, HA.out, HT'.out, HB.out⟩
end Go.Proofs.Ytgnlplddppheiaa
