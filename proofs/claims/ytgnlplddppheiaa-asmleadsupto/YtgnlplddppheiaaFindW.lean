/- findLabels' walks. -/
import Derived.Test.YtgnlplddppheiaaFind
namespace Go.Proofs.Ytgnlplddppheiaa
open Go.RowKit Go.Maps
set_option linter.unusedVariables false

theorem hid' {x : Prop} (h : x) : Hid x := h
theorem taken' {α : Type} (l : List α) (k : Nat) (h : k < l.length) : l.take (k + 1) = l.take k ++ [l[k]] := by rw [List.take_succ_eq_append_getElem h]

theorem IsMapL.mono {w : World} {mb n m s : Nat} {f : Int → Option Nat} (h : IsMapL w mb n s f) (hm : n ≤ m) : IsMapL w mb m s f := by
  obtain ⟨D, ho, r⟩ := h
  exact ⟨D, ho.mono hm, r⟩
theorem IsMapL.congr {w : World} {mb n s s' : Nat} {f g : Int → Option Nat} (h : IsMapL w mb n s f) (hs : s = s') (hg : ∀ k, f k = g k) : IsMapL w mb n s' g := by
  obtain ⟨D, ho, e, r⟩ := h
  exact ⟨D, ho, e.trans hs, fun k => by rw [← hg k]; exact r k⟩

/-- The first i lines have been looked at. -/
structure FMid (w : World) (ls : List Ln) (i mb : Nat) (k : Value) (W : World) : Prop where
  map : IsMapL W mb i (labL (ls.take i)).length (labs (ls.take i))
  cnt : k = .int .i64 ((insN (ls.take i) : Nat) : Int)
  nodup : (labL (ls.take i)).Nodup
  below : Below w.heap.size w W

section
variable {w W : World} {ls : List Ln} {i mb : Nat} {k : Value}
theorem FMid.ins (h : FMid w ls i mb k W) (hi : i < ls.length) (hl : ls[i].label = 0) {W' : World} (hb : Below W.heap.size W W') {k' : Value} (hk : k' = .int .i64 ((insN (ls.take i) : Nat) + 1 : Int)) : FMid w ls (i + 1) mb k' W' := by
  have e1 : labL (ls.take (i + 1)) = labL (ls.take i) := by rw [taken' ls i hi, labL_append, labL_one, if_pos hl, List.append_nil]
  have e2 : insN (ls.take (i + 1)) = insN (ls.take i) + 1 := by rw [taken' ls i hi, insN_append, insN_one, if_pos hl]
  refine ⟨?_, by rw [hk, e2]; rfl, by rw [e1]; exact h.nodup, h.below.trans (hb.mono h.below.size)⟩
  refine ((h.map.kept (S := fun _ => False) (Kept.of_below hb) (fun e => e)).mono (Nat.le_succ _)).congr (by rw [e1]) (fun n => ?_)
  rw [taken' ls i hi, labs_append]
  cases labs (ls.take i) n with
  | some p => rfl
  | none => simp [labs, hl]
theorem FMid.lab (h : FMid w ls i mb k W) (hi : i < ls.length) (hl : ls[i].label ≠ 0) (hn : ls[i].label ∉ labL (ls.take i)) (hB : w.heap.size ≤ mb) {W0 W' : World} (hb : Below W.heap.size W W0) (hg : W0.grownBy W' (some mb))
    (hm : IsMapL W' mb (i + 1) ((labL (ls.take i)).length + 1) (fun j => if j = ls[i].label then some (insN (ls.take i)) else labs (ls.take i) j)) : FMid w ls (i + 1) mb k W' := by
  have e1 : labL (ls.take (i + 1)) = labL (ls.take i) ++ [ls[i].label] := by rw [taken' ls i hi, labL_append, labL_one, if_neg hl]
  have e2 : insN (ls.take (i + 1)) = insN (ls.take i) := by rw [taken' ls i hi, insN_append, insN_one, if_neg hl]; rfl
  refine ⟨hm.congr (by rw [e1]; simp) (fun n => ?_), by rw [h.cnt, e2], ?_, ?_⟩
  · rw [taken' ls i hi, labs_append]
    by_cases e : n = ls[i].label
    · subst e
      rw [if_pos rfl, (labs_none _ _).2 (.inl hn)]
      simp [labs, hl]
    · rw [if_neg e]
      cases labs (ls.take i) n with
      | some p => rfl
      | none => simp [labs, hl, Ne.symm e]
  · rw [e1]
    refine List.nodup_append.2 ⟨h.nodup, by simp, fun a ha b hb' e => ?_⟩
    simp at hb'
    subst hb'
    exact hn (e ▸ ha)
  · exact (h.below.trans (hb.mono h.below.size)).grown hg (Nat.le_trans h.below.size hb.size) (fun j hj => by simp at hj; omega)
end

theorem find_long (ao : Option Addr) (n cap : Nat) (w : World) (hn : 262144 < n) :
    Calls Try.prog 24 #[.slice ao n cap] w fun e w' => e = .returned (.tuple #[.map none, .int .i64 3]) ∧ Below w.heap.size w w' := by
  have h : (262144 : Int) < n := by omega
  go_enter Try.func24, Try.ntmps24
  go_wp2
  go_ret2
  exact ⟨rfl, Below.refl _ _⟩

theorem find_bad {w : World} {v : Value} {ls : List Ln} (h : IsLns w v ls) (hn : ls.length ≤ 262144) (hb : (ls.any fun x => !x.ok) = true) :
    Calls Try.prog 24 #[v] w fun e w' => e = .returned (.tuple #[.map none, .int .i64 1]) ∧ Below w.heap.size w w' := by
  have hC := contains35 h
  rw [hb] at hC
  obtain ⟨h1, h2, h3⟩ := h
  obtain ⟨ao, cap, rfl⟩ : ∃ ao cap, v = .slice ao ls.length cap := by
    rcases h3 with ⟨rfl, ao, cap, rfl⟩ | ⟨_, b, cap, rfl, _⟩
    · exact ⟨_, _, rfl⟩
    · exact ⟨_, _, rfl⟩
  have h0 : ¬ (262144 : Int) < ls.length := by omega
  clear h3
  go_enter Try.func24, Try.ntmps24
  go_wp2_with (go_at_call 35; refine hC.mono ?_; rintro e w1 ⟨rfl, hb1⟩)
  go_ret2
  exact ⟨rfl, hb1⟩

/-- What findLabels hands back for lines that are lines. -/
def Found (w w' : World) (ls : List Ln) (e : Ending) : Prop :=
  (e = .returned (.tuple #[.map none, .int .i64 60]) ∧ (¬ (labL ls).Nodup ∨ ∃ x ∈ ls, x.to ≠ 0 ∧ x.to ∉ labL ls) ∧ Below w.heap.size w w') ∨
  (∃ mb, e = .returned (.tuple #[.map (some mb), .int .i64 0]) ∧ w.heap.size ≤ mb ∧ IsMapL w' mb ls.length (labL ls).length (labs ls) ∧ (labL ls).Nodup ∧ (∀ x ∈ ls, x.to ≠ 0 → x.to ∈ labL ls) ∧ Below w.heap.size w w')

set_option maxRecDepth 100000 in
set_option maxHeartbeats 4000000 in
theorem find_some {w : World} {b cap : Nat} {ls : List Ln} (hC : Calls Try.prog 35 #[.slice (some ⟨b, 0, none⟩) ls.length cap, .func (.func 36) #[] #[]] w fun e w' => e = .returned (.bool false) ∧ Below w.heap.size w w') (hn : ls.length ≤ 262144) (hwf : ∀ x ∈ ls, x.wf) (hl : b < w.heap.size) (ha : LnsAt w b ls) :
    Calls Try.prog 24 #[.slice (some ⟨b, 0, none⟩) ls.length cap] w fun e w' => Found w w' ls e := by
  have h0 : ¬ (262144 : Int) < ls.length := by omega
  have hmm := @run_makeMap Try.prog
  have HA := hid' ha
  clear ha
  go_enter Try.func24, Try.ntmps24
  go_wp2_with (go_at_call 35; refine hC.mono ?_; rintro e w1 ⟨rfl, hb1⟩)
  have hst : FMid w ls 0 w1.heap.size (.int .i64 0) (w1.alloc (.map #[] 0)) :=
    ⟨(IsMapL.made w1).congr (by simp [labL]) (fun _ => rfl), by simp [insN], by simp [labL], hb1.trans ((below1 w1 _).mono hb1.size)⟩
  have HS := hid' hst
  have hB : Hid (w.heap.size ≤ w1.heap.size) := hb1.size
  clear hst hb1
  generalize hmb : w1.heap.size = mb at *
  go_loopw [5, 22] (fun c i wr => ∃ k : Nat, k ≤ ls.length ∧ i = .int .i64 k ∧ FMid w ls k mb c wr) (fun _ i _ => ls.length - (intOf i).toNat)
  case atStart => exact ⟨0, Nat.zero_le _, rfl, HS.out⟩
  case round =>
    obtain ⟨k, hk, rfl, hM⟩ := hrel
    by_cases hlt : k < ls.length
    · obtain ⟨c0, c1, c2, c3, c4, c5, c6⟩ := HA.out.below (w' := wr) hM.below hl k hlt
      have hwx := hwf ls[k] (List.getElem_mem _)
      have hcnt := hM.cnt
      subst hcnt
      have hin := insN_le (ls.take k)
      have hin2 : (ls.take k).length ≤ k := by simp; omega
      have hkey : keyOf Try.prog 3 (.int .i64 ls[k].label) = some (.int .i64 ls[k].label) := keyOf_int_mk Try.underlying3 (wf64 hwx.l0 hwx.l1)
      have HM := hid' hM
      obtain ⟨⟨D, hD, hsz, hf⟩, _, _, _⟩ := hM
      have hfk := hf ls[k].label
      have HF := hid' hf
      have HK := hid' hkey
      clear hf
      generalize hx : ls[k] = x at *
      have HX := hid' hx
      clear hx
      obtain ⟨l, o, d, a, bb, im, t⟩ := x
      simp only at *
      generalize hcn : insN (ls.take k) = cn at *
      have HC := hid' hcn
      clear hcn
      by_cases hz : l = 0
      · subst hz
        have hI := isLabel19 0 o d a bb im t
        simp only [bne_self_eq_false] at hI
        go_wp2_with (go_at_call 19; refine (hI _).mono ?_; rintro e w2 ⟨rfl, hb2⟩)
        have hN := HM.out.ins hlt (by rw [HX.out]) (below_call hb2) rfl
        have HN := hid' hN
        clear hN hb2 c0 c1 c2 c3 c4 c5 c6 hD
        go_roundw
        case rel => exact ⟨k + 1, by omega, by go_num, by have := HN.out; rw [HC.out] at this; exact this⟩
        case measure => simp [intOf]; omega
      · have e1 : (l != 0) = true := by simp [hz]
        have hI := isLabel19 l o d a bb im t
        rw [e1] at hI
        by_cases hin3 : l ∈ labL (ls.take k)
        · have hh : Maps.has D (.int .i64 l) = true := by
            rw [hfk.1]
            obtain ⟨p, hp⟩ := labs_some hin3
            rw [hp]; rfl
          go_wp2_with (first
            | (go_at_call 19; refine (hI _).mono ?_; rintro e w2 ⟨rfl, hb2⟩; obtain ⟨hc2, hf2⟩ := bcell hb2; have hD2 := (Kept.of_below (S := fun _ => False) (below_call hb2)).omap hD (fun e => e))
            | (at_lookup; refine wpList_lookup_own_ok_int _ rfl _ _ 38 rfl 3 3 .i64 law3 Try.underlying38 Try.underlying3 (zero3 _) mb k D rfl hD2 _ _ rfl HK.out ?_; intro c hat hwc; rw [hh]))
          go_ret2
          refine .inl ⟨rfl, .inl (fun hnd => ?_), HM.out.below.trans ((below_call hb2).mono HM.out.below.size)⟩
          have e2 : labL ls = labL (ls.take k) ++ labL (ls.drop k) := by rw [← labL_append, List.take_append_drop]
          have e3 : l ∈ labL (ls.drop k) := by
            have := labL_mem (ls := ls.drop k) (x := ls[k]) (by rw [List.drop_eq_getElem_cons hlt]; exact List.mem_cons_self) (by rw [HX.out]; exact hz)
            rwa [HX.out] at this
          rw [e2] at hnd
          exact (List.nodup_append.1 hnd).2.2 l hin3 l e3 rfl
        · have hnn : labs (ls.take k) l = none := (labs_none _ _).2 (.inl hin3)
          have hh : Maps.has D (.int .i64 l) = false := by rw [hfk.1, hnn]; rfl
          go_wp2_with (first
            | (go_at_call 19; refine (hI _).mono ?_; rintro e w2 ⟨rfl, hb2⟩; obtain ⟨hc2, hf2⟩ := bcell hb2; have hD2 := (Kept.of_below (S := fun _ => False) (below_call hb2)).omap hD (fun e => e))
            | (at_lookup; refine wpList_lookup_own_ok_int _ rfl _ _ 38 rfl 3 3 .i64 law3 Try.underlying38 Try.underlying3 (zero3 _) mb k D rfl hD2 _ _ rfl HK.out ?_; intro c hat hwc; rw [hh])
            | (at_mapUpdate; refine wpList_mapUpdate_own _ rfl _ _ _ 38 rfl 3 3 law3 Try.underlying38 _ mb k D rfl hD2 (by unfold maxLen; omega) _ _ _ rfl rfl HK.out _ [] (plainElem_int Try.underlying3 (wf64 (by omega) (by omega))) ?_; intro w3 hD3 hg3))
          have hP := IsMapL.put hsz HF.out hD2 hnn hD3
          have hN := HM.out.lab hlt (by rw [HX.out]; exact hz) (by rw [HX.out]; exact hin3) hB.out (below_call hb2) hg3 (by rw [HX.out, HC.out]; exact hP)
          have HN := hid' hN
          clear hN hb2 c0 c1 c2 c3 c4 c5 c6 hD hD2 hD3 hg3 hP hc2 hf2
          go_roundw
          case rel => exact ⟨k + 1, by omega, by go_num, HN.out⟩
          case measure => simp [intOf]; omega
    · have : k = ls.length := by omega
      subst this
      obtain ⟨hmap, hcnt, hnd, hbl⟩ := hM
      rw [List.take_of_length_le (Nat.le_refl _)] at hmap hcnt hnd
      subst hcnt
      have HM := hid' hmap
      have HB := hid' hbl
      have HN := hid' hnd
      clear hmap hbl hnd HS hmb
      go_wp2
      go_loopw [46] (fun i wq => ∃ k : Nat, k ≤ ls.length ∧ i = .int .i64 k ∧ (∀ j (hj : j < ls.length), j < k → ls[j].to ≠ 0 → ls[j].to ∈ labL ls) ∧ IsMapL wq mb ls.length (labL ls).length (labs ls) ∧ Below w.heap.size w wq) (fun i _ => ls.length - (intOf i).toNat)
      case atStart => exact ⟨0, Nat.zero_le _, rfl, fun j _ h => by omega, HM.out, HB.out⟩
      case round =>
        obtain ⟨k, hk, rfl, hto, hmp, hbw⟩ := hrel
        by_cases hlt : k < ls.length
        · obtain ⟨c0, c1, c2, c3, c4, c5, c6⟩ := HA.out.below (w' := wr) hbw hl k hlt
          have hwx := hwf ls[k] (List.getElem_mem _)
          have hkey : keyOf Try.prog 3 (.int .i64 ls[k].to) = some (.int .i64 ls[k].to) := keyOf_int_mk Try.underlying3 (wf64 hwx.t0 hwx.t1)
          have HT := hid' hto
          have HMP := hid' hmp
          have HBW := hid' hbw
          obtain ⟨D, hD, hsz, hf⟩ := hmp
          have hfk := hf ls[k].to
          have HF := hid' hf
          have HK := hid' hkey
          clear hf hto hbw
          generalize hx : ls[k] = x at *
          have HX := hid' hx
          clear hx
          obtain ⟨l, o, d, a, bb, im, t⟩ := x
          simp only at *
          have hD2 := fun o => hD.alloc (P := Try.prog) o
          by_cases ht : t = 0
          · subst ht
            go_wp2_with (at_lookup; refine wpList_lookup_own_ok_int _ rfl _ _ 38 rfl 3 3 .i64 law3 Try.underlying38 Try.underlying3 (zero3 _) mb ls.length D rfl (hD2 _) _ _ rfl HK.out ?_; intro c hat hwc)
            go_roundw
            case rel => exact ⟨k + 1, by omega, by go_num, fun j hj hjk hne => by
              by_cases e : j = k
              · subst e; rw [HX.out] at hne; exact absurd rfl hne
              · exact HT.out j hj (by omega) hne, HMP.out.alloc _, HBW.out.trans ((below1 _ _).mono HBW.out.size)⟩
            case measure => simp [intOf]; omega
          · have ht' : (t != 0) = true := by simp [ht]
            by_cases hin3 : t ∈ labL ls
            · have hh : Maps.has D (.int .i64 t) = true := by
                rw [hfk.1]
                obtain ⟨p, hp⟩ := labs_some hin3
                rw [hp]; rfl
              go_wp2_with (at_lookup; refine wpList_lookup_own_ok_int _ rfl _ _ 38 rfl 3 3 .i64 law3 Try.underlying38 Try.underlying3 (zero3 _) mb ls.length D rfl (hD2 _) _ _ rfl HK.out ?_; intro c hat hwc; rw [hh])
              go_roundw
              case rel => exact ⟨k + 1, by omega, by go_num, fun j hj hjk hne => by
                by_cases e : j = k
                · subst e; rw [HX.out]; exact hin3
                · exact HT.out j hj (by omega) hne, HMP.out.alloc _, HBW.out.trans ((below1 _ _).mono HBW.out.size)⟩
              case measure => simp [intOf]; omega
            · have hh : Maps.has D (.int .i64 t) = false := by rw [hfk.1, (labs_none _ _).2 (.inl hin3)]; rfl
              go_wp2_with (at_lookup; refine wpList_lookup_own_ok_int _ rfl _ _ 38 rfl 3 3 .i64 law3 Try.underlying38 Try.underlying3 (zero3 _) mb ls.length D rfl (hD2 _) _ _ rfl HK.out ?_; intro c hat hwc; rw [hh])
              go_ret2
              exact .inl ⟨rfl, .inr ⟨ls[k], List.getElem_mem _, by rw [HX.out]; exact ht, by rw [HX.out]; exact hin3⟩, HBW.out.trans ((below1 _ _).mono HBW.out.size)⟩
        · have : k = ls.length := by omega
          subst this
          have HT := hid' hto
          have HMP := hid' hmp
          have HBW := hid' hbw
          clear hto hmp hbw
          go_wp2
          go_ret2
          exact .inr ⟨mb, rfl, hB.out, HMP.out, HN.out, fun x hx hne => by
            obtain ⟨j, hj, rfl⟩ := List.mem_iff_getElem.1 hx
            exact HT.out j hj hj hne, HBW.out⟩
end Go.Proofs.Ytgnlplddppheiaa
