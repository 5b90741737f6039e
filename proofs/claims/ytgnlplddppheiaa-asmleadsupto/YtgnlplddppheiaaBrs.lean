/- branches: the branches with To. -/
import Derived.Test.YtgnlplddppheiaaFindR
import Derived.Test.YtgnlplddppheiaaLongs
namespace Go.Proofs.Ytgnlplddppheiaa
open Go.RowKit Go.Maps Go.Sort
set_option linter.unusedVariables false

/-- The first i lines have been looked at. -/
structure BMid (w : World) (f : Int → Option Nat) (ls : List Ln) (i : Nat) (v k : Value) (W : World) : Prop where
  own : W.ownsRow w.heap.size 80 3 v (brGo f 0 (ls.take i)).length (cells3 (brGo f 0 (ls.take i)))
  cnt : k = .int .i64 ((insN (ls.take i) : Nat) : Int)
  below : Below w.heap.size w W

section
variable {w W W' : World} {f : Int → Option Nat} {ls : List Ln} {i : Nat} {v v' k k' : Value}
theorem BMid.skip (h : BMid w f ls i v k W) (hi : i < ls.length) (hb : Below W.heap.size W W') (he : brGo f (insN (ls.take i)) [ls[i]] = []) (hk : k' = .int .i64 ((insN (ls.take i) + insN [ls[i]] : Nat) : Int)) : BMid w f ls (i + 1) v k' W' := by
  have e : brGo f 0 (ls.take (i + 1)) = brGo f 0 (ls.take i) := by rw [taken' ls i hi, brGo_append, Nat.zero_add, he, List.append_nil]
  refine ⟨?_, by rw [hk, taken' ls i hi, insN_append], h.below.trans (hb.mono h.below.size)⟩
  rw [e]
  exact (Kept.of_below (S := fun _ => False) hb).owns h.own (fun _ _ e => e)
theorem BMid.add (h : BMid w f ls i v k W) (hi : i < ls.length) {x : Nat × Nat × Nat} (he : brGo f (insN (ls.take i)) [ls[i]] = [x]) (hk : k' = .int .i64 ((insN (ls.take i) + insN [ls[i]] : Nat) : Int)) (hB : Kept (fun b => v.ownBlock = some b) W W')
    (ho : W'.ownsRow w.heap.size 80 3 v' ((brGo f 0 (ls.take i)).length + 1) (cells3 (brGo f 0 (ls.take i)) ++ enc3 x)) : BMid w f ls (i + 1) v' k' W' := by
  have e : brGo f 0 (ls.take (i + 1)) = brGo f 0 (ls.take i) ++ [x] := by rw [taken' ls i hi, brGo_append, Nat.zero_add, he]
  refine ⟨?_, by rw [hk, taken' ls i hi, insN_append], h.below.trans (hB.below h.below.size (fun b hb => (h.own.lt b hb).1))⟩
  rw [e, cells3_append, List.length_append]
  have : cells3 [x] = enc3 x := by simp [cells3]
  rw [this]; exact ho
end

theorem at_c {d : DataW Unit} {p : Nat} {c : Int} (h1 : d = .lit (.int .i64 (p : Int))) (h2 : d = .lit (.int .i64 c)) : c = (p : Int) := by
  rw [h1] at h2
  injection h2 with h2
  injection h2 with _ h2
  exact h2.symm

theorem branches_none (ao : Option Addr) (cap : Nat) (m : Value) (w : World) :
    Calls Try.prog 30 #[.slice ao 0 cap, m] w fun e w' => e = .returned (.slice none 0 0) ∧ w' = w := by
  go_enter Try.func30, Try.ntmps30
  go_wp2
  refine wp_loop_rounds 1 ?_
  rw [rounds_succ]
  go_wp2
  go_ret
  exact ⟨rfl, rfl⟩

set_option maxRecDepth 100000 in
set_option maxHeartbeats 4000000 in
theorem branches_some {w : World} {b cap mb s : Nat} {ls : List Ln} {f : Int → Option Nat} (hf2 : ∀ t p, f t = some p → p ≤ 300000) (hm : IsMapL w mb ls.length s f) (hn : ls.length ≤ 262144) (hwf : ∀ x ∈ ls, x.wf) (hl : b < w.heap.size) (ha : LnsAt w b ls) :
    Calls Try.prog 30 #[.slice (some ⟨b, 0, none⟩) ls.length cap, .map (some mb)] w fun e w' => ∃ v, e = .returned v ∧ w'.ownsRow w.heap.size 80 3 v (brGo f 0 ls).length (cells3 (brGo f 0 ls)) ∧ Below w.heap.size w w' := by
  obtain ⟨i80, hi80, z80, z81, z82⟩ := info_parts info80'
  have HA := hid' ha
  have hmlt := hm.lt
  have HM := hid' hm
  clear ha hm
  go_enter Try.func30, Try.ntmps30
  go_wp2
  go_loopw [5, 6, 11] (fun v c i wr => ∃ k : Nat, k ≤ ls.length ∧ i = .int .i64 k ∧ BMid w f ls k v c wr) (fun _ _ i _ => ls.length - (intOf i).toNat)
  case atStart => exact ⟨0, Nat.zero_le _, rfl, World.ownsRow_nil _ _ _ _, by simp [insN], Below.refl _ _⟩
  case round =>
    obtain ⟨k, hk, rfl, hMd⟩ := hrel
    by_cases hlt : k < ls.length
    · obtain ⟨c0, c1, c2, c3, c4, c5, c6⟩ := HA.out.below (w' := wr) hMd.below hl k hlt
      have hwx := hwf ls[k] (List.getElem_mem _)
      have hcnt := hMd.cnt
      subst hcnt
      have hin := insN_le (ls.take k)
      have hin2 : (ls.take k).length ≤ k := by simp; omega
      have hkey : keyOf Try.prog 3 (.int .i64 ls[k].to) = some (.int .i64 ls[k].to) := keyOf_int_mk Try.underlying3 (wf64 hwx.t0 hwx.t1)
      have HK := hid' hkey
      have hbl := brGo_len f (ls.take k) 0
      have HMd := hid' hMd
      obtain ⟨D, hD, hsz, hf⟩ := HM.out.kept (S := fun _ => False) (w' := wr) (⟨hMd.below.os, hMd.below.tape, hMd.below.output, hMd.below.size, fun j hj _ => hMd.below.block j hj⟩) (fun e => e)
      have hfk := (hf ls[k].to).2
      have hone := brGo_one f (insN (ls.take k)) ls[k]
      have hio := insN_one ls[k]
      have HO := hid' hone
      have HIO := hid' hio
      clear hf hkey hone hio hMd
      generalize hx : ls[k] = x at *
      have HX := hid' hx
      clear hx
      obtain ⟨l, o, d, a, bb, im, t⟩ := x
      simp only at *
      have hAs := asks42 o
      generalize hcn : insN (ls.take k) = cn at *
      have HC := hid' hcn
      clear hcn
      by_cases hz : l = 0
      · subst hz
        have hI := isLabel19 0 o d a bb im t
        simp only [bne_self_eq_false] at hI
        by_cases ht : t = 0
        · subst ht
          go_wp2_with (first
            | (go_at_call 19; refine (hI _).mono ?_; rintro e w2 ⟨rfl, hb2⟩; obtain ⟨hc2, hf2'⟩ := bcell hb2))
          have hN := HMd.out.skip (k' := .int .i64 ((cn : Int) + 1)) hlt (below_call hb2) (by rw [HX.out, HC.out, HO.out]; simp) (by rw [HX.out, HC.out, HIO.out]; simp)
          have HN := hid' hN
          clear hN hb2 hc2 hf2' c0 c1 c2 c3 c4 c5 c6
          go_roundw
          case rel => exact ⟨k + 1, by omega, by go_num, HN.out⟩
          case measure => simp [intOf]; omega
        · have ht' : (t != 0) = true := by simp [ht]
          cases hq : askF o
          · rw [hq] at hAs
            go_wp2_with (first
              | (go_at_call 19; refine (hI _).mono ?_; rintro e w2 ⟨rfl, hb2⟩; obtain ⟨hc2, hf2'⟩ := bcell hb2)
              | (go_at_call 42; refine (hAs _).mono ?_; rintro e w' ⟨rfl, hw⟩; have hv := hw.symm; clear hw; subst hv))
            have hN := HMd.out.skip (k' := .int .i64 ((cn : Int) + 1)) hlt (below_call hb2) (by rw [HX.out, HC.out, HO.out]; simp [hq]) (by rw [HX.out, HC.out, HIO.out]; simp)
            have HN := hid' hN
            clear hN hb2 hc2 hf2' c0 c1 c2 c3 c4 c5 c6
            go_roundw
            case rel => exact ⟨k + 1, by omega, by go_num, HN.out⟩
            case measure => simp [intOf]; omega
          · rw [hq] at hAs
            obtain ⟨p, hp⟩ : ∃ p, p = (f t).getD 0 := ⟨_, rfl⟩
            rw [← hp] at hfk
            have hp2 : p ≤ 300000 := by
              rw [hp]
              cases e : f t with
              | none => simp
              | some q => simpa using hf2 _ _ e
            have HB := branchTo43 cn p (by omega) (by omega)
            have HP := hid' hp
            clear hp
            generalize hbr : brTo cn p = br at HB
            have HBR := hid' hbr
            clear hbr
            obtain ⟨b0, b1, b2⟩ := br
            simp only at HB
            go_wp2_with (first
              | (go_at_call 19; refine (hI _).mono ?_; rintro e w2 ⟨rfl, hb2⟩; obtain ⟨hc2, hf2'⟩ := bcell hb2; have hD2 := (Kept.of_below (S := fun _ => False) (below_call hb2)).omap hD (fun e => e))
              | (go_at_call 42; refine (hAs _).mono ?_; rintro e w' ⟨rfl, hw⟩; have hv := hw.symm; clear hw; subst hv)
              | (at_lookup; refine wpList_lookup_own_int _ rfl _ _ 38 rfl 3 3 .i64 law3 Try.underlying38 Try.underlying3 (zero3 _) mb ls.length D rfl hD2 _ _ rfl HK.out ?_; intro c hat hwc; have hcp := at_c hfk hat; subst hcp)
              | (go_at_call 43; refine (HB _).mono ?_; rintro e w3 ⟨rfl, hb3⟩)
              | (at_builtin; refine of_mark ?_))
            unfold Mark
            have hO3 := (Kept.of_below (S := fun _ => False) (below_on (below_call hb2) hb3)).owns HMd.out.own (fun _ _ e => e)
            refine wpList_append_own_at _ rfl _ _ 67 rfl w.heap.size 80 i80 (.agg #[.int .i64 0, .int .i64 0, .int .i64 0]) 3 24 Try.underlying67 hi80 z80 z81 z82 rfl (by decide) u5 _ _ rfl (hO3.alloc _) ⟨w3.heap.size, 0, none⟩ 1 1 [.int .i64 (b0 : Int), .int .i64 (b1 : Int), .int .i64 (b2 : Int)] rfl rfl (cell_three_at (by simp [go_sem]) (by simp [go_sem]) (by simp [go_sem])) (by intro z hz; simp at hz; rcases hz with rfl | rfl | rfl <;> rfl) (by unfold maxLen; omega) (by omega) (by have := HMd.out.below.size; have := hb2.size; have := hb3.size; simp at *; omega) ?_
            intro v' w4 hown' hgrow hnil hloc
            have KK : Kept (fun b => u5.ownBlock = some b) wr w4 := ((Kept.of_below (below_on (below_call hb2) hb3)).alloc _).trans (Kept.of_grown hgrow (fun k hk => hk))
            have hN := HMd.out.add (k' := .int .i64 ((cn : Int) + 1)) (x := (b0, b1, b2)) hlt (by rw [HX.out, HC.out, HO.out]; simp [hq, ht]; rw [← HP.out, HBR.out]) (by rw [HX.out, HC.out, HIO.out]; simp) KK hown'
            have HN := hid' hN
            clear hN hb2 hc2 hf2' c0 c1 c2 c3 c4 c5 c6 hown' hgrow hnil hloc KK hO3 hb3 hD2
            go_wp2
            go_roundw
            case rel => exact ⟨k + 1, by omega, by go_num, HN.out⟩
            case measure => simp [intOf]; omega
      · have e1 : (l != 0) = true := by simp [hz]
        have hI := isLabel19 l o d a bb im t
        rw [e1] at hI
        go_wp2_with (first
          | (go_at_call 19; refine (hI _).mono ?_; rintro e w2 ⟨rfl, hb2⟩; obtain ⟨hc2, hf2'⟩ := bcell hb2))
        have hN := HMd.out.skip (k' := .int .i64 (cn : Int)) hlt (below_call hb2) (by rw [HX.out, HC.out, HO.out]; simp [hz]) (by rw [HX.out, HC.out, HIO.out]; simp [hz])
        have HN := hid' hN
        clear hN hb2 hc2 hf2' c0 c1 c2 c3 c4 c5 c6
        go_roundw
        case rel => exact ⟨k + 1, by omega, by go_num, HN.out⟩
        case measure => simp [intOf]; omega
    · have : k = ls.length := by omega
      subst this
      obtain ⟨ho, hc, hb⟩ := hMd
      rw [List.take_of_length_le (Nat.le_refl _)] at ho
      have HO := hid' ho
      have HB := hid' hb
      clear ho hb
      go_wp2
      go_ret
      exact ⟨_, rfl, HO.out, HB.out⟩
end Go.Proofs.Ytgnlplddppheiaa
