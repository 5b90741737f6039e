/- Sets compared, and counted. -/
import Derived.Test.YtjhndnhldhmjnaaDoorUs
namespace Go.Proofs.YtjhndnhldhmjnaaDoor
open Go Go.RowKit Go.Maps
set_option linter.unusedVariables false
set_option linter.unusedSimpArgs false
set_option maxRecDepth 20000 in
set_option maxHeartbeats 4000000 in
theorem equal45 {w : World} {v v' : Value} {xs ys : List Wd} (h : Src ucell w v xs) (h' : Src ucell w v' ys) (hl : xs.length ≤ 1024) (hl' : ys.length ≤ 1024) :
    Calls Tryd.prog 45 #[v, v'] w fun e w' => e = .returned (.bool (decide (xs = ys))) ∧ ∃ d, w' = w.drewN d := by
  obtain ⟨ao, cp, rfl, hf⟩ := h.words
  obtain ⟨ao', cp', rfl, hf'⟩ := h'.words
  have HF := hid' hf
  have HF' := hid' hf'
  clear h h' hf hf'
  by_cases hlen : xs.length = ys.length
  · have hlb : (!((xs.length : Int) == (ys.length : Int))) = false := by rw [hlen]; simp
    go_enter Tryd.func45, Tryd.ntmps45
    go_wp2_with fail
    go_loopw [13] (fun iv wr => ∃ (j d : Nat), j ≤ xs.length ∧ iv = .int .i64 j ∧ wr = w.drewN d ∧ ∀ i, i < j → xs.getD i 0 = ys.getD i 0) (fun iv _ => xs.length - (intOf iv).toNat)
    case atStart => exact ⟨0, 0, Nat.zero_le _, rfl, rfl, fun i hi => by omega⟩
    case round =>
      obtain ⟨j, d, hj, rfl, rfl, hq⟩ := hrel
      have HQ := hid' hq
      clear hq
      by_cases hjl : j < xs.length
      · obtain ⟨b, off, rfl, hb1, hc1, hx⟩ := HF.out j hjl
        obtain ⟨b', off', rfl, hb1', hc1', hx'⟩ := HF'.out j (by omega)
        have c1 := hx (w.drewN d) (bdrew (Below.refl _ _) d)
        have c2 := hx' (w.drewN d) (bdrew (Below.refl _ _) d)
        have e1 : xs.getD j 0 = xs[j] := getD_lt hjl
        have e2 : ys.getD j 0 = ys[j]'(by omega) := getD_lt (by omega)
        have jl' : j < ys.length := by omega
        have hbq := b_beq xs[j] ys[j]
        have HNE : Hid (xs[j] ≠ ys[j] → xs ≠ ys) := fun hne e => hne (by subst e; rfl)
        clear hx hx'
        by_cases he : xs[j] = ys[j]
        · rw [decide_eq_true he] at hbq
          have HE : Hid (xs.getD j 0 = ys.getD j 0) := by unfold Hid; rw [e1, e2]; exact he
          rw [← he] at c2 hbq
          clear he e1 e2 HNE
          generalize xs[j] = x at *
          generalize hW : w.drewN d = W at *
          unfold uv at *
          go_wp2_with fail
          go_quiet (fail)
          go_wp2_with fail
          subst hW
          refine ⟨⟨j + 1, d + nq, by omega, by go_num, by rw [World.drewN_drewN], fun i hi => ?_⟩, by simp [intOf]; omega⟩
          by_cases e : i = j
          · subst e; exact HE.out
          · exact HQ.out i (by omega)
        · rw [decide_eq_false he] at hbq
          have HN := hid' (HNE.out he)
          have hnn : ¬ ((xs[j].toNat : Int) = (ys[j].toNat : Int)) := by rw [b_eq]; exact he
          clear he e1 e2 HNE
          generalize xs[j] = x at *
          generalize ys[j] = y at *
          generalize hW : w.drewN d = W at *
          unfold uv at *
          go_wp2_with fail
          go_quiet (fail)
          go_wp2_with fail
          go_ret
          subst hW
          exact ⟨by rw [decide_eq_false HN.out]; rfl, d + nq, by rw [World.drewN_drewN]⟩
      · have e : j = xs.length := by omega
        subst e
        have HE : Hid (xs = ys) := List.ext_getElem hlen fun i h1 h2 => by
          have := HQ.out i h1
          rw [getD_lt h1, getD_lt h2] at this
          exact this
        go_wp2_with fail
        go_ret
        exact ⟨by rw [decide_eq_true HE.out]; rfl, d, rfl⟩
  · have hne : xs ≠ ys := fun e => hlen (by rw [e])
    rw [decide_eq_false hne]
    have hlb : (!((xs.length : Int) == (ys.length : Int))) = true := by simp; omega
    clear hne
    go_enter Tryd.func45, Tryd.ntmps45
    go_wp2_with fail
    go_ret
    exact ⟨rfl, 0, rfl⟩
set_option maxRecDepth 20000 in
set_option maxHeartbeats 4000000 in
theorem equal27 {w : World} {v v' : Value} {xs ys : List Wd} (h : SetIs w v xs) (h' : SetIs w v' ys) :
    Calls Tryd.prog 27 #[v, v'] w fun e w' => e = .returned (.bool (decide (xs = ys))) ∧ Below w.heap.size w w' := by
  obtain ⟨⟨rv, rfl, hs⟩, _, hle⟩ := h
  obtain ⟨⟨rv', rfl, hs'⟩, _, hle'⟩ := h'
  have hb := below2 w (.cells #[rv] 49) (.cells #[rv'] 49)
  have KE := equal45 (hs.on hb) (hs'.on hb) hle hle'
  have HB := hid' hb
  obtain ⟨ao, cp, rfl⟩ := hs.len
  obtain ⟨ao', cp', rfl⟩ := hs'.len
  generalize decide (xs = ys) = r at *
  clear hs hs' hb
  go_enter Tryd.func27, Tryd.ntmps27
  go_wp2_with (go_at_call 45; refine KE.mono ?_; rintro e9 w9 ⟨rfl, d9, rfl⟩)
  go_ret
  exact ⟨rfl, bdrew HB.out d9⟩
/-- How many bits a word has, as it is reckoned. -/
def ones (x : Wd) : Wd :=
  let a := (x >>> 1 &&& 6148914691236517205#64) + (x &&& 6148914691236517205#64)
  let b := (a >>> 2 &&& 3689348814741910323#64) + (a &&& 3689348814741910323#64)
  let c := (b >>> 4 + b) &&& 1085102592571150095#64
  let d := c + c >>> 8
  let e := d + d >>> 16
  let f := e + e >>> 32
  f &&& 127#64
end Go.Proofs.YtjhndnhldhmjnaaDoor
