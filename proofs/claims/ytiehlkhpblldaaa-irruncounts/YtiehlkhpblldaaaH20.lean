/- The globals' data; a program but for its functions. -/
import Derived.Test.YtiehlkhpblldaaaH03
set_option linter.unusedVariables false
set_option linter.unusedSimpArgs false
set_option maxRecDepth 20000
set_option maxHeartbeats 8000000
namespace Go.Proofs.Ytiehlkhpblldaaa
open Go.RowKit Go.Maps

def datF (g : Int) : Int → List Fi → Bool
  | _, [] => true
  | at_, d :: l => decide (0 < d.by_.size) && (winF d.at_ at_ (g - d.by_.size) && datF g (d.at_ + d.by_.size) l)
theorem dat_next {g at_ : Int} {l : List Fi} {k : Nat} (hk : k < l.length) : datF g at_ (l.drop k) = (decide (0 < l[k].by_.size) && (winF l[k].at_ at_ (g - l[k].by_.size) && datF g (l[k].at_ + l[k].by_.size) (l.drop (k + 1)))) := by
  rw [List.drop_eq_getElem_cons hk]
  rfl
theorem dataFits45 {w : World} {p : Pg} (h : Pg.ok w p) (h0 : 0 ≤ p.global) (h1 : p.global ≤ 65536) :
    Calls Try.prog 37 #[p.val] w fun e w' => e = .returned (.bool (datF p.global 0 p.data)) ∧ Below w.heap.size w w' := by
  obtain ⟨fv, funcs, gl, dv, data, main⟩ := p
  obtain ⟨hf, hfl, hd, hdl, _, hds⟩ := h
  dsimp only at *
  obtain ⟨fo, fc, rfl⟩ := hf.len
  obtain ⟨dd, dc, rfl, hfo⟩ := hd.form fi2
  have HF := hid' hfo
  have HS := hid' hds
  unfold big at hdl hfl
  unfold Pg.val
  clear hf hd hfo hds
  go_enter Try.func37, Try.ntmps37
  go_wp2
  go_loopw [3, 9] (fun a i wr => ∃ (k : Nat) (A : Int), k ≤ data.length ∧ i = .int .i64 k ∧ a = .int .i64 A ∧ 0 ≤ A ∧ A ≤ 65536 ∧ datF gl 0 data = datF gl A (data.drop k) ∧ Below (w.alloc (.cells #[.slice fo funcs.length fc, .int .i64 gl, .slice dd data.length dc, .int .i64 main] 25)).heap.size (w.alloc (.cells #[.slice fo funcs.length fc, .int .i64 gl, .slice dd data.length dc, .int .i64 main] 25)) wr) (fun _ i _ => data.length - (intOf i).toNat)
  case atStart => exact ⟨0, 0, Nat.zero_le _, rfl, rfl, by omega, by omega, rfl, Below.refl _ _⟩
  case round =>
    obtain ⟨k, A, hk, rfl, rfl, a0, a1, hdf, hbw⟩ := hrel
    have HD := hid' hdf
    have HB := hid' hbw
    obtain ⟨hsz, hB0, f0, f1, f2, f3⟩ := pbox hbw
    have HB0 := hid' hB0
    clear hdf hbw hB0
    by_cases hlt : k < data.length
    · obtain ⟨b, o, rfl, hb1, hc1, hx⟩ := HF.out k hlt
      obtain ⟨c0, c1⟩ := fi_cells (hx wr HB0.out)
      have HN := hid' (dat_next (g := gl) (at_ := A) hlt)
      have hs := HS.out _ (List.getElem_mem hlt)
      have hw := within44 data[k].at_ A (gl - data[k].by_.size)
      unfold big at hs
      clear hx
      have hne : ¬ w.heap.size = wr.heap.size := by omega
      have hnb : ¬ b = wr.heap.size := by have := HB0.out.size; omega
      by_cases hz : data[k].by_.size = 0
      · have HR : Hid (datF gl 0 data = false) := by unfold Hid; rw [HD.out, HN.out, hz]; simp
        have hz' : (data[k].by_.size : Int) = 0 := by omega
        clear hw
        generalize data[k] = x at *
        go_wp2
        go_ret
        exact ⟨by rw [HR.out]; rfl, HB0.out.alloc HB0.out.size _⟩
      · have hz' : ¬ (data[k].by_.size : Int) = 0 := by omega
        have HN2 : Hid (datF gl 0 data = (winF data[k].at_ A (gl - data[k].by_.size) && datF gl (data[k].at_ + data[k].by_.size) (data.drop (k + 1)))) := by unfold Hid; rw [HD.out, HN.out, decide_eq_true (by omega : 0 < data[k].by_.size), Bool.true_and]
        cases hq : winF data[k].at_ A (gl - data[k].by_.size)
        · rw [hq] at hw HN2
          clear hq HN
          generalize data[k] = x at *
          go_wp2_with (go_at_call 36; refine (hw _).mono ?_; rintro e1 w1 ⟨rfl, rfl⟩)
          go_ret
          exact ⟨by rw [HN2.out]; rfl, HB0.out.alloc HB0.out.size _⟩
        · have hq' := of_decide_eq_true hq
          rw [hq] at hw HN2
          clear hq HN
          generalize data[k] = x at *
          obtain ⟨q1, q2⟩ := hq'
          go_wp2_with (go_at_call 36; refine (hw _).mono ?_; rintro e1 w1 ⟨rfl, rfl⟩)
          go_roundw
          case rel => exact ⟨k + 1, _, by omega, by go_num, rfl, by omega, by omega, by rw [HN2.out]; rfl, HB.out.alloc HB.out.size _⟩
          case measure => simp [intOf]; omega
    · have e : k = data.length := by omega
      subst e
      have HR : Hid (datF gl 0 data = true) := by unfold Hid; rw [HD.out, List.drop_length]; rfl
      go_wp2
      go_ret
      exact ⟨by rw [HR.out]; rfl, HB0.out⟩

def pms (p : Pg) : Int := (p.funcs[p.main.toNat]?.map Fn.params).getD 0
/-- May a program be, but for its functions one by one? -/
def mayF (p : Pg) : Bool := winF (p.funcs.length : Nat) 1 256 && (winF p.global 0 65536 && (datF p.global 0 p.data && (winF p.main 0 ((p.funcs.length : Nat) - 1) && decide (pms p = 0))))
theorem mayBe25 {w : World} {p : Pg} (h : Pg.ok w p) :
    Calls Try.prog 21 #[p.val] w fun e w' => e = .returned (.bool (mayF p)) ∧ Below w.heap.size w w' := by
  have H45 : Hid (∀ W, Below w.heap.size w W → 0 ≤ p.global ∧ p.global ≤ 65536 → Calls Try.prog 37 #[p.val] W fun e w' => e = .returned (.bool (datF p.global 0 p.data)) ∧ Below W.heap.size W w') := fun W hW hg => dataFits45 (h.on hW) hg.1 hg.2
  unfold mayF pms
  obtain ⟨fv, funcs, gl, dv, data, main⟩ := p
  obtain ⟨hf, hfl, hd, hdl, _, hds⟩ := h
  dsimp only at *
  obtain ⟨fo, fc, rfl, hff⟩ := hf.form fn5
  have HF := hid' hff
  obtain ⟨dd, dc, rfl⟩ := hd.len
  unfold big at hdl hfl
  unfold Pg.val at *
  dsimp only at *
  clear hf hd hff hds
  have hw1 := within44 (funcs.length : Nat) 1 256
  cases q1 : winF (funcs.length : Nat) 1 256
  · rw [q1] at hw1
    clear q1
    go_enter Try.func21, Try.ntmps21
    go_wp2_with (go_at_call 36; with_reducible refine (hw1 _).mono ?_; rintro e1 w1 ⟨rfl, rfl⟩)
    go_ret
    exact ⟨by simp, below1 _ _⟩
  have hn := of_decide_eq_true q1
  rw [q1] at hw1
  clear q1
  have hw2 := within44 gl 0 65536
  cases q2 : winF gl 0 65536
  · rw [q2] at hw2
    clear q2
    go_enter Try.func21, Try.ntmps21
    go_wp2_with (first
      | (go_at_call 36; with_reducible refine (hw1 _).mono ?_; rintro e1 w1 ⟨rfl, rfl⟩)
      | (go_at_call 36; with_reducible refine (hw2 _).mono ?_; rintro e1 w1 ⟨rfl, rfl⟩))
    go_ret
    exact ⟨by simp, below1 _ _⟩
  have H45' := fun W hW => H45.out W hW (of_decide_eq_true q2)
  rw [q2] at hw2
  clear q2 H45
  generalize datF gl 0 data = q3 at *
  cases q3
  · go_enter Try.func21, Try.ntmps21
    go_wp2_with (first
      | (go_at_call 36; with_reducible refine (hw1 _).mono ?_; rintro e1 w1 ⟨rfl, rfl⟩)
      | (go_at_call 36; with_reducible refine (hw2 _).mono ?_; rintro e1 w1 ⟨rfl, rfl⟩)
      | (go_at_call 37; refine (H45' _ (below1 _ _)).mono ?_; rintro e1 w2 ⟨rfl, hb2⟩; obtain ⟨hc2, hf2⟩ := bcell hb2; have hs2 := hb2.size))
    go_ret
    exact ⟨by simp, below_up (below1 _ _) hb2⟩
  have hw3 := within44 main 0 ((funcs.length : Nat) - 1)
  have hnn : (1 : Int) ≤ funcs.length := hn.1
  cases q4 : winF main 0 ((funcs.length : Nat) - 1)
  · rw [q4] at hw3
    clear q4
    go_enter Try.func21, Try.ntmps21
    go_wp2_with (first
      | (go_at_call 36; with_reducible refine (hw1 _).mono ?_; rintro e1 w1 ⟨rfl, rfl⟩)
      | (go_at_call 36; with_reducible refine (hw2 _).mono ?_; rintro e1 w1 ⟨rfl, rfl⟩)
      | (go_at_call 36; with_reducible refine (hw3 _).mono ?_; rintro e1 w1 ⟨rfl, rfl⟩)
      | (go_at_call 37; refine (H45' _ (below1 _ _)).mono ?_; rintro e1 w2 ⟨rfl, hb2⟩; obtain ⟨hc2, hf2⟩ := bcell hb2; have hs2 := hb2.size))
    go_ret
    exact ⟨by simp, below_up (below1 _ _) hb2⟩
  have hq := of_decide_eq_true q4
  rw [q4] at hw3
  clear q4
  obtain ⟨k, rfl⟩ : ∃ k : Nat, main = k := ⟨main.toNat, by omega⟩
  have hk : k < funcs.length := by omega
  obtain ⟨b, o, rfl, hb1, hc1, hx⟩ := HF.out k hk
  have c1 : w.cell? ⟨b, o + k * 5 + 1, none⟩ = some (.int .i64 funcs[k].params) := (fn_cells (hx w (Below.refl _ _))).2.1
  rw [Int.toNat_natCast, List.getElem?_eq_getElem hk]
  clear hx
  simp only [Option.map_some, Option.getD_some]
  generalize funcs[k] = f at *
  go_enter Try.func21, Try.ntmps21
  go_wp2_with (first
    | (go_at_call 36; with_reducible refine (hw1 _).mono ?_; rintro e1 w1 ⟨rfl, rfl⟩)
    | (go_at_call 36; with_reducible refine (hw2 _).mono ?_; rintro e1 w1 ⟨rfl, rfl⟩)
    | (go_at_call 36; with_reducible refine (hw3 _).mono ?_; rintro e1 w1 ⟨rfl, rfl⟩)
    | (go_at_call 37; refine (H45' _ (below1 _ _)).mono ?_; rintro e1 w2 ⟨rfl, hb2⟩; obtain ⟨hc2, hf2⟩ := bcell hb2; have hs2 := hb2.size; have HB2 := hid' hb2))
  go_ret
  refine ⟨?_, below_up (below1 _ _) HB2.out⟩
  by_cases h : f.params = 0 <;> simp [h]
end Go.Proofs.Ytiehlkhpblldaaa
