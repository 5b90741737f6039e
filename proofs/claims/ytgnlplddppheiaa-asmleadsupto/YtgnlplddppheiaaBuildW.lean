/- build's walks. -/
import Derived.Test.YtgnlplddppheiaaBuild
namespace Go.Proofs.Ytgnlplddppheiaa
open Go.RowKit Go.Sort Go.Lib
set_option linter.unusedVariables false

/-- What is asked of the branches. -/
def Good3 (x : Nat × Nat × Nat) : Prop := x.1 ≤ 1000000 ∧ x.2.1 ≤ x.2.2 ∧ x.2.2 ≤ 1000000 ∧ x.2.2 - x.2.1 ≤ 32767

/-- What build leaves. -/
def Built (w w' : World) (tb n k blk off m : Nat) (h : Nat → Int) (d : Array (Nat × Nat × Nat)) : Prop :=
  ∃ h' T, IsTree w' tb n h' ∧ Inv h' [] [] T k 0 ∧ Fit n T k ∧ (lvs T).Perm (d.toList.map mkBr) ∧ (∀ c, ¬ Anc (c / 7) k → h' c = h c) ∧ Kept (fun b => b = tb ∨ b = blk) w w' ∧
    (∀ o, o < off ∨ off + 3 * m ≤ o → w'.cell? ⟨blk, o, none⟩ = w.cell? ⟨blk, o, none⟩ ∧ w'.frozen? ⟨blk, o, none⟩ = w.frozen? ⟨blk, o, none⟩)

def BuildOk (m : Nat) : Prop := ∀ (tb n k blk off cap D : Nat) (byLow : Bool) (h : Nat → Int) (d : Array (Nat × Nat × Nat)) (w : World), d.size = m → 1 ≤ m → IsTree w tb n h → HoldsK enc3 3 w blk off d → blk < w.heap.size → tb ≠ blk → 1 ≤ k →
  m ≤ 2 ^ D → (k + 1) * 2 ^ D ≤ n → n ≤ 4000000 → m ≤ 1000000 → m ≤ cap → (∀ x ∈ d.toList, Good3 x) →
  Calls Try.prog 52 #[.slice (some ⟨tb, 0, none⟩) n n, .int .i64 k, .slice (some ⟨blk, off, none⟩) m cap, .bool byLow] w fun e w' => e = .returned (.tuple #[]) ∧ Built w w' tb n k blk off m h d

theorem fit_top {k D n : Nat} (h : (k + 1) * 2 ^ D ≤ n) : k < n := by
  have : 1 ≤ 2 ^ D := Nat.one_le_two_pow
  have := Nat.mul_le_mul_left (k + 1) this
  omega

set_option maxRecDepth 100000 in
set_option maxHeartbeats 2000000 in
theorem build_one (tb n k blk off cap : Nat) (byLow : Bool) (h : Nat → Int) (d : Array (Nat × Nat × Nat)) (w : World) (hd : d.size = 1) (ht : IsTree w tb n h) (hH : HoldsK enc3 3 w blk off d) (hblk : blk < w.heap.size) (hne : tb ≠ blk) (k1 : 1 ≤ k) (hk : k < n) (hn : n ≤ 4000000) (hg : ∀ x ∈ d.toList, Good3 x) :
    Calls Try.prog 52 #[.slice (some ⟨tb, 0, none⟩) n n, .int .i64 k, .slice (some ⟨blk, off, none⟩) 1 cap, .bool byLow] w fun e w' => e = .returned (.tuple #[]) ∧ Built w w' tb n k blk off 1 h d := by
  obtain ⟨x, hx⟩ : ∃ x, d = #[x] := by
    obtain ⟨l⟩ := d
    match l, hd with
    | [x], _ => exact ⟨x, rfl⟩
  subst hx
  have g := hg x (by simp)
  clear hg hd
  have e0 := (hH.cell (i := 0) (c := 0) (by simp) (by omega)).1
  have e1 := (hH.cell (i := 0) (c := 1) (by simp) (by omega)).1
  have e2 := (hH.cell (i := 0) (c := 2) (by simp) (by omega)).1
  simp [enc3] at e0 e1 e2
  clear hH
  obtain ⟨x0, x1, x2⟩ := x
  unfold Good3 at g
  simp only at e0 e1 e2 g
  have t0 := ht.lt
  have d0 := ht.cell hk (show 0 < 7 by omega); have d1 := ht.cell hk (show 1 < 7 by omega); have d2 := ht.cell hk (show 2 < 7 by omega); have d3 := ht.cell hk (show 3 < 7 by omega); have d4 := ht.cell hk (show 4 < 7 by omega); have d5 := ht.cell hk (show 5 < 7 by omega); have d6 := ht.cell hk (show 6 < 7 by omega)
  have f := ht.free
  simp only [Nat.add_zero] at d0
  have HT := hid ht
  clear ht
  go_enter Try.func52, Try.ntmps52
  go_wp2
  refine bodyPost_ret (v := .tuple #[]) (by simp [results, Try.results52, go_sem]) rfl ⟨rfl, _, .inner 0 () (some ⟨x0, x1, x2⟩) .leaf .leaf, ((HT.out.put k _ _ _ _ _ _ _).alloc _).alloc _, ?_, hk, ?_, ?_, ?_, ?_⟩
  · unfold Inv
    have hr : roomOf ⟨x0, x1, x2⟩ [] = 32767 - ((x2 : Int) - x1) := by simp [roomOf, cntL]
    refine ⟨by simp, by simp, .inl ⟨by simp, by simp, by simp, by simp, by simp, by simp, ?_, ?_⟩⟩
    · rw [hr]; simp
    · rw [hr]; omega
  · simp [lvs, mkBr]
  · intro c hc
    have : c / 7 ≠ k := fun e => hc (by rw [e]; exact Anc.self k)
    have n0 : c ≠ 7 * k := by omega
    have n1 : c ≠ 7 * k + 1 := by omega
    have n2 : c ≠ 7 * k + 2 := by omega
    have n3 : c ≠ 7 * k + 3 := by omega
    have n4 : c ≠ 7 * k + 4 := by omega
    have n5 : c ≠ 7 * k + 5 := by omega
    have n6 : c ≠ 7 * k + 6 := by omega
    simp only [n0, n1, n2, n3, n4, n5, n6, if_false]
  · exact (((Kept.rfl _ w).put7 (.inl rfl) _ _ _ _ _ _ _).alloc _).alloc _
  · intro o ho
    have K := ((((Kept.rfl (fun b => b = tb) w).put7 rfl (.int .i64 (x0 : Int)) (.int .i64 (x1 : Int)) (.int .i64 (x1 : Int)) (.int .i64 (x2 : Int)) (.int .i64 (x2 : Int)) (.int .i64 (32767 - ((x2 : Int) - x1))) (.int .i64 0) (o := k * 7)).alloc (.cells #[.bool byLow] 4)).alloc (.cells #[.int .i64 (x0 : Int), .int .i64 (x1 : Int), .int .i64 (x2 : Int)] 80))
    exact ⟨K.cell hblk (fun e => hne e.symm), K.frozen hblk (fun e => hne e.symm)⟩

theorem holdsK_of {w : World} {blk off : Nat} {d : Array (Nat × Nat × Nat)} (h : ∀ i c, i < d.size → c < 3 → w.cell? ⟨blk, off + i * 3 + c, none⟩ = some (enc3 d[i]!)[c]! ∧ w.frozen? ⟨blk, off + i * 3 + c, none⟩ = false) : HoldsK enc3 3 w blk off d := fun t ht => by
  rw [size_flatK] at ht
  rw [get_flatK _ _ _ _ ht, show off + t = off + t / 3 * 3 + t % 3 by omega]
  exact h (t / 3) (t % 3) (by omega) (by omega)
theorem extract_get {d : Array (Nat × Nat × Nat)} {a b i : Nat} (hi : i < b - a) (hb : b ≤ d.size) : (d.extract a b)[i]! = d[a + i]! := by
  rw [getElem!_pos (d.extract a b) i (by simp; omega), getElem!_pos d (a + i) (by omega)]
  simp
theorem holdsK_left {w : World} {blk off m : Nat} {d : Array (Nat × Nat × Nat)} (h : HoldsK enc3 3 w blk off d) (hm : m ≤ d.size) : HoldsK enc3 3 w blk off (d.extract 0 m) := holdsK_of fun i c hi hc => by
  have hi' : i < m := by simp at hi; omega
  rw [extract_get (by omega) hm, Nat.zero_add]
  exact h.cell (by omega) hc
theorem holdsK_right {w w' : World} {blk off m : Nat} {d : Array (Nat × Nat × Nat)} (h : HoldsK enc3 3 w blk off d) (hm : m ≤ d.size) (hc : ∀ o, o < off ∨ off + 3 * m ≤ o → w'.cell? ⟨blk, o, none⟩ = w.cell? ⟨blk, o, none⟩ ∧ w'.frozen? ⟨blk, o, none⟩ = w.frozen? ⟨blk, o, none⟩) :
    HoldsK enc3 3 w' blk (off + m * 3) (d.extract m d.size) := holdsK_of fun i c hi hc' => by
  have hi' : i < d.size - m := by simp at hi; omega
  rw [extract_get hi' (Nat.le_refl _)]
  have := h.cell (i := m + i) (by omega) hc'
  rw [show off + m * 3 + i * 3 + c = off + (m + i) * 3 + c by omega, (hc _ (by omega)).1, (hc _ (by omega)).2]
  exact this

set_option maxRecDepth 100000 in
set_option maxHeartbeats 4000000 in
theorem build_two (m p : Nat) (hp : p = m / 2) (hl : BuildOk p) (hr : BuildOk (m - p)) (m2 : 2 ≤ m) (tb n k blk off cap D : Nat) (byLow : Bool) (h : Nat → Int) (d : Array (Nat × Nat × Nat)) (w : World) (hd : d.size = m) (ht : IsTree w tb n h) (hH : HoldsK enc3 3 w blk off d) (hblk : blk < w.heap.size) (hne : tb ≠ blk) (k1 : 1 ≤ k)
    (hD : m ≤ 2 ^ (D + 1)) (hkn : (k + 1) * 2 ^ (D + 1) ≤ n) (hn : n ≤ 4000000) (hm : m ≤ 1000000) (hc : m ≤ cap) (hg : ∀ x ∈ d.toList, Good3 x) :
    Calls Try.prog 52 #[.slice (some ⟨tb, 0, none⟩) n n, .int .i64 k, .slice (some ⟨blk, off, none⟩) m cap, .bool byLow] w fun e w' => e = .returned (.tuple #[]) ∧ Built w w' tb n k blk off m h d := by
  have hk := fit_top hkn
  have hp1 : 1 ≤ 2 ^ D := Nat.one_le_two_pow
  have e2 : 2 ^ (D + 1) = 2 * 2 ^ D := by rw [Nat.pow_succ]; omega
  have hk2 : (2 * k + 1) * 2 ^ D ≤ n ∧ (2 * k + 1 + 1) * 2 ^ D ≤ n := by
    rw [e2] at hkn
    have e3 : (2 * k + 1 + 1) * 2 ^ D = (k + 1) * (2 * 2 ^ D) := by rw [← Nat.mul_assoc]; congr 1; omega
    have : (2 * k + 1) * 2 ^ D ≤ (2 * k + 1 + 1) * 2 ^ D := Nat.mul_le_mul_right _ (by omega)
    omega
  have fl := fit_top hk2.1
  have fr := fit_top hk2.2
  have HT := hid ht
  have HH := hid hH
  have ew : (m : Int) ≠ 1 := by omega
  have ew' : ((m : Int) == 1) = false := by simp; omega
  have q2 : Int.tdiv (m : Int) 2 = (p : Int) := by rw [Int.tdiv_eq_ediv_of_nonneg (by omega)]; omega
  have hpc : p ≤ cap := by omega
  have hpm : p ≤ m := by omega
  have hp0 : 1 ≤ p := by omega
  have hcz : ¬ cap = 0 := by omega
  have hcp : ¬ cap = p := by omega
  have hq1 : p ≤ 2 ^ D := by omega
  have hq2 : m - p ≤ 2 ^ D := by omega
  have hq3 : 1 ≤ m - p := by omega
  have hq4 : m - p ≤ cap - p := by omega
  clear hp
  have wr2 : IntKind.i64.wrap (2 * (k : Int)) = 2 * (k : Int) := by simp [IntKind.wrap, IntKind.bits, IntKind.signed]; omega
  have wr3 : IntKind.i64.wrap (2 * (k : Int) + 1) = 2 * (k : Int) + 1 := by simp [IntKind.wrap, IntKind.bits, IntKind.signed]; omega
  have wrq : IntKind.i64.wrap (p : Int) = (p : Int) := by simp [IntKind.wrap, IntKind.bits, IntKind.signed]; omega
  have S := sort57 byLow w.heap.size blk off cap d (w.alloc (.cells #[.bool byLow] 4)) (by simp [go_sem]) (by simp) (by omega) (holdsK_of (fun i c hi hc => by
    have B := below1 w (.cells #[.bool byLow] 4)
    rw [B.cell (p := ⟨blk, off + i * 3 + c, none⟩) hblk, B.frozen (p := ⟨blk, off + i * 3 + c, none⟩) hblk]
    exact HH.out.cell hi hc)) (by simp; omega) (by omega)
  rw [hd] at S
  clear ht hH
  go_enter Try.func52, Try.ntmps52
  go_wp2_with (go_at_call 57; refine S.mono ?_; rintro e w1 ⟨rfl, d1, hs1, hp1', hH1, K1, F1⟩)
  refine region_quiet_tail (C := fun w' => ∃ n, w' = w1.drewN n) 10 mixed (by kernel_rfl) ⟨1, rfl⟩ ?_
  simp only [List.take_succ_cons, List.take_zero, List.drop_succ_cons, List.drop_zero]
  have cb : w1.cell? ⟨w.heap.size, 0, none⟩ = some (.bool byLow) := (K1.cell (by simp) (by omega)).trans (by simp [go_sem])
  repeat quiet_step (fail)
  refine wpQuiet_nil ?_
  rintro _ ⟨nq, rfl⟩
  have tlt := hid HT.out.lt
  have KA : Hid (Kept (fun b => b = tb ∨ b = blk) w (w1.drewN nq)) := ((((Kept.rfl _ w).alloc _).trans (K1.mono (fun _ _ e => .inr e)))).drewN nq
  have FA : Hid (∀ o, o < off ∨ off + 3 * m ≤ o → (w1.drewN nq).cell? ⟨blk, o, none⟩ = w.cell? ⟨blk, o, none⟩ ∧ (w1.drewN nq).frozen? ⟨blk, o, none⟩ = w.frozen? ⟨blk, o, none⟩) := fun o ho => by
    have B := below1 w (.cells #[.bool byLow] 4)
    exact ⟨(F1 o ho).1.trans (B.cell (p := ⟨blk, o, none⟩) hblk), (F1 o ho).2.trans (B.frozen (p := ⟨blk, o, none⟩) hblk)⟩
  have T1 : IsTree (w1.drewN nq) tb n h := K1.row (HT.out.alloc _) (fun e => hne e)
  have sz1 := KA.out.size
  have HD1 : Hid (∀ x ∈ d1.toList, Good3 x) := fun x hx => hg x (hp1'.mem_iff.1 hx)
  have HP1 := hid hp1'
  have R1 := hl tb n (2 * k) blk off cap D (!byLow) h (d1.extract 0 p) (w1.drewN nq) (by simp; omega) hp0 T1 (holdsK_left hH1 (by omega)) (Nat.lt_of_lt_of_le hblk sz1) hne (by omega) hq1 hk2.1 hn (by omega) hpc (fun x hx => HD1.out x (by simp at hx; exact List.mem_of_mem_take hx))
  rw [show ((2 * k : Nat) : Int) = 2 * (k : Int) by omega] at R1
  have HH1 := hid hH1
  have CB := hid cb
  have HF1 := hid F1
  have SZ : Hid (w.heap.size < w1.heap.size) := by have := K1.size; simp at this; unfold Hid; omega
  clear hp1' hH1 T1 cb F1 S K1
  go_wp2_with (go_at_call 52; refine R1.mono ?_; rintro e w2 ⟨rfl, h2, TL, T2, I2, F2, P2, far2, K2, C2⟩)
  have cb2 : w2.cell? ⟨w.heap.size, 0, none⟩ = some (.bool byLow) := (K2.cell (show w.heap.size < w1.heap.size from SZ.out) (by have := tlt.out; omega)).trans CB.out
  clear R1
  refine region_quiet_tail (C := fun w' => ∃ n, w' = w2.drewN n) 11 mixed (by kernel_rfl) ⟨1, rfl⟩ ?_
  simp only [List.take_succ_cons, List.take_zero, List.drop_succ_cons, List.drop_zero]
  repeat quiet_step (fail)
  refine wpQuiet_nil ?_
  rintro _ ⟨nr, rfl⟩
  have R2 := hr tb n (2 * k + 1) blk (off + p * 3) (cap - p) D (!byLow) h2 (d1.extract p d1.size) (w2.drewN nr) (by simp; omega) hq3 T2 (holdsK_right (w := w1) HH1.out (by omega) C2) (Nat.lt_of_lt_of_le hblk (Nat.le_trans sz1 K2.size)) hne (by omega) hq2 hk2.2 hn (by omega) hq4 (fun x hx => HD1.out x (by simp at hx; exact List.mem_of_mem_drop (List.mem_of_mem_take hx)))
  rw [show ((2 * k + 1 : Nat) : Int) = 2 * (k : Int) + 1 by omega] at R2
  have HT2 := hid T2
  have HC2 := hid C2
  have HI2 := hid I2
  have HP2 := hid P2
  have HK2 := hid K2
  have HF2 := hid F2
  have HR2 := hid far2
  clear T2 cb2 C2 I2 P2 K2 F2 far2
  go_wp2_with (go_at_call 52; refine R2.mono ?_; rintro e w3 ⟨rfl, h3, TR, T3, I3, F3, P3, far3, K3, C3⟩)
  clear R2
  have q0 : ∀ t : After w3, t.1.cell? ⟨tb, 2 * k * 7, none⟩ = some (.int .i64 (h3 (7 * (2 * k) + 0))) := fun t => (t.2.cell (p := ⟨tb, 2 * k * 7, none⟩) T3.lt).trans (T3.cell (j := 0) fl (by omega))
  have q1 : ∀ t : After w3, t.1.cell? ⟨tb, 2 * k * 7 + 1, none⟩ = some (.int .i64 (h3 (7 * (2 * k) + 1))) := fun t => (t.2.cell (p := ⟨tb, 2 * k * 7 + 1, none⟩) T3.lt).trans (T3.cell fl (by omega))
  have q2 : ∀ t : After w3, t.1.cell? ⟨tb, 2 * k * 7 + 2, none⟩ = some (.int .i64 (h3 (7 * (2 * k) + 2))) := fun t => (t.2.cell (p := ⟨tb, 2 * k * 7 + 2, none⟩) T3.lt).trans (T3.cell fl (by omega))
  have q3 : ∀ t : After w3, t.1.cell? ⟨tb, 2 * k * 7 + 3, none⟩ = some (.int .i64 (h3 (7 * (2 * k) + 3))) := fun t => (t.2.cell (p := ⟨tb, 2 * k * 7 + 3, none⟩) T3.lt).trans (T3.cell fl (by omega))
  have q4 : ∀ t : After w3, t.1.cell? ⟨tb, 2 * k * 7 + 4, none⟩ = some (.int .i64 (h3 (7 * (2 * k) + 4))) := fun t => (t.2.cell (p := ⟨tb, 2 * k * 7 + 4, none⟩) T3.lt).trans (T3.cell fl (by omega))
  have q5 : ∀ t : After w3, t.1.cell? ⟨tb, 2 * k * 7 + 5, none⟩ = some (.int .i64 (h3 (7 * (2 * k) + 5))) := fun t => (t.2.cell (p := ⟨tb, 2 * k * 7 + 5, none⟩) T3.lt).trans (T3.cell fl (by omega))
  have q6 : ∀ t : After w3, t.1.cell? ⟨tb, 2 * k * 7 + 6, none⟩ = some (.int .i64 (h3 (7 * (2 * k) + 6))) := fun t => (t.2.cell (p := ⟨tb, 2 * k * 7 + 6, none⟩) T3.lt).trans (T3.cell fl (by omega))
  have s0 : ∀ t : After w3, t.1.cell? ⟨tb, (2 * k + 1) * 7, none⟩ = some (.int .i64 (h3 (7 * (2 * k + 1) + 0))) := fun t => (t.2.cell (p := ⟨tb, (2 * k + 1) * 7, none⟩) T3.lt).trans (T3.cell (j := 0) fr (by omega))
  have s1 : ∀ t : After w3, t.1.cell? ⟨tb, (2 * k + 1) * 7 + 1, none⟩ = some (.int .i64 (h3 (7 * (2 * k + 1) + 1))) := fun t => (t.2.cell (p := ⟨tb, (2 * k + 1) * 7 + 1, none⟩) T3.lt).trans (T3.cell fr (by omega))
  have s2 : ∀ t : After w3, t.1.cell? ⟨tb, (2 * k + 1) * 7 + 2, none⟩ = some (.int .i64 (h3 (7 * (2 * k + 1) + 2))) := fun t => (t.2.cell (p := ⟨tb, (2 * k + 1) * 7 + 2, none⟩) T3.lt).trans (T3.cell fr (by omega))
  have s3 : ∀ t : After w3, t.1.cell? ⟨tb, (2 * k + 1) * 7 + 3, none⟩ = some (.int .i64 (h3 (7 * (2 * k + 1) + 3))) := fun t => (t.2.cell (p := ⟨tb, (2 * k + 1) * 7 + 3, none⟩) T3.lt).trans (T3.cell fr (by omega))
  have s4 : ∀ t : After w3, t.1.cell? ⟨tb, (2 * k + 1) * 7 + 4, none⟩ = some (.int .i64 (h3 (7 * (2 * k + 1) + 4))) := fun t => (t.2.cell (p := ⟨tb, (2 * k + 1) * 7 + 4, none⟩) T3.lt).trans (T3.cell fr (by omega))
  have s5 : ∀ t : After w3, t.1.cell? ⟨tb, (2 * k + 1) * 7 + 5, none⟩ = some (.int .i64 (h3 (7 * (2 * k + 1) + 5))) := fun t => (t.2.cell (p := ⟨tb, (2 * k + 1) * 7 + 5, none⟩) T3.lt).trans (T3.cell fr (by omega))
  have s6 : ∀ t : After w3, t.1.cell? ⟨tb, (2 * k + 1) * 7 + 6, none⟩ = some (.int .i64 (h3 (7 * (2 * k + 1) + 6))) := fun t => (t.2.cell (p := ⟨tb, (2 * k + 1) * 7 + 6, none⟩) T3.lt).trans (T3.cell fr (by omega))
  have HT3 := hid T3
  clear T3
  have hne3 := after_some w3
  have i2 : 0 ≤ 2 * (k : Int) ∧ 2 * (k : Int) < n := by omega
  have i3 : 0 ≤ 2 * (k : Int) + 1 ∧ 2 * (k : Int) + 1 < n := by omega
  have n2 : (2 * (k : Int)).toNat = 2 * k := by omega
  have n3 : (2 * (k : Int) + 1).toNat = 2 * k + 1 := by omega
  refine region_after 15 mixed (by kernel_rfl) ?_
  simp only [List.take_succ_cons, List.take_zero, List.drop_succ_cons, List.drop_zero]
  repeat quiet_step (exact Calls.after _ (both60 _ _ _ _ _ _ _ _ _ _ _ _ _ _ _))
  refine wpQuiet_nil ?_
  intro w5 hb5
  have T5 : IsTree w5 tb n h3 := (Kept.of_below (S := fun _ => False) hb5).row HT3.out (fun e => e)
  have d0 := T5.cell hk (show 0 < 7 by omega); have d1' := T5.cell hk (show 1 < 7 by omega); have d2 := T5.cell hk (show 2 < 7 by omega); have d3 := T5.cell hk (show 3 < 7 by omega); have d4 := T5.cell hk (show 4 < 7 by omega); have d5 := T5.cell hk (show 5 < 7 by omega); have d6 := T5.cell hk (show 6 < 7 by omega)
  have f := T5.free
  simp only [Nat.add_zero] at d0
  have HT5 := hid T5
  clear T5 q0 q1 q2 q3 q4 q5 q6 s0 s1 s2 s3 s4 s5 s6
  go_wp2
  have lo : ∀ (T : TT) (e : List (Nat × Nat × Nat)), (lvs T).Perm (e.map mkBr) → (∀ x ∈ e, x ∈ d1.toList) → ∀ b ∈ lvs T, b.low ≤ b.high := fun T e hp he b hb => by
    obtain ⟨x, hx, rfl⟩ := List.mem_map.1 (hp.mem_iff.1 hb)
    exact (HD1.out x (he x hx)).2.1
  have I2' := HI2.out.congr (h' := h3) (fun i j hij hj => far3 _ (fun e => by
    rw [show (7 * i + j) / 7 = i by omega] at e
    exact anc_apart k1 hij e))
  have b1 := I2'.room_le (by simp) (lo TL _ HP2.out (fun x hx => by simp at hx; exact List.mem_of_mem_take hx))
  have b2 := I3.room_le (by simp) (lo TR _ P3 (fun x hx => by simp at hx; exact List.mem_of_mem_drop (List.mem_of_mem_take hx)))
  have K5 := Kept.put7 (((KA.out.trans HK2.out).drewN nr).trans K3 |>.trans (Kept.of_below hb5)) (.inl rfl) (o := k * 7)
  go_end0
  refine ⟨rfl, _, .inner 0 () none TL TR, HT5.out.put k _ _ _ _ _ _ _, I2'.both k1 I3 b1.1 b2.1, ⟨hk, HF2.out, F3⟩, ?_, ?_, K5 _ _ _ _ _ _ _, ?_⟩
  · refine (HP2.out.append P3).trans ?_
    rw [← List.map_append]
    refine List.Perm.trans ?_ (HP1.out.map mkBr)
    refine List.Perm.of_eq (congrArg _ ?_)
    simp only [Array.toList_extract, List.extract_eq_take_drop, List.drop_zero, Nat.sub_zero]
    rw [List.take_of_length_le (l := List.drop p d1.toList) (by simp), List.take_append_drop]
  · intro c hc'
    have e1 : c / 7 ≠ k := fun e => hc' (by rw [e]; exact Anc.self k)
    exact (bothH_other h3 k e1).trans ((far3 c (fun e => hc' e.right)).trans (HR2.out c (fun e => hc' e.left)))
  · intro o ho
    have K6 := Kept.put7 (S := fun b => b = tb) (tb := tb) (Kept.of_below hb5) rfl (o := k * 7) (.int .i64 (-1)) (.int .i64 (min (h3 (7 * (2 * k) + 1)) (h3 (7 * (2 * k + 1) + 1)))) (.int .i64 (max (h3 (7 * (2 * k) + 2)) (h3 (7 * (2 * k + 1) + 2)))) (.int .i64 (min (h3 (7 * (2 * k) + 3)) (h3 (7 * (2 * k + 1) + 3)))) (.int .i64 (max (h3 (7 * (2 * k) + 4)) (h3 (7 * (2 * k + 1) + 4)))) (.int .i64 (min (h3 (7 * (2 * k) + 5)) (h3 (7 * (2 * k + 1) + 5)))) (.int .i64 0)
    have z3 : blk < w3.heap.size := Nat.lt_of_lt_of_le hblk (Nat.le_trans sz1 (Nat.le_trans HK2.out.size K3.size))
    have c3 := C3 o (by omega)
    have c2 := HC2.out o (by omega)
    have c1 := FA.out o ho
    exact ⟨(K6.cell z3 (fun e => hne e.symm)).trans (c3.1.trans (c2.1.trans c1.1)), (K6.frozen z3 (fun e => hne e.symm)).trans (c3.2.trans (c2.2.trans c1.2))⟩

/-- build, whatever the list's length. -/
theorem buildOk : ∀ s m : Nat, m ≤ s → BuildOk m
  | 0, m, hm => fun tb n k blk off cap D byLow h d w hd m1 => by omega
  | s + 1, m, hm => fun tb n k blk off cap D byLow h d w hd m1 ht hH hblk hne k1 hD hkn hn hm' hc hg => by
    by_cases e : m = 1
    · subst e
      exact build_one tb n k blk off cap byLow h d w hd ht hH hblk hne k1 (fit_top hkn) hn hg
    · cases D with
      | zero => simp at hD; omega
      | succ D => exact build_two m (m / 2) rfl (buildOk s (m / 2) (by omega)) (buildOk s (m - m / 2) (by omega)) (by omega) tb n k blk off cap D byLow h d w hd ht hH hblk hne k1 hD hkn hn hm' hc hg

theorem two_pow_near : ∀ m : Nat, 1 ≤ m → ∃ D, m ≤ 2 ^ D ∧ 2 ^ D < 2 * m
  | 0, h => by omega
  | 1, _ => ⟨0, by simp, by simp⟩
  | m + 2, _ => by
    obtain ⟨D, h1, h2⟩ := two_pow_near (m + 1) (by omega)
    by_cases h : m + 2 ≤ 2 ^ D
    · exact ⟨D, h, by omega⟩
    · exact ⟨D + 1, by rw [Nat.pow_succ]; omega, by rw [Nat.pow_succ]; omega⟩
end Go.Proofs.Ytgnlplddppheiaa
