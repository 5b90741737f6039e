/- withWord, withLine: a line's words. -/
import Derived.Test.YtgnlplddppheiaaLayOut
import Derived.Lib.AppendStr
namespace Go.Proofs.Ytgnlplddppheiaa
open Go.RowKit Go.Maps
set_option linter.unusedVariables false

/-- A word's bytes, the lowest first. -/
def wdL (n : Nat) : List UInt8 := [n.toUInt8, (n / 256).toUInt8, (n / 65536).toUInt8, (n / 16777216).toUInt8]
theorem wdL_length (n : Nat) : (wdL n).length = 4 := rfl
def strL (l : List UInt8) : ByteArray := ⟨l.toArray⟩
theorem strL_size (l : List UInt8) : (strL l).size = l.length := List.size_toArray
theorem strL_list (l : List UInt8) : (strL l).data.toList = l := by simp [strL]
def vals (l : List UInt8) : List Value := l.map fun x => Value.int .u8 (x.toNat : Int)
theorem vals_append (l m : List UInt8) : vals (l ++ m) = vals l ++ vals m := by simp [vals]
theorem vals_wd (n : Nat) (hn : n < 4294967296) : vals (wdL n) = [.int .u8 ((n : Int) % 256), .int .u8 ((n : Int) / 256 % 256), .int .u8 ((n : Int) / 65536 % 256), .int .u8 ((n : Int) / 16777216)] := by
  simp only [vals, wdL, List.map_cons, List.map_nil, Nat.toUInt8_eq, UInt8.toNat_ofNat']
  have e3 : n / 16777216 % 256 = n / 16777216 := by omega
  simp [e3]
theorem cell_four_at {w : World} {g : Nat} {a b c d : Value} (h0 : w.cell? ⟨g, 0, none⟩ = some a) (h1 : w.cell? ⟨g, 1, none⟩ = some b) (h2 : w.cell? ⟨g, 2, none⟩ = some c) (h3 : w.cell? ⟨g, 3, none⟩ = some d) :
    ∀ (j : Nat) (u : Value), [a, b, c, d][j]? = some u → w.cell? ((⟨g, 0, none⟩ : Addr).add j) = some u
  | 0, u, e => by simp at e; subst e; exact h0
  | 1, u, e => by simp at e; subst e; exact h1
  | 2, u, e => by simp at e; subst e; exact h2
  | 3, u, e => by simp at e; subst e; exact h3
  | j + 4, u, e => by simp at e

/-- The bytes of cells, as a string. -/
theorem conv_cells {W : World} {g len cap : Nat} {l : List UInt8} (hl : l.length = len) (h : ∀ (j : Nat) (u : Value), (vals l)[j]? = some u → W.cell? ((⟨g, 0, none⟩ : Addr).add j) = some u) :
    (convert 50 9 (.slice (some ⟨g, 0, none⟩) len cap)).run Try.prog W = .ok (.string (strL l)) W := by
  have e : strL l = strOfNums (l.map fun x => (x.toNat : Int)) := by
    unfold strOfNums strL
    simp [List.map_map, Function.comp_def]
  rw [e]
  refine run_convert_bytes_arg W 50 5 Try.underlying50 Try.underlying5 g 0 len cap _ (by simpa using hl) (fun i hi => ?_) 9 Try.underlying9
  have hi' : i < l.length := by omega
  have := h i (.int .u8 (l[i].toNat : Int)) (by simp [vals, hi'])
  rw [Addr.add_lit] at this
  simpa [List.getD, hi'] using this
theorem conv_own {W : World} {N : Nat} {sl : Value} {l : List UInt8} (h : W.ownsRow N 5 1 sl l.length (vals l)) : (convert 50 9 sl).run Try.prog W = .ok (.string (strL l)) W := by
  have h' := h
  obtain ⟨_, ⟨rfl, h0⟩ | ⟨g, cap, cur, rfl, _⟩⟩ := h
  · obtain rfl : l = [] := List.eq_nil_of_length_eq_zero h0
    exact run_convert_bytes_nil W 50 5 Try.underlying50 Try.underlying5 0 0 9 Try.underlying9
  · exact conv_cells rfl (h'.cells (g := g) rfl)

/-- An instruction's word; 0, if it may not be. -/
def wdI (op d a b i : Int) : Nat := if mayI op d a b i = true then (wordF (nF (partsF op)) op d a b i).toNat else 0

theorem wordF_range {op d a b i : Int} (h : mayI op d a b i = true) : 0 ≤ wordF (nF (partsF op)) op d a b i ∧ wordF (nF (partsF op)) op d a b i < 4294967296 := by
  have hb := may_bounds (row_of op) rfl h
  unfold wordF baseF
  split <;> omega
theorem wdI_lt (op d a b i : Int) : wdI op d a b i < 4294967296 := by
  unfold wdI
  split
  · have := wordF_range (by assumption); omega
  · omega

theorem encode44 (op d a b i : Int) (w : World) :
    Calls Try.prog 44 #[.agg #[.int .i64 op, .int .i64 d, .int .i64 a, .int .i64 b, .int .i32 i]] w fun e w' => ∃ er, e = .returned (.tuple #[.int .u32 (wdI op d a b i : Int), .int .i64 er]) ∧ Below w.heap.size w w' := by
  cases h : mayI op d a b i
  · refine (encode7_no (row_of op) rfl h w).mono ?_
    rintro e w' ⟨rfl, hb⟩
    exact ⟨1, by simp [wdI, h], hb⟩
  · refine (encode7_yes (row_of op) rfl h w).mono ?_
    rintro e w' ⟨rfl, hb⟩
    have := wordF_range h
    refine ⟨0, ?_, hb⟩
    unfold wdI
    rw [if_pos h, Int.toNat_of_nonneg this.1]

theorem info5' : (Try.prog.info? 5).map (fun i => (i.zero, i.size, i.bytes)) = some (some (.int .u8 0), 1, 1) := by kernel_rfl

set_option maxRecDepth 100000 in
set_option maxHeartbeats 2000000 in
theorem withWord31 {w : World} {base : Nat} {v : Value} {l : List UInt8} (op d a b i : Int) (hown : w.ownsRow base 5 1 v l.length (vals l)) (hl : l.length ≤ 4000000) (hbase : base ≤ w.heap.size) :
    Calls Try.prog 31 #[v, .agg #[.int .i64 op, .int .i64 d, .int .i64 a, .int .i64 b, .int .i32 i]] w fun e w' => ∃ v', e = .returned v' ∧ w'.ownsRow base 5 1 v' (l ++ wdL (wdI op d a b i)).length (vals (l ++ wdL (wdI op d a b i))) ∧ Kept (fun b => v.ownBlock = some b) w w' ∧ (v'.ownBlock = v.ownBlock ∨ ∃ b, v'.ownBlock = some b ∧ w.heap.size ≤ b) := by
  obtain ⟨i0, hi, hz0, hz1, hz2⟩ := info_parts info5'
  have hE := encode44 op d a b i
  have hn := wdI_lt op d a b i
  generalize wdI op d a b i = n at *
  have s8 : (n : Int) / 2 ^ 8 = (n : Int) / 256 := by omega
  go_enter Try.func31, Try.ntmps31
  go_wp2_with (first
    | (go_at_call 44; refine (hE _).mono ?_; rintro e w1 ⟨er, rfl, hb1⟩)
    | (at_builtin; refine of_mark ?_))
  unfold Mark
  have hO1 := (Kept.of_below (S := fun _ => False) (below_call hb1)).owns hown (fun _ _ e => e)
  have hs1 : w.heap.size ≤ w1.heap.size := (below_call hb1).size
  refine wpList_append_own_at _ rfl _ _ 50 rfl base 5 i0 (.int .u8 0) 1 1 Try.underlying50 hi hz0 hz1 hz2 rfl (by decide) v _ _ rfl (hO1.alloc _) ⟨w1.heap.size, 0, none⟩ 4 4 [.int .u8 ((n : Int) % 256), .int .u8 ((n : Int) / 256 % 256), .int .u8 ((n : Int) / 65536 % 256), .int .u8 ((n : Int) / 16777216)] rfl rfl ?c1 ?c2 ?c3 ?c4 ?c5 ?_
  case c1 => exact cell_four_at (by simp [go_sem]) (by simp [go_sem]) (by simp [go_sem]) (by simp [go_sem])
  case c2 => intro u hu; simp at hu; rcases hu with rfl | rfl | rfl | rfl <;> rfl
  case c3 => unfold maxLen; omega
  case c4 => omega
  case c5 => simp; omega
  intro v' w2 hown2 hgrow _ hloc
  have HLOC : Hid (v'.ownBlock = v.ownBlock ∨ ∃ b, v'.ownBlock = some b ∧ w.heap.size ≤ b) := hloc.imp id (fun e => ⟨_, e, by simp; omega⟩)
  have K : Hid (Kept (fun b => v.ownBlock = some b) w w2) := ((Kept.of_below (below_call hb1)).alloc _).trans (Kept.of_grown hgrow (fun k hk => hk))
  have ho2 : Hid (w2.ownsRow base 5 1 v' (l ++ wdL n).length (vals (l ++ wdL n))) := by
    rw [vals_append, vals_wd n hn, List.length_append, wdL_length]; exact hown2
  clear hown2 hgrow hO1 hb1 hloc
  go_wp2
  go_ret
  exact ⟨_, rfl, ho2.out, K.out, HLOC.out⟩

def otherF (op : Int) : Int := if op = 39 then 40 else 39
theorem other32 (op : Int) (w : World) : Calls Try.prog 32 #[.int .i64 op] w fun e w' => e = .returned (.int .i64 (otherF op)) ∧ w' = w := by
  unfold otherF
  by_cases h : op = 39
  · rw [if_pos h]
    subst h
    go_enter Try.func32, Try.ntmps32
    go_wp2
    go_ret
    exact ⟨rfl, rfl⟩
  · rw [if_neg h]
    go_enter Try.func32, Try.ntmps32
    go_wp2
    go_ret
    exact ⟨rfl, rfl⟩

/-- A line's words, it being instruction k. -/
def lineB (f : Int → Option Nat) (S : Nat → Bool) (k : Nat) (x : Ln) : List UInt8 :=
  if x.to = 0 then wdL (wdI x.op x.d x.a x.b x.imm)
  else if S k = true then wdL (wdI (otherF x.op) 0 x.a 0 1) ++ wdL (wdI 41 0 0 0 ((atF S ((f x.to).getD 0) : Int) - (atF S (k + 1) : Int)))
  else wdL (wdI x.op x.d x.a x.b ((atF S ((f x.to).getD 0) : Int) - (atF S (k + 1) : Int)))

/-- What withLine stands on. -/
structure Plan (w : World) (mb ab N n s : Nat) (f : Int → Option Nat) (S : Nat → Bool) : Prop where
  map : IsMapL w mb n s f
  row : IsAt w ab N (atF S)
  lt : ∀ t p, f t = some p → p < N
  hN : N ≤ 262145

theorem Plan.kept {w w' : World} {mb ab N n s : Nat} {f : Int → Option Nat} {S : Nat → Bool} {T : Nat → Prop} (h : Plan w mb ab N n s f S) (k : Kept T w w') (h1 : ¬ T mb) (h2 : ¬ T ab) : Plan w' mb ab N n s f S :=
  ⟨h.map.kept k h1, k.row h.row h2, h.lt, h.hN⟩

set_option maxRecDepth 100000 in
set_option maxHeartbeats 1000000 in
theorem withLine_plain {w : World} {base : Nat} {v m q : Value} {l : List UInt8} {lb op d a b i kk : Int} (hown : w.ownsRow base 5 1 v l.length (vals l)) (hl : l.length ≤ 4000000) (hbase : base ≤ w.heap.size) :
    Calls Try.prog 20 #[.agg #[m, q], v, .agg #[.int .i64 lb, .int .i64 op, .int .i64 d, .int .i64 a, .int .i64 b, .int .i32 i, .int .i64 0], .int .i64 kk] w fun e w' => ∃ v', e = .returned v' ∧ w'.ownsRow base 5 1 v' (l ++ wdL (wdI op d a b i)).length (vals (l ++ wdL (wdI op d a b i))) ∧ Kept (fun b => v.ownBlock = some b) w w' := by
  have hW := fun o p => withWord31 op d a b i ((hown.alloc (w := w) o).alloc p) hl (by simp; omega)
  go_enter Try.func20, Try.ntmps20
  go_wp2_with (go_at_call 31; refine (hW _ _).mono ?_; rintro e w1 ⟨v', rfl, ho, hk, _⟩)
  go_ret
  exact ⟨_, rfl, ho, (((Kept.rfl _ w).alloc _).alloc _).trans hk⟩

set_option maxRecDepth 100000 in
set_option maxHeartbeats 4000000 in
theorem withLine_to {w : World} {base : Nat} {v : Value} {l : List UInt8} {mb ab N n s k : Nat} {f : Int → Option Nat} {S : Nat → Bool} {x : Ln} (hP : Plan w mb ab N n s f S) (hown : w.ownsRow base 5 1 v l.length (vals l)) (hl : l.length ≤ 3000000) (hbase : base ≤ w.heap.size) (hmb : mb < base) (hab : ab < base)
    (hk : k + 1 < N) (hto : x.to ≠ 0) (hwf : x.wf) :
    Calls Try.prog 20 #[.agg #[.map (some mb), .slice (some ⟨ab, 0, none⟩) N N], v, x.val, .int .i64 (k : Int)] w fun e w' => ∃ v', e = .returned v' ∧ w'.ownsRow base 5 1 v' (l ++ lineB f S k x).length (vals (l ++ lineB f S k x)) ∧ Kept (fun b => v.ownBlock = some b) w w' := by
  have hkey : keyOf Try.prog 3 (.int .i64 x.to) = some (.int .i64 x.to) := keyOf_int_mk Try.underlying3 (wf64 hwf.t0 hwf.t1)
  obtain ⟨p, hp⟩ : ∃ p, p = (f x.to).getD 0 := ⟨_, rfl⟩
  have hpN : p < N := by
    rw [hp]
    cases e : f x.to with
    | none => simp; omega
    | some q => simpa using hP.lt _ _ e
  have hr := hP.row
  have q0 := World.rowIs.cell hr (i := k) (by omega)
  have q1 := World.rowIs.cell hr (i := k + 1) (by omega)
  have qp := World.rowIs.cell hr (i := p) (by omega)
  have hN := hP.hN
  have ha1 := atF_succ S k
  have hle0 := atF_le S k
  have hlep := atF_le S p
  have hablt := hr.lt
  have hmblt := hP.map.lt
  have HP := hid' hP
  unfold lineB
  rw [if_neg hto, ← hp]
  have Hp := hid' hp
  clear hp hP hr
  obtain ⟨lb, op, d, a, b, i, t⟩ := x
  unfold Ln.val
  simp only at *
  have hz : ¬ t = 0 := hto
  have HLK : Hid (∀ W : World, IsMapL W mb n s f → (Instr.lookup 38 (.map (some mb)) (.int .i64 t) false).run Try.prog W = .ok (.int .i64 (p : Int)) W) := fun W ⟨D, hD, hs, hf⟩ => by
    obtain ⟨c, hrun, hat, _⟩ := hD.lookup_int law3 Try.underlying38 Try.underlying3 (zero3 _) hkey
    have := at_c (hf t).2 hat
    rw [this] at hrun
    rw [Hp.out]
    exact hrun
  have i1 : 0 ≤ (k : Int) + 1 ∧ (k : Int) + 1 < N := by omega
  have i2 : ((k : Int) + 1).toNat = k + 1 := by omega
  have i3 : IntKind.i64.wrap ((k : Int) + 1) = (k : Int) + 1 := by simp [IntKind.wrap, IntKind.bits, IntKind.signed]; omega
  have i4 : k < N := by omega
  obtain ⟨w2, hw2⟩ : ∃ w2, w2 = ((w.alloc (.cells #[.map (some mb), .slice (some ⟨ab, 0, none⟩) N N] 47)).alloc (.cells #[.int .i64 lb, .int .i64 op, .int .i64 d, .int .i64 a, .int .i64 b, .int .i32 i, .int .i64 t] 40)).alloc (.cells #[.int .i64 op, .int .i64 d, .int .i64 a, .int .i64 b, .int .i32 i] 24) := ⟨_, rfl⟩
  have B2 : Below w.heap.size w w2 := by rw [hw2]; exact below3 _ _ _ _
  have hP2 := HP.out.kept (Kept.of_below (S := fun _ => False) B2) (fun e => e) (fun e => e)
  have lk1 : ∀ x, (Instr.lookup 38 (.map (some mb)) (.int .i64 t) false).run Try.prog (w2.drewN x) = .ok (.int .i64 (p : Int)) (w2.drewN x) := fun x => HLK.out _ (hP2.map.kept (S := fun _ => False) ((Kept.rfl _ w2).drewN x) (fun e => e))
  have lk2 : ∀ x y, (Instr.lookup 38 (.map (some mb)) (.int .i64 t) false).run Try.prog ((w2.drewN x).drewN y) = .ok (.int .i64 (p : Int)) ((w2.drewN x).drewN y) := fun x y => HLK.out _ (hP2.map.kept (S := fun _ => False) (((Kept.rfl _ w2).drewN x).drewN y) (fun e => e))
  have m0 : w2.cell? ⟨w.heap.size, 0, none⟩ = some (.map (some mb)) := by rw [hw2]; simp [go_sem]
  have m1 : w2.cell? ⟨w.heap.size, 1, none⟩ = some (.slice (some ⟨ab, 0, none⟩) N N) := by rw [hw2]; simp [go_sem]
  have x6 : w2.cell? ⟨w.heap.size + 1, 6, none⟩ = some (.int .i64 t) := by rw [hw2]; simp [go_sem]
  have n0 : w2.cell? ⟨w.heap.size + 1 + 1, 0, none⟩ = some (.int .i64 op) := by rw [hw2]; simp [go_sem]
  have n1 : w2.cell? ⟨w.heap.size + 1 + 1, 1, none⟩ = some (.int .i64 d) := by rw [hw2]; simp [go_sem]
  have n2 : w2.cell? ⟨w.heap.size + 1 + 1, 2, none⟩ = some (.int .i64 a) := by rw [hw2]; simp [go_sem]
  have n3 : w2.cell? ⟨w.heap.size + 1 + 1, 3, none⟩ = some (.int .i64 b) := by rw [hw2]; simp [go_sem]
  have n4 : w2.cell? ⟨w.heap.size + 1 + 1, 4, none⟩ = some (.int .i32 i) := by rw [hw2]; simp [go_sem]
  have nf : ∀ j, w2.frozen? ⟨w.heap.size + 1 + 1, j, none⟩ = false := fun j => by rw [hw2]; simp [go_sem]
  have r0 := (B2.cell (p := ⟨ab, k, none⟩) hablt).trans q0
  have r1 := (B2.cell (p := ⟨ab, k + 1, none⟩) hablt).trans q1
  have rp := (B2.cell (p := ⟨ab, p, none⟩) hablt).trans qp
  have hs2 : w2.heap.size = w.heap.size + 1 + 1 + 1 := by rw [hw2]; simp
  have HS2 := hid' hs2
  have hO2 := hid' ((Kept.of_below (S := fun _ => False) B2).owns hown (fun _ _ e => e))
  have HB2 := hid' B2
  have HW2 := hid' hw2
  have HP2 := hid' hP2
  clear q0 q1 qp hs2 B2 hw2 hP2
  generalize hA0 : atF S k = A0 at *
  generalize hA1 : atF S (k + 1) = A1 at *
  generalize hAp : atF S p = Ap at *
  clear hA0 hA1 hAp
  have j1 : IntKind.i64.wrap ((Ap : Int) - (A1 : Int)) = (Ap : Int) - (A1 : Int) := by simp [IntKind.wrap, IntKind.bits, IntKind.signed]; split at ha1 <;> omega
  have j2 : IntKind.i32.wrap ((Ap : Int) - (A1 : Int)) = (Ap : Int) - (A1 : Int) := by simp [IntKind.wrap, IntKind.bits, IntKind.signed]; split at ha1 <;> omega
  by_cases hS : S k = true
  · rw [if_pos hS]
    rw [hS, if_pos rfl] at ha1
    have j3 : IntKind.i64.wrap ((A1 : Int) - (A0 : Int)) = 2 := by rw [ha1]; simp [IntKind.wrap, IntKind.bits, IntKind.signed]; omega
    clear ha1
    have hOt := other32 op
    generalize otherF op = ot at *
    go_enter Try.func20, Try.ntmps20
    go_wp2
    rw [← HW2.out]
    go_quiet (fail)
    go_wp2
    refine region_quiet_tail (C := fun w' => ∃ n, w' = w2.drewN n) 7 mixed (by kernel_rfl) ⟨nq + 1, rfl⟩ ?_
    simp only [List.take_succ_cons, List.take_zero, List.drop_succ_cons, List.drop_zero]
    repeat quiet_step (exact Calls.quiet_of_same (hOt _))
    refine wpQuiet_nil ?_
    rintro _ ⟨nr, rfl⟩
    have O2' := hid' (((Kept.rfl (fun _ => False) w2).drewN nr).owns hO2.out (fun _ _ e => e))
    clear lk1 lk2 hOt
    go_wp2_with (go_at_call 31; refine of_mark ?_)
    unfold Mark
    refine (withWord31 ot 0 a 0 1 O2'.out (by omega) (by have := HB2.out.size; show base ≤ w2.heap.size; omega)).mono ?_
    rintro e w3 ⟨v3, rfl, ho3, hk3, hl3⟩
    have nv : ∀ b, v.ownBlock = some b → b < w.heap.size ∧ base ≤ b := fun b hb => ⟨(hown.lt b hb).2, (hown.lt b hb).1⟩
    have K23 : Kept (fun b => v.ownBlock = some b) w2 w3 := ((Kept.rfl _ w2).drewN nr).trans hk3
    have hi2 : w.heap.size + 1 + 1 < w2.heap.size := by have := HS2.out; omega
    have ni : ¬ v.ownBlock = some (w.heap.size + 1 + 1) := fun e => by have := nv _ e; omega
    have y0 := (K23.cell (o := 0) hi2 ni).trans n0
    have y1 := (K23.cell (o := 1) hi2 ni).trans n1
    have y2 := (K23.cell (o := 2) hi2 ni).trans n2
    have y3 := (K23.cell (o := 3) hi2 ni).trans n3
    have y4 := (K23.cell (o := 4) hi2 ni).trans n4
    have yf := fun j => (K23.frozen (o := j) hi2 ni).trans (nf j)
    have HK23 := hid' K23
    have Ho3 := hid' ho3
    clear ho3 hk3 K23
    go_wp2
    obtain ⟨w4, hw4⟩ : ∃ w4, w4 = ((((w3.setCell ⟨w.heap.size + 1 + 1, 0, none⟩ (.int .i64 41)).setCell ⟨w.heap.size + 1 + 1, 1, none⟩ (.int .i64 0)).setCell ⟨w.heap.size + 1 + 1, 2, none⟩ (.int .i64 0)).setCell ⟨w.heap.size + 1 + 1, 3, none⟩ (.int .i64 0)).setCell ⟨w.heap.size + 1 + 1, 4, none⟩ (.int .i32 0) := ⟨_, rfl⟩
    rw [← hw4]
    have K34 : Kept (fun b => b = w.heap.size + 1 + 1) w3 w4 := by
      rw [hw4]
      exact ((((((Kept.rfl (fun b => b = w.heap.size + 1 + 1) w3).set (.inl rfl) _).set (.inl rfl) _).set (.inl rfl) _).set (.inl rfl) _).set (.inl rfl) _)
    have K24 : Kept (fun b => v.ownBlock = some b ∨ b = w.heap.size + 1 + 1) w2 w4 := (HK23.out.mono (fun _ _ e => .inl e)).trans (K34.mono (fun _ _ e => .inr e))
    have pr : ∀ j, j < w2.heap.size → (j < base ∨ w.heap.size ≤ j) → j ≠ w.heap.size + 1 + 1 → ¬ (v.ownBlock = some j ∨ j = w.heap.size + 1 + 1) := fun j hj hb hn e => e.elim (fun e => by have := nv j e; omega) hn
    have hP4 := HP2.out.kept K24 (pr mb HP2.out.map.lt (.inl hmb) (by omega)) (pr ab HP2.out.row.lt (.inl hab) (by omega))
    have hwl := HS2.out
    have z1 := (K24.cell (o := 1) (b := w.heap.size) (by omega) (pr _ (by omega) (.inr (by omega)) (by omega))).trans m1
    have z0 := (K24.cell (o := 0) (b := w.heap.size) (by omega) (pr _ (by omega) (.inr (by omega)) (by omega))).trans m0
    have z6 := (K24.cell (o := 6) (b := w.heap.size + 1) (by omega) (pr _ (by omega) (.inr (by omega)) (by omega))).trans x6
    have s1 := (K24.cell (o := k + 1) (b := ab) (by omega) (pr _ (by omega) (.inl hab) (by omega))).trans r1
    have sp := (K24.cell (o := p) (b := ab) (by omega) (pr _ (by omega) (.inl hab) (by omega))).trans rp
    have lk : ∀ x, (Instr.lookup 38 (.map (some mb)) (.int .i64 t) false).run Try.prog (w4.drewN x) = .ok (.int .i64 (p : Int)) (w4.drewN x) := fun x => HLK.out _ (hP4.map.kept (S := fun _ => False) ((Kept.rfl _ w4).drewN x) (fun e => e))
    have g0 : w4.cell? ⟨w.heap.size + 1 + 1, 0, none⟩ = some (.int .i64 41) := by rw [hw4]; simp [go_sem, y0]
    have g1 : w4.cell? ⟨w.heap.size + 1 + 1, 1, none⟩ = some (.int .i64 0) := by rw [hw4]; simp [go_sem, y1]
    have g2 : w4.cell? ⟨w.heap.size + 1 + 1, 2, none⟩ = some (.int .i64 0) := by rw [hw4]; simp [go_sem, y2]
    have g3 : w4.cell? ⟨w.heap.size + 1 + 1, 3, none⟩ = some (.int .i64 0) := by rw [hw4]; simp [go_sem, y3]
    have g4 : w4.cell? ⟨w.heap.size + 1 + 1, 4, none⟩ = some (.int .i32 0) := by rw [hw4]; simp [go_sem, y4]
    have gf : ∀ j, w4.frozen? ⟨w.heap.size + 1 + 1, j, none⟩ = false := fun j => by rw [hw4]; simp [go_sem, yf]
    have b3 : Hid (∀ b, v3.ownBlock = some b → b ≠ w.heap.size + 1 + 1) := fun b hb e => by
      rcases hl3 with hl3 | ⟨c, hl3, hc⟩
      · have := nv b (hl3 ▸ hb); omega
      · rw [hl3] at hb
        simp at hb
        have : w2.heap.size ≤ c := hc
        omega
    have c3 : Hid (∀ b, v3.ownBlock = some b → v.ownBlock = some b ∨ w.heap.size ≤ b) := fun b hb => by
      rcases hl3 with hl3 | ⟨c, hl3, hc⟩
      · exact .inl (hl3 ▸ hb)
      · rw [hl3] at hb
        simp at hb
        have : w2.heap.size ≤ c := hc
        exact .inr (by omega)
    have O4 := hid' (K34.owns Ho3.out (fun b hb e => b3.out b hb e))
    have HK24 := hid' K24
    have hw4s : Hid (w.heap.size ≤ w4.heap.size) := Nat.le_trans HB2.out.size K24.size
    clear hw4 K34 K24 hP4 y0 y1 y2 y3 y4 yf m0 m1 x6 n0 n1 n2 n3 n4 nf r0 r1 rp
    go_wp2
    refine region_quiet_tail (C := fun w' => ∃ n, w' = w4.drewN n) 18 mixed (by kernel_rfl) ⟨1, rfl⟩ ?_
    simp only [List.take_succ_cons, List.take_zero, List.drop_succ_cons, List.drop_zero]
    repeat quiet_step (fail)
    refine wpQuiet_nil ?_
    rintro _ ⟨ns, rfl⟩
    go_wp2_with (go_at_call 31; refine of_mark ?_)
    unfold Mark
    have K5 := Kept.set (S := fun b => b = w.heap.size + 1 + 1) (a := ⟨w.heap.size + 1 + 1, 4, none⟩) ((Kept.rfl _ w4).drewN ns) (.inl rfl) (.int .i32 ((Ap : Int) - (A1 : Int)))
    have O5 := K5.owns O4.out (fun b hb e => b3.out b hb e)
    refine (withWord31 41 0 0 0 ((Ap : Int) - (A1 : Int)) O5 (by simp [wdL_length]; omega) (by have := hw4s.out; simp [World.setCell]; show base ≤ w4.heap.size; omega)).mono ?_
    rintro e w6 ⟨v6, rfl, ho6, hk6, _⟩
    go_wp2
    go_ret
    refine ⟨_, rfl, by rw [← List.append_assoc]; exact ho6, ?_⟩
    have KA : Kept (fun b => v.ownBlock = some b) w w4 := (Kept.of_below HB2.out).ahead HK24.out (fun j hj e => e.elim id (fun e => by omega))
    have KB := KA.ahead K5 (fun j hj e => by omega)
    exact KB.ahead hk6 (fun j hj e => (c3.out j e).elim id (fun e => by omega))
  · rw [if_neg hS]
    rw [if_neg hS] at ha1
    have j3 : IntKind.i64.wrap ((A1 : Int) - (A0 : Int)) = 1 := by rw [ha1]; simp [IntKind.wrap, IntKind.bits, IntKind.signed]; omega
    clear ha1
    go_enter Try.func20, Try.ntmps20
    go_wp2
    rw [← HW2.out]
    go_quiet (fail)
    go_wp2
    refine region_quiet_tail (C := fun w' => ∃ n, w' = (w2.drewN nq).drewN n) 18 mixed (by kernel_rfl) ⟨1, rfl⟩ ?_
    simp only [List.take_succ_cons, List.take_zero, List.drop_succ_cons, List.drop_zero]
    repeat quiet_step (fail)
    refine wpQuiet_nil ?_
    rintro _ ⟨nr, rfl⟩
    go_wp2_with (go_at_call 31; refine of_mark ?_)
    unfold Mark
    have K3 := Kept.set (S := fun b => b = w.heap.size + 1 + 1) (a := ⟨w.heap.size + 1 + 1, 4, none⟩) ((Kept.rfl _ w2).drewN (nq + nr)) (.inl rfl) (.int .i32 ((Ap : Int) - (A1 : Int)))
    have O3 := K3.owns hO2.out (fun b hb e => by have := (hown.lt b hb).2; omega)
    refine (withWord31 op d a b ((Ap : Int) - (A1 : Int)) O3 (by omega) (by have := HB2.out.size; simp [World.setCell]; show base ≤ w2.heap.size; omega)).mono ?_
    rintro e w5 ⟨v5, rfl, ho5, hk5, _⟩
    go_wp2
    go_ret
    refine ⟨_, rfl, ho5, ?_⟩
    exact ((Kept.of_below HB2.out).ahead K3 (fun j hj e => by omega)).trans hk5
end Go.Proofs.Ytgnlplddppheiaa
