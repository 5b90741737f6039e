/- A word's bytes, a text in two parts, a text's beginning, a copy. -/
import Derived.Test.YtlgeajcncmlngaaBase
namespace Go.Proofs.Ytlgeajcncmlngaa
open Go.RowKit
set_option linter.unusedVariables false

theorem info5' : (Try.prog.info? 5).map (fun i => (i.zero, i.size, i.bytes)) = some (some (.int .u8 0), 1, 1) := by kernel_rfl

set_option maxHeartbeats 1000000 in
theorem split18_yes (s : ByteArray) (a b : Nat) (ha : a < 4294967296) (hb : b < 4294967296) (h : a + b = s.size) (w : World) :
    Calls Try.prog 18 #[.string s, .int .u32 (a : Int), .int .u32 (b : Int)] w fun e w' => e = .returned (.tuple #[.string (s.extract 0 a), .string (s.extract a s.size), .bool true]) ∧ ∃ n, w' = w.drewN n := by
  have h1 : (a : Int) ≤ s.size := by omega
  have h2 : (a : Int) + b = s.size := by omega
  go_enter Try.func18, Try.ntmps18
  go_wp2
  go_quiet (fail)
  go_wp2
  exact bodyPost_ret (v := .tuple #[.string (s.extract 0 a), .string (s.extract a s.size), .bool true]) (by simp [results, Try.results18, go_sem]) rfl ⟨rfl, _, rfl⟩
set_option maxHeartbeats 1000000 in
theorem split18_no (s : ByteArray) (a b : Nat) (ha : a < 4294967296) (hb : b < 4294967296) (hs : s.size ≤ 1048576) (h : ¬ a + b = s.size) (w : World) :
    Calls Try.prog 18 #[.string s, .int .u32 (a : Int), .int .u32 (b : Int)] w fun e w' => e = .returned (.tuple #[.string ⟨#[]⟩, .string ⟨#[]⟩, .bool false]) ∧ ∃ n, w' = w.drewN n := by
  have h2 : ((a : Int) + b != s.size) = true := by simp; omega
  go_enter Try.func18, Try.ntmps18
  go_wp2
  exact bodyPost_ret (v := .tuple #[.string ⟨#[]⟩, .string ⟨#[]⟩, .bool false]) (by simp [results, Try.results18, go_sem]) rfl ⟨rfl, 0, rfl⟩

theorem mark_dec (s : ByteArray) : ((s.extract 0 4).toList == [82, 51, 50, 10]) = decide (s.data.toList.take 4 = markL) := by
  rw [ByteArray.toList_eq, ext_data, List.drop_zero, Bool.eq_iff_iff]
  exact ⟨fun h => decide_eq_true (eq_of_beq h), fun h => beq_iff_eq.2 (of_decide_eq_true h)⟩
set_option maxHeartbeats 1000000 in
theorem prefix23 (s : ByteArray) (h : 28 ≤ s.size) (w : World) :
    Calls Try.prog 23 #[.string s, .string ⟨#[82, 51, 50, 10]⟩] w fun e w' => e = .returned (.bool (decide (s.data.toList.take 4 = markL))) ∧ w' = w := by
  have h1 : (4 : Int) ≤ s.size := by omega
  go_enter Try.func23, Try.ntmps23
  go_wp2
  go_ret
  exact ⟨ret_b (mark_dec s), rfl⟩
theorem prefix17 (s : ByteArray) (h : 28 ≤ s.size) (w : World) :
    Calls Try.prog 17 #[.string s, .string ⟨#[82, 51, 50, 10]⟩] w fun e w' => e = .returned (.bool (decide (s.data.toList.take 4 = markL))) ∧ w' = w := by
  go_enter Try.func17, Try.ntmps17
  go_wp2_with (go_at_call 23; refine (prefix23 s h _).mono ?_; rintro e w1 ⟨rfl, rfl⟩)
  go_ret
  exact ⟨rfl, rfl⟩

def vals (l : List UInt8) : List Value := l.map fun x => Value.int .u8 (x.toNat : Int)
theorem vals_length (l : List UInt8) : (vals l).length = l.length := by simp [vals]
theorem vals_append (l m : List UInt8) : vals (l ++ m) = vals l ++ vals m := by simp [vals]
theorem vals_wd (n : Nat) (hn : n < 4294967296) : vals (wdL n) = [.int .u8 ((n : Int) % 256), .int .u8 ((n : Int) / 256 % 256), .int .u8 ((n : Int) / 65536 % 256), .int .u8 ((n : Int) / 16777216)] := by
  simp only [vals, wdL, List.map_cons, List.map_nil, Nat.toUInt8_eq, UInt8.toNat_ofNat']
  have e3 : n / 16777216 % 256 = n / 16777216 := by omega
  simp [e3]

theorem four_cells' {w : World} {g : Nat} {a b c d : Value} (h0 : w.cell? ⟨g, 0, none⟩ = some a) (h1 : w.cell? ⟨g, 1, none⟩ = some b) (h2 : w.cell? ⟨g, 2, none⟩ = some c) (h3 : w.cell? ⟨g, 3, none⟩ = some d) :
    ∀ (j : Nat) (u : Value), [a, b, c, d][j]? = some u → w.cell? ((⟨g, 0, none⟩ : Addr).add j) = some u := by
  intro j u hj
  rw [Addr.add_lit]
  match j, hj with
  | 0, hj => simp at hj; subst hj; simpa using h0
  | 1, hj => simp at hj; subst hj; simpa using h1
  | 2, hj => simp at hj; subst hj; simpa using h2
  | 3, hj => simp at hj; subst hj; simpa using h3

/-- The bytes of cells, as a string. -/
theorem conv_cells {W : World} {g len cap : Nat} {l : List UInt8} (hl : l.length = len) (h : ∀ (j : Nat) (u : Value), (vals l)[j]? = some u → W.cell? ((⟨g, 0, none⟩ : Addr).add j) = some u) :
    (convert 32 9 (.slice (some ⟨g, 0, none⟩) len cap)).run Try.prog W = .ok (.string (strL l)) W := by
  have e : strL l = strOfNums (l.map fun x => (x.toNat : Int)) := by
    unfold strOfNums strL
    simp [List.map_map, Function.comp_def]
  rw [e]
  refine run_convert_bytes_arg W 32 5 Try.underlying32 Try.underlying5 g 0 len cap _ (by simpa using hl) (fun i hi => ?_) 9 Try.underlying9
  have hi' : i < l.length := by omega
  have := h i (.int .u8 (l[i].toNat : Int)) (by simp [vals, hi'])
  rw [Addr.add_lit] at this
  simpa [List.getD, hi'] using this
theorem conv_own {W : World} {N : Nat} {sl : Value} {l : List UInt8} (h : W.ownsRow N 5 1 sl l.length (vals l)) : (convert 32 9 sl).run Try.prog W = .ok (.string (strL l)) W := by
  have h' := h
  obtain ⟨_, ⟨rfl, h0⟩ | ⟨g, cap, cur, rfl, _⟩⟩ := h
  · obtain rfl : l = [] := List.eq_nil_of_length_eq_zero h0
    exact run_convert_bytes_nil W 32 5 Try.underlying32 Try.underlying5 0 0 9 Try.underlying9
  · exact conv_cells rfl (h'.cells (g := g) rfl)

set_option maxHeartbeats 1000000 in
theorem word15 (n : Nat) (hn : n < 4294967296) (w : World) :
    Calls Try.prog 15 #[.int .u32 (n : Int)] w fun e w' => e = .returned (.string (strL (wdL n))) ∧ Below w.heap.size w w' := by
  have hcv : (convert 32 9 (.slice (some ⟨w.heap.size, 0, none⟩) 4 4)).run Try.prog (w.alloc (.cells #[.int .u8 ((n : Int) % 256), .int .u8 ((n : Int) / 256 % 256), .int .u8 ((n : Int) / 65536 % 256), .int .u8 ((n : Int) / 16777216)] 5)) =
      .ok (.string (strL (wdL n))) (w.alloc (.cells #[.int .u8 ((n : Int) % 256), .int .u8 ((n : Int) / 256 % 256), .int .u8 ((n : Int) / 65536 % 256), .int .u8 ((n : Int) / 16777216)] 5)) := by
    refine conv_cells rfl ?_
    rw [vals_wd n hn]
    exact four_cells' (by simp [go_sem]) (by simp [go_sem]) (by simp [go_sem]) (by simp [go_sem])
  go_enter Try.func15, Try.ntmps15
  go_wp2
  go_ret
  exact ⟨rfl, below_box _ _⟩

def Mark (x : Prop) : Prop := x
theorem of_mark {x : Prop} (h : Mark x) : x := h

set_option maxHeartbeats 2000000 in
theorem append12 {w : World} {base : Nat} {v : Value} {l : List UInt8} (n : Nat) (hn : n < 4294967296) (hown : w.ownsRow base 5 1 v l.length (vals l)) (hl : l.length ≤ 1048576) (hbase : base ≤ w.heap.size) :
    Calls Try.prog 12 #[v, .int .u32 (n : Int)] w fun e w' => ∃ v', e = .returned v' ∧ w'.ownsRow base 5 1 v' (l ++ wdL n).length (vals (l ++ wdL n)) ∧ Below base w w' := by
  obtain ⟨i0, hi, hz0, hz1, hz2⟩ := info_parts info5'
  go_enter Try.func12, Try.ntmps12
  go_wp2_with (at_builtin; refine of_mark ?_)
  unfold Mark
  refine wpList_append_own _ rfl _ _ 32 rfl base 5 i0 (.int .u8 0) 1 1 Try.underlying32 hi hz0 hz1 hz2 rfl (by decide) _ _ _ rfl (hown.alloc _) ⟨w.heap.size, 0, none⟩ 4 4 [.int .u8 ((n : Int) % 256), .int .u8 ((n : Int) / 256 % 256), .int .u8 ((n : Int) / 65536 % 256), .int .u8 ((n : Int) / 16777216)] rfl rfl ?c1 ?c2 ?c3 ?c4 ?c5 ?_
  case c1 => exact four_cells' (by simp [go_sem]) (by simp [go_sem]) (by simp [go_sem]) (by simp [go_sem])
  case c2 => intro u hu; simp at hu; rcases hu with rfl | rfl | rfl | rfl <;> rfl
  case c3 => unfold maxLen; omega
  case c4 => omega
  case c5 => simp; omega
  · intro v' w2 hown2 hgrow _
    have hb2 := hid (((Below.refl base w).alloc hbase (.cells #[.int .u8 ((n : Int) % 256), .int .u8 ((n : Int) / 256 % 256), .int .u8 ((n : Int) / 65536 % 256), .int .u8 ((n : Int) / 16777216)] 5)).grown hgrow (by simp; omega) (fun k hk => (hown.lt k hk).1))
    have ho2 : Hid (w2.ownsRow base 5 1 v' (l ++ wdL n).length (vals (l ++ wdL n))) := by
      rw [vals_append, vals_wd n hn, List.length_append, wdL_length]; exact hown2
    clear hown2 hgrow
    go_wp2
    go_ret
    exact ⟨_, rfl, ho2.out, hb2.out⟩

theorem append12i {w : World} {base : Nat} {v : Value} {l : List UInt8} {x : Int} (h0 : 0 ≤ x) (h1 : x < 4294967296) (hown : w.ownsRow base 5 1 v l.length (vals l)) (hl : l.length ≤ 1048576) (hbase : base ≤ w.heap.size) :
    Calls Try.prog 12 #[v, .int .u32 x] w fun e w' => ∃ v', e = .returned v' ∧ w'.ownsRow base 5 1 v' (l ++ wdL x.toNat).length (vals (l ++ wdL x.toNat)) ∧ Below base w w' := by
  have e : x = (x.toNat : Int) := by omega
  have h := append12 x.toNat (by omega) hown hl hbase
  rw [← e] at h
  exact h
end Go.Proofs.Ytlgeajcncmlngaa
