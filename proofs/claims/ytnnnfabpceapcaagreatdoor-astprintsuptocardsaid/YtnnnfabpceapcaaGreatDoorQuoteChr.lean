/- lexer.Quote, as the speller calls it. -/
import Derived.Test.YtnnnfabpceapcaaGreatDoorRevBuild
import Derived.Test.YtnnnfabpceapcaaGreatDoorShelf
import Derived.Test.YtnnnfabpceapcaaGreatDoorTextSt
import Derived.Deep.QuietTactic
import Derived.BigQuiet
namespace Go.Proofs.YtnnnfabpceapcaaGreatDoor
set_option linter.unusedSimpArgs false
open Go.RowKit
set_option linter.unusedVariables false
def plainB (c : UInt8) : Bool := decide (32 ≤ c.toNat) && decide (c.toNat ≤ 126)
theorem isPlain49 (c : UInt8) (w : World) : Calls Tryz.prog 127 #[byteV c] w fun e w' => e = .returned (.bool (plainB c)) ∧ w' = w := by
  go_enter Tryz.func127, Tryz.ntmps127
  go_wp2
  all_goals go_ret
  all_goals (refine ⟨ret_b (int_dec ?_), rfl⟩; simp only [plainB, Bool.and_eq_true, decide_eq_true_eq, Bool.false_eq_true, false_iff]; omega)
def vals (l : List UInt8) : List Value := l.map fun x => Value.int .u8 (x.toNat : Int)
theorem vals_length (l : List UInt8) : (vals l).length = l.length := by simp [vals]
theorem vals_append (l m : List UInt8) : vals (l ++ m) = vals l ++ vals m := by simp [vals]
/-- The builder in block b holds these bytes. -/
def UB (B b : Nat) (l : List UInt8) (w : World) : Prop := Lib.BuilderAt 54 5 B b (.pointer (some ⟨b, 0, none⟩)) (vals l) w

set_option maxHeartbeats 1000000 in
set_option maxRecDepth 100000 in
theorem check46 (b : Nat) (w : World) (h0 : w.cell? ⟨b, 0, none⟩ = some (.pointer (some ⟨b, 0, none⟩))) :
    Calls Tryz.prog 58 #[.pointer (some ⟨b, 0, none⟩)] w fun e w' => e = .returned (.tuple #[]) ∧ w' = w := by
  obtain ⟨j, hj, _⟩ := Option.map_eq_some_iff.1 size54
  go_enter Tryz.func58, Tryz.ntmps58
  go_wp2
  rw [Lib.run_neq_ptr_same w _ Tryz.underlying52 hj]
  go_wp2
  go_end0
  exact ⟨rfl, rfl⟩

set_option maxHeartbeats 2000000 in
set_option maxRecDepth 100000 in
theorem writeByte30 {B b : Nat} {l : List UInt8} (c : UInt8) {w : World} (h : UB B b l w) (hlen : l.length ≤ 1073741824) (hBw : B ≤ w.heap.size) :
    Calls Tryz.prog 118 #[.pointer (some ⟨b, 0, none⟩), byteV c] w fun e w' => e = .returned .nilIface ∧ UB B b (l ++ [c]) w' ∧ Below B w w' := by
  obtain ⟨i0, hi, hz0, hz1, hz2⟩ := info_parts info5'
  obtain ⟨hB, v, hbk, hown, hne⟩ := h
  have c0 : w.cell? ⟨b, 0, none⟩ = some (.pointer (some ⟨b, 0, none⟩)) := by rw [Lib.cell_of_heap hbk]; rfl
  have c1 : w.cell? ⟨b, 1, none⟩ = some v := by rw [Lib.cell_of_heap hbk]; rfl
  have hvl := vals_length l
  have hlt : b < w.heap.size := by
    rcases Nat.lt_or_ge b w.heap.size with h' | h'
    · exact h'
    · simp [Array.getElem?_eq_none h'] at hbk
  have hcc := check46 b w c0
  go_enter Tryz.func118, Tryz.ntmps118
  go_wp2_with (first
    | (go_at_call 58; (with_reducible refine hcc.mono ?_); rintro e w1 ⟨rfl, rfl⟩)
    | (at_builtin; refine of_mark ?_))
  unfold Mark
  refine wpList_append_own _ rfl _ _ 43 rfl B 5 i0 (.int .u8 0) 1 1 Tryz.underlying43 hi hz0 hz1 hz2 rfl (by decide) _ _ _ rfl (hown.alloc _) ⟨w1.heap.size, 0, none⟩ 1 1 [.int .u8 (c.toNat : Int)] rfl rfl ?c1 ?c2 ?c3 ?c4 ?c5 ?_
  case c1 => intro j u hj; rw [Addr.add_lit]; match j, hj with | 0, hj => (simp at hj; subst hj; simp [go_sem])
  case c2 => intro u hu; simp at hu; subst hu; rfl
  case c3 => unfold maxLen; omega
  case c4 => omega
  case c5 => simp; omega
  intro v' w2 hown' hgrow _
  have hb2 : w2.heap[b]? = some (.cells #[.pointer (some ⟨b, 0, none⟩), v] 54 (0, 0)) := by
    rw [hgrow.block b (by simp; omega) (fun e => hne e.symm), Lib.alloc_old w1 _ b hlt]
    exact hbk
  have d0 : w2.cell? ⟨b, 0, none⟩ = some (.pointer (some ⟨b, 0, none⟩)) := by rw [Lib.cell_of_heap hb2]; rfl
  have d1 : w2.cell? ⟨b, 1, none⟩ = some v := by rw [Lib.cell_of_heap hb2]; rfl
  have f1 : w2.frozen? ⟨b, 1, none⟩ = false := Lib.frozen_of_heap hb2 1
  obtain ⟨g, cap, rfl⟩ : ∃ g cap, v' = .slice (some ⟨g, 0, none⟩) ((vals l).length + 1) cap := by
    rcases hown'.2 with ⟨_, h0⟩ | ⟨g, cap, cur, hv, _⟩
    · omega
    · exact ⟨g, cap, hv⟩
  go_wp2
  go_ret
  refine ⟨rfl, ?_, ?_⟩
  · unfold UB
    rw [vals_append]
    exact Lib.BuilderAt.put (T := 54) (e := 5) hB hb2 (bs' := vals l ++ vals [c]) (by simpa [vals] using hown') (by decide)
  · exact (((Below.refl B w1).alloc hBw _).grown hgrow (by simp; omega) (fun k hk => (hown.lt k hk).1)).setCell (p := ⟨b, 1, none⟩) hB _

set_option maxHeartbeats 2000000 in
set_option maxRecDepth 100000 in
theorem writeString48 {B b : Nat} {l : List UInt8} (s : ByteArray) (p : List UInt8) (hp : s.data.toList = p) {w : World} (h : UB B b l w) (hlen : l.length ≤ 1073741824) (hs : p.length ≤ 1073741824) (hBw : B ≤ w.heap.size) :
    Calls Tryz.prog 35 #[.pointer (some ⟨b, 0, none⟩), .string s] w fun e w' => e = .returned (.tuple #[.int .i64 (s.size : Int), .nilIface]) ∧ UB B b (l ++ p) w' ∧ Below B w w' := by
  obtain ⟨i0, hi, hz0, hz1, hz2⟩ := info_parts info5'
  obtain ⟨hB, v, hbk, hown, hne⟩ := h
  have hsz : s.size = p.length := by rw [← hp, size_list]
  have hs2 : s.size ≤ 1073741824 := by omega
  replace hsz := hid' hsz
  have c0 : w.cell? ⟨b, 0, none⟩ = some (.pointer (some ⟨b, 0, none⟩)) := by rw [Lib.cell_of_heap hbk]; rfl
  have c1 : w.cell? ⟨b, 1, none⟩ = some v := by rw [Lib.cell_of_heap hbk]; rfl
  have hvl := vals_length l
  have hlt : b < w.heap.size := by
    rcases Nat.lt_or_ge b w.heap.size with h' | h'
    · exact h'
    · simp [Array.getElem?_eq_none h'] at hbk
  have hcc := check46 b w c0
  go_enter Tryz.func35, Tryz.ntmps35
  go_wp2_with (first
    | (go_at_call 58; (with_reducible refine hcc.mono ?_); rintro e w1 ⟨rfl, rfl⟩)
    | (at_builtin; refine of_mark ?_))
  unfold Mark
  refine Lib.wpList_append_own_string _ rfl _ _ 43 9 rfl B 5 i0 Tryz.underlying43 Tryz.underlying9 hi hz0 hz1 hz2 _ _ _ rfl hown s rfl ?c3 ?c4 ?c5 ?_
  case c3 => unfold maxLen; omega
  case c4 => omega
  case c5 => omega
  intro v' w2 hown' hgrow _
  have hb2 : w2.heap[b]? = some (.cells #[.pointer (some ⟨b, 0, none⟩), v] 54 (0, 0)) := by
    rw [hgrow.block b hlt (fun e => hne e.symm)]
    exact hbk
  have d0 : w2.cell? ⟨b, 0, none⟩ = some (.pointer (some ⟨b, 0, none⟩)) := by rw [Lib.cell_of_heap hb2]; rfl
  have d1 : w2.cell? ⟨b, 1, none⟩ = some v := by rw [Lib.cell_of_heap hb2]; rfl
  have f1 : w2.frozen? ⟨b, 1, none⟩ = false := Lib.frozen_of_heap hb2 1
  obtain ⟨ao, n', cap, rfl⟩ : ∃ ao n' cap, v' = .slice ao n' cap := by
    rcases hown'.2 with ⟨hv, _⟩ | ⟨g, cap, cur, hv, _⟩
    · exact ⟨_, _, _, hv⟩
    · exact ⟨_, _, _, hv⟩
  go_wp2
  refine bodyPost_ret (v := .tuple #[.int .i64 (s.size : Int), .nilIface]) (by simp [results, Tryz.results35, go_sem]) rfl ⟨rfl, ?_, ?_⟩
  · unfold UB
    rw [vals_append]
    have e : Lib.strCells s = vals p := by rw [← hp]; rfl
    rw [e, hsz.out] at hown'
    exact Lib.BuilderAt.put (T := 54) (e := 5) hB hb2 (bs' := vals l ++ vals p) (by simpa [vals_length] using hown') (by decide)
  · exact ((Below.refl B w1).grown hgrow hBw (fun k hk => (hown.lt k hk).1)).setCell (p := ⟨b, 1, none⟩) hB _

/-- A half byte's digit, small letters. -/
def hd (n : Nat) : UInt8 := if n < 10 then (48 + n).toUInt8 else (87 + n).toUInt8
/-- A byte as a unit of a string. -/
def qb (c : UInt8) : List UInt8 := if c.toNat = 10 then [92, 110] else if c.toNat = 9 then [92, 116] else if c.toNat = 13 then [92, 114] else if c.toNat = 0 then [92, 48] else if c.toNat = 34 ∨ c.toNat = 92 then [92, c] else if plainB c then [c] else [92, 120, hd (c.toNat / 16), hd (c.toNat % 16)]
theorem qb_len (c : UInt8) : 1 ≤ (qb c).length ∧ (qb c).length ≤ 4 := by
  unfold qb
  repeat' split
  all_goals simp

theorem ub_lt {B b : Nat} {l : List UInt8} {w : World} (h : UB B b l w) : b < w.heap.size := Lib.BuilderAt.lt h

theorem and15 (c : UInt8) : bits .and .u8 (c.toNat : Int) 15 = (c.toNat : Int) % 16 := by
  have h : ∀ n : Fin 256, bits .and .u8 ((n.val : Nat) : Int) 15 = ((n.val : Nat) : Int) % 16 := by decide +kernel
  exact h ⟨c.toNat, c.toNat_lt⟩
abbrev hexS : ByteArray := ⟨#[48, 49, 50, 51, 52, 53, 54, 55, 56, 57, 97, 98, 99, 100, 101, 102]⟩
theorem hd_at (n : Nat) (h : n < hexS.size) : hexS[n] = hd n := by
  have h' : ∀ n : Fin 16, hexS[n.val]'(n.isLt) = hd n.val := by decide +kernel
  exact h' ⟨n, h⟩
theorem u92 : ((92 : UInt8).toNat : Int) = 92 := rfl
theorem u34 : ((34 : UInt8).toNat : Int) = 34 := rfl
theorem writeByte30i {B b : Nat} {l : List UInt8} (c : UInt8) {x : Int} (hx : (c.toNat : Int) = x) {w : World} (h : UB B b l w) (hlen : l.length ≤ 1073741824) (hBw : B ≤ w.heap.size) :
    Calls Tryz.prog 118 #[.pointer (some ⟨b, 0, none⟩), .int .u8 x] w fun e w' => e = .returned .nilIface ∧ UB B b (l ++ [c]) w' ∧ Below B w w' := by
  subst hx
  exact writeByte30 c h hlen hBw

section
variable {B b : Nat} {l : List UInt8} (c : UInt8) {w : World} (h : UB B b l w) (hlen : l.length ≤ 1073741000) (hBw : B ≤ w.heap.size)
include h hlen hBw
set_option maxHeartbeats 4000000 in
set_option maxRecDepth 100000 in
theorem qb_esc (d : UInt8) (hc : ((c.toNat : Int) = 10 ∧ d = 110) ∨ ((c.toNat : Int) = 9 ∧ d = 116) ∨ ((c.toNat : Int) = 13 ∧ d = 114) ∨ ((c.toNat : Int) = 0 ∧ d = 48)) :
    Calls Tryz.prog 119 #[.pointer (some ⟨b, 0, none⟩), byteV c] w fun e w' => e = .returned (.tuple #[]) ∧ UB B b (l ++ [92, d]) w' ∧ Below B w w' := by
  replace h := hid' h
  rcases hc with ⟨hc, rfl⟩ | ⟨hc, rfl⟩ | ⟨hc, rfl⟩ | ⟨hc, rfl⟩
  all_goals go_enter Tryz.func119, Tryz.ntmps119
  all_goals go_wp2_with (go_at_call 35; (first
        | (with_reducible refine (writeString48 ⟨#[92, 110]⟩ [92, 110] rfl h.out (by omega) (by simp) (by omega)).mono ?_)
        | (with_reducible refine (writeString48 ⟨#[92, 116]⟩ [92, 116] rfl h.out (by omega) (by simp) (by omega)).mono ?_)
        | (with_reducible refine (writeString48 ⟨#[92, 114]⟩ [92, 114] rfl h.out (by omega) (by simp) (by omega)).mono ?_)
        | (with_reducible refine (writeString48 ⟨#[92, 48]⟩ [92, 48] rfl h.out (by omega) (by simp) (by omega)).mono ?_)); rintro e w1 ⟨rfl, hu, hb⟩; replace hu := hid' hu; replace hb := hid' hb)
  all_goals go_end0
  all_goals exact ⟨rfl, hu.out, hb.out⟩

set_option maxHeartbeats 4000000 in
set_option maxRecDepth 100000 in
theorem qb_two (hc : (c.toNat : Int) = 34 ∨ (c.toNat : Int) = 92) :
    Calls Tryz.prog 119 #[.pointer (some ⟨b, 0, none⟩), byteV c] w fun e w' => e = .returned (.tuple #[]) ∧ UB B b (l ++ [92, c]) w' ∧ Below B w w' := by
  replace h := hid' h
  have hl1 : (l ++ [(92 : UInt8)]).length ≤ 1073741824 := by simp; omega
  rcases hc with hc | hc
  · go_enter Tryz.func119, Tryz.ntmps119
    go_wp2_with (go_at_call 118; refine of_mark ?_)
    unfold Mark
    refine (writeByte30i 92 u92 h.out (by omega) (by omega)).mono ?_
    rintro e w1 ⟨rfl, hu, hb⟩
    replace hu := hid' hu
    replace hb := hid' hb
    go_wp2_with (go_at_call 118; refine of_mark ?_)
    unfold Mark
    (with_reducible refine (writeByte30 c hu.out hl1 (by (have := hb.out.size); omega)).mono ?_)
    rintro e w2 ⟨rfl, hu2, hb2⟩
    replace hu2 := hid' hu2
    replace hb2 := hid' hb2
    go_wp2
    go_end0
    refine ⟨rfl, ?_, hb.out.trans hb2.out⟩
    have e := hu2.out
    rw [List.append_assoc] at e
    exact e
  · go_enter Tryz.func119, Tryz.ntmps119
    go_wp2_with (go_at_call 118; refine of_mark ?_)
    unfold Mark
    refine (writeByte30i 92 u92 h.out (by omega) (by omega)).mono ?_
    rintro e w1 ⟨rfl, hu, hb⟩
    replace hu := hid' hu
    replace hb := hid' hb
    go_wp2_with (go_at_call 118; refine of_mark ?_)
    unfold Mark
    (with_reducible refine (writeByte30 c hu.out hl1 (by (have := hb.out.size); omega)).mono ?_)
    rintro e w2 ⟨rfl, hu2, hb2⟩
    replace hu2 := hid' hu2
    replace hb2 := hid' hb2
    go_wp2
    go_end0
    refine ⟨rfl, ?_, hb.out.trans hb2.out⟩
    have e := hu2.out
    rw [List.append_assoc] at e
    exact e

set_option maxHeartbeats 4000000 in
set_option maxRecDepth 100000 in
theorem qb_one (n0 : ((c.toNat : Int) == 0) = false) (n34 : ((c.toNat : Int) == 34) = false) (n92 : ((c.toNat : Int) == 92) = false) (hp : plainB c = true) :
    Calls Tryz.prog 119 #[.pointer (some ⟨b, 0, none⟩), byteV c] w fun e w' => e = .returned (.tuple #[]) ∧ UB B b (l ++ [c]) w' ∧ Below B w w' := by
  have n9 : ((c.toNat : Int) == 9) = false := by simp [plainB] at hp; simp; omega
  have n10 : ((c.toNat : Int) == 10) = false := by simp [plainB] at hp; simp; omega
  have n13 : ((c.toNat : Int) == 13) = false := by simp [plainB] at hp; simp; omega
  replace h := hid' h
  go_enter Tryz.func119, Tryz.ntmps119
  go_wp2_with (first
    | (go_at_call 118; refine (writeByte30 c h.out (by omega) (by omega)).mono ?_; rintro e w1 ⟨rfl, hu, hb⟩; replace hu := hid' hu; replace hb := hid' hb)
    | (go_at_call 127; refine (isPlain49 _ _).mono ?_; rintro e w1 ⟨rfl, rfl⟩))
  go_end0
  exact ⟨rfl, hu.out, hb.out⟩

set_option maxHeartbeats 4000000 in
set_option maxRecDepth 100000 in
theorem qb_hex (n0 : ((c.toNat : Int) == 0) = false) (n9 : ((c.toNat : Int) == 9) = false) (n10 : ((c.toNat : Int) == 10) = false) (n13 : ((c.toNat : Int) == 13) = false) (n34 : ((c.toNat : Int) == 34) = false) (n92 : ((c.toNat : Int) == 92) = false) (hp : plainB c = false) :
    Calls Tryz.prog 119 #[.pointer (some ⟨b, 0, none⟩), byteV c] w fun e w' => e = .returned (.tuple #[]) ∧ UB B b (l ++ [92, 120, hd (c.toNat / 16), hd (c.toNat % 16)]) w' ∧ Below B w w' := by
  have hc := c.toNat_lt
  have hc2 : (c.toNat : Int) / 16 < 16 := by omega
  have hc3 : 0 ≤ (c.toNat : Int) / 16 := by omega
  have hand := and15 c
  have hl1 : (l ++ [(92 : UInt8), 120]).length ≤ 1073741824 := by simp; omega
  have hl2 : ∀ x : UInt8, ((l ++ [(92 : UInt8), 120]) ++ [x]).length ≤ 1073741824 := fun x => by simp; omega
  replace h := hid' h
  go_enter Tryz.func119, Tryz.ntmps119
  go_wp2_with (first
    | (go_at_call 35; (with_reducible refine (writeString48 ⟨#[92, 120]⟩ [92, 120] rfl h.out (by omega) (by simp) (by omega)).mono ?_); rintro e w1 ⟨rfl, hu, hb⟩; replace hu := hid' hu; replace hb := hid' hb)
    | (go_at_call 118; first
        | (refine (writeByte30 _ hu2.out (hl2 _) (by (have := (hb.out.trans hb2.out).size); omega)).mono ?_; rintro e w3 ⟨rfl, hu3, hb3⟩; replace hu3 := hid' hu3; replace hb3 := hid' hb3)
        | (refine (writeByte30 _ hu.out hl1 (by (have := hb.out.size); omega)).mono ?_; rintro e w2 ⟨rfl, hu2, hb2⟩; replace hu2 := hid' hu2; replace hb2 := hid' hb2))
    | (go_at_call 127; refine (isPlain49 _ _).mono ?_; rintro e w1 ⟨rfl, rfl⟩))
  go_end0
  refine ⟨rfl, ?_, (hb.out.trans hb2.out).trans hb3.out⟩
  have e := hu3.out
  rw [hd_at (c.toNat / 16), hd_at (c.toNat % 16), List.append_assoc, List.append_assoc] at e
  exact e

theorem quoteByte31 : Calls Tryz.prog 119 #[.pointer (some ⟨b, 0, none⟩), byteV c] w fun e w' => e = .returned (.tuple #[]) ∧ UB B b (l ++ qb c) w' ∧ Below B w w' := by
  unfold qb
  by_cases h10 : c.toNat = 10
  · rw [if_pos h10]; exact qb_esc c h hlen hBw 110 (.inl ⟨by omega, rfl⟩)
  · by_cases h9 : c.toNat = 9
    · rw [if_neg h10, if_pos h9]; exact qb_esc c h hlen hBw 116 (.inr (.inl ⟨by omega, rfl⟩))
    · by_cases h13 : c.toNat = 13
      · rw [if_neg h10, if_neg h9, if_pos h13]; exact qb_esc c h hlen hBw 114 (.inr (.inr (.inl ⟨by omega, rfl⟩)))
      · by_cases h0 : c.toNat = 0
        · rw [if_neg h10, if_neg h9, if_neg h13, if_pos h0]; exact qb_esc c h hlen hBw 48 (.inr (.inr (.inr ⟨by omega, rfl⟩)))
        · by_cases h2 : c.toNat = 34 ∨ c.toNat = 92
          · rw [if_neg h10, if_neg h9, if_neg h13, if_neg h0, if_pos h2]; exact qb_two c h hlen hBw (by omega)
          · rw [if_neg h10, if_neg h9, if_neg h13, if_neg h0, if_neg h2]
            cases hp : plainB c
            · rw [if_neg (by simp)]
              exact qb_hex c h hlen hBw (by simp; omega) (by simp; omega) (by simp; omega) (by simp; omega) (by simp; omega) (by simp; omega) hp
            · rw [if_pos rfl]
              exact qb_one c h hlen hBw (by simp; omega) (by simp; omega) (by simp; omega) hp
end

/-- A text as a string's literal. -/
def quoteL (l : List UInt8) : List UInt8 := [34] ++ l.flatMap qb ++ [34]
theorem flat_len : ∀ l : List UInt8, (l.flatMap qb).length ≤ 4 * l.length
  | [] => Nat.le_refl _
  | c :: r => by
    have := flat_len r
    have := qb_len c
    simp only [List.flatMap_cons, List.length_append, List.length_cons]
    omega
theorem take_succ (s : ByteArray) (k : Nat) (h : k < s.size) : (lst s).take (k + 1) = (lst s).take k ++ [s[k]] := by
  rw [List.take_succ_eq_append_getElem (by rw [lst_len]; exact h)]; rfl

set_option maxHeartbeats 4000000 in
set_option maxRecDepth 100000 in
theorem quote19 (s : ByteArray) (hs : s.size ≤ 1048576) (w : World) : Calls Tryz.prog 106 #[.string s] w fun e w' => e = .returned (.string (strL (quoteL (lst s)))) ∧ Below w.heap.size w w' := by
  have hlen := lst_len s
  have hg := Tryz.Builder_Grow_fresh w.heap.size w.heap.size (s.size + 2) (w.alloc (.cells #[.pointer none, .slice none 0 0] 54)) (Nat.le_refl _) (heap_alloc_new w _) (by simp) (by omega)
  rw [show ((s.size + 2 : Nat) : Int) = (s.size : Int) + 2 by omega] at hg
  go_enter Tryz.func106, Tryz.ntmps106
  go_wp2_with (first
    | (go_at_call 117; (with_reducible refine hg.mono ?_); rintro e w1 ⟨rfl, hu, hb⟩; replace hu := hid' hu; replace hb := hid' hb)
    | (go_at_call 118; refine of_mark ?_))
  unfold Mark
  have hu0 : UB w.heap.size w.heap.size [] w1 := hu.out
  have hB0 : Below w.heap.size w w1 := (below1 w _).trans hb.out
  have hsz0 := hB0.size
  refine (writeByte30i 34 u34 hu0 (by simp) hsz0).mono ?_
  rintro e w2 ⟨rfl, hu2, hb2⟩
  have HU2 := hid' hu2
  have HB2 := hid' (hB0.trans hb2)
  clear hu2 hb2 hu hb hu0 hB0 hsz0 hg
  go_wp2
  go_loopw [12] (fun i wr => ∃ k : Nat, k ≤ s.size ∧ i = .int .i64 k ∧ UB w.heap.size w.heap.size ([34] ++ ((lst s).take k).flatMap qb) wr ∧ Below w.heap.size w wr) (fun i _ => s.size - (intOf i).toNat)
  case atStart => exact ⟨0, Nat.zero_le _, rfl, HU2.out, HB2.out⟩
  case round =>
    obtain ⟨k, hk, rfl, hu, hB⟩ := hrel
    have HU := hid' hu
    have HB := hid' hB
    clear hu hB HU2 HB2
    have hl : ([34] ++ ((lst s).take k).flatMap qb).length ≤ 1073741000 := by
      have h1 := flat_len ((lst s).take k)
      rw [List.length_take] at h1
      rw [List.length_append]
      simp only [List.length_cons, List.length_nil]
      omega
    by_cases hlt : k < s.size
    · have hq := quoteByte31 s[k] HU.out hl HB.out.size
      go_wp2_with (go_at_call 119; (with_reducible refine hq.mono ?_); rintro e w3 ⟨rfl, hu3, hb3⟩; replace hu3 := hid' hu3; replace hb3 := hid' hb3)
      go_roundw
      case rel =>
        refine ⟨k + 1, by omega, vi (by omega), ?_, HB.out.trans hb3.out⟩
        rw [take_succ s k hlt, List.flatMap_append, ← List.append_assoc]
        have e := hu3.out
        rw [show [s[k]].flatMap qb = qb s[k] by simp]
        exact e
      case measure => simp [intOf]; omega
    · have e1 : (lst s).take k = lst s := List.take_of_length_le (by omega)
      rw [e1] at HU hl
      have hq := writeByte30i 34 u34 HU.out (by omega) HB.out.size
      go_wp2_with (first
        | (go_at_call 118; (with_reducible refine hq.mono ?_); rintro e w3 ⟨rfl, hu3, hb3⟩; replace hu3 := hid' hu3; replace hb3 := hid' hb3)
        | (go_at_call 36; refine of_mark ?_))
      unfold Mark
      refine (Tryz.Builder_String_any w.heap.size w.heap.size ([34] ++ (lst s).flatMap qb ++ [34]) w3 (.inr hu3.out) ((HB.out.trans hb3.out).size)).mono ?_
      rintro e w4 ⟨rfl, hb4⟩
      go_wp2
      go_ret
      exact ⟨rfl, (HB.out.trans hb3.out).trans hb4⟩
end Go.Proofs.YtnnnfabpceapcaaGreatDoor

namespace Go.Proofs.YtnnnfabpceapcaaGreatDoor
set_option linter.unusedSimpArgs false
open Go.RowKit
set_option linter.unusedVariables false

/-- A string's text, as the speller has it. -/
def qtL (l : List UInt8) : List UInt8 := if 1048576 < l.length then l else quoteL l
set_option maxHeartbeats 2000000 in
theorem quoted53 (s : ByteArray) (w : World) : Calls Tryz.prog 82 #[.string s] w fun e w' => (∃ t, e = .returned (.string t) ∧ lst t = qtL (lst s)) ∧ Below w.heap.size w w' := by
  have hsl := lst_len s
  unfold qtL
  by_cases h : 1048576 < s.size
  · rw [if_pos (by omega)]
    have h' : (1048576 : Int) < (s.size : Int) := by omega
    go_enter Tryz.func82, Tryz.ntmps82
    go_wp2
    go_ret
    exact ⟨⟨s, rfl, rfl⟩, Below.refl _ _⟩
  · rw [if_neg (by omega)]
    have H := hid' (quote19 s (by omega) w)
    have h' : ¬ (1048576 : Int) < (s.size : Int) := by omega
    have hq : lst (strL (quoteL (lst s))) = quoteL (lst s) := rfl
    replace hq := hid' hq
    generalize quoteL (lst s) = q at *
    go_enter Tryz.func82, Tryz.ntmps82
    go_wp2_with (go_at_call 106; (with_reducible refine H.out.mono ?_); rintro e w1 ⟨rfl, hb1⟩; replace hb1 := hid' hb1)
    go_ret
    exact ⟨⟨_, rfl, hq.out⟩, hb1.out⟩
section
variable {G : NdH → List Tr → Bool} {A : Nat → Prop} {sb : Nat} {T : List Pc} {w w0 : World} {b o : Nat} {x : NdH} {kv : Value} {n cb : Nat} {ks : List Tr}
set_option maxHeartbeats 4000000 in
theorem str36 (J : Job G A sb T w0 w b o x kv n cb ks) (hk : x.kind = 3) : Calls Tryz.prog 55 #[.pointer (some ⟨sb, 0, none⟩), .pointer (some ⟨b, o, none⟩)] w (Spelt G qtL A sb T w0 w x ks) := by
  have hT := J.hT
  have H := hid' (quoted53 x.str w)
  obtain ⟨c0, c1, _, _, c4, _⟩ := J.hat.below J.hw J.hb
  have hbw := Nat.lt_of_lt_of_le J.hb J.hw.size
  have s0 : Hid (∀ w1, Below w.heap.size w w1 → St G (spellT qtL) w0 A sb T w [] 0 w1) := fun w1 h => ⟨[], by simpa using J.sp.below h, On.of_below h, Says.nil⟩
  obtain ⟨hkl, ao, cap, rfl⟩ := J.hK.shape
  have hX : Hid (qtL (lst x.str) = spellN qtL x ks (ks.map (spellT qtL))) := by
    unfold Hid spellN
    simp [hk]
  rw [hk] at c0
  go_enter Tryz.func55, Tryz.ntmps55
  go_wp2_with (first
    | (go_at_call 82; refine H.out.mono ?_; rintro e w1 ⟨⟨s, rfl, hs⟩, hb1⟩; replace hs := hid' hs; replace s0 := hid' (s0.out w1 hb1); clear hb1)
    | (go_at_call 79; refine (say_st [s] s0.out (by simp; omega) _ _ rfl rfl).mono ?_; rintro e w2 ⟨rfl, s2⟩))
  go_end0
  exact s2.out.laid (by rw [← hX.out, ← hs.out]; simp) (by simp; omega)
end
theorem and15a (v : Nat) (hv : v < 256) : bits .and .u32 ((v : Int) / 16) 15 = (v : Int) / 16 := by
  have h : ∀ n : Fin 256, bits .and .u32 (((n.val : Nat) : Int) / 16) 15 = ((n.val : Nat) : Int) / 16 := by decide +kernel
  exact h ⟨v, hv⟩
theorem and15b (v : Nat) (hv : v < 256) : bits .and .u32 (v : Int) 15 = (v : Int) % 16 := by
  have h : ∀ n : Fin 256, bits .and .u32 ((n.val : Nat) : Int) 15 = ((n.val : Nat) : Int) % 16 := by decide +kernel
  exact h ⟨v, hv⟩
theorem enc_hex (k : Nat) (h : k < 16) : ∀ hb : k < (ByteArray.mk #[48, 49, 50, 51, 52, 53, 54, 55, 56, 57, 97, 98, 99, 100, 101, 102]).size, Utf8.encode (((ByteArray.mk #[48, 49, 50, 51, 52, 53, 54, 55, 56, 57, 97, 98, 99, 100, 101, 102])[k]'hb).toNat : Int) = ⟨#[hdC k]⟩ := by
  have hh : ∀ n : Fin 16, Utf8.encode (((ByteArray.mk #[48, 49, 50, 51, 52, 53, 54, 55, 56, 57, 97, 98, 99, 100, 101, 102])[n.val]'n.isLt).toNat : Int) = ⟨#[hdC n.val]⟩ := by decide +kernel
  exact fun hb => hh ⟨k, h⟩
set_option maxHeartbeats 2000000 in
theorem char52 (v : Nat) (hv : v < 256) (w : World) : Calls Tryz.prog 81 #[.int .u32 (v : Int)] w fun e w' => (∃ t, e = .returned (.string t) ∧ lst t = chrL v) ∧ Below w.heap.size w w' := by
  have h1 := and15a v hv
  have h2 := and15b v hv
  have h3 : (v : Int) / 16 < 16 := by omega
  have h4 : 0 ≤ (v : Int) / 16 := by omega
  have h5 : (v : Int) % 16 < 16 := by omega
  have h6 : 0 ≤ (v : Int) % 16 := by omega
  have h7 := enc_hex ((v : Int) / 16).toNat (by omega)
  have h8 := enc_hex ((v : Int) % 16).toNat (by omega)
  have e7 : ((v : Int) / 16).toNat = v / 16 := by omega
  have e8 : ((v : Int) % 16).toNat = v % 16 := by omega
  have hc : chrL v = [39, 92, 120, hdC ((v : Int) / 16).toNat, hdC ((v : Int) % 16).toNat, 39] := by rw [e7, e8]; rfl
  replace hc := hid' hc
  clear e7 e8
  go_enter Tryz.func81, Tryz.ntmps81
  go_wp2
  go_quiet (fail)
  go_wp2
  go_ret
  exact ⟨⟨_, rfl, by rw [hc.out]; rfl⟩, ⟨rfl, rfl, rfl, Nat.le_refl _, fun _ _ => rfl⟩⟩
section
variable {G : NdH → List Tr → Bool} {qt : List UInt8 → List UInt8} {A : Nat → Prop} {sb : Nat} {T : List Pc} {w w0 : World} {b o : Nat} {x : NdH} {kv : Value} {n cb : Nat} {ks : List Tr}
set_option maxHeartbeats 4000000 in
theorem char36 {v : Nat} (hv : v < 256) (hn : x.num = (v : Int)) (J : Job G A sb T w0 w b o x kv n cb ks) (hk : x.kind = 2) : Calls Tryz.prog 55 #[.pointer (some ⟨sb, 0, none⟩), .pointer (some ⟨b, o, none⟩)] w (Spelt G qt A sb T w0 w x ks) := by
  have hT := J.hT
  have H := hid' (char52 v hv w)
  obtain ⟨c0, _, c2, _, c4, _⟩ := J.hat.below J.hw J.hb
  have hbw := Nat.lt_of_lt_of_le J.hb J.hw.size
  have s0 : Hid (∀ w1, Below w.heap.size w w1 → St G (spellT qt) w0 A sb T w [] 0 w1) := fun w1 h => ⟨[], by simpa using J.sp.below h, On.of_below h, Says.nil⟩
  obtain ⟨hkl, ao, cap, rfl⟩ := J.hK.shape
  have hX : Hid (chrL v = spellN qt x ks (ks.map (spellT qt))) := by
    unfold Hid spellN
    simp [hk, hn]
  rw [hk] at c0
  rw [hn] at c2
  generalize chrL v = q at *
  go_enter Tryz.func55, Tryz.ntmps55
  go_wp2_with (first
    | (go_at_call 81; refine H.out.mono ?_; rintro e w1 ⟨⟨s, rfl, hs⟩, hb1⟩; replace hs := hid' hs; replace s0 := hid' (s0.out w1 hb1); clear hb1)
    | (go_at_call 79; refine (say_st [s] s0.out (by simp; omega) _ _ rfl rfl).mono ?_; rintro e w2 ⟨rfl, s2⟩))
  go_end0
  exact s2.out.laid (by rw [← hX.out, ← hs.out]; simp) (by simp; omega)
end
end Go.Proofs.YtnnnfabpceapcaaGreatDoor
