/- Numbers as text. -/
import Derived.Shelf.Strings.Builder1
import Derived.Shelf.Strings.Builder2
import Derived.Shelf.Strconv.Itoa0
import Derived.Shelf.Strconv.Itoa1
import Derived.Shelf.LaysM
import Derived.Shelf.Strconv.Itoa2
import Derived.Test.YtnnnfabpceapcaaGreatDoorShelf
import Derived.Test.YtnnnfabpceapcaaGreatDoorTree
import Derived.Lib.ItoaMem
import Derived.Lib.AppendIntMem
import Derived.WalkKit
import Derived.Test.YtnnnfabpceapcaaGreatDoorSp2

namespace Go.Proofs.YtnnnfabpceapcaaGreatDoor
set_option linter.unusedSimpArgs false
open Go Go.RowKit Go.Sort
set_option linter.unusedVariables false

/-- The table of tens stands. -/
def Mark1 (x : Prop) : Prop := x
theorem of_mark' {x : Prop} (h : Mark1 x) : x := h
def TabOk (w : World) : Prop := Lib.TabIs Tryz.prog w "internal/strconv.uint64pow10" .u64 Lib.pow10Tab
theorem TabOk.below {w w' : World} (h : TabOk w) (hb : Below w.heap.size w w') : TabOk w' := Lib.tabBelow_of_tabIs h w' hb

set_option maxRecDepth 100000 in
set_option maxHeartbeats 4000000 in
theorem format87_all (u : Nat) (hu : u < 4294967296) (w : World) (ht : TabOk w) : Calls Tryz.prog 116 #[.int .u64 (u : Int), .int .i64 10] w fun e w' => e = .returned (.string ⟨(Lib.decDigits u).toArray⟩) ∧ Below w.heap.size w w' := by
  by_cases hs : u < 100
  · have hs' : (u : Int) < 100 := by omega
    have H := hid' (Tryz.internal_strconv_small u hs w)
    go_enter Tryz.func116, Tryz.ntmps116
    go_wp2_with (go_at_call 122; refine H.out.mono ?_; rintro e w1 ⟨rfl, rfl⟩)
    go_ret
    exact ⟨rfl, Below.refl _ _⟩
  · have hs' : ¬ (u : Int) < 100 := by omega
    have hu1 : 1 ≤ u := by omega
    have hu64 : u < 18446744073709551616 := by omega
    have hnd20 : Lib.nDigits u ≤ 20 := by have := Lib.numDigits_eq u hu1 hu64; split at this <;> omega
    have hal : Tryz.prog.arrayLen 107 = 24 := by kernel_rfl
    have hsl1 : ∀ W, (Instr.sliceAt 107 (.pointer (some ⟨w.heap.size, 0, none⟩)) none (some (.int .i64 (Lib.nDigits u : Int))) none).run Tryz.prog W = .ok (.slice (some ⟨w.heap.size, 0, none⟩) (Lib.nDigits u) 24) W := fun W => by
      rw [run_sliceAt_array_h W 107 ⟨w.heap.size, 0, none⟩ (by simp [Program.arrayLen, Program.elem, Tryz.underlying107]) .i64 (Lib.nDigits u : Int) (by omega) (by rw [hal]; omega)]
      go_simp
    have hH0 := Lib.holds_zero0 w 107 (Lib.nDigits u) (by omega)
    have hfmt := Tryz.internal_strconv_formatBase10 w.heap.size 0 24 u (Array.replicate (Lib.nDigits u) 0) (w.alloc (.cells Lib.zeros24 107)) hH0 (by rw [Array.size_replicate]; exact Lib.lt_pow_nDigits u) hu64 (by rw [Array.size_replicate]; omega)
    rw [Array.size_replicate] at hfmt
    have HH0 := hid' hH0
    have hnd := Tryz.internal_strconv_numDigits u hu1 hu64 (w.alloc (.cells Lib.zeros24 107)) (Lib.tabIs_alloc ht _)
    have HF := hid' hfmt
    have HN := hid' hnd
    clear hH0 hfmt hnd
    go_enter Tryz.func116, Tryz.ntmps116
    go_wp2_with (first
      | (go_at_call 123; refine HN.out.mono ?_; rintro e w1 ⟨rfl, rfl⟩)
      | (go_at_call 124; refine of_mark' ?_))
    unfold Mark1
    refine HF.out.mono ?_
    rintro e w' ⟨rfl, k, v', dk, rfl, hF⟩
    have hcv : (convert 43 9 (.slice (some ⟨w.heap.size, 0, none⟩) (Lib.nDigits u) 24)).run Tryz.prog ((putRow (fun (b : UInt8) => Value.int .u8 (b.toNat : Int)) (w.alloc (.cells Lib.zeros24 107)) w.heap.size 0 dk).drewN k) = .ok (.string ⟨(Lib.decDigits u).toArray⟩) ((putRow (fun (b : UInt8) => Value.int .u8 (b.toNat : Int)) (w.alloc (.cells Lib.zeros24 107)) w.heap.size 0 dk).drewN k) := by
      have h := run_convert_bytes_back (P := Tryz.prog) ((putRow (fun (b : UInt8) => Value.int .u8 (b.toNat : Int)) (w.alloc (.cells Lib.zeros24 107)) w.heap.size 0 dk).drewN k) 43 9 5 ⟨w.heap.size, 0, none⟩ 24 (Lib.decDigits u) Tryz.underlying43 Tryz.underlying5 Tryz.underlying9 (fun j hj => by
        rw [Lib.row_is_numeral hF j hj, Lib.add_plain, World.cell?_drewN]
        exact cell?_putRow (fun (b : UInt8) => Value.int .u8 (b.toNat : Int)) _ w.heap.size 0 _ dk HH0.out (by rw [hF.size, Array.size_replicate]) j (by rw [hF.size]; rw [Lib.decDigits_length] at hj; exact hj))
      rw [Lib.decDigits_length] at h
      exact h
    obtain ⟨os, eo⟩ := Lib.fin_at w (.cells Lib.zeros24 107) dk k 0
    have HEO := hid' eo
    clear eo hF
    go_wp2
    go_ret
    refine ⟨rfl, ?_⟩
    rw [HEO.out]
    exact ⟨rfl, rfl, rfl, by show w.heap.size ≤ (w.heap ++ os).size; rw [Array.size_append]; exact Nat.le_add_right _ _, fun b hb => Lib.heap_grow_old w k os b hb⟩
end Go.Proofs.YtnnnfabpceapcaaGreatDoor

namespace Go.Proofs.YtnnnfabpceapcaaGreatDoor
set_option linter.unusedSimpArgs false
open Go.RowKit
set_option linter.unusedVariables false

theorem decF_is : ∀ (f n : Nat), n < 10 ^ (f + 1) → decF (f + 1) n = Lib.decDigits n
  | 0, n, h => by
    have h' : n < 10 := by simpa using h
    unfold decF
    rw [if_pos h', Lib.decDigits_one h']
    rfl
  | f + 1, n, h => by
    unfold decF
    by_cases h' : n < 10
    · rw [if_pos h', Lib.decDigits_one h']
      rfl
    · rw [if_neg h', Lib.decDigits, dif_neg h', decF_is f (n / 10) (by rw [Nat.pow_succ] at h; omega)]
      rfl
/-- FormatUint answers, behind a world. -/
def FmtAt (k : Nat) (w0 : World) : Prop := ∀ w : World, Below w0.heap.size w0 w → Calls Tryz.prog 105 #[.int .u64 (k : Int), .int .i64 10] w fun e w' => e = .returned (.string ⟨(decF 20 k).toArray⟩) ∧ Below w.heap.size w w'
theorem fmt_at {w0 : World} (h : TabOk w0) (k : Nat) (hk : k < 4294967296) : FmtAt k w0 := fun w hb => by
  have H := hid' (format87_all k hk w (h.below hb))
  rw [← decF_is 19 k (by omega)] at H
  generalize decF (19 + 1) k = l at *
  go_enter Tryz.func105, Tryz.ntmps105
  go_wp2_with (go_at_call 116; refine H.out.mono ?_; rintro e w1 ⟨rfl, hb1⟩; replace hb1 := hid' hb1)
  go_ret
  exact ⟨rfl, hb1.out⟩
section
variable {G : NdH → List Tr → Bool} {qt : List UInt8 → List UInt8} {A : Nat → Prop} {sb : Nat} {T : List Pc} {w w0 : World} {b o : Nat} {x : NdH} {kv : Value} {n cb : Nat} {ks : List Tr}
set_option maxHeartbeats 4000000 in
theorem number51w {k : Nat} (hF : FmtAt k w) (h : NdAt w b o x kv) (hb : b < w.heap.size) (hn : x.num = (k : Int)) (hk : k < 4294967296) : Calls Tryz.prog 80 #[.pointer (some ⟨b, o, none⟩)] w fun e w' => (∃ s, e = .returned (.string s) ∧ lst s = numL x) ∧ Below w.heap.size w w' := by
  obtain ⟨c0, _, c2, c3, _, _⟩ := h
  have H := hid' (hF w (Below.refl _ _))
  have hc : Hid (∀ w', Below w.heap.size w w' → w'.cell? ⟨b, o + 3, none⟩ = some (.bool x.flag)) := fun w' hw => (hw.cell (p := ⟨b, o + 3, none⟩) hb).trans c3
  have hX : Hid (numL x = decF 20 k ++ (if x.flag then [117] else [])) := by
    show _ = _
    unfold numL
    rw [hn]
    rfl
  rw [hn] at c2
  have hl := decF_len 20 k
  generalize decF 20 k = l at *
  generalize numL x = q at *
  go_enter Tryz.func80, Tryz.ntmps80
  cases hf : x.flag with
  | false =>
    rw [hf] at c3 hc hX
    go_wp2_with (go_at_call 105; refine H.out.mono ?_; rintro e w1 ⟨rfl, hb1⟩; have d3 := hc.out w1 hb1; have hl1 := Nat.lt_of_lt_of_le hb hb1.size; replace hb1 := hid' hb1)
    go_ret
    exact ⟨⟨_, rfl, by rw [hX.out]; simp [lst]⟩, hb1.out⟩
  | true =>
    rw [hf] at c3 hc hX
    go_wp2_with (go_at_call 105; refine H.out.mono ?_; rintro e w1 ⟨rfl, hb1⟩; have d3 := hc.out w1 hb1; have hl1 := Nat.lt_of_lt_of_le hb hb1.size; replace hb1 := hid' hb1)
    go_ret
    exact ⟨⟨_, rfl, by rw [hX.out]; simp [lst]⟩, hb1.out⟩
set_option maxHeartbeats 4000000 in
theorem num36w {k : Nat} (hF : FmtAt k w) (hn : x.num = (k : Int)) (hlt : k < 4294967296) (J : Job G A sb T w0 w b o x kv n cb ks) (hk : x.kind = 1) : Calls Tryz.prog 55 #[.pointer (some ⟨sb, 0, none⟩), .pointer (some ⟨b, o, none⟩)] w (Spelt G qt A sb T w0 w x ks) := by
  have hT := J.hT
  have H := hid' (number51w hF (J.hat.below J.hw J.hb) (Nat.lt_of_lt_of_le J.hb J.hw.size) hn hlt)
  obtain ⟨c0, _, _, _, c4, _⟩ := J.hat.below J.hw J.hb
  have hbw := Nat.lt_of_lt_of_le J.hb J.hw.size
  have s0 : Hid (∀ w1, Below w.heap.size w w1 → St G (spellT qt) w0 A sb T w [] 0 w1) := fun w1 h => ⟨[], by simpa using J.sp.below h, On.of_below h, Says.nil⟩
  obtain ⟨hkl, ao, cap, rfl⟩ := J.hK.shape
  have hX : Hid (numL x = spellN qt x ks (ks.map (spellT qt))) := by
    show _ = _
    unfold spellN
    rw [if_pos hk]
  rw [hk] at c0
  go_enter Tryz.func55, Tryz.ntmps55
  go_wp2_with (first
    | (go_at_call 79; refine (say_st [s] s0.out (by simp; omega) _ _ rfl rfl).mono ?_; rintro e w2 ⟨rfl, s2⟩)
    | (go_at_call 80; refine H.out.mono ?_; rintro e w1 ⟨⟨s, rfl, hs⟩, hb1⟩; replace hs := hid' hs; replace s0 := hid' (s0.out w1 hb1); clear hb1))
  go_end0
  exact s2.out.laid (by rw [← hX.out, ← hs.out]; simp) (by simp; omega)
end
end Go.Proofs.YtnnnfabpceapcaaGreatDoor
