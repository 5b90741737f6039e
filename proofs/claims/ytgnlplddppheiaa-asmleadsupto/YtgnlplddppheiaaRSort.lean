/- The document's sorted. -/
import Derived.Test.YtgnlplddppheiaaSrt
namespace Go.Proofs.Ytgnlplddppheiaa
open Go.RowKit Go.Maps
set_option linter.unusedVariables false

def vlen : Value → Nat
  | .slice _ n _ => n
  | _ => 0

/-- What sorted answers. -/
def SortR (w w' : World) (ls : List Ln) (f t : Nat) (e : Ending) : Prop := ∃ v s, e = .returned v ∧ ISrc w' v s ∧ Srt ls f t s ∧ Below w.heap.size w w' ∧ ∀ b, v.ownBlock = some b → w.heap.size ≤ b

theorem sorted_none (v : Value) (f t : Nat) (w : World) (ls : List Ln) (h : t ≤ f) (hf : f ≤ 2000000) :
    Calls Try.prog 26 #[v, .int .i64 f, .int .i64 t] w fun e w' => SortR w w' ls f t e := by
  go_enter Try.func26, Try.ntmps26
  go_wp2
  go_ret
  exact ⟨_, _, rfl, .inl ⟨rfl, _, _, rfl⟩, Srt.none ls h, Below.refl _ _, fun b hb => by simp [Value.ownBlock] at hb⟩

theorem sorted_one {w : World} {b cap f : Nat} {ls : List Ln} (hn : ls.length ≤ 2000000) (hl : b < w.heap.size) (ha : LnsAt w b ls) (hf : f < ls.length) :
    Calls Try.prog 26 #[.slice (some ⟨b, 0, none⟩) ls.length cap, .int .i64 f, .int .i64 (f + 1 : Nat)] w fun e w' => SortR w w' ls f (f + 1) e := by
  obtain ⟨c0, _⟩ := ha f hf
  have hL := labAt_get hf
  generalize ls[f].label = x at *
  by_cases hp : 0 < x
  · go_enter Try.func26, Try.ntmps26
    go_wp2
    go_ret
    refine ⟨_, [f], rfl, .inr ⟨by simp, w.heap.size, 0, 1, rfl, by simp, by simp, fun j hj => ?_⟩, Srt.one_yes (by omega), below1 _ _, fun b hb => by simp [Value.ownBlock] at hb; omega⟩
    have : j = 0 := by simp at hj; omega
    subst this
    simp [go_sem]
  · go_enter Try.func26, Try.ntmps26
    go_wp2
    go_ret
    exact ⟨_, _, rfl, .inl ⟨rfl, _, _, rfl⟩, Srt.one_no (by omega), Below.refl _ _, fun b hb => by simp [Value.ownBlock] at hb⟩

theorem tail1 {w : World} {b off cap x : Nat} {l : List Nat} (h : ∀ j (h : j < (x :: l).length), w.cell? ⟨b, off + j, none⟩ = some (.int .i64 ((x :: l)[j] : Nat))) (hb : b < w.heap.size) (hc : (x :: l).length ≤ cap) : ISrc w (.slice (if cap = 1 then some ⟨b, off, none⟩ else some ⟨b, off + 1, none⟩) l.length (cap - 1)) l := by
  by_cases e : cap = 1
  · have : l.length = 0 := by simp at hc; omega
    obtain rfl := List.eq_nil_of_length_eq_zero this
    exact .inl ⟨rfl, _, _, rfl⟩
  · rw [if_neg e]
    exact ISrc.tail h hb hc

theorem Mrg.memA {ls : List Ln} {a0 b0 a b out : List Nat} (h : Mrg ls a0 b0 a b out) {i : Nat} (hi : i ∈ a ∨ i ∈ b) : i ∈ a0 ∨ i ∈ b0 := by
  rw [← List.mem_append, ← h.perm.mem_iff, List.mem_append, List.mem_append]
  exact .inr hi

set_option maxRecDepth 100000 in
set_option maxHeartbeats 4000000 in
theorem sorted_two {w : World} {b cap f t m : Nat} {ls : List Ln} (hn : ls.length ≤ 2000000) (hl : b < w.heap.size) (ha : LnsAt w b ls) (h2 : f + 2 ≤ t) (ht : t ≤ ls.length) (hm : m = f + (t - f) / 2)
    (I1 : ∀ W : World, Below w.heap.size w W → Calls Try.prog 26 #[.slice (some ⟨b, 0, none⟩) ls.length cap, .int .i64 f, .int .i64 m] W fun e w' => SortR W w' ls f m e)
    (I2 : ∀ W : World, Below w.heap.size w W → Calls Try.prog 26 #[.slice (some ⟨b, 0, none⟩) ls.length cap, .int .i64 m, .int .i64 t] W fun e w' => SortR W w' ls m t e) :
    Calls Try.prog 26 #[.slice (some ⟨b, 0, none⟩) ls.length cap, .int .i64 f, .int .i64 t] w fun e w' => SortR w w' ls f t e := by
  have HA := hid' ha
  clear ha
  have J1 := hid' I1
  have J2 := hid' I2
  clear I1 I2
  have em := hid' (show (f : Int) + ((t - f : Nat) : Int) / 2 = m by omega)
  have em' := hid' (show (f : Int) + ((t : Int) - f) / 2 = m by omega)
  go_enter Try.func26, Try.ntmps26
  go_wp2_with (first
    | (go_at_call 26; (first | rw [em.out] | rw [em'.out]); (with_reducible refine (J1.out _ (Below.refl _ _)).mono ?_); rintro e w1 ⟨va, sa, rfl, ha1, hs1, hb1, _⟩)
    | (go_at_call 26; (first | rw [em.out] | rw [em'.out]); (with_reducible refine (J2.out _ hb1).mono ?_); rintro e w2 ⟨vb, sb, rfl, hb2', hs2, hb2, _⟩))
  have hA2 := ha1.below hb2
  have hbb := below_on hb1 hb2
  have HA2 := hid' (HA.out.below hbb hl)
  have hl2 : b < w2.heap.size := Nat.lt_of_lt_of_le hl hbb.size
  have HBB := hid' hbb
  have HS1 := hid' hs1
  have HS2 := hid' hs2
  have hla := hs1.len
  have hlb := hs2.len
  have HSA := hid' hA2
  have HSB := hid' hb2'
  clear hA2 hb2' hbb hs1 hs2 HA ha1 hb1 hb2 J1 J2
  go_loopw [8, 9, 10] (fun xa xb vo wr => ∃ ra rb out, ISrc w2 xa ra ∧ ISrc w2 xb rb ∧ Mrg ls sa sb ra rb out ∧ wr.ownsRow w2.heap.size 3 1 vo out.length (ints out) ∧ Below w2.heap.size w2 wr) (fun xa xb _ _ => vlen xa + vlen xb)
  case atStart => exact ⟨sa, sb, [], HSA.out, HSB.out, Mrg.start HS1.out HS2.out, World.ownsRow_nil _ _ _ _, Below.refl _ _⟩
  case round =>
    obtain ⟨ra, rb, out, hra, hrb, hM, ho, hb⟩ := hrel
    have hlen := hM.len
    have HM := hid' hM
    have HO := hid' ho
    have HB := hid' hb
    have hsz := hb.size
    clear hM ho hb
    have fin : ra = [] ∨ rb = [] → ∃ v1 W1 v2 W2, (Builtin.append_ #[45, 45] 45 #[u10, u8]).run Try.prog wr = .ok v1 W1 ∧ (Builtin.append_ #[45, 45] 45 #[v1, u9]).run Try.prog W1 = .ok v2 W2 ∧ SortR w W2 ls f t (.returned v2) := fun hab => by
      obtain ⟨v1, W1, hr1, ho1, hg1⟩ := append_ints HO.out (hra.below HB.out) (by omega) hsz 45
      have hB1 : Below w2.heap.size w2 W1 := HB.out.grown hg1 hsz (fun k hk => (HO.out.lt k hk).1)
      obtain ⟨v2, W2, hr2, ho2, hg2⟩ := append_ints ho1 (hrb.below hB1) (by simp; omega) hB1.size 45
      have hB2 : Below w2.heap.size w2 W2 := hB1.grown hg2 hB1.size (fun k hk => (ho1.lt k hk).1)
      exact ⟨v1, W1, v2, W2, hr1, hr2, v2, out ++ ra ++ rb, rfl, ISrc.own ho2, HM.out.done hab HS1.out HS2.out (by omega) (by omega), below_on HBB.out hB2, fun b hb => Nat.le_trans HBB.out.size (ho2.lt b hb).1⟩
    have HF := hid' fin
    clear fin
    rcases hra with ⟨rfl, aoa, capa, rfl⟩ | ⟨hla1, ba, oa, capa, rfl, hca, hba, hxa⟩
    · obtain ⟨v1, W1, v2, W2, hr1, hr2, hR⟩ := HF.out (.inl rfl)
      have HR := hid' hR
      clear hR
      go_wp2_with (first
        | (at_builtin; refine wpList_append_ints rfl _ _ rfl _ _ _ rfl rfl hr1 ?_)
        | (at_builtin; refine wpList_append_ints rfl _ _ rfl _ _ _ rfl rfl hr2 ?_))
      go_ret
      exact HR.out
    · rcases hrb with ⟨rfl, aob, capb, rfl⟩ | ⟨hlb1, bb, ob, capb, rfl, hcb, hbb, hxb⟩
      · obtain ⟨v1, W1, v2, W2, hr1, hr2, hR⟩ := HF.out (.inr rfl)
        have HR := hid' hR
        clear hR
        go_wp2_with (first
          | (at_builtin; refine wpList_append_ints rfl _ _ rfl _ _ _ rfl rfl hr1 ?_)
          | (at_builtin; refine wpList_append_ints rfl _ _ rfl _ _ _ rfl rfl hr2 ?_))
        go_ret
        exact HR.out
      · clear HF
        obtain ⟨y, ra, rfl⟩ : ∃ y r, ra = y :: r := by cases ra with | nil => simp at hla1 | cons y r => exact ⟨y, r, rfl⟩
        obtain ⟨x, rb, rfl⟩ : ∃ y r, rb = y :: r := by cases rb with | nil => simp at hlb1 | cons y r => exact ⟨y, r, rfl⟩
        have bnd : ∀ i, i ∈ sa ∨ i ∈ sb → i < ls.length := fun i hi => by
          rcases hi with hi | hi
          · have := (HS1.out.mem i).1 hi; omega
          · have := (HS2.out.mem i).1 hi; omega
        have hy := bnd y (HM.out.memA (.inl (by simp)))
        have hx := bnd x (HM.out.memA (.inr (by simp)))
        obtain ⟨cy, _⟩ := HA2.out.below HB.out hl2 y hy
        obtain ⟨cx, _⟩ := HA2.out.below HB.out hl2 x hx
        rw [← labAt_get hy] at cy
        rw [← labAt_get hx] at cx
        have ca := (HB.out.cell (p := ⟨ba, oa + 0, none⟩) hba).trans (hxa 0 (by simp))
        have cb := (HB.out.cell (p := ⟨bb, ob + 0, none⟩) hbb).trans (hxb 0 (by simp))
        simp only [Nat.add_zero, List.getElem_cons_zero] at ca cb
        have HXA := hid' hxa
        have HXB := hid' hxb
        clear hxa hxb bnd
        simp only [List.length_cons] at hla1 hlb1 hlen hca hcb ⊢
        obtain ⟨i3, hi3, z30, z31, z32⟩ := info_parts info3'
        by_cases hlt : labAt ls x < labAt ls y
        · have HN := hid' (HM.out.stepB hlt)
          have HT := hid' (tail1 HXB.out hbb (by simpa using hcb))
          generalize labAt ls x = lx at *
          generalize labAt ls y = ly at *
          go_wp2
          go_quiet (fail)
          go_wp2_with (at_builtin; refine of_mark ?_)
          unfold Mark
          have hO3 : (wr.drewN nq).ownsRow w2.heap.size 3 1 u10 out.length (ints out) := HO.out
          refine wpList_append_own_at _ rfl _ _ 45 rfl w2.heap.size 3 i3 (.int .i64 0) 1 8 Try.underlying45 hi3 z30 z31 z32 rfl (by decide) u10 _ _ rfl (hO3.alloc _) ⟨(wr.drewN nq).heap.size, 0, none⟩ 1 1 [.int .i64 (x : Int)] rfl rfl (cell_one_at (World.cell?_alloc_at _ _ _ _ rfl)) (ints_oneCell .i64 [(x : Int)]) (by unfold maxLen; omega) (by omega) (by have : w2.heap.size ≤ (wr.drewN nq).heap.size := hsz; simp; omega) ?_
          intro v' w4 hown' hgrow hnil hloc
          have HB4 : Hid (Below w2.heap.size w2 w4) := ((⟨HB.out.os, HB.out.tape, HB.out.output, HB.out.size, HB.out.block⟩ : Below w2.heap.size w2 (wr.drewN nq)).alloc hsz _).grown hgrow (by have : w2.heap.size ≤ (wr.drewN nq).heap.size := hsz; simp; omega) (fun k hk => (HO.out.lt k hk).1)
          have HO4 : Hid (w4.ownsRow w2.heap.size 3 1 v' (out ++ [x]).length (ints (out ++ [x]))) := by rw [ints_append, List.length_append]; exact hown'
          clear hown' hgrow hnil hloc hO3 ca cb cx cy
          go_wp2
          go_roundw
          case rel => exact ⟨y :: ra, rb, out ++ [x], .inr ⟨by simp, ba, oa, capa, rfl, hca, hba, HXA.out⟩, HT.out, HN.out, HO4.out, HB4.out⟩
          case measure => simp [vlen]
        · have HN := hid' (HM.out.stepA hlt)
          have HT := hid' (tail1 HXA.out hba (by simpa using hca))
          generalize labAt ls x = lx at *
          generalize labAt ls y = ly at *
          go_wp2
          go_quiet (fail)
          go_wp2_with (at_builtin; refine of_mark ?_)
          unfold Mark
          have hO3 : (wr.drewN nq).ownsRow w2.heap.size 3 1 u10 out.length (ints out) := HO.out
          refine wpList_append_own_at _ rfl _ _ 45 rfl w2.heap.size 3 i3 (.int .i64 0) 1 8 Try.underlying45 hi3 z30 z31 z32 rfl (by decide) u10 _ _ rfl (hO3.alloc _) ⟨(wr.drewN nq).heap.size, 0, none⟩ 1 1 [.int .i64 (y : Int)] rfl rfl (cell_one_at (World.cell?_alloc_at _ _ _ _ rfl)) (ints_oneCell .i64 [(y : Int)]) (by unfold maxLen; omega) (by omega) (by have : w2.heap.size ≤ (wr.drewN nq).heap.size := hsz; simp; omega) ?_
          intro v' w4 hown' hgrow hnil hloc
          have HB4 : Hid (Below w2.heap.size w2 w4) := ((⟨HB.out.os, HB.out.tape, HB.out.output, HB.out.size, HB.out.block⟩ : Below w2.heap.size w2 (wr.drewN nq)).alloc hsz _).grown hgrow (by have : w2.heap.size ≤ (wr.drewN nq).heap.size := hsz; simp; omega) (fun k hk => (HO.out.lt k hk).1)
          have HO4 : Hid (w4.ownsRow w2.heap.size 3 1 v' (out ++ [y]).length (ints (out ++ [y]))) := by rw [ints_append, List.length_append]; exact hown'
          clear hown' hgrow hnil hloc hO3 ca cb cx cy
          go_wp2
          go_roundw
          case rel => exact ⟨ra, x :: rb, out ++ [y], HT.out, .inr ⟨by simp, bb, ob, capb, rfl, hcb, hbb, HXB.out⟩, HN.out, HO4.out, HB4.out⟩
          case measure => simp [vlen]

/-- sorted. -/
theorem sorted26 {v : Value} {ls : List Ln} : ∀ (n f t : Nat) (w : World), IsLns w v ls → t - f ≤ n → f ≤ t → t ≤ ls.length → Calls Try.prog 26 #[v, .int .i64 f, .int .i64 t] w fun e w' => SortR w w' ls f t e := by
  intro n
  induction n with
  | zero => intro f t w h h1 h2 h3; exact sorted_none v f t w ls (by omega) (by have := h.1; omega)
  | succ n ih =>
    intro f t w h h1 h2 h3
    by_cases e0 : t = f
    · exact sorted_none v f t w ls (by omega) (by have := h.1; omega)
    · have h0 := h
      obtain ⟨hn, hwf, ⟨rfl, _⟩ | ⟨hp, b, cap, rfl, hl, ha⟩⟩ := h
      · simp at h3; omega
      · by_cases e1 : t = f + 1
        · subst e1
          exact sorted_one hn hl ha (by omega)
        · refine sorted_two (m := f + (t - f) / 2) hn hl ha (by omega) h3 rfl (fun W hW => ?_) (fun W hW => ?_)
          · exact ih _ _ W (h0.below hW) (by omega) (by omega) (by omega)
          · exact ih _ _ W (h0.below hW) (by omega) (by omega) (by omega)
end Go.Proofs.Ytgnlplddppheiaa
