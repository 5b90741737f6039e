/- Assemble, by the document. -/
import Derived.Test.YtgnlplddppheiaaRPut
import Derived.Test.YtgnlplddppheiaaRSetW
namespace Go.Proofs.Ytgnlplddppheiaa
open Go.RowKit Go.Maps
set_option linter.unusedVariables false

/-- In the midst of the document's Assemble. -/
structure RMid (w : World) (base yb tb lb ab : Nat) (ls : List Ln) (T : Nat → Int) (S : Nat → Bool) (A : Nat → Int) (i : Nat) (v : Value) (W : World) : Prop where
  own : W.ownsRow base 5 1 v (codeGo (labs ls) S 0 (ls.take i)).length (vals (codeGo (labs ls) S 0 (ls.take i)))
  y0 : W.cell? ⟨yb, 0, none⟩ = some (.slice (some ⟨tb, 0, none⟩) ls.length ls.length)
  y1 : W.cell? ⟨yb, 1, none⟩ = some (.slice (some ⟨lb, 0, none⟩) ls.length ls.length)
  y2 : W.cell? ⟨yb, 2, none⟩ = some (.slice (some ⟨ab, 0, none⟩) (ls.length + 1) (ls.length + 1))
  lay : Lay W tb lb ab ls.length T S A ls
  sz : base ≤ W.heap.size
  hy : yb < base
  ht : tb < base
  hl : lb < base
  ha : ab < base
  hw : w.heap.size ≤ base
  below : Below w.heap.size w W
section
variable {w W W' : World} {base yb tb lb ab i : Nat} {ls : List Ln} {T : Nat → Int} {S : Nat → Bool} {A : Nat → Int} {v v' : Value}
theorem RMid.kept (h : RMid w base yb tb lb ab ls T S A i v W) (hi : i < ls.length) (hK : Kept (fun b => v.ownBlock = some b) W W')
    (ho : W'.ownsRow base 5 1 v' (codeGo (labs ls) S 0 (ls.take i) ++ codeGo (labs ls) S (ixF ls i) [ls[i]]).length (vals (codeGo (labs ls) S 0 (ls.take i) ++ codeGo (labs ls) S (ixF ls i) [ls[i]]))) : RMid w base yb tb lb ab ls T S A (i + 1) v' W' := by
  have nb : ∀ j, j < base → ¬ v.ownBlock = some j := fun j hj e => by have := (h.own.lt j e).1; omega
  have e : codeGo (labs ls) S 0 (ls.take (i + 1)) = codeGo (labs ls) S 0 (ls.take i) ++ codeGo (labs ls) S (ixF ls i) [ls[i]] := by rw [taken' ls i hi, codeGo_append, Nat.zero_add]; rfl
  have hs := h.sz
  exact ⟨by rw [e]; exact ho, (hK.cell (Nat.lt_of_lt_of_le h.hy hs) (nb _ h.hy)).trans h.y0, (hK.cell (Nat.lt_of_lt_of_le h.hy hs) (nb _ h.hy)).trans h.y1, (hK.cell (Nat.lt_of_lt_of_le h.hy hs) (nb _ h.hy)).trans h.y2,
    ⟨hK.row h.lay.to (nb _ h.ht), hK.row h.lay.long (nb _ h.hl), hK.row h.lay.at_ (nb _ h.ha), h.lay.ne1, h.lay.ne2, h.lay.ne3⟩, Nat.le_trans hs hK.size, h.hy, h.ht, h.hl, h.ha, h.hw, h.below.trans (hK.below h.below.size (fun b hb => Nat.le_trans h.hw (h.own.lt b hb).1))⟩
theorem RMid.see (h : RMid w base yb tb lb ab ls T S A i v W) (hK : Kept (fun b => v.ownBlock = some b) W W') : W'.cell? ⟨yb, 0, none⟩ = some (.slice (some ⟨tb, 0, none⟩) ls.length ls.length) ∧ W'.cell? ⟨yb, 1, none⟩ = some (.slice (some ⟨lb, 0, none⟩) ls.length ls.length) ∧ W'.cell? ⟨yb, 2, none⟩ = some (.slice (some ⟨ab, 0, none⟩) (ls.length + 1) (ls.length + 1)) ∧ Lay W' tb lb ab ls.length T S A ls ∧ yb < W'.heap.size := by
  have nb : ∀ j, j < base → ¬ v.ownBlock = some j := fun j hj e => by have := (h.own.lt j e).1; omega
  have hs := h.sz
  exact ⟨(hK.cell (Nat.lt_of_lt_of_le h.hy hs) (nb _ h.hy)).trans h.y0, (hK.cell (Nat.lt_of_lt_of_le h.hy hs) (nb _ h.hy)).trans h.y1, (hK.cell (Nat.lt_of_lt_of_le h.hy hs) (nb _ h.hy)).trans h.y2,
    ⟨hK.row h.lay.to (nb _ h.ht), hK.row h.lay.long (nb _ h.hl), hK.row h.lay.at_ (nb _ h.ha), h.lay.ne1, h.lay.ne2, h.lay.ne3⟩, Nat.lt_of_lt_of_le h.hy (Nat.le_trans hs hK.size)⟩
/-- away, in whatever world comes of that. -/
theorem away_after {tb lb ab N : Nat} {T A : Nat → Int} {S : Nat → Bool} {W : World} (hLay : Lay W tb lb ab ls.length T S A ls) {k q : Nat} {c : Int} (hk : k < ls.length) (hq : T k = q) (hql : q < ls.length) (hlen : ls.length ≤ 262144) (r1 : 0 ≤ A q) (r2 : A q ≤ 600000) (r3 : 0 ≤ A k) (r4 : A k ≤ 600000) (hc0 : 0 ≤ c) (hc1 : c ≤ 2) (t : After W) :
    Calls Try.prog 23 #[.agg #[.slice (some ⟨tb, 0, none⟩) ls.length ls.length, .slice (some ⟨lb, 0, none⟩) ls.length ls.length, .slice (some ⟨ab, 0, none⟩) (ls.length + 1) (ls.length + 1)], .int .i64 (k : Int), .int .i64 (IntKind.i64.wrap (A k + c))] t.1 fun e w' => e = .returned (.int .i64 (A q - (A k + c))) ∧ Below t.1.heap.size t.1 w' := by
  rw [Go.IntWalk.i64_in (A k + c) (by omega)]
  exact away23 ((Kept.of_below (S := fun _ => False) t.2).row hLay.to (fun e => e)) ((Kept.of_below (S := fun _ => False) t.2).row hLay.at_ (fun e => e)) hk hq (by omega) (by omega) (by omega) (by omega) (by omega)
end
theorem lineB_plain {f : Int → Option Nat} {S : Nat → Bool} {k : Nat} {x : Ln} (h : x.to = 0) : lineB f S k x = wdL (wdI x.op x.d x.a x.b x.imm) := by unfold lineB; rw [if_pos h]
theorem lineB_long {f : Int → Option Nat} {S : Nat → Bool} {k : Nat} {x : Ln} (h : x.to ≠ 0) (hS : S k = true) (ho : x.ok = true) (hl : x.label = 0) (ha : askF x.op = true) : lineB f S k x = wdL (wdI (79 - x.op) x.d x.a x.b 1) ++ wdL (wdI 41 0 0 0 ((atF S ((f x.to).getD 0) : Int) - ((atF S k : Int) + 2))) := by
  unfold lineB
  unfold Ln.ok at ho
  rw [if_pos hl, Bool.and_eq_true, Bool.and_eq_true] at ho
  obtain ⟨hd, hb⟩ := ask_zero ho.1.1 ha
  have e : (atF S (k + 1) : Int) = (atF S k : Int) + 2 := by rw [atF_succ, hS]; simp; omega
  rw [if_neg h, if_pos hS, other_sub ha, hd, hb, e]
theorem lineB_short {f : Int → Option Nat} {S : Nat → Bool} {k : Nat} {x : Ln} (h : x.to ≠ 0) (hS : S k = false) : lineB f S k x = wdL (wdI x.op x.d x.a x.b ((atF S ((f x.to).getD 0) : Int) - ((atF S k : Int) + 1))) := by
  unfold lineB
  have e : (atF S (k + 1) : Int) = (atF S k : Int) + 1 := by rw [atF_succ, hS]; simp
  rw [if_neg h, if_neg (by rw [hS]; simp), e]

set_option maxRecDepth 100000 in
set_option maxHeartbeats 16000000 in
theorem assembleR_ok {w : World} {ls : List Ln} {ao : Option Addr} {cap : Nat} {S : Nat → Bool} (h : IsLns w (.slice ao ls.length cap) ls) (h0 : ErrIs ls 0) (hS : Least (bsOf ls) S) (h4 : 4 * atF S (insN ls) ≤ 1048576)
    (hC : Calls Try.prog 12 #[.slice ao ls.length cap] w fun e w' => e = .returned (.int .i64 0) ∧ Below w.heap.size w w') :
    Calls Try.prog 10 #[.slice ao ls.length cap] w fun e w' => e = .returned (.tuple #[.string (strL (codeGo (labs ls) S 0 ls)), .int .i64 0]) ∧ Below w.heap.size w w' := by
  have HL := hid' h
  obtain ⟨ao', cap', e', hform⟩ := h.form
  injection e' with e1 e2 e3
  subst e1 e3
  have HF := hid' hform
  have hlen := err_len h0
  obtain ⟨hok, hnd⟩ : (∀ x ∈ ls, x.ok = true) ∧ (labL ls).Nodup := by
    rcases h0 with ⟨_, e⟩ | ⟨_, _, e⟩ | ⟨_, _, _, e⟩ | ⟨h1, h2, h3, h4, _⟩
    · omega
    · omega
    · omega
    · exact ⟨h2, h3⟩
  have HOK := hid' hok
  have HND := hid' hnd
  have hSt : Hid (∀ W, Below w.heap.size w W → Calls Try.prog 21 #[.slice ao ls.length cap] W fun e w' => ∃ tb lb ab T A, e = .returned (.agg (layV tb lb ab ls.length)) ∧ Lay w' tb lb ab ls.length T S A ls ∧ (∀ i, i ≤ ls.length → A i = (atF S (ixF ls i) : Nat)) ∧ (∀ i, TOk ls T i) ∧ Below W.heap.size W w') := fun W hb => (settled21 (HL.out.below hb) h0).mono fun e w' ⟨tb, lb, ab, T, S', A, he, hLay, hL', hA, hT, hB⟩ => by
    rw [hL'.unique hS] at hLay hA
    exact ⟨tb, lb, ab, T, A, he, hLay, hA, hT, hB⟩
  have HS := hid' hS
  have hcl := hid' (codeGo_len (labs ls) S)
  have hN := insN_le ls
  have hix := ixF_all ls
  have h4' : (atF S (insN ls) : Int) ≤ 262144 := by omega
  clear hform hok hnd h hS
  go_enter Try.func10, Try.ntmps10
  go_wp2_with (first
    | (go_at_call 12; refine hC.mono ?_; rintro e w1 ⟨rfl, hb1⟩)
    | (go_at_call 21; refine (hSt.out _ hb1).mono ?_; rintro e w2 ⟨tb, lb, ab, T, A, rfl, hLay, hA, hT, hb2⟩; have hAn := (hLay.at_.cell (i := ls.length) (by omega)); rw [hA _ (Nat.le_refl _), hix] at hAn; have alt := hLay.at_.lt))
  have hst : RMid w (w2.heap.size + 1) w2.heap.size tb lb ab ls T S A 0 (.slice none 0 0) (w2.alloc (.cells (layV tb lb ab ls.length) 56)) := by
    have K2 : Kept (fun _ => False) w2 (w2.alloc (.cells (layV tb lb ab ls.length) 56)) := (Kept.rfl _ _).alloc _
    refine ⟨by rw [List.take_zero]; exact ⟨rfl, .inl ⟨rfl, rfl⟩⟩, World.cell?_alloc_at _ _ _ _ rfl, World.cell?_alloc_at _ _ _ _ rfl, World.cell?_alloc_at _ _ _ _ rfl, hLay.next K2, by simp, by omega, Nat.lt_succ_of_lt hLay.to.lt, Nat.lt_succ_of_lt hLay.long.lt, Nat.lt_succ_of_lt hLay.at_.lt, ?_, ?_⟩
    · have := hb1.size
      have := hb2.size
      omega
    · exact (hb1.trans (hb2.mono hb1.size)).trans (K2.below (Nat.le_trans hb1.size hb2.size) (fun _ e => e.elim))
  have HST := hid' hst
  have HA := hid' hA
  have HT := hid' hT
  clear hst hLay hA hT hb1 hb2 hC hAn alt
  generalize w2.heap.size = yb at *
  go_loopw [6, 7] (fun v i wr => ∃ k : Nat, k ≤ ls.length ∧ i = .int .i64 k ∧ RMid w (yb + 1) yb tb lb ab ls T S A k v wr) (fun _ i _ => ls.length - (intOf i).toNat)
  case atStart => exact ⟨0, Nat.zero_le _, rfl, HST.out⟩
  case round =>
    obtain ⟨k, hk, rfl, hM⟩ := hrel
    by_cases hlt : k < ls.length
    · obtain ⟨b, rfl, hb, hAt⟩ := HF.out k hlt
      obtain ⟨c0, c1, c2, c3, c4, c5, c6⟩ := hAt.below (w' := wr) hM.below hb k hlt
      have hbr : b < wr.heap.size := Nat.lt_of_lt_of_le hb hM.below.size
      have hwx := HL.out.2.1 ls[k] (List.getElem_mem _)
      have hxo := HOK.out ls[k] (List.getElem_mem _)
      have hone := codeGo_one (labs ls) S (ixF ls k) ls[k]
      have hTk := HT.out k hlt
      have hla := labAt_get hlt
      have hlo := fun h => long_ask HS.out hlt h
      have HCL : Hid ((codeGo (labs ls) S 0 (ls.take k)).length ≤ 1048576) := by
        have h1 := hcl.out (ls.take k) 0
        rw [atF_zero, Nat.zero_add] at h1
        have h2 := atF_mono S (show insN (ls.take k) ≤ insN ls from by rw [← ixF_all ls]; exact ixF_mono ls hk (Nat.le_refl _))
        show _ ≤ _
        omega
      have HM := hid' hM
      have y1 := hM.y1
      have cg := hM.lay.long.cell hlt
      have llt := hM.lay.long.lt
      have ylt : yb < wr.heap.size := Nat.lt_of_lt_of_le hM.hy hM.sz
      have hsz := hM.sz
      have hnx : Hid (∀ v' W', Kept (fun b => u6.ownBlock = some b) wr W' → W'.ownsRow (yb + 1) 5 1 v' (codeGo (labs ls) S 0 (ls.take k) ++ codeGo (labs ls) S (ixF ls k) [ls[k]]).length (vals (codeGo (labs ls) S 0 (ls.take k) ++ codeGo (labs ls) S (ixF ls k) [ls[k]])) → RMid w (yb + 1) yb tb lb ab ls T S A (k + 1) v' W') := fun v' W' hK ho => HM.out.kept hlt hK ho
      have hOw := hid' hM.own
      rw [hone] at hnx
      rw [hla] at hlo
      clear hM hone hAt hcl
      generalize hl0 : codeGo (labs ls) S 0 (ls.take k) = l0 at *
      clear hl0
      generalize hx : ls[k] = x at *
      have HX := hid' hx
      have HLO := hid' hlo
      have HTK := hid' hTk
      have HWX := hid' hwx
      have HXO := hid' hxo
      clear hlo hTk hwx hxo hx
      by_cases hz : x.label = 0
      · rw [if_pos hz] at hnx
        rw [hz] at c0
        by_cases ht : x.to = 0
        · rw [lineB_plain ht] at hnx
          rw [ht] at c6
          have hPut := put22 (w := wr.alloc (.cells #[.int .i64 x.op, .int .i64 x.d, .int .i64 x.a, .int .i64 x.b, .int .i32 x.imm] 24)) x.op x.d x.a x.b x.imm HWX.out.i0 HWX.out.i1 (hOw.out.alloc _) (by have := HCL.out; omega) (by simp; omega)
          go_wp2_with (go_at_call 22; (with_reducible refine hPut.mono ?_); rintro e w3 ⟨v3, rfl, ho3, hk3, _⟩)
          have HN := hid' (hnx.out v3 w3 (((Kept.rfl _ _).alloc _).trans hk3) ho3)
          clear hnx ho3 hk3 hPut
          go_roundw
          case rel => exact ⟨k + 1, by omega, by go_num, HN.out⟩
          case measure => simp [intOf]; omega
        · have ht' : ((x.to : Int) == 0) = false := by simp; exact ht
          have hto := ok_to HXO.out
          obtain ⟨q, hq, hql, hqt⟩ := HTK.out (by omega)
          have hlab := labs_ix HND.out hql hqt ht
          have hAq := HA.out q (by omega)
          have hAk := HA.out k hk
          have hb1 := atF_le S (ixF ls q)
          have hb2 := atF_le S (ixF ls k)
          have hb3 := ixF_le ls q
          have hb4 := ixF_le ls k
          have r1 : 0 ≤ A q := by omega
          have r2 : A q ≤ 600000 := by omega
          have r3 : 0 ≤ A k := by omega
          have r4 : A k ≤ 600000 := by omega
          have hget : (labs ls x.to).getD 0 = ixF ls q := by rw [hlab]; rfl
          have hlg0 : lgF ls S k = S (ixF ls k) := by unfold lgF; rw [hla, hz]; simp
          have ix1 : 0 ≤ (k : Int) ∧ (k : Int) < (ls.length : Int) + 1 := by omega
          have ix2 : 0 ≤ (k : Int) ∧ (k : Int) < ((ls.length + 1 : Nat) : Int) := by omega
          rw [hlg0] at cg
          cases hSk : S (ixF ls k) with
          | false =>
            rw [lineB_short ht hSk, hget, ← hAq, ← hAk] at hnx
            rw [hSk] at cg
            obtain ⟨D, hD⟩ : ∃ D, D = A q - (A k + 1) := ⟨_, rfl⟩
            have hD0 : -2147483648 ≤ D := by omega
            have hD1 : D ≤ 2147483647 := by omega
            rw [← hD] at hnx
            obtain ⟨W0, hW0⟩ : ∃ W0, W0 = wr.alloc (.cells #[.int .i64 x.op, .int .i64 x.d, .int .i64 x.a, .int .i64 x.b, .int .i32 x.imm] 24) := ⟨_, rfl⟩
            have K0 : Kept (fun b => u6.ownBlock = some b) wr W0 := by rw [hW0]; exact (Kept.rfl _ _).alloc _
            obtain ⟨s0, s1, s2, sL, sy⟩ := HM.out.see K0
            have hAw := fun t : After W0 => away_after (N := 0) sL (c := 1) hlt hq hql hlen r1 r2 r3 r4 (by omega) (by omega) t
            simp only [← hD] at hAw
            have ya0 : ∀ t : After W0, t.1.cell? ⟨yb, 0, none⟩ = some (.slice (some ⟨tb, 0, none⟩) ls.length ls.length) := fun t => (t.2.cell (p := ⟨yb, 0, none⟩) sy).trans s0
            have ya1 : ∀ t : After W0, t.1.cell? ⟨yb, 1, none⟩ = some (.slice (some ⟨lb, 0, none⟩) ls.length ls.length) := fun t => (t.2.cell (p := ⟨yb, 1, none⟩) sy).trans s1
            have ya2 : ∀ t : After W0, t.1.cell? ⟨yb, 2, none⟩ = some (.slice (some ⟨ab, 0, none⟩) (ls.length + 1) (ls.length + 1)) := fun t => (t.2.cell (p := ⟨yb, 2, none⟩) sy).trans s2
            have yak : ∀ t : After W0, t.1.cell? ⟨ab, k, none⟩ = some (.int .i64 (A k)) := fun t => (t.2.cell (p := ⟨ab, k, none⟩) sL.at_.lt).trans (sL.at_.cell (by omega))
            have HX0 : Hid (W0.cell? ⟨wr.heap.size, 0, none⟩ = some (.int .i64 x.op) ∧ W0.cell? ⟨wr.heap.size, 1, none⟩ = some (.int .i64 x.d) ∧ W0.cell? ⟨wr.heap.size, 2, none⟩ = some (.int .i64 x.a) ∧ W0.cell? ⟨wr.heap.size, 3, none⟩ = some (.int .i64 x.b) ∧ W0.cell? ⟨wr.heap.size, 4, none⟩ = some (.int .i32 x.imm) ∧ W0.frozen? ⟨wr.heap.size, 4, none⟩ = false ∧ wr.heap.size < W0.heap.size) := by
              show _ ∧ _
              rw [hW0]
              simp [go_sem]
            have HO0 : Hid (W0.ownsRow (yb + 1) 5 1 u6 l0.length (vals l0)) := by rw [hW0]; exact hOw.out.alloc _
            have HK0 := hid' K0
            have hsz0 := K0.size
            clear hAq hAk hb1 hb2 hb3 hb4 hD hto hlab hget hlg0 K0 sL s0 s1 s2
            generalize hAkx : A k = xk at *
            clear hAkx
            go_upto_region 12 with fail
            rw [← hW0]
            clear hW0
            have hne := after_some W0
            refine region_after 11 mixed (by kernel_rfl) ?_
            simp only [List.take_succ_cons, List.take_zero, List.drop_succ_cons, List.drop_zero]
            repeat quiet_step (with_reducible exact Calls.after _ (hAw _))
            refine wpQuiet_nil ?_
            intro w5 hb5
            obtain ⟨x0, x1, x2, x3, x4, xf, xl⟩ := HX0.out
            have z0 := (hb5.cell (p := ⟨wr.heap.size, 0, none⟩) xl).trans x0
            have z1 := (hb5.cell (p := ⟨wr.heap.size, 1, none⟩) xl).trans x1
            have z2 := (hb5.cell (p := ⟨wr.heap.size, 2, none⟩) xl).trans x2
            have z3 := (hb5.cell (p := ⟨wr.heap.size, 3, none⟩) xl).trans x3
            have z4 := (hb5.cell (p := ⟨wr.heap.size, 4, none⟩) xl).trans x4
            have zf := (hb5.frozen (p := ⟨wr.heap.size, 4, none⟩) xl).trans xf
            have zl := Nat.lt_of_lt_of_le xl hb5.size
            have K6 : Hid (Kept (fun b => u6.ownBlock = some b) wr (w5.setCell ⟨wr.heap.size, 4, none⟩ (.int .i32 D))) := (HK0.out.trans (Kept.of_below hb5)).set (.inr (Nat.le_refl _)) _
            have hO6 := (Kept.of_below (S := fun _ => False) hb5).owns HO0.out (fun _ _ e => e)
            have nown : ∀ j, u6.ownBlock = some j → j ≠ wr.heap.size := fun j hj e => by have := (hOw.out.lt j hj).2; omega
            have K7 : Kept (fun b => b = wr.heap.size) w5 (w5.setCell ⟨wr.heap.size, 4, none⟩ (.int .i32 D)) := (Kept.rfl (fun b => b = wr.heap.size) w5).set (.inl rfl) _
            have hPut := put22 (w := w5.setCell ⟨wr.heap.size, 4, none⟩ (.int .i32 D)) x.op x.d x.a x.b D hD0 hD1 (K7.owns hO6 nown) (by have := HCL.out; omega) (by have := K6.out.size; omega)
            clear hAw ya0 ya1 ya2 yak hne hb5 ix1 ix2 hO6 K7 x0 x1 x2 x3 x4 xf xl
            go_wp2_with (go_at_call 22; (with_reducible refine hPut.mono ?_); rintro e w8 ⟨v3, rfl, ho3, hk3, _⟩)
            have HN := hid' (hnx.out v3 w8 (K6.out.trans hk3) ho3)
            clear hnx ho3 hk3 hPut
            go_roundw
            case rel => exact ⟨k + 1, by omega, by go_num, HN.out⟩
            case measure => simp [intOf]; omega
          | true =>
            have hask := HLO.out hz hSk
            rw [lineB_long ht hSk HXO.out hz hask, hget, ← hAq, ← hAk] at hnx
            rw [hSk] at cg
            have hop : x.op = 39 ∨ x.op = 40 := by unfold askF at hask; simpa using hask
            have hop0 : 39 ≤ x.op := by omega
            have hop1 : x.op ≤ 40 := by omega
            obtain ⟨D, hD⟩ : ∃ D, D = A q - (A k + 2) := ⟨_, rfl⟩
            have hD0 : -2147483648 ≤ D := by omega
            have hD1 : D ≤ 2147483647 := by omega
            rw [← hD] at hnx
            have hPut1 := put22 (w := wr.alloc (.cells #[.int .i64 (79 - x.op), .int .i64 x.d, .int .i64 x.a, .int .i64 x.b, .int .i32 1] 24)) (79 - x.op) x.d x.a x.b 1 (by omega) (by omega) (hOw.out.alloc _) (by have := HCL.out; omega) (by simp; omega)
            have haw : Hid (∀ W (hL : Lay W tb lb ab ls.length T S A ls) (t : After W), Calls Try.prog 23 #[.agg #[.slice (some ⟨tb, 0, none⟩) ls.length ls.length, .slice (some ⟨lb, 0, none⟩) ls.length ls.length, .slice (some ⟨ab, 0, none⟩) (ls.length + 1) (ls.length + 1)], .int .i64 (k : Int), .int .i64 (IntKind.i64.wrap (A k + 2))] t.1 fun e w' => e = .returned (.int .i64 D) ∧ Below t.1.heap.size t.1 w') := fun W hL t => by
              rw [hD]
              exact away_after (N := 0) hL (c := 2) hlt hq hql hlen r1 r2 r3 r4 (by omega) (by omega) t
            clear hAq hAk hb1 hb2 hb3 hb4 hD hto hlab hget hlg0 hask hop
            go_upto_region 21 with (go_at_call 22; (with_reducible refine hPut1.mono ?_); rintro e w3 ⟨v3, rfl, ho3, hk3, hloc3⟩)
            have K3 : Kept (fun b => u6.ownBlock = some b) wr w3 := ((Kept.rfl _ _).alloc _).trans hk3
            obtain ⟨s0, s1, s2, sL, sy⟩ := HM.out.see K3
            have hAw := haw.out w3 sL
            have ya0 : ∀ t : After w3, t.1.cell? ⟨yb, 0, none⟩ = some (.slice (some ⟨tb, 0, none⟩) ls.length ls.length) := fun t => (t.2.cell (p := ⟨yb, 0, none⟩) sy).trans s0
            have ya1 : ∀ t : After w3, t.1.cell? ⟨yb, 1, none⟩ = some (.slice (some ⟨lb, 0, none⟩) ls.length ls.length) := fun t => (t.2.cell (p := ⟨yb, 1, none⟩) sy).trans s1
            have ya2 : ∀ t : After w3, t.1.cell? ⟨yb, 2, none⟩ = some (.slice (some ⟨ab, 0, none⟩) (ls.length + 1) (ls.length + 1)) := fun t => (t.2.cell (p := ⟨yb, 2, none⟩) sy).trans s2
            have yak : ∀ t : After w3, t.1.cell? ⟨ab, k, none⟩ = some (.int .i64 (A k)) := fun t => (t.2.cell (p := ⟨ab, k, none⟩) sL.at_.lt).trans (sL.at_.cell (by omega))
            have hsz3 := K3.size
            have HK3 := hid' K3
            have HO3 := hid' ho3
            have HLOC3 : Hid (v3.ownBlock = u6.ownBlock ∨ ∃ b, v3.ownBlock = some b ∧ wr.heap.size ≤ b) := hloc3.imp id (fun ⟨b, e, h⟩ => ⟨b, e, by simp at h; omega⟩)
            clear K3 ho3 hk3 hloc3 s0 s1 s2 sL hPut1 haw
            generalize hAkx : A k = xk at *
            clear hAkx
            have hne := after_some w3
            refine region_after 12 mixed (by kernel_rfl) ?_
            simp only [List.take_succ_cons, List.take_zero, List.drop_succ_cons, List.drop_zero]
            repeat quiet_step (with_reducible exact Calls.after _ (hAw _))
            refine wpQuiet_nil ?_
            intro w5 hb5
            have hPut2 := put22 (w := w5) 41 0 0 0 D hD0 hD1 ((Kept.of_below (S := fun _ => False) hb5).owns HO3.out (fun _ _ e => e)) (by have := HCL.out; rw [List.length_append, wdL_length]; omega) (by have := hb5.size; omega)
            have K5 : Hid (Kept (fun b => u6.ownBlock = some b) wr w5) := HK3.out.trans (Kept.of_below hb5)
            clear hAw ya0 ya1 ya2 yak hne hb5 ix1 ix2
            go_wp2_with (go_at_call 22; (with_reducible refine hPut2.mono ?_); rintro e w8 ⟨v8, rfl, ho8, hk8, _⟩)
            have HN := hid' (hnx.out v8 w8 (K5.out.ahead hk8 (fun i hi e => by
              rcases HLOC3.out with e2 | ⟨b', e2, hb'⟩
              · rw [← e2]; exact e
              · rw [e2] at e
                have : b' = i := Option.some.inj e
                omega)) (by rw [← List.append_assoc]; exact ho8))
            clear hnx ho8 hk8 hPut2
            go_roundw
            case rel => exact ⟨k + 1, by omega, by go_num, HN.out⟩
            case measure => simp [intOf]; omega
      · have hp : 0 < x.label := by
          have := HXO.out
          unfold Ln.ok at this
          rw [if_neg hz] at this
          simp only [Bool.and_eq_true, decide_eq_true_eq] at this
          exact this.1.1.1.1.1.1
        rw [if_neg hz] at hnx
        have HN : Hid (RMid w (yb + 1) yb tb lb ab ls T S A (k + 1) u6 (wr.alloc (.cells #[.int .i64 x.op, .int .i64 x.d, .int .i64 x.a, .int .i64 x.b, .int .i32 x.imm] 24))) := hnx.out _ _ ((Kept.rfl _ _).alloc _) (by rw [List.append_nil]; exact hOw.out.alloc _)
        clear hnx hz
        go_wp2
        go_roundw
        case rel => exact ⟨k + 1, by omega, by go_num, HN.out⟩
        case measure => simp [intOf]; omega
    · have : k = ls.length := by omega
      subst this
      have hO := hM.own
      rw [List.take_of_length_le (Nat.le_refl _)] at hO
      have hcv := conv_own hO
      have HB := hid' hM.below
      clear hM hO
      go_wp2
      go_ret2
      exact ⟨rfl, HB.out⟩
end Go.Proofs.Ytgnlplddppheiaa
