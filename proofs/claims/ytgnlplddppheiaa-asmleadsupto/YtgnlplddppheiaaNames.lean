/- The law AsmNames. -/
import Derived.Test.YtgnlplddppheiaaWake
namespace Go.Proofs.Ytgnlplddppheiaa
open Go.RowKit Go.Maps
set_option linter.unusedVariables false

def Ln.withL (x : Ln) (n : Int) : Ln := ⟨n, x.op, x.d, x.a, x.b, x.imm, x.to⟩
def Ln.withT (x : Ln) (n : Int) : Ln := ⟨x.label, x.op, x.d, x.a, x.b, x.imm, n⟩
theorem cells7_cons (x : Ln) (l : List Ln) : cells7 (x :: l) = Ln.cells x ++ cells7 l := by simp [cells7]
theorem cells7_label : ∀ (ls : List Ln) (k : Nat) (h : k < ls.length) (n : Int), (cells7 ls).set (k * 7) (.int .i64 n) = cells7 (ls.set k (ls[k].withL n))
  | x :: l, 0, _, n => by simp [cells7, Ln.cells, Ln.withL]
  | x :: l, k + 1, h, n => by
    have := cells7_label l k (by simpa using h) n
    rw [cells7_cons, List.set_append_right _ _ (by simp [Ln.cells]; omega), show (k + 1) * 7 - (Ln.cells x).length = k * 7 by simp [Ln.cells]; omega, this, List.set_cons_succ, cells7_cons]
    rfl
theorem cells7_to : ∀ (ls : List Ln) (k : Nat) (h : k < ls.length) (n : Int), (cells7 ls).set (k * 7 + 6) (.int .i64 n) = cells7 (ls.set k (ls[k].withT n))
  | x :: l, 0, _, n => by simp [cells7, Ln.cells, Ln.withT]
  | x :: l, k + 1, h, n => by
    have := cells7_to l k (by simpa using h) n
    rw [cells7_cons, List.set_append_right _ _ (by simp [Ln.cells]; omega), show (k + 1) * 7 + 6 - (Ln.cells x).length = k * 7 + 6 by simp [Ln.cells]; omega, this, List.set_cons_succ, cells7_cons]
    rfl

/-- The first k lines have other names. -/
def curL (y : Int) (ls : List Ln) (k : Nat) : List Ln := (ls.take k).map (ren y) ++ ls.drop k
theorem curL_length (y : Int) (ls : List Ln) (k : Nat) : (curL y ls k).length = ls.length := by unfold curL; simp; omega
theorem curL_get (y : Int) (ls : List Ln) (k : Nat) (h : k < ls.length) : (curL y ls k)[k]'(by rw [curL_length]; exact h) = ls[k] := by
  unfold curL
  rw [List.getElem_append_right (by rw [List.length_map, List.length_take]; exact Nat.min_le_left _ _)]
  simp [Nat.min_eq_left (Nat.le_of_lt h)]
theorem curL_set (y : Int) (ls : List Ln) (k : Nat) (h : k < ls.length) : (curL y ls k).set k (ren y ls[k]) = curL y ls (k + 1) := by
  unfold curL
  have e : k - ((ls.take k).map (ren y)).length = 0 := by rw [List.length_map, List.length_take]; omega
  rw [List.set_append_right _ _ (by rw [List.length_map, List.length_take]; exact Nat.min_le_left _ _), e, List.drop_eq_getElem_cons h, List.set_cons_zero, taken' ls k h, List.map_append, List.append_assoc]
  rfl

theorem LnOwn.label {w : World} {base g cap k : Nat} {ls : List Ln} (h : LnOwn w base (.slice (some ⟨g, 0, none⟩) ls.length cap) ls) (hk : k < ls.length) (n : Int) :
    LnOwn (w.setCell ⟨g, k * 7, none⟩ (.int .i64 n)) base (.slice (some ⟨g, 0, none⟩) ls.length cap) (ls.set k (ls[k].withL n)) := by
  have := (World.ownsRow.stored h (k * 7) (.int .i64 n)).1
  rw [cells7_label ls k hk n] at this
  unfold LnOwn
  rw [List.length_set]
  exact this
theorem LnOwn.to {w : World} {base g cap k : Nat} {ls : List Ln} (h : LnOwn w base (.slice (some ⟨g, 0, none⟩) ls.length cap) ls) (hk : k < ls.length) (n : Int) :
    LnOwn (w.setCell ⟨g, k * 7 + 6, none⟩ (.int .i64 n)) base (.slice (some ⟨g, 0, none⟩) ls.length cap) (ls.set k (ls[k].withT n)) := by
  have := (World.ownsRow.stored h (k * 7 + 6) (.int .i64 n)).1
  rw [cells7_to ls k hk n] at this
  unfold LnOwn
  rw [List.length_set]
  exact this

/-- In the midst: the copy's first k lines have other names. -/
structure NMid (w : World) (y : Int) (ls : List Ln) (k b1 b2 : Nat) (vl vm : Value) (W : World) : Prop where
  l : LnOwn W b1 vl ls
  m : LnOwn W b2 vm (curL y ls k)
  apart : ∀ b, vl.ownBlock = some b → b < b2
  small : ∀ j (hj : j < ls.length), j < k → ls[j].label ≤ 1099511627776 ∧ ls[j].to ≤ 1099511627776
  hb : w.heap.size ≤ b2
  below : Below w.heap.size w W

/-- One line more: up to two stores. -/
theorem NMid.next {w W : World} {y : Int} {ls : List Ln} {k b1 b2 g cap : Nat} {vl : Value} (h : NMid w y ls k b1 b2 vl (.slice (some ⟨g, 0, none⟩) ls.length cap) W) (hk : k < ls.length) (hl : ls[k].label ≤ 1099511627776 ∧ ls[k].to ≤ 1099511627776) {W' : World}
    (hm : LnOwn W' b2 (.slice (some ⟨g, 0, none⟩) ls.length cap) ((curL y ls k).set k (ren y ls[k]))) (hK : Kept (fun b => b = g) W W') : NMid w y ls (k + 1) b1 b2 vl (.slice (some ⟨g, 0, none⟩) ls.length cap) W' := by
  have hg : b2 ≤ g := by
    have := (World.ownsRow.lt h.m g rfl).1
    exact this
  refine ⟨hK.owns h.l (fun b hb e => by have := h.apart b hb; omega), by rw [← curL_set y ls k hk]; exact hm, h.apart, fun j hj hjk => ?_, h.hb, h.below.trans (hK.below h.below.size (fun b e => by have := h.hb; omega))⟩
  by_cases e : j = k
  · subst e; exact hl
  · exact h.small j hj (by omega)

set_option maxRecDepth 100000 in
set_option maxHeartbeats 8000000 in
theorem names6 {w : World} {hv tv : Value} {hd tl : List Ln} {o d a b i N y : Int} (hh : Src7 w hv hd) (ht : Src7 w tv tl) (hl : hd.length + tl.length ≤ 1100000) (hN : N ≤ 9223372036854775807) (hy0 : 0 ≤ y) (hy1 : y ≤ 65535) (hw : ∀ x ∈ linesL hd tl o d a b i N, x.wf) :
    Calls Try.prog 6 #[.agg #[hv, .int .i64 o, .int .i64 d, .int .i64 a, .int .i64 b, .int .i32 i, .int .i64 N, tv], .int .u16 y] w fun e w' => e = .returned (.bool true) ∧ Below w.heap.size w w' := by
  have hlen : (linesL hd tl o d a b i N).length ≤ 1400000 := by
    have : midN N ≤ 262153 := by unfold midN; split <;> omega
    unfold linesL
    simp
    omega
  have hL : Hid (∀ W, Below w.heap.size w W → Calls Try.prog 7 #[.agg #[hv, .int .i64 o, .int .i64 d, .int .i64 a, .int .i64 b, .int .i32 i, .int .i64 N, tv]] W fun e w' => ∃ v', e = .returned v' ∧ LnOwn w' W.heap.size v' (linesL hd tl o d a b i N) ∧ Below W.heap.size W w') := fun W hW => lines7 (hh.below hW) (ht.below hW) hl hN
  generalize linesL hd tl o d a b i N = ls at *
  clear hh ht
  go_enter Try.func6, Try.ntmps6
  go_wp2_with (first
    | (go_at_call 7; refine (hL.out _ (below1 _ _)).mono ?_; rintro e w1 ⟨vl, rfl, hol, hb1⟩)
    | (go_at_call 9; refine (own9 hol.src (by omega)).mono ?_; rintro e w2 ⟨vm, rfl, hom, hb2⟩))
  have hst : NMid w y ls 0 (w.heap.size + 1) w1.heap.size vl vm w2 := by
    have hb01 := below_call hb1
    have hol' : LnOwn w1 (w.heap.size + 1) vl ls := by have := hol; simp at this; exact this
    refine ⟨(Kept.of_below (S := fun _ => False) hb2).owns hol' (fun _ _ e => e), by unfold curL; simpa using hom, fun b hb => (World.ownsRow.lt hol b hb).2, fun j _ h => by omega, hb01.size, hb01.trans (hb2.mono hb01.size)⟩
  have HST := hid' hst
  obtain ⟨am, cm, rfl⟩ := own_shape hom
  clear hst hol hom hb1 hb2
  generalize w1.heap.size = b2 at *
  go_loopw [7] (fun i' wr => ∃ k : Nat, k ≤ ls.length ∧ i' = .int .i64 k ∧ NMid w y ls k (w.heap.size + 1) b2 vl (.slice am ls.length cm) wr) (fun i' _ => ls.length - (intOf i').toNat)
  case atStart => exact ⟨0, Nat.zero_le _, rfl, HST.out⟩
  case round =>
    obtain ⟨k, hk, rfl, hM⟩ := hrel
    by_cases hlt : k < ls.length
    · obtain ⟨g, rfl⟩ : ∃ g, am = some ⟨g, 0, none⟩ := by
        rcases hM.m.2 with ⟨_, e⟩ | ⟨g, cg, cur, e, _⟩
        · rw [curL_length] at e; omega
        · injection e with e1 _ _
          exact ⟨g, e1⟩
      have hmc := hM.m
      have hcl := curL_length y ls k
      have hcg := curL_get y ls k hlt
      have hme : wr.ownsRow b2 40 7 (.slice (some ⟨g, 0, none⟩) (curL y ls k).length cm) (curL y ls k).length (cells7 (curL y ls k)) := by
        have h := hmc
        unfold LnOwn at h
        rw [← hcl] at h
        exact h
      have cl : ∀ c, c < 7 → wr.cell? ⟨g, k * 7 + c, none⟩ = (Ln.cells ls[k])[c]? := fun c hc => by
        rw [World.ownsRow.cellAt hme (k * 7 + c) (by omega), cells7_get (curL y ls k) k c (by omega) hc, hcg]
      have c0 : wr.cell? ⟨g, k * 7, none⟩ = some (.int .i64 ls[k].label) := cl 0 (by omega)
      have c6 : wr.cell? ⟨g, k * 7 + 6, none⟩ = some (.int .i64 ls[k].to) := cl 6 (by omega)
      have fr : ∀ j, wr.frozen? ⟨g, j, none⟩ = false := fun j => World.ownsRow.frozenAt hme j
      have HM := hid' hM
      have hmc' : Hid (LnOwn wr b2 (.slice (some ⟨g, 0, none⟩) (curL y ls k).length cm) (curL y ls k)) := by rw [hcl]; exact hmc
      have HCL := hid' hcl
      have HCG := hid' hcg
      have hgw : g < wr.heap.size := (World.ownsRow.lt hmc g rfl).2
      have hwx := hw ls[k] (List.getElem_mem _)
      clear hM hmc hcl hcg cl hme
      have hs0 := curL_set y ls k hlt
      have HS0 := hid' hs0
      clear hs0
      by_cases hb1 : (1099511627776 : Int) < ls[k].label
      · go_wp2_with (go_at_call 13; refine (awake13 _).mono ?_; rintro e w9 ⟨rfl, hb9⟩)
        go_ret
        exact ⟨rfl, HM.out.below.trans (hb9.mono HM.out.below.size)⟩
      · by_cases hb2' : (1099511627776 : Int) < ls[k].to
        · go_wp2_with (go_at_call 13; refine (awake13 _).mono ?_; rintro e w9 ⟨rfl, hb9⟩)
          go_ret
          exact ⟨rfl, HM.out.below.trans (hb9.mono HM.out.below.size)⟩
        · have hsm : Hid (ls[k].label ≤ 1099511627776 ∧ ls[k].to ≤ 1099511627776) := ⟨by omega, by omega⟩
          have nx : Hid (∀ W', LnOwn W' b2 (.slice (some ⟨g, 0, none⟩) ls.length cm) ((curL y ls k).set k (ren y ls[k])) → Kept (fun b => b = g) wr W' → NMid w y ls (k + 1) (w.heap.size + 1) b2 vl (.slice (some ⟨g, 0, none⟩) ls.length cm) W') := fun W' h1 h2 => HM.out.next hlt hsm.out h1 h2
          have rn : Hid (ren y ls[k] = ⟨nm y ls[k].label, ls[k].op, ls[k].d, ls[k].a, ls[k].b, ls[k].imm, nm y ls[k].to⟩) := rfl
          generalize ls[k] = x at *
          have K0 := Kept.rfl (fun b => b = g) wr
          by_cases p1 : 0 < x.label
          · have s1 : IntKind.i64.wrap (x.label * 3) = x.label * 3 := by simp [IntKind.wrap, IntKind.bits, IntKind.signed]; omega
            have s2 : IntKind.i64.wrap (x.label * 3 + y) = x.label * 3 + y := by simp [IntKind.wrap, IntKind.bits, IntKind.signed]; omega
            have hL1 := LnOwn.label hmc'.out (k := k) (by have := HCL.out; omega) (x.label * 3 + y)
            rw [HCG.out] at hL1
            have e1 : nm y x.label = x.label * 3 + y := by unfold nm; rw [if_pos p1]
            by_cases p2 : 0 < x.to
            · have s3 : IntKind.i64.wrap (x.to * 3) = x.to * 3 := by simp [IntKind.wrap, IntKind.bits, IntKind.signed]; omega
              have s4 : IntKind.i64.wrap (x.to * 3 + y) = x.to * 3 + y := by simp [IntKind.wrap, IntKind.bits, IntKind.signed]; omega
              have e2 : nm y x.to = x.to * 3 + y := by unfold nm; rw [if_pos p2]
              have hL2 := LnOwn.to (ls := (curL y ls k).set k (x.withL (x.label * 3 + y))) (w := wr.setCell ⟨g, k * 7, none⟩ (.int .i64 (x.label * 3 + y))) (by rw [List.length_set]; exact hL1) (k := k) (by rw [List.length_set]; have := HCL.out; omega) (x.to * 3 + y)
              rw [List.getElem_set_self, List.set_set, List.length_set, HCL.out] at hL2
              have HN := hid' (nx.out _ (by rw [rn.out, e1, e2]; exact hL2) ((K0.set (a := ⟨g, k * 7, none⟩) (.inl rfl) _).set (a := ⟨g, k * 7 + 6, none⟩) (.inl rfl) _))
              clear hL1 hL2 K0
              go_wp2
              go_roundw
              case rel => exact ⟨k + 1, by omega, by go_num, HN.out⟩
              case measure => simp [intOf]; omega
            · have e2 : nm y x.to = x.to := by unfold nm; rw [if_neg p2]
              rw [HCL.out] at hL1
              have HN := hid' (nx.out _ (by rw [rn.out, e1, e2]; exact hL1) (K0.set (a := ⟨g, k * 7, none⟩) (.inl rfl) _))
              clear hL1 K0
              go_wp2
              go_roundw
              case rel => exact ⟨k + 1, by omega, by go_num, HN.out⟩
              case measure => simp [intOf]; omega
          · have e1 : nm y x.label = x.label := by unfold nm; rw [if_neg p1]
            by_cases p2 : 0 < x.to
            · have s3 : IntKind.i64.wrap (x.to * 3) = x.to * 3 := by simp [IntKind.wrap, IntKind.bits, IntKind.signed]; omega
              have s4 : IntKind.i64.wrap (x.to * 3 + y) = x.to * 3 + y := by simp [IntKind.wrap, IntKind.bits, IntKind.signed]; omega
              have e2 : nm y x.to = x.to * 3 + y := by unfold nm; rw [if_pos p2]
              have hL2 := LnOwn.to hmc'.out (k := k) (by have := HCL.out; omega) (x.to * 3 + y)
              rw [HCG.out, HCL.out] at hL2
              have HN := hid' (nx.out _ (by rw [rn.out, e1, e2]; exact hL2) (K0.set (a := ⟨g, k * 7 + 6, none⟩) (.inl rfl) _))
              clear hL2 K0
              go_wp2
              go_roundw
              case rel => exact ⟨k + 1, by omega, by go_num, HN.out⟩
              case measure => simp [intOf]; omega
            · have e2 : nm y x.to = x.to := by unfold nm; rw [if_neg p2]
              have e3 : (curL y ls k).set k x = curL y ls k := by
                rw [← HCG.out]; exact List.set_getElem_self _
              have HN := hid' (nx.out wr (by rw [rn.out, e1, e2]; show LnOwn wr b2 _ ((curL y ls k).set k x); rw [e3]; have := hmc'.out; rwa [HCL.out] at this) K0)
              clear K0
              go_wp2
              go_roundw
              case rel => exact ⟨k + 1, by omega, by go_num, HN.out⟩
              case measure => simp [intOf]; omega
    · have e : k = ls.length := by omega
      subst e
      have hm0 := hM.m
      have ec : curL y ls ls.length = ls.map (ren y) := by unfold curL; simp
      rw [ec] at hm0
      have hsm := hM.small
      have HB := hid' hM.below
      have hwr : ∀ x ∈ ls.map (ren y), x.wf := fun x hx => by
        obtain ⟨z, hz, rfl⟩ := List.mem_map.1 hx
        obtain ⟨j, hj, rfl⟩ := List.mem_iff_getElem.1 hz
        have h1 := hw _ hz
        have h2 := hsm j hj hj
        refine ⟨?_, ?_, ?_, ?_, h1.i0, h1.i1⟩
        · show _ ≤ nm y _; have := h1.l0; unfold nm; split <;> omega
        · show nm y _ ≤ _; unfold nm; split <;> omega
        · show _ ≤ nm y _; have := h1.t0; unfold nm; split <;> omega
        · show nm y _ ≤ _; unfold nm; split <;> omega
      have HM0 := hid' hm0
      have HWR := hid' hwr
      have HLs := hid' hM.l
      clear hm0 hwr hM hsm
      go_wp2_with (first
        | (go_at_call 9; refine (own9 HLs.out.src (by omega)).mono ?_; rintro e w3 ⟨v3, rfl, ho3, hb3⟩)
        | (go_at_call 8; (with_reducible refine (assemble8 (ho3.lns (by omega) hw)).mono ?_); rintro e w4 ⟨s4, e4, rfl, hs4, hb4⟩; have hm4 := (Kept.of_below (S := fun _ => False) (below_on hb3 hb4)).owns HM0.out (fun _ _ e => e))
        | (go_at_call 8; refine (assemble8 (LnOwn.lns (ls := ls.map (ren y)) hm4 (by simp; omega) HWR.out)).mono ?_; rintro e w5 ⟨s5, e5, rfl, hs5, hb5⟩; obtain ⟨rfl, rfl⟩ := hs4.unique (ren_asm hy0 hs5))
        | (go_at_call 13; refine (awake13 _).mono ?_; rintro e w6 ⟨rfl, hb6⟩))
      go_ret
      exact ⟨rfl, HB.out.trans ((below_on (below_on (below_on hb3 hb4) hb5) hb6).mono HB.out.size)⟩
end Go.Proofs.Ytgnlplddppheiaa
