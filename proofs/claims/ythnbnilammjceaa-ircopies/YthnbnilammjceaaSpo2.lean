/- spoilt, walked. -/
import Derived.Test.YthnbnilammjceaaSpo
namespace Go.Proofs.Ythnbnilammjceaa
open Go.RowKit Go.Maps
set_option linter.unusedVariables false
set_option linter.unusedSimpArgs false

theorem spl {B E : Nat} {w1 W0 wr : World} (hb : Below w1.heap.size w1 W0) (h : Sp B E W0 wr) {b o : Nat} {a : Option Addr} {n c : Nat} (hc : w1.cell? ⟨b, o, none⟩ = some (.slice a n c)) : wr.cell? ⟨b, o, none⟩ = some (.slice a n c) := h.els _ _ _ _ _ (keep_cell hc hb)
theorem spn {B E : Nat} {w1 W0 wr : World} (hb : Below w1.heap.size w1 W0) (h : Sp B E W0 wr) {b o : Nat} {n : Int} (hc : w1.cell? ⟨b, o, none⟩ = some (.int .i64 n)) : ∃ m, wr.cell? ⟨b, o, none⟩ = some (.int .i64 m) := h.num _ _ _ (keep_cell hc hb)
theorem spf {B E : Nat} {w1 W0 wr : World} (hb : Below w1.heap.size w1 W0) (h : Sp B E W0 wr) {b o : Nat} (hl : b < w1.heap.size) (hc : w1.frozen? ⟨b, o, none⟩ = false) : wr.frozen? ⟨b, o, none⟩ = false := by rw [h.frozen, hb.frozen hl, hc]
theorem spbox {B E : Nat} {w wr : World} {v0 v1 v2 v3 v4 : Value} {T : TypeId} (hE : E ≤ w.heap.size) (h : Sp B E (w.alloc (.cells #[v0, v1, v2, v3, v4] T)) wr) : wr.cell? ⟨w.heap.size, 4, none⟩ = some v4 := by
  rw [World.cell?_of_block (h.block w.heap.size (.inr hE))]
  simp [go_sem]

set_option maxRecDepth 40000 in
set_option maxHeartbeats 20000000 in
theorem spoilt22 {w1 w : World} {B : Nat} {x : Fn} (hx : OwnF w1 B x) (hb : Below w1.heap.size w1 w) : Calls Try.prog 22 #[x.val] w fun e w' => e = .returned (.tuple #[]) ∧ Kept (fun k => B ≤ k ∧ k < w1.heap.size) w w' := by
  obtain ⟨nm, ps, rs, sl, bv, bl⟩ := x
  obtain ⟨ao, cap, e1, hbl⟩ := own_bls hx.b
  dsimp only at *
  subst e1
  have HBL := hid' hbl
  have HBS := hid' hx.bls
  have hlb := hx.bl
  unfold big at hlb
  have hE := hb.size
  have HE := hid' hE
  have HB : Hid (Below w1.heap.size w1 (w.alloc (.cells #[.string nm, .int .i64 ps, .int .i64 rs, .int .i64 sl, .slice ao bl.length cap] 33))) := hb.alloc hb.size _
  clear hbl hx hb
  unfold Fn.val
  dsimp only
  go_enter Try.func22, Try.ntmps22
  go_wp2_with fail
  go_loopw [2] (fun i wr => ∃ k : Nat, k ≤ bl.length ∧ i = .int .i64 k ∧ Sp B w1.heap.size (w.alloc (.cells #[.string nm, .int .i64 ps, .int .i64 rs, .int .i64 sl, .slice ao bl.length cap] 33)) wr) (fun i _ => bl.length - (intOf i).toNat)
  case atStart => exact ⟨0, Nat.zero_le _, rfl, Sp.rfl _ _ _⟩
  case round =>
    obtain ⟨k, hk, rfl, hS⟩ := hrel
    have HS := hid' hS
    have f4 := spbox HE.out hS
    clear hS
    by_cases hlt : k < bl.length
    · obtain ⟨g, rfl, hgB, hgE, hcp, c0, c1, c3, cf⟩ := HBL.out k hlt
      have ho := HBS.out k hlt
      obtain ⟨co, cc, ec, hins⟩ := own_ins ho.c
      obtain ⟨tt, tc, et, hts⟩ := own_ints ho.t trivial
      have HI := hid' hins
      have HT := hid' hts
      have HOI := hid' ho.ins
      have hcl := ho.cl
      have htl := ho.tl
      unfold big at hcl htl
      rw [ec] at c0
      rw [et] at c3
      have C0 := hid' c0
      have C1 := hid' c1
      have C3 := hid' c3
      have CF := hid' cf
      clear ho ec et hins hts c0 c1 c3 cf
      go_wp2_with fail
      go_loopw [3] (fun i wr' => ∃ m : Nat, m ≤ bl[k].code.length ∧ i = .int .i64 m ∧ Sp B w1.heap.size (w.alloc (.cells #[.string nm, .int .i64 ps, .int .i64 rs, .int .i64 sl, .slice (some ⟨g, 0, none⟩) bl.length cap] 33)) wr') (fun i _ => bl[k].code.length - (intOf i).toNat)
      case atStart => exact ⟨0, Nat.zero_le _, rfl, HS.out⟩
      case round =>
        clear HS f4
        obtain ⟨m, hmk, rfl, hS⟩ := hrel
        have HS := hid' hS
        have f4 := spbox HE.out hS
        have d0 := spl HB.out hS C0.out
        clear hS
        by_cases hmt : m < bl[k].code.length
        · obtain ⟨h, rfl, hhB, hhE, hhc, a0, a2, a6, af⟩ := HI.out m hmt
          have hi := HOI.out m hmt
          obtain ⟨au, ac, ea, has⟩ := own_ints hi.a trivial
          obtain ⟨pu, pc, ep, hps⟩ := own_ints hi.p trivial
          have HA := hid' has
          have HP := hid' hps
          have hal := hi.al
          have hpl := hi.pl
          unfold big at hal hpl
          rw [ea] at a2
          rw [ep] at a6
          have A0 := hid' a0
          have A2 := hid' a2
          have A6 := hid' a6
          have AF := hid' af
          clear hi ea ep has hps a0 a2 a6 af
          generalize bl[k].code[m].args.length = na at *
          generalize bl[k].code[m].pred.length = np at *
          go_wp2_with fail
          go_loopw [5] (fun i wr' => ∃ q : Nat, q ≤ na ∧ i = .int .i64 q ∧ Sp B w1.heap.size (w.alloc (.cells #[.string nm, .int .i64 ps, .int .i64 rs, .int .i64 sl, .slice (some ⟨g, 0, none⟩) bl.length cap] 33)) wr') (fun i _ => na - (intOf i).toNat)
          case atStart => exact ⟨0, Nat.zero_le _, rfl, HS.out⟩
          case round =>
            clear HS f4 d0
            obtain ⟨q, hq, rfl, hS⟩ := hrel
            have HS := hid' hS
            have d2 := spl HB.out hS A2.out
            clear hS
            by_cases hqt : q < na
            · obtain ⟨ga, rfl, haB, haE, hac, ⟨n0, an⟩, anf⟩ := HA.out q hqt
              obtain ⟨n1, sn⟩ := spn HB.out HS.out an
              have snf := spf HB.out HS.out haE anf
              clear an anf
              go_wp2_with fail
              go_roundw
              case rel => exact ⟨q + 1, by omega, by go_num, HS.out.set haB haE ⟨_, sn⟩⟩
              case measure => simp [intOf]; omega
            · have e : q = na := by omega
              subst e
              go_wp2_with fail
              go_loopw [6] (fun i wr' => ∃ q : Nat, q ≤ np ∧ i = .int .i64 q ∧ Sp B w1.heap.size (w.alloc (.cells #[.string nm, .int .i64 ps, .int .i64 rs, .int .i64 sl, .slice (some ⟨g, 0, none⟩) bl.length cap] 33)) wr') (fun i _ => np - (intOf i).toNat)
              case atStart => exact ⟨0, Nat.zero_le _, rfl, HS.out⟩
              case round =>
                clear HS d2
                obtain ⟨q, hq, rfl, hS⟩ := hrel
                have HS := hid' hS
                have d6 := spl HB.out hS A6.out
                clear hS
                by_cases hqt : q < np
                · obtain ⟨ga, rfl, haB, haE, hac, ⟨n0, an⟩, anf⟩ := HP.out q hqt
                  obtain ⟨n1, sn⟩ := spn HB.out HS.out an
                  have snf := spf HB.out HS.out haE anf
                  clear an anf
                  go_wp2_with fail
                  go_roundw
                  case rel => exact ⟨q + 1, by omega, by go_num, HS.out.set haB haE ⟨_, sn⟩⟩
                  case measure => simp [intOf]; omega
                · have e : q = np := by omega
                  subst e
                  obtain ⟨n1, sn⟩ := spn HB.out HS.out A0.out
                  have snf := spf HB.out HS.out hhE AF.out
                  go_wp2_with fail
                  go_roundw
                  case rel => exact ⟨m + 1, by omega, by go_num, HS.out.set hhB hhE ⟨_, sn⟩⟩
                  case measure => simp [intOf]; omega
        · have e : m = bl[k].code.length := by omega
          subst e
          generalize bl[k].to.length = nt at *
          go_wp2_with fail
          go_loopw [7] (fun i wr' => ∃ q : Nat, q ≤ nt ∧ i = .int .i64 q ∧ Sp B w1.heap.size (w.alloc (.cells #[.string nm, .int .i64 ps, .int .i64 rs, .int .i64 sl, .slice (some ⟨g, 0, none⟩) bl.length cap] 33)) wr') (fun i _ => nt - (intOf i).toNat)
          case atStart => exact ⟨0, Nat.zero_le _, rfl, HS.out⟩
          case round =>
            clear HS f4 d0
            obtain ⟨q, hq, rfl, hS⟩ := hrel
            have HS := hid' hS
            have f4 := spbox HE.out hS
            have d3 := spl HB.out hS C3.out
            clear hS
            by_cases hqt : q < nt
            · obtain ⟨ga, rfl, haB, haE, hac, ⟨n0, an⟩, anf⟩ := HT.out q hqt
              obtain ⟨n1, sn⟩ := spn HB.out HS.out an
              have snf := spf HB.out HS.out haE anf
              clear an anf
              go_wp2_with fail
              go_roundw
              case rel => exact ⟨q + 1, by omega, by go_num, HS.out.set haB haE ⟨_, sn⟩⟩
              case measure => simp [intOf]; omega
            · have e : q = nt := by omega
              subst e
              obtain ⟨n1, sn⟩ := spn HB.out HS.out C1.out
              have snf := spf HB.out HS.out hgE CF.out
              go_wp2_with fail
              go_roundw
              case rel => exact ⟨k + 1, by omega, by go_num, HS.out.set hgB hgE ⟨_, sn⟩⟩
              case measure => simp [intOf]; omega
    · have e : k = bl.length := by omega
      subst e
      go_wp2_with fail
      go_end0
      refine ⟨rfl, ?_⟩
      exact (Kept.of_below (below1 _ _)).trans HS.out.keep
end Go.Proofs.Ythnbnilammjceaa
