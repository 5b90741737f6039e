/- The document's do. -/
import Derived.Test.YtiehlkhpblldaaaH19
set_option linter.unusedVariables false
set_option linter.unusedSimpArgs false
set_option maxRecDepth 20000
set_option maxHeartbeats 8000000
namespace Go.Proofs.Ytiehlkhpblldaaa
open Go.RowKit Go.Maps
section
variable {C : Cst} {W0 W W' : World} {r : Nat} {d d' : Ds} {v v' : Dv}
theorem do55_alu {rb : Nat} {l : List Int} {i : In} {fn : Int} (h : DocM C W0 r W d v) (hR : RegM W0 W rb l) (hI : In.ok W0 i) (hop : i.op = 3) (ha : i.args.length = 2) {a : Nat} (hd : i.dst = a) (hal : a < l.length) (ht : d.trap = 0) (ho : d.over = false) (hl : WordsOk l) {q : Nat} (hq : i.args[0]? = some (q : Int)) (hql : q < l.length) {q2 : Nat} (hq2 : i.args[1]? = some (q2 : Int)) (hql2 : q2 < l.length) (hcn : 0 ≤ d.count ∧ d.count ≤ 1048576) (hT : aluT i.alu (l.getD q2 0) = 0) :
    Calls Try.prog 55 #[.pointer (some ⟨r, 0, none⟩), .int .i64 fn, i.val, .slice (some ⟨rb, 0, none⟩) l.length l.length] W (DoneD C W0 W r rb (couB (couF C fn i) d) (l.set a (aluV i.alu (l.getD q 0) (l.getD q2 0))) true) := by
  obtain ⟨ao, acap, po, pcap, ea, ep, ev⟩ := in_val hI
  obtain ⟨ab, ao2, cap', ea', hcap, hcell⟩ := arg_two hI (n := 1) ha
  rw [ea, ha] at ea'
  injection ea' with e1 e2 e3
  clear e2
  subst e1 e3
  have hcap2 : (0 : Int) < acap := by omega
  have hcap3 : (1 : Int) < acap := by omega
  rw [hop, hd, ha] at ev
  have hb1 := below1 W (.cells #[.int .i64 3, .int .i64 a, .slice (some ⟨ab, ao2, none⟩) 2 acap, .int .i32 i.imm, .int .i64 i.alu, .int .i64 i.wide, .slice po i.pred.length pcap] 51)
  have HM := hid' ((MidD.start h hR).on hb1)
  have hbx := heap_alloc_new W (.cells #[.int .i64 3, .int .i64 a, .slice (some ⟨ab, ao2, none⟩) 2 acap, .int .i32 i.imm, .int .i64 i.alu, .int .i64 i.wide, .slice po i.pred.length pcap] 51)
  have hbc : ∀ j, (W.alloc (.cells #[.int .i64 3, .int .i64 a, .slice (some ⟨ab, ao2, none⟩) 2 acap, .int .i32 i.imm, .int .i64 i.alu, .int .i64 i.wide, .slice po i.pred.length pcap] 51)).cell? ⟨W.heap.size, j, none⟩ = (#[.int .i64 3, .int .i64 a, .slice (some ⟨ab, ao2, none⟩) 2 acap, .int .i32 i.imm, .int .i64 i.alu, .int .i64 i.wide, .slice po i.pred.length pcap] : Array Value)[j]? := fun j => cell_of_row _ _ _ _ 51 (0, 0) hbx
  have b0 := hbc 0
  have b1 := hbc 1
  have b2 := hbc 2
  have b3 := hbc 3
  have b4 := hbc 4
  have b5 := hbc 5
  simp only [List.getElem?_toArray, List.getElem?_cons_succ, List.getElem?_cons_zero] at b0 b1 b2 b3 b4 b5
  obtain ⟨c13, c14, c18, c8, fr⟩ := HM.out.cells ht ho
  have hrr := HM.out.ne.1
  have hrr2 := HM.out.ne.2
  have hrs : ¬ r = W.heap.size := by have := h.lt; omega
  have hsr : ¬ W.heap.size = r := fun e => hrs e.symm
  obtain ⟨rc, rf⟩ := HM.out.reg.cell hal
  have hai : (a : Int) < l.length := by omega
  have ha0 : (a : Int) ≥ 0 := by omega
  have x0 := hcell _ HM.out.doc.below 0 _ hq
  rw [Nat.add_zero] at x0
  obtain ⟨rq, _⟩ := HM.out.reg.cell hql
  have hqi : (q : Int) < l.length := by omega
  obtain ⟨hz0, hz1⟩ := hl q
  have x1 := hcell _ HM.out.doc.below 1 _ hq2
  obtain ⟨rq2, _⟩ := HM.out.reg.cell hql2
  have hqi2 : (q2 : Int) < l.length := by omega
  obtain ⟨hy0, hy1⟩ := hl q2
  have h73 := counted73 HM.out.doc (fn := fn) hI
  rw [ev] at h73
  have h74 : ∀ w, _ := fun w => alu8 i.alu (l.getD q 0) (l.getD q2 0) hz0 hz1 hy0 hy1 w
  rw [hT] at h74
  have HB4 := hid' b4
  have HB1 := hid' b1
  generalize couF C fn i = cf at *
  generalize aluV i.alu (l.getD q 0) (l.getD q2 0) = V at *
  generalize l.getD q 0 = z0 at *
  generalize l.getD q2 0 = z2 at *
  have hcw : IntKind.i64.wrap (d.count + 1) = d.count + 1 := by simp [IntKind.wrap, IntKind.bits, IntKind.signed]; omega
  rw [ev]
  clear hR hbx hbc ev ea ep ha hop hd hq hq2 hcell h hI
  clear hT
  go_enter Try.func55, Try.ntmps55
  go_wp2_with (first
    | (go_at_call 73; refine h73.mono ?_; rintro e1 w1 ⟨rfl, hb2⟩; have HM2 := hid' (HM.out.on hb2); obtain ⟨p13, p14, p18, p8, fr2⟩ := HM2.out.cells ht ho; have d4 := keep_cell HB4.out hb2; have d1 := keep_cell HB1.out hb2; obtain ⟨rc2, rf2⟩ := HM2.out.reg.cell hal; cases cf)
    | (go_at_call 74; refine (h74 _).mono ?_; rintro e1 w2 ⟨rfl, rfl⟩))
  · go_ret
    exact (HM2.out.trap0 ht).setR a V
  · go_ret
    exact ((HM2.out.put (d' := { d with count := d.count + 1 }) 18 _ rfl rfl).trap0 ht).setR a V
end
end Go.Proofs.Ytiehlkhpblldaaa
