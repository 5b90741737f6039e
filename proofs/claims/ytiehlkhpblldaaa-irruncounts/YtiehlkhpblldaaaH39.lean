/- The document's do. -/
import Derived.Test.YtiehlkhpblldaaaH19
set_option linter.unusedVariables false
set_option linter.unusedSimpArgs false
set_option maxRecDepth 20000
set_option maxHeartbeats 8000000
namespace Go.Proofs.Ytiehlkhpblldaaa
open Go.RowKit Go.Maps
section
variable {C : Cst} {W0 W W' : World} {r : Nat} {d d' : Ds} {v v' : Dv}
theorem do55_nostore {rb : Nat} {l : List Int} {i : In} {fn : Int} (h : DocM C W0 r W d v) (hR : RegM W0 W rb l) (hI : In.ok W0 i) (hop : i.op = 7) (ha : i.args.length = 2) (hd : i.dst = -1) (ht : d.trap = 0) (ho : d.over = false) (hl : WordsOk l) {q : Nat} (hq : i.args[0]? = some (q : Int)) (hql : q < l.length) {q2 : Nat} (hq2 : i.args[1]? = some (q2 : Int)) (hql2 : q2 < l.length) {n : Nat} (hwi : i.wide = n) (hn4 : n ≤ 4) (hM : DmOk d) (hL : stOkD d ((l.getD q 0 + i.imm) % 4294967296) n = false) :
    Calls Try.prog 55 #[.pointer (some ⟨r, 0, none⟩), .int .i64 fn, i.val, .slice (some ⟨rb, 0, none⟩) l.length l.length] W (DoneD C W0 W r rb { d with trap := 5 } l false) := by
  obtain ⟨ao, acap, po, pcap, ea, ep, ev⟩ := in_val hI
  obtain ⟨ab, ao2, cap', ea', hcap, hcell⟩ := arg_two hI (n := 1) ha
  rw [ea, ha] at ea'
  injection ea' with e1 e2 e3
  clear e2
  subst e1 e3
  have hcap2 : (0 : Int) < acap := by omega
  have hcap3 : (1 : Int) < acap := by omega
  rw [hop, hd, ha, hwi] at ev
  have hb1 := below1 W (.cells #[.int .i64 7, .int .i64 (-1), .slice (some ⟨ab, ao2, none⟩) 2 acap, .int .i32 i.imm, .int .i64 i.alu, .int .i64 n, .slice po i.pred.length pcap] 51)
  have HM := hid' ((MidD.start h hR).on hb1)
  have hbx := heap_alloc_new W (.cells #[.int .i64 7, .int .i64 (-1), .slice (some ⟨ab, ao2, none⟩) 2 acap, .int .i32 i.imm, .int .i64 i.alu, .int .i64 n, .slice po i.pred.length pcap] 51)
  have hbc : ∀ j, (W.alloc (.cells #[.int .i64 7, .int .i64 (-1), .slice (some ⟨ab, ao2, none⟩) 2 acap, .int .i32 i.imm, .int .i64 i.alu, .int .i64 n, .slice po i.pred.length pcap] 51)).cell? ⟨W.heap.size, j, none⟩ = (#[.int .i64 7, .int .i64 (-1), .slice (some ⟨ab, ao2, none⟩) 2 acap, .int .i32 i.imm, .int .i64 i.alu, .int .i64 n, .slice po i.pred.length pcap] : Array Value)[j]? := fun j => cell_of_row _ _ _ _ 51 (0, 0) hbx
  have b0 := hbc 0
  have b1 := hbc 1
  have b2 := hbc 2
  have b3 := hbc 3
  have b4 := hbc 4
  have b5 := hbc 5
  simp only [List.getElem?_toArray, List.getElem?_cons_succ, List.getElem?_cons_zero] at b0 b1 b2 b3 b4 b5
  obtain ⟨c13, c14, c18, c8, fr⟩ := HM.out.cells ht ho
  have hrr := HM.out.ne.1
  have hrr2 := HM.out.ne.2
  have hrs : ¬ r = W.heap.size := by have := h.lt; omega
  have hsr : ¬ W.heap.size = r := fun e => hrs e.symm
  have x0 := hcell _ HM.out.doc.below 0 _ hq
  rw [Nat.add_zero] at x0
  obtain ⟨rq, _⟩ := HM.out.reg.cell hql
  have hqi : (q : Int) < l.length := by omega
  obtain ⟨hz0, hz1⟩ := hl q
  have x1 := hcell _ HM.out.doc.below 1 _ hq2
  obtain ⟨rq2, _⟩ := HM.out.reg.cell hql2
  have hqi2 : (q2 : Int) < l.length := by omega
  obtain ⟨hy0, hy1⟩ := hl q2
  have h76 := store76 HM.out.doc hM (a := (l.getD q 0 + i.imm) % 4294967296) (by omega) (w := l.getD q2 0) ⟨hy0, hy1⟩ hn4
  rw [hL] at h76
  unfold storeD at h76
  rw [hL] at h76
  rw [if_neg (by decide)] at h76
  generalize l.getD q 0 = z0 at *
  generalize l.getD q2 0 = z2 at *
  rw [ev]
  clear hR hbx hbc ev ea ep ha hop hd hq hq2 hcell h hI hwi
  clear hL hM
  go_enter Try.func55, Try.ntmps55
  go_wp2_with (go_at_call 76; refine h76.mono ?_; rintro e1 w1 ⟨rfl, hD1, hK1⟩; have HM2 := hid' (HM.out.store hD1 hK1); obtain ⟨p13, p14, p18, p8, fr2⟩ := HM2.out.cells ht ho; clear hD1 hK1)
  go_ret
  exact (HM2.out.put (d' := { d with trap := 5 }) 13 _ rfl rfl).done false
end
end Go.Proofs.Ytiehlkhpblldaaa
namespace Go.Proofs.Ytiehlkhpblldaaa
open Go.RowKit Go.Maps
section
variable {C : Cst} {W0 W W' : World} {r : Nat} {d d' : Ds} {v v' : Dv}
theorem do55_put {rb : Nat} {l : List Int} {i : In} {fn : Int} (h : DocM C W0 r W d v) (hR : RegM W0 W rb l) (hI : In.ok W0 i) (hop : i.op = 11) (ha : i.args.length = 1) (hd : i.dst = -1) (ht : d.trap = 0) (ho : d.over = false) (hl : WordsOk l) {q : Nat} (hq : i.args[0]? = some (q : Int)) (hql : q < l.length) (hol : d.out.length ≤ 1000000) :
    Calls Try.prog 55 #[.pointer (some ⟨r, 0, none⟩), .int .i64 fn, i.val, .slice (some ⟨rb, 0, none⟩) l.length l.length] W (DoneD C W0 W r rb { d with out := d.out ++ [l.getD q 0 % 256] } l true) := by
  obtain ⟨ao, acap, po, pcap, ea, ep, ev⟩ := in_val hI
  obtain ⟨ab, ao2, cap', ea', hcap, hcell⟩ := arg_two hI (n := 0) ha
  rw [ea, ha] at ea'
  injection ea' with e1 e2 e3
  clear e2
  subst e1 e3
  have hcap2 : (0 : Int) < acap := by omega
  have hcap3 : (0 : Int) < acap := by omega
  rw [hop, hd, ha] at ev
  have hb1 := below1 W (.cells #[.int .i64 11, .int .i64 (-1), .slice (some ⟨ab, ao2, none⟩) 1 acap, .int .i32 i.imm, .int .i64 i.alu, .int .i64 i.wide, .slice po i.pred.length pcap] 51)
  have HM := hid' ((MidD.start h hR).on hb1)
  have hbx := heap_alloc_new W (.cells #[.int .i64 11, .int .i64 (-1), .slice (some ⟨ab, ao2, none⟩) 1 acap, .int .i32 i.imm, .int .i64 i.alu, .int .i64 i.wide, .slice po i.pred.length pcap] 51)
  have hbc : ∀ j, (W.alloc (.cells #[.int .i64 11, .int .i64 (-1), .slice (some ⟨ab, ao2, none⟩) 1 acap, .int .i32 i.imm, .int .i64 i.alu, .int .i64 i.wide, .slice po i.pred.length pcap] 51)).cell? ⟨W.heap.size, j, none⟩ = (#[.int .i64 11, .int .i64 (-1), .slice (some ⟨ab, ao2, none⟩) 1 acap, .int .i32 i.imm, .int .i64 i.alu, .int .i64 i.wide, .slice po i.pred.length pcap] : Array Value)[j]? := fun j => cell_of_row _ _ _ _ 51 (0, 0) hbx
  have b0 := hbc 0
  have b1 := hbc 1
  have b2 := hbc 2
  have b3 := hbc 3
  have b4 := hbc 4
  have b5 := hbc 5
  simp only [List.getElem?_toArray, List.getElem?_cons_succ, List.getElem?_cons_zero] at b0 b1 b2 b3 b4 b5
  obtain ⟨c13, c14, c18, c8, fr⟩ := HM.out.cells ht ho
  have hrr := HM.out.ne.1
  have hrr2 := HM.out.ne.2
  have hrs : ¬ r = W.heap.size := by have := h.lt; omega
  have hsr : ¬ W.heap.size = r := fun e => hrs e.symm
  have x0 := hcell _ HM.out.doc.below 0 _ hq
  rw [Nat.add_zero] at x0
  obtain ⟨rq, _⟩ := HM.out.reg.cell hql
  have hqi : (q : Int) < l.length := by omega
  obtain ⟨hz0, hz1⟩ := hl q
  obtain ⟨vb, vc, w5, hap, hrw, hDP, hKP⟩ := HM.out.doc.pushB (l.getD q 0 % 256) (by omega)
  have hMP := HM.out.pushed (ov_turn h) hDP hKP
  simp only [heap_size_alloc1] at hap
  have HMP := hid' hMP
  obtain ⟨p13, p14, p18, p8, fr2⟩ := hMP.cells ht ho
  have k13 : w5.cell? ⟨r, 13, none⟩ = some (.int .i64 0) := by rw [cell_of_row w5 r 13 _ 76 (0, 0) hrw, ← ht]; rfl
  have k14 : w5.cell? ⟨r, 14, none⟩ = some (.bool false) := by rw [cell_of_row w5 r 14 _ 76 (0, 0) hrw, ← ho]; rfl
  have k8 : w5.cell? ⟨r, 8, none⟩ = some v.ov := by rw [cell_of_row w5 r 8 _ 76 (0, 0) hrw]; rfl
  have kf : ∀ j, w5.frozen? ⟨r, j, none⟩ = false := fun j => frozen_of_row w5 r j _ 76 hrw
  have d1 : w5.cell? ⟨W.heap.size, 1, none⟩ = some (.int .i64 (-1)) := (hKP.cell (b := W.heap.size) (o := 1) (by simp) (fun e => by have := (World.ownsRow.lt h.os _ e).2; omega)).trans b1
  have hwrap : IntKind.u8.wrap (l.getD q 0) = l.getD q 0 % 256 := by simp [IntKind.wrap, IntKind.bits, IntKind.signed]
  generalize l.getD q 0 = z0 at *
  clear hMP hDP hKP hrw p13 p14 p18 p8 fr2 ht ho
  rw [ev]
  clear hR hbx hbc ev ea ep ha hop hd hq hcell h hI
  generalize v.ov = ov at *
  go_enter Try.func55, Try.ntmps55
  go_wp2_with (at_builtin; refine wpList_append_run rfl _ _ rfl _ _ _ rfl rfl (hap _) ?_)
  go_ret
  exact HMP.out.done true
end
end Go.Proofs.Ytiehlkhpblldaaa
