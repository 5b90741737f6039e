/- The document's count. -/
import Derived.Test.YtiehlkhpblldaaaH04
import Derived.Test.YtiehlkhpblldaaaH13
import Derived.Test.YtiehlkhpblldaaaH17
import Derived.Test.YtiehlkhpblldaaaH18
set_option linter.unusedVariables false
set_option linter.unusedSimpArgs false
set_option maxRecDepth 20000
set_option maxHeartbeats 8000000
namespace Go.Proofs.Ytiehlkhpblldaaa
/-- One more is counted. -/
def couB (cf : Bool) (d : Ds) : Ds := if cf then { d with count := d.count + 1 } else d
end Go.Proofs.Ytiehlkhpblldaaa
namespace Go.Proofs.Ytiehlkhpblldaaa
open Go.RowKit Go.Maps
section
variable {C : Cst} {W0 W W' : World} {r : Nat} {d d' : Ds} {v v' : Dv}
/-- What may turn in a step of the document: its run, the registers, and rows of bytes that it made. -/
def TurnD (W0 W : World) (r rb q : Nat) : Prop := q = r ∨ q = rb ∨ (W0.heap.size ≤ q ∧ ∃ cs fr, W.heap[q]? = some (.cells cs 5 fr))
/-- An instruction of the document did what it tells. -/
def DoneD (C : Cst) (W0 W : World) (r rb : Nat) (d' : Ds) (l' : List Int) (ok : Bool) (e : Ending) (w' : World) : Prop :=
  e = .returned (.bool ok) ∧ (∃ v', DocM C W0 r w' d' v') ∧ RegM W0 w' rb l' ∧ Kept (TurnD W0 W r rb) W w'
theorem in_val {i : In} (hI : In.ok W0 i) : ∃ ao acap po pcap, i.av = .slice ao i.args.length acap ∧ i.pv = .slice po i.pred.length pcap ∧ i.val = .agg #[.int .i64 i.op, .int .i64 i.dst, .slice ao i.args.length acap, .int .i32 i.imm, .int .i64 i.alu, .int .i64 i.wide, .slice po i.pred.length pcap] := by
  obtain ⟨ao, acap, ea⟩ := hI.a.len
  obtain ⟨po, pcap, ep⟩ := hI.p.len
  exact ⟨ao, acap, po, pcap, ea, ep, by unfold In.val; rw [ea, ep]⟩
theorem done_set {w1 : World} {rb a : Nat} {l : List Int} {z : Int} (hD : DocM C W0 r w1 d v) (hR : RegM W0 w1 rb l) (hb : Below W.heap.size W w1) : DoneD C W0 W r rb d (l.set a z) true (.returned (.bool true)) (w1.setCell ⟨rb, a, none⟩ (.int .u32 z)) :=
  ⟨rfl, ⟨v, hD.turn hR.rc hR.hb (by decide) (by decide) (setK _ _ _ _)⟩, hR.set a z, (Kept.of_below (S := TurnD W0 W r rb) hb).ahead (setK w1 rb a (.int .u32 z)) (fun i _ e => .inr (.inl e))⟩
theorem done_set2 {w1 : World} {rb a : Nat} {l : List Int} {z : Int} (hD : DocM C W0 r w1 d v) (hR : RegM W0 w1 rb l) (hK : Kept (TurnD W0 W r rb) W w1) : DoneD C W0 W r rb d (l.set a z) true (.returned (.bool true)) (w1.setCell ⟨rb, a, none⟩ (.int .u32 z)) :=
  ⟨rfl, ⟨v, hD.turn hR.rc hR.hb (by decide) (by decide) (setK _ _ _ _)⟩, hR.set a z, hK.ahead (setK w1 rb a (.int .u32 z)) (fun i _ e => .inr (.inl e))⟩
theorem reg_ne {rb : Nat} {l : List Int} (hD : DocM C W0 r W d v) (hR : RegM W0 W rb l) : ¬ rb = r := fun e => by
  have h1 := hR.rc
  rw [e, hD.rc] at h1
  injection h1 with h1
  injection h1 with _ h2
  exact absurd h2 (by decide)
/-- The first of an instruction's registers. -/
theorem arg_first {i : In} (hI : In.ok W0 i) {n q : Nat} (hn : i.args.length = n + 1) (hq : i.args[0]? = some (q : Int)) : ∃ ab ao cap, i.av = .slice (some ⟨ab, ao, none⟩) (n + 1) cap ∧ n + 1 ≤ cap ∧ ∀ w', Below W0.heap.size W0 w' → w'.cell? ⟨ab, ao, none⟩ = some (.int .i64 q) := by
  obtain ⟨ao, cap, e, hf⟩ := hI.a.form ic1
  obtain ⟨b1, o1, rfl, hb, hc, hx⟩ := hf 0 (by omega)
  refine ⟨b1, o1, cap, by rw [e, hn], by omega, fun w' hw => ?_⟩
  have := hx w' hw 0 (by omega)
  have h0 : i.args[0]'(by omega) = (q : Int) := by rw [List.getElem?_eq_getElem (by omega)] at hq; injection hq
  rw [h0] at this
  simpa [icell] using this
theorem do55_const {rb : Nat} {l : List Int} {i : In} {fn : Int} (h : DocM C W0 r W d v) (hR : RegM W0 W rb l) (hI : In.ok W0 i) (hop : i.op = 1) (ha : i.args.length = 0) {a : Nat} (hd : i.dst = a) (hal : a < l.length) (ht : d.trap = 0) (ho : d.over = false) :
    Calls Try.prog 55 #[.pointer (some ⟨r, 0, none⟩), .int .i64 fn, i.val, .slice (some ⟨rb, 0, none⟩) l.length l.length] W (DoneD C W0 W r rb d (l.set a (i.imm % 4294967296)) true) := by
  obtain ⟨ao, acap, po, pcap, ea, ep, ev⟩ := in_val hI
  rw [hop, hd, ha] at ev
  rw [ev]
  have hb1 := below1 W (.cells #[.int .i64 1, .int .i64 a, .slice ao 0 acap, .int .i32 i.imm, .int .i64 i.alu, .int .i64 i.wide, .slice po i.pred.length pcap] 51)
  have HD := hid' (h.on hb1)
  have HR := hid' (hR.kept (S := fun _ => False) (Kept.of_below hb1) (fun e => e))
  have HB1 := hid' hb1
  have hbx := heap_alloc_new W (.cells #[.int .i64 1, .int .i64 a, .slice ao 0 acap, .int .i32 i.imm, .int .i64 i.alu, .int .i64 i.wide, .slice po i.pred.length pcap] 51)
  have c13 : (W.alloc (.cells #[.int .i64 1, .int .i64 a, .slice ao 0 acap, .int .i32 i.imm, .int .i64 i.alu, .int .i64 i.wide, .slice po i.pred.length pcap] 51)).cell? ⟨r, 13, none⟩ = some (.int .i64 0) := by rw [← ht]; exact HD.out.cell 13
  have c14 : (W.alloc (.cells #[.int .i64 1, .int .i64 a, .slice ao 0 acap, .int .i32 i.imm, .int .i64 i.alu, .int .i64 i.wide, .slice po i.pred.length pcap] 51)).cell? ⟨r, 14, none⟩ = some (.bool false) := by rw [← ho]; exact HD.out.cell 14
  obtain ⟨rc, rf⟩ := HR.out.cell hal
  have hbc : ∀ j, (W.alloc (.cells #[.int .i64 1, .int .i64 a, .slice ao 0 acap, .int .i32 i.imm, .int .i64 i.alu, .int .i64 i.wide, .slice po i.pred.length pcap] 51)).cell? ⟨W.heap.size, j, none⟩ = (#[.int .i64 1, .int .i64 a, .slice ao 0 acap, .int .i32 i.imm, .int .i64 i.alu, .int .i64 i.wide, .slice po i.pred.length pcap] : Array Value)[j]? := fun j => cell_of_row _ _ _ _ 51 (0, 0) hbx
  have b0 := hbc 0
  have b1 := hbc 1
  have b2 := hbc 2
  have b3 := hbc 3
  simp only [List.getElem?_toArray, List.getElem?_cons_succ, List.getElem?_cons_zero] at b0 b1 b2 b3
  have hai : (a : Int) < l.length := by omega
  have ha0 : (a : Int) ≥ 0 := by omega
  clear h hR hbx hbc ev ea ep hI ha hop hd
  go_enter Try.func55, Try.ntmps55
  go_wp2
  go_ret
  exact done_set HD.out HR.out HB1.out
theorem do55_copy {rb : Nat} {l : List Int} {i : In} {fn : Int} (h : DocM C W0 r W d v) (hR : RegM W0 W rb l) (hI : In.ok W0 i) (hop : i.op = 2) (ha : i.args.length = 1) {a : Nat} (hd : i.dst = a) (hal : a < l.length) (ht : d.trap = 0) (ho : d.over = false) {q : Nat} (hq : i.args[0]? = some (q : Int)) (hql : q < l.length) :
    Calls Try.prog 55 #[.pointer (some ⟨r, 0, none⟩), .int .i64 fn, i.val, .slice (some ⟨rb, 0, none⟩) l.length l.length] W (DoneD C W0 W r rb d (l.set a (l.getD q 0)) true) := by
  obtain ⟨ao, acap, po, pcap, ea, ep, ev⟩ := in_val hI
  obtain ⟨ab, ao2, cap', ea', hcap, hcell⟩ := arg_first hI (n := 0) ha hq
  rw [ea, ha] at ea'
  injection ea' with e1 e2 e3
  clear e2
  subst e1 e3
  have hcap2 : (0 : Int) < acap := by omega
  rw [hop, hd, ha] at ev
  rw [ev]
  have hb1 := below1 W (.cells #[.int .i64 2, .int .i64 a, .slice (some ⟨ab, ao2, none⟩) 1 acap, .int .i32 i.imm, .int .i64 i.alu, .int .i64 i.wide, .slice po i.pred.length pcap] 51)
  have HD := hid' (h.on hb1)
  have HR := hid' (hR.kept (S := fun _ => False) (Kept.of_below hb1) (fun e => e))
  have HB1 := hid' hb1
  have hbx := heap_alloc_new W (.cells #[.int .i64 2, .int .i64 a, .slice (some ⟨ab, ao2, none⟩) 1 acap, .int .i32 i.imm, .int .i64 i.alu, .int .i64 i.wide, .slice po i.pred.length pcap] 51)
  have c13 : (W.alloc (.cells #[.int .i64 2, .int .i64 a, .slice (some ⟨ab, ao2, none⟩) 1 acap, .int .i32 i.imm, .int .i64 i.alu, .int .i64 i.wide, .slice po i.pred.length pcap] 51)).cell? ⟨r, 13, none⟩ = some (.int .i64 0) := by rw [← ht]; exact HD.out.cell 13
  have c14 : (W.alloc (.cells #[.int .i64 2, .int .i64 a, .slice (some ⟨ab, ao2, none⟩) 1 acap, .int .i32 i.imm, .int .i64 i.alu, .int .i64 i.wide, .slice po i.pred.length pcap] 51)).cell? ⟨r, 14, none⟩ = some (.bool false) := by rw [← ho]; exact HD.out.cell 14
  obtain ⟨rc, rf⟩ := HR.out.cell hal
  have hbc : ∀ j, (W.alloc (.cells #[.int .i64 2, .int .i64 a, .slice (some ⟨ab, ao2, none⟩) 1 acap, .int .i32 i.imm, .int .i64 i.alu, .int .i64 i.wide, .slice po i.pred.length pcap] 51)).cell? ⟨W.heap.size, j, none⟩ = (#[.int .i64 2, .int .i64 a, .slice (some ⟨ab, ao2, none⟩) 1 acap, .int .i32 i.imm, .int .i64 i.alu, .int .i64 i.wide, .slice po i.pred.length pcap] : Array Value)[j]? := fun j => cell_of_row _ _ _ _ 51 (0, 0) hbx
  have b0 := hbc 0
  have b1 := hbc 1
  have b2 := hbc 2
  have b3 := hbc 3
  simp only [List.getElem?_toArray, List.getElem?_cons_succ, List.getElem?_cons_zero] at b0 b1 b2 b3
  have hai : (a : Int) < l.length := by omega
  have ha0 : (a : Int) ≥ 0 := by omega
  have x0 := hcell _ HD.out.below
  obtain ⟨rq, _⟩ := HR.out.cell hql
  have HZ : Hid (∃ zq, zq = l.getD q 0) := ⟨_, rfl⟩
  obtain ⟨zq, hzq⟩ := HZ.out
  rw [← hzq] at rq ⊢
  clear hzq HZ
  have hqi : (q : Int) < l.length := by omega
  clear hcell
  clear h hR hbx hbc ev ea ep hI ha hop hd hq
  go_enter Try.func55, Try.ntmps55
  go_wp2
  go_ret
  exact done_set HD.out HR.out HB1.out
theorem do55_global {rb : Nat} {l : List Int} {i : In} {fn : Int} (h : DocM C W0 r W d v) (hR : RegM W0 W rb l) (hI : In.ok W0 i) (hop : i.op = 4) (ha : i.args.length = 0) {a : Nat} (hd : i.dst = a) (hal : a < l.length) (ht : d.trap = 0) (ho : d.over = false) :
    Calls Try.prog 55 #[.pointer (some ⟨r, 0, none⟩), .int .i64 fn, i.val, .slice (some ⟨rb, 0, none⟩) l.length l.length] W (DoneD C W0 W r rb d (l.set a ((16777216 + i.imm % 4294967296) % 4294967296)) true) := by
  obtain ⟨ao, acap, po, pcap, ea, ep, ev⟩ := in_val hI
  rw [hop, hd, ha] at ev
  rw [ev]
  have hb1 := below1 W (.cells #[.int .i64 4, .int .i64 a, .slice ao 0 acap, .int .i32 i.imm, .int .i64 i.alu, .int .i64 i.wide, .slice po i.pred.length pcap] 51)
  have HD := hid' (h.on hb1)
  have HR := hid' (hR.kept (S := fun _ => False) (Kept.of_below hb1) (fun e => e))
  have HB1 := hid' hb1
  have hbx := heap_alloc_new W (.cells #[.int .i64 4, .int .i64 a, .slice ao 0 acap, .int .i32 i.imm, .int .i64 i.alu, .int .i64 i.wide, .slice po i.pred.length pcap] 51)
  have c13 : (W.alloc (.cells #[.int .i64 4, .int .i64 a, .slice ao 0 acap, .int .i32 i.imm, .int .i64 i.alu, .int .i64 i.wide, .slice po i.pred.length pcap] 51)).cell? ⟨r, 13, none⟩ = some (.int .i64 0) := by rw [← ht]; exact HD.out.cell 13
  have c14 : (W.alloc (.cells #[.int .i64 4, .int .i64 a, .slice ao 0 acap, .int .i32 i.imm, .int .i64 i.alu, .int .i64 i.wide, .slice po i.pred.length pcap] 51)).cell? ⟨r, 14, none⟩ = some (.bool false) := by rw [← ho]; exact HD.out.cell 14
  obtain ⟨rc, rf⟩ := HR.out.cell hal
  have hbc : ∀ j, (W.alloc (.cells #[.int .i64 4, .int .i64 a, .slice ao 0 acap, .int .i32 i.imm, .int .i64 i.alu, .int .i64 i.wide, .slice po i.pred.length pcap] 51)).cell? ⟨W.heap.size, j, none⟩ = (#[.int .i64 4, .int .i64 a, .slice ao 0 acap, .int .i32 i.imm, .int .i64 i.alu, .int .i64 i.wide, .slice po i.pred.length pcap] : Array Value)[j]? := fun j => cell_of_row _ _ _ _ 51 (0, 0) hbx
  have b0 := hbc 0
  have b1 := hbc 1
  have b2 := hbc 2
  have b3 := hbc 3
  simp only [List.getElem?_toArray, List.getElem?_cons_succ, List.getElem?_cons_zero] at b0 b1 b2 b3
  have hai : (a : Int) < l.length := by omega
  have ha0 : (a : Int) ≥ 0 := by omega
  have hgi : 0 ≤ i.imm % 4294967296 ∧ i.imm % 4294967296 < 4294967296 := by omega
  clear h hR hbx hbc ev ea ep hI ha hop hd
  go_enter Try.func55, Try.ntmps55
  go_wp2
  go_ret
  have e : (16777216 + i.imm) % 4294967296 = (16777216 + i.imm % 4294967296) % 4294967296 := by omega
  rw [e]
  exact done_set HD.out HR.out HB1.out
theorem do55_slot {rb : Nat} {l : List Int} {i : In} {fn : Int} (h : DocM C W0 r W d v) (hR : RegM W0 W rb l) (hI : In.ok W0 i) (hop : i.op = 5) (ha : i.args.length = 0) {a : Nat} (hd : i.dst = a) (hal : a < l.length) (ht : d.trap = 0) (ho : d.over = false) :
    Calls Try.prog 55 #[.pointer (some ⟨r, 0, none⟩), .int .i64 fn, i.val, .slice (some ⟨rb, 0, none⟩) l.length l.length] W (DoneD C W0 W r rb d (l.set a ((d.low % 4294967296 + i.imm % 4294967296) % 4294967296)) true) := by
  obtain ⟨ao, acap, po, pcap, ea, ep, ev⟩ := in_val hI
  rw [hop, hd, ha] at ev
  rw [ev]
  have hb1 := below1 W (.cells #[.int .i64 5, .int .i64 a, .slice ao 0 acap, .int .i32 i.imm, .int .i64 i.alu, .int .i64 i.wide, .slice po i.pred.length pcap] 51)
  have HD := hid' (h.on hb1)
  have HR := hid' (hR.kept (S := fun _ => False) (Kept.of_below hb1) (fun e => e))
  have HB1 := hid' hb1
  have hbx := heap_alloc_new W (.cells #[.int .i64 5, .int .i64 a, .slice ao 0 acap, .int .i32 i.imm, .int .i64 i.alu, .int .i64 i.wide, .slice po i.pred.length pcap] 51)
  have c13 : (W.alloc (.cells #[.int .i64 5, .int .i64 a, .slice ao 0 acap, .int .i32 i.imm, .int .i64 i.alu, .int .i64 i.wide, .slice po i.pred.length pcap] 51)).cell? ⟨r, 13, none⟩ = some (.int .i64 0) := by rw [← ht]; exact HD.out.cell 13
  have c14 : (W.alloc (.cells #[.int .i64 5, .int .i64 a, .slice ao 0 acap, .int .i32 i.imm, .int .i64 i.alu, .int .i64 i.wide, .slice po i.pred.length pcap] 51)).cell? ⟨r, 14, none⟩ = some (.bool false) := by rw [← ho]; exact HD.out.cell 14
  obtain ⟨rc, rf⟩ := HR.out.cell hal
  have hbc : ∀ j, (W.alloc (.cells #[.int .i64 5, .int .i64 a, .slice ao 0 acap, .int .i32 i.imm, .int .i64 i.alu, .int .i64 i.wide, .slice po i.pred.length pcap] 51)).cell? ⟨W.heap.size, j, none⟩ = (#[.int .i64 5, .int .i64 a, .slice ao 0 acap, .int .i32 i.imm, .int .i64 i.alu, .int .i64 i.wide, .slice po i.pred.length pcap] : Array Value)[j]? := fun j => cell_of_row _ _ _ _ 51 (0, 0) hbx
  have b0 := hbc 0
  have b1 := hbc 1
  have b2 := hbc 2
  have b3 := hbc 3
  simp only [List.getElem?_toArray, List.getElem?_cons_succ, List.getElem?_cons_zero] at b0 b1 b2 b3
  have hai : (a : Int) < l.length := by omega
  have ha0 : (a : Int) ≥ 0 := by omega
  have c11 : (W.alloc (.cells #[.int .i64 5, .int .i64 a, .slice ao 0 acap, .int .i32 i.imm, .int .i64 i.alu, .int .i64 i.wide, .slice po i.pred.length pcap] 51)).cell? ⟨r, 11, none⟩ = some (.int .i64 d.low) := HD.out.cell 11
  clear h hR hbx hbc ev ea ep hI ha hop hd
  go_enter Try.func55, Try.ntmps55
  go_wp2
  go_quiet (fail)
  go_wp2
  go_ret
  have e : (d.low + i.imm) % 4294967296 = (d.low % 4294967296 + i.imm % 4294967296) % 4294967296 := by omega
  rw [e]
  exact done_set (HD.out.on (drewB _ _)) (HR.out.kept (S := fun _ => False) (Kept.of_below (drewB _ _)) (fun e => e)) (below_up HB1.out (drewB _ _))
theorem do55_check_yes {rb : Nat} {l : List Int} {i : In} {fn : Int} (h : DocM C W0 r W d v) (hR : RegM W0 W rb l) (hI : In.ok W0 i) (hop : i.op = 8) (ha : i.args.length = 1) (hd : i.dst = -1) (ht : d.trap = 0) (ho : d.over = false) {q : Nat} (hq : i.args[0]? = some (q : Int)) (hql : q < l.length) (hz : ¬ l.getD q 0 = 0) :
    Calls Try.prog 55 #[.pointer (some ⟨r, 0, none⟩), .int .i64 fn, i.val, .slice (some ⟨rb, 0, none⟩) l.length l.length] W (DoneD C W0 W r rb d l true) := by
  obtain ⟨ao, acap, po, pcap, ea, ep, ev⟩ := in_val hI
  obtain ⟨ab, ao2, cap', ea', hcap, hcell⟩ := arg_first hI (n := 0) ha hq
  rw [ea, ha] at ea'
  injection ea' with e1 e2 e3
  clear e2
  subst e1 e3
  have hcap2 : (0 : Int) < acap := by omega
  rw [hop, hd, ha] at ev
  rw [ev]
  have hb1 := below1 W (.cells #[.int .i64 8, .int .i64 (-1), .slice (some ⟨ab, ao2, none⟩) 1 acap, .int .i32 i.imm, .int .i64 i.alu, .int .i64 i.wide, .slice po i.pred.length pcap] 51)
  have HD := hid' (h.on hb1)
  have HR := hid' (hR.kept (S := fun _ => False) (Kept.of_below hb1) (fun e => e))
  have HB1 := hid' hb1
  have hbx := heap_alloc_new W (.cells #[.int .i64 8, .int .i64 (-1), .slice (some ⟨ab, ao2, none⟩) 1 acap, .int .i32 i.imm, .int .i64 i.alu, .int .i64 i.wide, .slice po i.pred.length pcap] 51)
  have c13 : (W.alloc (.cells #[.int .i64 8, .int .i64 (-1), .slice (some ⟨ab, ao2, none⟩) 1 acap, .int .i32 i.imm, .int .i64 i.alu, .int .i64 i.wide, .slice po i.pred.length pcap] 51)).cell? ⟨r, 13, none⟩ = some (.int .i64 0) := by rw [← ht]; exact HD.out.cell 13
  have c14 : (W.alloc (.cells #[.int .i64 8, .int .i64 (-1), .slice (some ⟨ab, ao2, none⟩) 1 acap, .int .i32 i.imm, .int .i64 i.alu, .int .i64 i.wide, .slice po i.pred.length pcap] 51)).cell? ⟨r, 14, none⟩ = some (.bool false) := by rw [← ho]; exact HD.out.cell 14
  have hbc : ∀ j, (W.alloc (.cells #[.int .i64 8, .int .i64 (-1), .slice (some ⟨ab, ao2, none⟩) 1 acap, .int .i32 i.imm, .int .i64 i.alu, .int .i64 i.wide, .slice po i.pred.length pcap] 51)).cell? ⟨W.heap.size, j, none⟩ = (#[.int .i64 8, .int .i64 (-1), .slice (some ⟨ab, ao2, none⟩) 1 acap, .int .i32 i.imm, .int .i64 i.alu, .int .i64 i.wide, .slice po i.pred.length pcap] : Array Value)[j]? := fun j => cell_of_row _ _ _ _ 51 (0, 0) hbx
  have b0 := hbc 0
  have b1 := hbc 1
  have b2 := hbc 2
  have b3 := hbc 3
  simp only [List.getElem?_toArray, List.getElem?_cons_succ, List.getElem?_cons_zero] at b0 b1 b2 b3
  have x0 := hcell _ HD.out.below
  obtain ⟨rq, _⟩ := HR.out.cell hql
  have HZ : Hid (∃ zq, zq = l.getD q 0) := ⟨_, rfl⟩
  obtain ⟨zq, hzq⟩ := HZ.out
  rw [← hzq] at rq hz
  clear hzq HZ
  have hqi : (q : Int) < l.length := by omega
  clear hcell
  have hz' : (zq == 0) = false := by simp [hz]
  clear h hR hbx hbc ev ea ep hI ha hop hd hq
  go_enter Try.func55, Try.ntmps55
  go_wp2
  go_ret
  exact ⟨rfl, ⟨v, HD.out⟩, HR.out, Kept.of_below HB1.out⟩
theorem do55_check_no {rb : Nat} {l : List Int} {i : In} {fn : Int} (h : DocM C W0 r W d v) (hR : RegM W0 W rb l) (hI : In.ok W0 i) (hop : i.op = 8) (ha : i.args.length = 1) (hd : i.dst = -1) (ht : d.trap = 0) (ho : d.over = false) {q : Nat} (hq : i.args[0]? = some (q : Int)) (hql : q < l.length) (hz : l.getD q 0 = 0) (himm : i.imm = 1 ∨ i.imm = 2) :
    Calls Try.prog 55 #[.pointer (some ⟨r, 0, none⟩), .int .i64 fn, i.val, .slice (some ⟨rb, 0, none⟩) l.length l.length] W (DoneD C W0 W r rb { d with trap := i.imm } l false) := by
  obtain ⟨ao, acap, po, pcap, ea, ep, ev⟩ := in_val hI
  obtain ⟨ab, ao2, cap', ea', hcap, hcell⟩ := arg_first hI (n := 0) ha hq
  rw [ea, ha] at ea'
  injection ea' with e1 e2 e3
  clear e2
  subst e1 e3
  have hcap2 : (0 : Int) < acap := by omega
  rw [hop, hd, ha] at ev
  rw [ev]
  have hb1 := below1 W (.cells #[.int .i64 8, .int .i64 (-1), .slice (some ⟨ab, ao2, none⟩) 1 acap, .int .i32 i.imm, .int .i64 i.alu, .int .i64 i.wide, .slice po i.pred.length pcap] 51)
  have HD := hid' (h.on hb1)
  have HR := hid' (hR.kept (S := fun _ => False) (Kept.of_below hb1) (fun e => e))
  have HB1 := hid' hb1
  have hbx := heap_alloc_new W (.cells #[.int .i64 8, .int .i64 (-1), .slice (some ⟨ab, ao2, none⟩) 1 acap, .int .i32 i.imm, .int .i64 i.alu, .int .i64 i.wide, .slice po i.pred.length pcap] 51)
  have c13 : (W.alloc (.cells #[.int .i64 8, .int .i64 (-1), .slice (some ⟨ab, ao2, none⟩) 1 acap, .int .i32 i.imm, .int .i64 i.alu, .int .i64 i.wide, .slice po i.pred.length pcap] 51)).cell? ⟨r, 13, none⟩ = some (.int .i64 0) := by rw [← ht]; exact HD.out.cell 13
  have c14 : (W.alloc (.cells #[.int .i64 8, .int .i64 (-1), .slice (some ⟨ab, ao2, none⟩) 1 acap, .int .i32 i.imm, .int .i64 i.alu, .int .i64 i.wide, .slice po i.pred.length pcap] 51)).cell? ⟨r, 14, none⟩ = some (.bool false) := by rw [← ho]; exact HD.out.cell 14
  have hbc : ∀ j, (W.alloc (.cells #[.int .i64 8, .int .i64 (-1), .slice (some ⟨ab, ao2, none⟩) 1 acap, .int .i32 i.imm, .int .i64 i.alu, .int .i64 i.wide, .slice po i.pred.length pcap] 51)).cell? ⟨W.heap.size, j, none⟩ = (#[.int .i64 8, .int .i64 (-1), .slice (some ⟨ab, ao2, none⟩) 1 acap, .int .i32 i.imm, .int .i64 i.alu, .int .i64 i.wide, .slice po i.pred.length pcap] : Array Value)[j]? := fun j => cell_of_row _ _ _ _ 51 (0, 0) hbx
  have b0 := hbc 0
  have b1 := hbc 1
  have b2 := hbc 2
  have b3 := hbc 3
  simp only [List.getElem?_toArray, List.getElem?_cons_succ, List.getElem?_cons_zero] at b0 b1 b2 b3
  have x0 := hcell _ HD.out.below
  obtain ⟨rq, _⟩ := HR.out.cell hql
  have HZ : Hid (∃ zq, zq = l.getD q 0) := ⟨_, rfl⟩
  obtain ⟨zq, hzq⟩ := HZ.out
  rw [← hzq] at rq hz
  subst hz
  clear hzq HZ
  have hqi : (q : Int) < l.length := by omega
  clear hcell
  have hiw : IntKind.i64.wrap i.imm = i.imm := by simp [IntKind.wrap, IntKind.bits, IntKind.signed]; omega
  have hin : (i.imm != 0) = true := by simp; omega
  have fr := HD.out.fro
  clear h hR hbx hbc ev ea ep hI ha hop hd hq
  go_enter Try.func55, Try.ntmps55
  go_wp2
  go_ret
  exact ⟨rfl, ⟨v, HD.out.put 13 _ rfl rfl⟩, ⟨HR.out.hb, kept_blk HR.out.rc HD.out.rc (by decide) (setK _ _ _ _)⟩, (Kept.of_below (S := TurnD W0 W r rb) HB1.out).ahead (setK _ _ _ _) (fun i _ e => .inl e)⟩
theorem do55_get_no {rb : Nat} {l : List Int} {i : In} {fn : Int} (h : DocM C W0 r W d v) (hR : RegM W0 W rb l) (hI : In.ok W0 i) (hop : i.op = 10) (ha : i.args.length = 0) {a : Nat} (hd : i.dst = a) (hal : a < l.length) (ht : d.trap = 0) (ho : d.over = false) (hu : C.input.size ≤ d.used) :
    Calls Try.prog 55 #[.pointer (some ⟨r, 0, none⟩), .int .i64 fn, i.val, .slice (some ⟨rb, 0, none⟩) l.length l.length] W (DoneD C W0 W r rb d (l.set a (4294967295)) true) := by
  obtain ⟨ao, acap, po, pcap, ea, ep, ev⟩ := in_val hI
  rw [hop, hd, ha] at ev
  rw [ev]
  have hb1 := below1 W (.cells #[.int .i64 10, .int .i64 a, .slice ao 0 acap, .int .i32 i.imm, .int .i64 i.alu, .int .i64 i.wide, .slice po i.pred.length pcap] 51)
  have HD := hid' (h.on hb1)
  have HR := hid' (hR.kept (S := fun _ => False) (Kept.of_below hb1) (fun e => e))
  have HB1 := hid' hb1
  have hbx := heap_alloc_new W (.cells #[.int .i64 10, .int .i64 a, .slice ao 0 acap, .int .i32 i.imm, .int .i64 i.alu, .int .i64 i.wide, .slice po i.pred.length pcap] 51)
  have c13 : (W.alloc (.cells #[.int .i64 10, .int .i64 a, .slice ao 0 acap, .int .i32 i.imm, .int .i64 i.alu, .int .i64 i.wide, .slice po i.pred.length pcap] 51)).cell? ⟨r, 13, none⟩ = some (.int .i64 0) := by rw [← ht]; exact HD.out.cell 13
  have c14 : (W.alloc (.cells #[.int .i64 10, .int .i64 a, .slice ao 0 acap, .int .i32 i.imm, .int .i64 i.alu, .int .i64 i.wide, .slice po i.pred.length pcap] 51)).cell? ⟨r, 14, none⟩ = some (.bool false) := by rw [← ho]; exact HD.out.cell 14
  obtain ⟨rc, rf⟩ := HR.out.cell hal
  have hbc : ∀ j, (W.alloc (.cells #[.int .i64 10, .int .i64 a, .slice ao 0 acap, .int .i32 i.imm, .int .i64 i.alu, .int .i64 i.wide, .slice po i.pred.length pcap] 51)).cell? ⟨W.heap.size, j, none⟩ = (#[.int .i64 10, .int .i64 a, .slice ao 0 acap, .int .i32 i.imm, .int .i64 i.alu, .int .i64 i.wide, .slice po i.pred.length pcap] : Array Value)[j]? := fun j => cell_of_row _ _ _ _ 51 (0, 0) hbx
  have b0 := hbc 0
  have b1 := hbc 1
  have b2 := hbc 2
  have b3 := hbc 3
  simp only [List.getElem?_toArray, List.getElem?_cons_succ, List.getElem?_cons_zero] at b0 b1 b2 b3
  have hai : (a : Int) < l.length := by omega
  have ha0 : (a : Int) ≥ 0 := by omega
  have c7 : (W.alloc (.cells #[.int .i64 10, .int .i64 a, .slice ao 0 acap, .int .i32 i.imm, .int .i64 i.alu, .int .i64 i.wide, .slice po i.pred.length pcap] 51)).cell? ⟨r, 7, none⟩ = some (.int .i64 d.used) := HD.out.cell 7
  have c4 : (W.alloc (.cells #[.int .i64 10, .int .i64 a, .slice ao 0 acap, .int .i32 i.imm, .int .i64 i.alu, .int .i64 i.wide, .slice po i.pred.length pcap] 51)).cell? ⟨r, 4, none⟩ = some (.string C.input) := HD.out.cell 4
  have fr := HD.out.fro
  have hu' : ¬ (d.used : Int) < C.input.size := by omega
  clear h hR hbx hbc ev ea ep hI ha hop hd
  go_enter Try.func55, Try.ntmps55
  go_wp2
  go_quiet (fail)
  go_wp2
  go_ret
  exact done_set (HD.out.on (drewB _ _)) (HR.out.kept (S := fun _ => False) (Kept.of_below (drewB _ _)) (fun e => e)) (below_up HB1.out (drewB _ _))
theorem do55_get_yes {rb : Nat} {l : List Int} {i : In} {fn : Int} (h : DocM C W0 r W d v) (hR : RegM W0 W rb l) (hI : In.ok W0 i) (hop : i.op = 10) (ha : i.args.length = 0) {a : Nat} (hd : i.dst = a) (hal : a < l.length) (ht : d.trap = 0) (ho : d.over = false) (hu : d.used < C.input.size) (hz : C.input.size ≤ 281474976710656) :
    Calls Try.prog 55 #[.pointer (some ⟨r, 0, none⟩), .int .i64 fn, i.val, .slice (some ⟨rb, 0, none⟩) l.length l.length] W (DoneD C W0 W r rb { d with used := d.used + 1 } (l.set a (((C.input[d.used]'hu).toNat : Int))) true) := by
  obtain ⟨ao, acap, po, pcap, ea, ep, ev⟩ := in_val hI
  rw [hop, hd, ha] at ev
  rw [ev]
  have hb1 := below1 W (.cells #[.int .i64 10, .int .i64 a, .slice ao 0 acap, .int .i32 i.imm, .int .i64 i.alu, .int .i64 i.wide, .slice po i.pred.length pcap] 51)
  have HD := hid' (h.on hb1)
  have HR := hid' (hR.kept (S := fun _ => False) (Kept.of_below hb1) (fun e => e))
  have HB1 := hid' hb1
  have hbx := heap_alloc_new W (.cells #[.int .i64 10, .int .i64 a, .slice ao 0 acap, .int .i32 i.imm, .int .i64 i.alu, .int .i64 i.wide, .slice po i.pred.length pcap] 51)
  have c13 : (W.alloc (.cells #[.int .i64 10, .int .i64 a, .slice ao 0 acap, .int .i32 i.imm, .int .i64 i.alu, .int .i64 i.wide, .slice po i.pred.length pcap] 51)).cell? ⟨r, 13, none⟩ = some (.int .i64 0) := by rw [← ht]; exact HD.out.cell 13
  have c14 : (W.alloc (.cells #[.int .i64 10, .int .i64 a, .slice ao 0 acap, .int .i32 i.imm, .int .i64 i.alu, .int .i64 i.wide, .slice po i.pred.length pcap] 51)).cell? ⟨r, 14, none⟩ = some (.bool false) := by rw [← ho]; exact HD.out.cell 14
  obtain ⟨rc, rf⟩ := HR.out.cell hal
  have hbc : ∀ j, (W.alloc (.cells #[.int .i64 10, .int .i64 a, .slice ao 0 acap, .int .i32 i.imm, .int .i64 i.alu, .int .i64 i.wide, .slice po i.pred.length pcap] 51)).cell? ⟨W.heap.size, j, none⟩ = (#[.int .i64 10, .int .i64 a, .slice ao 0 acap, .int .i32 i.imm, .int .i64 i.alu, .int .i64 i.wide, .slice po i.pred.length pcap] : Array Value)[j]? := fun j => cell_of_row _ _ _ _ 51 (0, 0) hbx
  have b0 := hbc 0
  have b1 := hbc 1
  have b2 := hbc 2
  have b3 := hbc 3
  simp only [List.getElem?_toArray, List.getElem?_cons_succ, List.getElem?_cons_zero] at b0 b1 b2 b3
  have hai : (a : Int) < l.length := by omega
  have ha0 : (a : Int) ≥ 0 := by omega
  have c7 : (W.alloc (.cells #[.int .i64 10, .int .i64 a, .slice ao 0 acap, .int .i32 i.imm, .int .i64 i.alu, .int .i64 i.wide, .slice po i.pred.length pcap] 51)).cell? ⟨r, 7, none⟩ = some (.int .i64 d.used) := HD.out.cell 7
  have c4 : (W.alloc (.cells #[.int .i64 10, .int .i64 a, .slice ao 0 acap, .int .i32 i.imm, .int .i64 i.alu, .int .i64 i.wide, .slice po i.pred.length pcap] 51)).cell? ⟨r, 4, none⟩ = some (.string C.input) := HD.out.cell 4
  have fr := HD.out.fro
  have hu' : (d.used : Int) < C.input.size := by omega
  have he : ((C.input[d.used]'hu).toNat : Int) % 4294967296 = ((C.input[d.used]'hu).toNat : Int) := by have := UInt8.toNat_lt (C.input[d.used]'hu); omega
  have hrr := reg_ne HD.out HR.out
  have hrr2 : ¬ r = rb := fun e => hrr e.symm
  have hw : IntKind.i64.wrap ((d.used : Int) + 1) = d.used + 1 := by simp [IntKind.wrap, IntKind.bits, IntKind.signed]; omega
  clear h hR hbx hbc ev ea ep hI ha hop hd
  go_enter Try.func55, Try.ntmps55
  go_wp2
  go_quiet (fail)
  go_wp2
  go_quiet (fail)
  go_wp2
  go_ret
  have hall : ∀ n, DocM C W0 r ((W.alloc (.cells #[.int .i64 10, .int .i64 a, .slice ao 0 acap, .int .i32 i.imm, .int .i64 i.alu, .int .i64 i.wide, .slice po i.pred.length pcap] 51)).drewN n) d v := fun n => HD.out.on (drewB _ _)
  have hreg : ∀ n, RegM W0 ((W.alloc (.cells #[.int .i64 10, .int .i64 a, .slice ao 0 acap, .int .i32 i.imm, .int .i64 i.alu, .int .i64 i.wide, .slice po i.pred.length pcap] 51)).drewN n) rb l := fun n => HR.out.kept (S := fun _ => False) (Kept.of_below (drewB _ _)) (fun e => e)
  have hbel : ∀ n, Below W.heap.size W ((W.alloc (.cells #[.int .i64 10, .int .i64 a, .slice ao 0 acap, .int .i32 i.imm, .int .i64 i.alu, .int .i64 i.wide, .slice po i.pred.length pcap] 51)).drewN n) := fun n => below_up HB1.out (drewB _ _)
  generalize (W.alloc (.cells #[.int .i64 10, .int .i64 a, .slice ao 0 acap, .int .i32 i.imm, .int .i64 i.alu, .int .i64 i.wide, .slice po i.pred.length pcap] 51)) = w10 at *
  exact done_set2 ((hall _).put (d' := { d with used := d.used + 1 }) 7 _ rfl rfl) ⟨HR.out.hb, kept_blk (hreg _).rc (hall _).rc (by decide) (setK _ _ _ _)⟩ ((Kept.of_below (S := TurnD W0 W r rb) (hbel _)).ahead (setK _ _ _ _) (fun i _ e => .inl e))
end
end Go.Proofs.Ytiehlkhpblldaaa
namespace Go.Proofs.Ytiehlkhpblldaaa
open Go.RowKit Go.Maps
section
variable {C : Cst} {W0 W W' : World} {r : Nat} {d d' : Ds} {v v' : Dv}
/-- The midst of an instruction of the document. -/
structure MidD (C : Cst) (W0 W : World) (r rb : Nat) (d : Ds) (v : Dv) (l : List Int) (w : World) : Prop where
  doc : DocM C W0 r w d v
  reg : RegM W0 w rb l
  kept : Kept (TurnD W0 W r rb) W w
/-- A row of bytes that turned was one. -/
theorem turn5 {rb : Nat} {w : World} (hK : Kept (TurnD W0 W r rb) W w) {q : Nat} (hq : q < W.heap.size) (h0 : W0.heap.size ≤ q) {cs : Array Value} {fr : Nat × Nat} (h : w.heap[q]? = some (.cells cs 5 fr)) : TurnD W0 W r rb q :=
  Classical.byContradiction fun e => e (.inr (.inr ⟨h0, cs, fr, by rw [← hK.block q hq e]; exact h⟩))
/-- What may turn in a call. -/
def TurnC (W0 W : World) (r q : Nat) : Prop := q = r ∨ (W0.heap.size ≤ q ∧ ∃ cs fr, W.heap[q]? = some (.cells cs 5 fr))
section
variable {rb : Nat} {l : List Int} {w w' : World}
theorem MidD.on (h : MidD C W0 W r rb d v l w) (hb : Below w.heap.size w w') : MidD C W0 W r rb d v l w' :=
  ⟨h.doc.on hb, h.reg.kept (S := fun _ => False) (Kept.of_below hb) (fun e => e), h.kept.ahead (Kept.of_below (S := fun _ => False) hb) (fun _ _ e => e.elim)⟩
theorem MidD.start (h : DocM C W0 r W d v) (hR : RegM W0 W rb l) : MidD C W0 W r rb d v l W :=
  ⟨h, hR, Kept.rfl _ _⟩
theorem MidD.two (h : MidD C W0 W r rb d v l w) : ∀ q, q < W.heap.size → TwoB v q → TurnD W0 W r rb q := fun q hq e => by
  rcases e with rfl | rfl
  · exact turn5 h.kept hq h.doc.gr h.doc.gs
  · exact turn5 h.kept hq h.doc.kr h.doc.ks
theorem MidD.put (h : MidD C W0 W r rb d v l w) (j : Nat) (u : Value) (hs : (d'.gl, d'.sk, d'.out) = (d.gl, d.sk, d.out)) (e : dcells C d' v = (dcells C d v).setIfInBounds j u) : MidD C W0 W r rb d' v l (w.setCell ⟨r, j, none⟩ u) :=
  ⟨h.doc.put j u hs e, ⟨h.reg.hb, kept_blk h.reg.rc h.doc.rc (by decide) (setK _ _ _ _)⟩, h.kept.ahead (setK _ _ _ _) (fun _ _ e => .inl e)⟩
theorem MidD.trap0 (h : MidD C W0 W r rb d v l w) (ht : d.trap = 0) : MidD C W0 W r rb d v l (w.setCell ⟨r, 13, none⟩ (.int .i64 0)) := by
  have := h.put (d' := d) 13 (.int .i64 d.trap) rfl rfl
  rw [ht] at this
  exact this
theorem MidD.setR (h : MidD C W0 W r rb d v l w) (a : Nat) (z : Int) : DoneD C W0 W r rb d (l.set a z) true (.returned (.bool true)) (w.setCell ⟨rb, a, none⟩ (.int .u32 z)) := done_set2 h.doc h.reg h.kept
theorem MidD.done (h : MidD C W0 W r rb d v l w) (ok : Bool) : DoneD C W0 W r rb d l ok (.returned (.bool ok)) w := ⟨rfl, ⟨v, h.doc⟩, h.reg, h.kept⟩
theorem MidD.store (h : MidD C W0 W r rb d v l w) (hD : DocM C W0 r w' d' v) (hK : Kept (TwoB v) w w') : MidD C W0 W r rb d' v l w' := by
  refine ⟨hD, h.reg.kept hK (fun e => ?_), h.kept.ahead hK (fun q hq e => h.two q hq e)⟩
  have h1 := h.reg.rc
  rcases e with rfl | rfl
  · rw [h.doc.gs] at h1
    injection h1 with h1
    injection h1 with _ h2
    exact absurd h2 (by decide)
  · rw [h.doc.ks] at h1
    injection h1 with h1
    injection h1 with _ h2
    exact absurd h2 (by decide)
theorem MidD.ne (h : MidD C W0 W r rb d v l w) : ¬ rb = r ∧ ¬ r = rb := ⟨reg_ne h.doc h.reg, fun e => reg_ne h.doc h.reg e.symm⟩
theorem MidD.lt (h : MidD C W0 W r rb d v l w) : r < w.heap.size ∧ rb < w.heap.size ∧ v.gb < w.heap.size ∧ v.kb < w.heap.size := ⟨h.doc.lt, (Array.getElem?_eq_some_iff.1 h.reg.rc).1, (Array.getElem?_eq_some_iff.1 h.doc.gs).1, (Array.getElem?_eq_some_iff.1 h.doc.ks).1⟩
theorem MidD.called (h : MidD C W0 W r rb d v l w) (hD : DocM C W0 r w' d' v') (hK : Kept (TurnC W0 w r) w w') : MidD C W0 W r rb d' v' l w' := by
  refine ⟨hD, h.reg.kept hK (fun e => ?_), h.kept.ahead hK (fun q hq e => ?_)⟩
  · rcases e with e | ⟨_, cs, fr, e⟩
    · exact h.ne.1 e
    · have h1 := h.reg.rc
      rw [e] at h1
      injection h1 with h1
      injection h1 with _ h2
      exact absurd h2 (by decide)
  · rcases e with e | ⟨e0, cs, fr, e⟩
    · exact .inl e
    · exact turn5 h.kept hq e0 e
theorem MidD.cells (h : MidD C W0 W r rb d v l w) (ht : d.trap = 0) (ho : d.over = false) : w.cell? ⟨r, 13, none⟩ = some (.int .i64 0) ∧ w.cell? ⟨r, 14, none⟩ = some (.bool false) ∧ w.cell? ⟨r, 18, none⟩ = some (.int .i64 d.count) ∧ w.cell? ⟨r, 8, none⟩ = some v.ov ∧ ∀ j, w.frozen? ⟨r, j, none⟩ = false :=
  ⟨by rw [← ht]; exact h.doc.cell 13, by rw [← ho]; exact h.doc.cell 14, h.doc.cell 18, h.doc.cell 8, h.doc.fro⟩
end
/-- An instruction's registers. -/
theorem arg_two {i : In} (hI : In.ok W0 i) {n : Nat} (hn : i.args.length = n + 1) : ∃ ab ao cap, i.av = .slice (some ⟨ab, ao, none⟩) (n + 1) cap ∧ n + 1 ≤ cap ∧ ∀ w', Below W0.heap.size W0 w' → ∀ (k : Nat) (q : Int), i.args[k]? = some q → w'.cell? ⟨ab, ao + k, none⟩ = some (.int .i64 q) := by
  obtain ⟨ao, cap, e, hf⟩ := hI.a.form ic1
  obtain ⟨b1, o1, rfl, hb, hc, _⟩ := hf 0 (by omega)
  refine ⟨b1, o1, cap, by rw [e, hn], by omega, fun w' hw k q hq => ?_⟩
  obtain ⟨hk, hq⟩ := List.getElem?_eq_some_iff.1 hq
  obtain ⟨b2, o2, e', _, _, hx⟩ := hf k hk
  injection e' with e'
  injection e' with e1 e2
  subst e1 e2
  have := hx w' hw 0 (by omega)
  rw [hq] at this
  simpa [icell] using this

theorem inf5d : (Try.prog.info? 5).map (fun i => (i.zero, i.size, i.bytes)) = some (some (.int .u8 0), 1, 1) := by kernel_rfl
/-- One byte more is put. -/
theorem DocM.pushB (h : DocM C W0 r W d v) (z : Int) (hl : d.out.length + 1 ≤ 1048576) : ∃ b cap w', (∀ ty, (Builtin.append_ #[59, 59] ty #[v.ov, .slice (some ⟨W.heap.size, 0, none⟩) 1 1]).run Try.prog (W.alloc (.cells #[.int .u8 z] 5)) = .ok (.slice (some ⟨b, 0, none⟩) (d.out.length + 1) cap) w') ∧
    w'.heap[r]? = some (.cells (dcells C d v) 76 (0, 0)) ∧ DocM C W0 r (w'.setCell ⟨r, 8, none⟩ (.slice (some ⟨b, 0, none⟩) (d.out.length + 1) cap)) { d with out := d.out ++ [z] } { v with ov := .slice (some ⟨b, 0, none⟩) (d.out.length + 1) cap } ∧ Kept (fun q => v.ov.ownBlock = some q) W w' := by
  have hb1 := below1 W (.cells #[.int .u8 z] 5)
  have ha := h.on hb1
  have hnew := heap_alloc_new W (.cells #[.int .u8 z] 5)
  have hsrc : Src bcel (W.alloc (.cells #[.int .u8 z] 5)) (.slice (some ⟨W.heap.size, 0, none⟩) 1 1) [z] := .inr ⟨W.heap.size, 0, 1, rfl, (Array.getElem?_eq_some_iff.1 hnew).1, Nat.le_refl _, fun j u hj => by
    rw [Nat.zero_add, cell_of_row _ W.heap.size j _ 5 (0, 0) hnew]
    simpa [flat, bcel] using hj⟩
  have hap := fun ty => append_own (f := bcel) (st := 59) (et := 5) (bytes := 1) (by1) (by intro y u hu; simp only [bcel, List.mem_singleton] at hu; subst hu; rfl) Try.underlying59 inf5d rfl (by decide) (l := d.out) (m := [z]) (base := W0.heap.size) (v := v.ov) ha.os hsrc (by simp only [List.length_singleton]; omega) (by simp only [List.length_singleton]; unfold maxLen; omega) ha.below.size ty
  obtain ⟨v', w', h1, h2, h3, h4⟩ := hap 59
  unfold Own at h2
  rw [List.length_append, List.length_singleton] at h2
  obtain ⟨b, cap, ev'⟩ := own_form h2
  have K := grown_kept h3
  have hr' : w'.heap[r]? = some (.cells (dcells C d v) 76 (0, 0)) := grown_r ha.os ha.rc (by decide) K
  have KS := setK w' r 8 v'
  have hbl : Below W0.heap.size W0 w' := ha.below.trans (K.below ha.below.size (fun k e => (World.ownsRow.lt ha.os k e).1))
  have hne : ∀ b0, b0 < (W.alloc (.cells #[.int .u8 z] 5)).heap.size → v.ov.ownBlock ≠ some b0 → v'.ownBlock ≠ some b0 := fun b0 hb0 hn e2 => by
    rcases h4 with e4 | e4
    · rw [e4] at e2; exact hn e2
    · rw [e4] at e2; injection e2 with e2; omega
  have hg1 := (Array.getElem?_eq_some_iff.1 ha.gs).1
  have hk1 := (Array.getElem?_eq_some_iff.1 ha.ks).1
  have hgs : w'.heap[v.gb]? = some (.cells (flat bcel d.gl).toArray 5 (0, 0)) := (K.block _ hg1 (fun e => ha.og e)).trans ha.gs
  have hks : w'.heap[v.kb]? = some (.cells (flat bcel d.sk).toArray 5 (0, 0)) := (K.block _ hk1 (fun e => ha.ok e)).trans ha.ks
  subst ev'
  refine ⟨b, cap, w', fun ty => h1, hr', { h with
    below := hbl.trans (KS.below hbl.size (fun k e => by have := h.rr; omega))
    rc := heap_setCell_same w' r 8 _ 76 _ hr'
    gs := kept_blk hgs hr' (by decide) KS
    ks := kept_blk hks hr' (by decide) KS
    os := by dsimp only; rw [List.length_append, List.length_singleton]; exact own_ty h2 hr' (by decide) KS
    og := hne _ hg1 h.og
    ok := hne _ hk1 h.ok }, ?_⟩
  have K1 : Kept (fun q => v.ov.ownBlock = some q) W (W.alloc (.cells #[.int .u8 z] 5)) := Kept.of_below hb1
  exact K1.ahead K (fun _ _ e => e)
theorem MidD.pushed {rb : Nat} {l : List Int} {w : World} (h : MidD C W0 W r rb d v l w) (hv : ∀ q, v.ov.ownBlock = some q → TurnD W0 W r rb q) {z : Int} {vv : Value} {w' : World} (hD : DocM C W0 r (w'.setCell ⟨r, 8, none⟩ vv) { d with out := d.out ++ [z] } { v with ov := vv }) (hK : Kept (fun q => v.ov.ownBlock = some q) w w') : MidD C W0 W r rb { d with out := d.out ++ [z] } { v with ov := vv } l (w'.setCell ⟨r, 8, none⟩ vv) := by
  have hR : RegM W0 w' rb l := h.reg.kept hK (fun e => by
    obtain ⟨c, hc⟩ := own_block h.doc.os e
    have h1 := h.reg.rc
    rw [hc] at h1
    injection h1 with h1
    injection h1 with _ h2
    exact absurd h2 (by decide))
  exact ⟨hD, hR.kept (setK _ _ _ _) (fun e => h.ne.1 e), (h.kept.ahead hK (fun q _ e => hv q e)).ahead (setK _ _ _ _) (fun q _ e => .inl e)⟩
theorem heap_size_alloc1 (W : World) (o : Obj) : (W.alloc o).heap.size = W.heap.size + 1 := by simp
theorem ov_turn {rb : Nat} (h : DocM C W0 r W d v) : ∀ q, v.ov.ownBlock = some q → TurnD W0 W r rb q := fun q e => by
  obtain ⟨c, hc⟩ := own_block h.os e
  exact .inr (.inr ⟨(World.ownsRow.lt h.os q e).1, _, _, hc⟩)
theorem putB_flags (d : Ds) (a b : Int) : (putB d a b).trap = d.trap ∧ (putB d a b).over = d.over := by
  unfold putB
  split <;> exact ⟨rfl, rfl⟩
theorem storeN_flags (d : Ds) (a w : Int) : ∀ n, (storeN d a w n).trap = d.trap ∧ (storeN d a w n).over = d.over
  | 0 => ⟨rfl, rfl⟩
  | n + 1 => by
    have h := storeN_flags d a w n
    have k := putB_flags (storeN d a w n) (a + n) (w / 256 ^ n % 256)
    exact ⟨k.1.trans h.1, k.2.trans h.2⟩
end
end Go.Proofs.Ytiehlkhpblldaaa
