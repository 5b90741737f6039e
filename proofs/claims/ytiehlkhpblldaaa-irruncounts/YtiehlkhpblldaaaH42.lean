/- The document's do: calls. -/
import Derived.Test.YtiehlkhpblldaaaH35
set_option linter.unusedVariables false
set_option linter.unusedSimpArgs false
set_option maxRecDepth 20000
set_option maxHeartbeats 8000000
namespace Go.Proofs.Ytiehlkhpblldaaa
open Go.RowKit Go.Maps
section
variable {C : Cst} {W0 W W' : World} {r : Nat} {d d' : Ds} {v v' : Dv}
set_option maxHeartbeats 16000000 in
theorem do55_call_zv {call : Nat → List Int → Ds → Int × Ds} {n : Nat} (hC : CallOk C W0 r call n) {rb : Nat} {l : List Int} {i : In} {fn : Int} (h : DocM C W0 r W d v) (hR : RegM W0 W rb l) (hI : In.ok W0 i) (hop : i.op = 9) {k9 : Nat} (him : i.imm = k9) (hk9 : k9 < C.p.funcs.length) (hpar : (i.args.length : Int) = (fnOf C k9).params) (hp12 : i.args.length ≤ 12)
    (hA : ∀ k (hk : k < i.args.length), ∃ q : Nat, i.args[k] = (q : Int) ∧ q < l.length) (hl : WordsOk l) (hD : DOk C 1 d) (hf : d.fuel.toNat < n) (ht : d.trap = 0) (ho : d.over = false) (ha : i.args.length = 0) (hv : (call k9 (i.args.map (fun a => l.getD a.toNat 0)) d).2.over = true) :
    Calls Try.prog 55 #[.pointer (some ⟨r, 0, none⟩), .int .i64 fn, i.val, .slice (some ⟨rb, 0, none⟩) l.length l.length] W (DoneD C W0 W r rb (call k9 (i.args.map (fun a => l.getD a.toNat 0)) d).2 l false) := by
  obtain ⟨ao, acap, po, pcap, ea, ep, ev⟩ := in_val hI
  rw [hop, him, ha] at ev
  have hb1 := below1 W (.cells #[.int .i64 9, .int .i64 i.dst, .slice ao 0 acap, .int .i32 k9, .int .i64 i.alu, .int .i64 i.wide, .slice po i.pred.length pcap] 51)
  have hb2 := below2 W (.cells #[.int .i64 9, .int .i64 i.dst, .slice ao 0 acap, .int .i32 k9, .int .i64 i.alu, .int .i64 i.wide, .slice po i.pred.length pcap] 51) (.cells #[] 79)
  have HM := hid' ((MidD.start h hR).on hb1)
  have hbx := heap_alloc_new W (.cells #[.int .i64 9, .int .i64 i.dst, .slice ao 0 acap, .int .i32 k9, .int .i64 i.alu, .int .i64 i.wide, .slice po i.pred.length pcap] 51)
  have hbc : ∀ j, (W.alloc (.cells #[.int .i64 9, .int .i64 i.dst, .slice ao 0 acap, .int .i32 k9, .int .i64 i.alu, .int .i64 i.wide, .slice po i.pred.length pcap] 51)).cell? ⟨W.heap.size, j, none⟩ = (#[.int .i64 9, .int .i64 i.dst, .slice ao 0 acap, .int .i32 k9, .int .i64 i.alu, .int .i64 i.wide, .slice po i.pred.length pcap] : Array Value)[j]? := fun j => cell_of_row _ _ _ _ 51 (0, 0) hbx
  have HBC := hid' hbc
  have b0 := hbc 0
  have b1 := hbc 1
  have b2 := hbc 2
  have b3 := hbc 3
  simp only [List.getElem?_toArray, List.getElem?_cons_succ, List.getElem?_cons_zero] at b0 b1 b2 b3
  have hrr := HM.out.ne.1
  have hrr2 := HM.out.ne.2
  have hrs : ¬ r = W.heap.size := by have := h.lt; omega
  have hsr : ¬ W.heap.size = r := fun e => hrs e.symm
  have hrlt : rb < W.heap.size := (Array.getElem?_eq_some_iff.1 hR.rc).1
  have hW0 : W0.heap.size ≤ W.heap.size := h.below.size
  have hk9w : IntKind.i64.wrap (k9 : Int) = k9 := by have := hI.hi; rw [him] at this; simp [IntKind.wrap, IntKind.bits, IntKind.signed]; omega
  have HXS : Hid (∀ k (hk : k < i.args.length), ∃ q : Nat, i.args[k] = (q : Int) ∧ q < l.length) := hA
  have HLEN := hid' ha
  have HD := hid' hD
  have HL := hid' hl
  have H0 : Hid (CaM C W0 W r rb d v l i.args 0 (.slice (some ⟨W.heap.size + 1, 0, none⟩) 0 0) ((W.alloc (.cells #[.int .i64 9, .int .i64 i.dst, .slice ao 0 acap, .int .i32 k9, .int .i64 i.alu, .int .i64 i.wide, .slice po i.pred.length pcap] 51)).alloc (.cells #[] 79))) := by
    refine ⟨(MidD.start h hR).on hb2, ⟨by simp [argL, flat], .inr ⟨W.heap.size + 1, 0, #[], rfl, Nat.le_refl _, ?_, Nat.le_refl _, Nat.zero_le _, by simp, by simp [argL, flat]⟩⟩, Kept.of_below hb2⟩
    have := heap_alloc_new (W.alloc (.cells #[.int .i64 9, .int .i64 i.dst, .slice ao 0 acap, .int .i32 k9, .int .i64 i.alu, .int .i64 i.wide, .slice po i.pred.length pcap] 51)) (.cells #[] 79)
    rwa [show (W.alloc (.cells #[.int .i64 9, .int .i64 i.dst, .slice ao 0 acap, .int .i32 k9, .int .i64 i.alu, .int .i64 i.wide, .slice po i.pred.length pcap] 51)).heap.size = W.heap.size + 1 by simp] at this
  have HBX : Hid (((W.alloc (.cells #[.int .i64 9, .int .i64 i.dst, .slice ao 0 acap, .int .i32 k9, .int .i64 i.alu, .int .i64 i.wide, .slice po i.pred.length pcap] 51)).alloc (.cells #[] 79)).heap[W.heap.size]? = some (.cells #[.int .i64 9, .int .i64 i.dst, .slice ao 0 acap, .int .i32 k9, .int .i64 i.alu, .int .i64 i.wide, .slice po i.pred.length pcap] 51 (0, 0))) := by
    show ((W.alloc (.cells #[.int .i64 9, .int .i64 i.dst, .slice ao 0 acap, .int .i32 k9, .int .i64 i.alu, .int .i64 i.wide, .slice po i.pred.length pcap] 51)).alloc (.cells #[] 79)).heap[W.heap.size]? = _
    rw [Below.heap_alloc _ _ _ (by simp)]
    exact hbx
  have HEQ : Hid ((argL l i.args i.args.length) = i.args.map (fun a => l.getD a.toNat 0)) := argL_all _ _
  have HC : Hid (∀ (w : World) (lv : Value), CaM C W0 W r rb d v l i.args i.args.length lv w → _) := fun w lv hM => hC k9 (i.args.map (fun a => l.getD a.toNat 0)) d v w lv hk9 (by rw [List.length_map]; exact hpar) (words_map hl _) hD hf ht ho hM.mid.doc ⟨W.heap.size + 1, by omega, by rw [← argL_all, argL_len _ _ (Nat.le_refl _)]; exact hM.row⟩
  have hp12' : 0 ≤ 12 := by omega
  generalize hQ : call k9 (i.args.map (fun a => l.getD a.toNat 0)) d = Q at *
  clear hQ
  rw [ev]
  clear hC h hR hbc ev ea ep hop him hI hA hpar hp12 hl hD hf ht ho hbx hb1 hb2 HEQ ha
  go_enter Try.func55, Try.ntmps55
  go_wp2
  generalize ((W.alloc (.cells #[.int .i64 9, .int .i64 i.dst, .slice ao 0 acap, .int .i32 k9, .int .i64 i.alu, .int .i64 i.wide, .slice po i.pred.length pcap] 51)).alloc (.cells #[] 79)) = w0 at *
  clear b0 b1 b2 b3 HBC
  go_loopw [13, 14] (fun lv ii wr => ∃ k : Nat, k ≤ 0 ∧ ii = .int .i64 k ∧ CaM C W0 W r rb d v l i.args k lv wr ∧ wr.heap[W.heap.size]? = some (.cells #[.int .i64 9, .int .i64 i.dst, .slice ao 0 acap, .int .i32 k9, .int .i64 i.alu, .int .i64 i.wide, .slice po i.pred.length pcap] 51 (0, 0))) (fun _ ii _ => 0 - (intOf ii).toNat)
  case atStart => exact ⟨0, Nat.zero_le _, rfl, H0.out, HBX.out⟩
  case round =>
    obtain ⟨k, hk, rfl, hM, hbx⟩ := hrel
    have HM2 := hid' hM
    have HX2 := hid' hbx
    have y2 : wr.cell? ⟨W.heap.size, 2, none⟩ = some (.slice ao 0 acap) := by rw [cell_of_row wr W.heap.size 2 _ 51 (0, 0) hbx]; rfl
    have y3 : wr.cell? ⟨W.heap.size, 3, none⟩ = some (.int .i32 k9) := by rw [cell_of_row wr W.heap.size 3 _ 51 (0, 0) hbx]; rfl
    have hsz : W.heap.size + 1 ≤ wr.heap.size := (Array.getElem?_eq_some_iff.1 hbx).1
    clear hM hbx H0 HBX HM
    have e : k = 0 := by omega
    subst e
    have h19 := HC.out wr _ (by rw [HLEN.out]; exact HM2.out)
    clear HC
    go_wp2_with (go_at_call 19; refine h19.mono ?_; rintro e1 w9 ⟨rfl, ⟨v9, hD9⟩, hK9⟩; have HM9 := hid' (HM2.out.mid.called hD9 hK9); have p14 : w9.cell? ⟨r, 14, none⟩ = some (.bool true) := (by rw [← hv]; exact hD9.cell 14); clear hD9 hK9)
    go_ret
    exact HM9.out.done false
set_option maxHeartbeats 16000000 in
theorem do55_call_zt {call : Nat → List Int → Ds → Int × Ds} {n : Nat} (hC : CallOk C W0 r call n) {rb : Nat} {l : List Int} {i : In} {fn : Int} (h : DocM C W0 r W d v) (hR : RegM W0 W rb l) (hI : In.ok W0 i) (hop : i.op = 9) {k9 : Nat} (him : i.imm = k9) (hk9 : k9 < C.p.funcs.length) (hpar : (i.args.length : Int) = (fnOf C k9).params) (hp12 : i.args.length ≤ 12)
    (hA : ∀ k (hk : k < i.args.length), ∃ q : Nat, i.args[k] = (q : Int) ∧ q < l.length) (hl : WordsOk l) (hD : DOk C 1 d) (hf : d.fuel.toNat < n) (ht : d.trap = 0) (ho : d.over = false) (ha : i.args.length = 0) (hv : (call k9 (i.args.map (fun a => l.getD a.toNat 0)) d).2.over = false) (hv2 : (call k9 (i.args.map (fun a => l.getD a.toNat 0)) d).2.trap ≠ 0) :
    Calls Try.prog 55 #[.pointer (some ⟨r, 0, none⟩), .int .i64 fn, i.val, .slice (some ⟨rb, 0, none⟩) l.length l.length] W (DoneD C W0 W r rb (call k9 (i.args.map (fun a => l.getD a.toNat 0)) d).2 l false) := by
  obtain ⟨ao, acap, po, pcap, ea, ep, ev⟩ := in_val hI
  rw [hop, him, ha] at ev
  have hb1 := below1 W (.cells #[.int .i64 9, .int .i64 i.dst, .slice ao 0 acap, .int .i32 k9, .int .i64 i.alu, .int .i64 i.wide, .slice po i.pred.length pcap] 51)
  have hb2 := below2 W (.cells #[.int .i64 9, .int .i64 i.dst, .slice ao 0 acap, .int .i32 k9, .int .i64 i.alu, .int .i64 i.wide, .slice po i.pred.length pcap] 51) (.cells #[] 79)
  have HM := hid' ((MidD.start h hR).on hb1)
  have hbx := heap_alloc_new W (.cells #[.int .i64 9, .int .i64 i.dst, .slice ao 0 acap, .int .i32 k9, .int .i64 i.alu, .int .i64 i.wide, .slice po i.pred.length pcap] 51)
  have hbc : ∀ j, (W.alloc (.cells #[.int .i64 9, .int .i64 i.dst, .slice ao 0 acap, .int .i32 k9, .int .i64 i.alu, .int .i64 i.wide, .slice po i.pred.length pcap] 51)).cell? ⟨W.heap.size, j, none⟩ = (#[.int .i64 9, .int .i64 i.dst, .slice ao 0 acap, .int .i32 k9, .int .i64 i.alu, .int .i64 i.wide, .slice po i.pred.length pcap] : Array Value)[j]? := fun j => cell_of_row _ _ _ _ 51 (0, 0) hbx
  have HBC := hid' hbc
  have b0 := hbc 0
  have b1 := hbc 1
  have b2 := hbc 2
  have b3 := hbc 3
  simp only [List.getElem?_toArray, List.getElem?_cons_succ, List.getElem?_cons_zero] at b0 b1 b2 b3
  have hrr := HM.out.ne.1
  have hrr2 := HM.out.ne.2
  have hrs : ¬ r = W.heap.size := by have := h.lt; omega
  have hsr : ¬ W.heap.size = r := fun e => hrs e.symm
  have hrlt : rb < W.heap.size := (Array.getElem?_eq_some_iff.1 hR.rc).1
  have hW0 : W0.heap.size ≤ W.heap.size := h.below.size
  have hk9w : IntKind.i64.wrap (k9 : Int) = k9 := by have := hI.hi; rw [him] at this; simp [IntKind.wrap, IntKind.bits, IntKind.signed]; omega
  have HXS : Hid (∀ k (hk : k < i.args.length), ∃ q : Nat, i.args[k] = (q : Int) ∧ q < l.length) := hA
  have HLEN := hid' ha
  have HD := hid' hD
  have HL := hid' hl
  have H0 : Hid (CaM C W0 W r rb d v l i.args 0 (.slice (some ⟨W.heap.size + 1, 0, none⟩) 0 0) ((W.alloc (.cells #[.int .i64 9, .int .i64 i.dst, .slice ao 0 acap, .int .i32 k9, .int .i64 i.alu, .int .i64 i.wide, .slice po i.pred.length pcap] 51)).alloc (.cells #[] 79))) := by
    refine ⟨(MidD.start h hR).on hb2, ⟨by simp [argL, flat], .inr ⟨W.heap.size + 1, 0, #[], rfl, Nat.le_refl _, ?_, Nat.le_refl _, Nat.zero_le _, by simp, by simp [argL, flat]⟩⟩, Kept.of_below hb2⟩
    have := heap_alloc_new (W.alloc (.cells #[.int .i64 9, .int .i64 i.dst, .slice ao 0 acap, .int .i32 k9, .int .i64 i.alu, .int .i64 i.wide, .slice po i.pred.length pcap] 51)) (.cells #[] 79)
    rwa [show (W.alloc (.cells #[.int .i64 9, .int .i64 i.dst, .slice ao 0 acap, .int .i32 k9, .int .i64 i.alu, .int .i64 i.wide, .slice po i.pred.length pcap] 51)).heap.size = W.heap.size + 1 by simp] at this
  have HBX : Hid (((W.alloc (.cells #[.int .i64 9, .int .i64 i.dst, .slice ao 0 acap, .int .i32 k9, .int .i64 i.alu, .int .i64 i.wide, .slice po i.pred.length pcap] 51)).alloc (.cells #[] 79)).heap[W.heap.size]? = some (.cells #[.int .i64 9, .int .i64 i.dst, .slice ao 0 acap, .int .i32 k9, .int .i64 i.alu, .int .i64 i.wide, .slice po i.pred.length pcap] 51 (0, 0))) := by
    show ((W.alloc (.cells #[.int .i64 9, .int .i64 i.dst, .slice ao 0 acap, .int .i32 k9, .int .i64 i.alu, .int .i64 i.wide, .slice po i.pred.length pcap] 51)).alloc (.cells #[] 79)).heap[W.heap.size]? = _
    rw [Below.heap_alloc _ _ _ (by simp)]
    exact hbx
  have HEQ : Hid ((argL l i.args i.args.length) = i.args.map (fun a => l.getD a.toNat 0)) := argL_all _ _
  have HC : Hid (∀ (w : World) (lv : Value), CaM C W0 W r rb d v l i.args i.args.length lv w → _) := fun w lv hM => hC k9 (i.args.map (fun a => l.getD a.toNat 0)) d v w lv hk9 (by rw [List.length_map]; exact hpar) (words_map hl _) hD hf ht ho hM.mid.doc ⟨W.heap.size + 1, by omega, by rw [← argL_all, argL_len _ _ (Nat.le_refl _)]; exact hM.row⟩
  have hp12' : 0 ≤ 12 := by omega
  generalize hQ : call k9 (i.args.map (fun a => l.getD a.toNat 0)) d = Q at *
  clear hQ
  rw [ev]
  clear hC h hR hbc ev ea ep hop him hI hA hpar hp12 hl hD hf ht ho hbx hb1 hb2 HEQ ha
  go_enter Try.func55, Try.ntmps55
  go_wp2
  generalize ((W.alloc (.cells #[.int .i64 9, .int .i64 i.dst, .slice ao 0 acap, .int .i32 k9, .int .i64 i.alu, .int .i64 i.wide, .slice po i.pred.length pcap] 51)).alloc (.cells #[] 79)) = w0 at *
  clear b0 b1 b2 b3 HBC
  go_loopw [13, 14] (fun lv ii wr => ∃ k : Nat, k ≤ 0 ∧ ii = .int .i64 k ∧ CaM C W0 W r rb d v l i.args k lv wr ∧ wr.heap[W.heap.size]? = some (.cells #[.int .i64 9, .int .i64 i.dst, .slice ao 0 acap, .int .i32 k9, .int .i64 i.alu, .int .i64 i.wide, .slice po i.pred.length pcap] 51 (0, 0))) (fun _ ii _ => 0 - (intOf ii).toNat)
  case atStart => exact ⟨0, Nat.zero_le _, rfl, H0.out, HBX.out⟩
  case round =>
    obtain ⟨k, hk, rfl, hM, hbx⟩ := hrel
    have HM2 := hid' hM
    have HX2 := hid' hbx
    have y2 : wr.cell? ⟨W.heap.size, 2, none⟩ = some (.slice ao 0 acap) := by rw [cell_of_row wr W.heap.size 2 _ 51 (0, 0) hbx]; rfl
    have y3 : wr.cell? ⟨W.heap.size, 3, none⟩ = some (.int .i32 k9) := by rw [cell_of_row wr W.heap.size 3 _ 51 (0, 0) hbx]; rfl
    have hsz : W.heap.size + 1 ≤ wr.heap.size := (Array.getElem?_eq_some_iff.1 hbx).1
    clear hM hbx H0 HBX HM
    have e : k = 0 := by omega
    subst e
    have h19 := HC.out wr _ (by rw [HLEN.out]; exact HM2.out)
    clear HC
    go_wp2_with (go_at_call 19; refine h19.mono ?_; rintro e1 w9 ⟨rfl, ⟨v9, hD9⟩, hK9⟩; have HM9 := hid' (HM2.out.mid.called hD9 hK9); have p14 : w9.cell? ⟨r, 14, none⟩ = some (.bool false) := (by rw [← hv]; exact hD9.cell 14); have p13 : w9.cell? ⟨r, 13, none⟩ = some (.int .i64 Q.2.trap) := hD9.cell 13; have hv3 : (Q.2.trap != 0) = true := (by simp [hv2]); clear hD9 hK9)
    go_ret
    exact HM9.out.done false
set_option maxHeartbeats 16000000 in
theorem do55_call_zka {call : Nat → List Int → Ds → Int × Ds} {n : Nat} (hC : CallOk C W0 r call n) {rb : Nat} {l : List Int} {i : In} {fn : Int} (h : DocM C W0 r W d v) (hR : RegM W0 W rb l) (hI : In.ok W0 i) (hop : i.op = 9) {k9 : Nat} (him : i.imm = k9) (hk9 : k9 < C.p.funcs.length) (hpar : (i.args.length : Int) = (fnOf C k9).params) (hp12 : i.args.length ≤ 12)
    (hA : ∀ k (hk : k < i.args.length), ∃ q : Nat, i.args[k] = (q : Int) ∧ q < l.length) (hl : WordsOk l) (hD : DOk C 1 d) (hf : d.fuel.toNat < n) (ht : d.trap = 0) (ho : d.over = false) (ha : i.args.length = 0) {a : Nat} (hd : i.dst = a) (hal : a < l.length) (hv : (call k9 (i.args.map (fun a => l.getD a.toNat 0)) d).2.over = false) (hv2 : (call k9 (i.args.map (fun a => l.getD a.toNat 0)) d).2.trap = 0) :
    Calls Try.prog 55 #[.pointer (some ⟨r, 0, none⟩), .int .i64 fn, i.val, .slice (some ⟨rb, 0, none⟩) l.length l.length] W (DoneD C W0 W r rb (call k9 (i.args.map (fun a => l.getD a.toNat 0)) d).2 (l.set a (call k9 (i.args.map (fun a => l.getD a.toNat 0)) d).1) true) := by
  obtain ⟨ao, acap, po, pcap, ea, ep, ev⟩ := in_val hI
  rw [hop, him, ha, hd] at ev
  have hb1 := below1 W (.cells #[.int .i64 9, .int .i64 a, .slice ao 0 acap, .int .i32 k9, .int .i64 i.alu, .int .i64 i.wide, .slice po i.pred.length pcap] 51)
  have hb2 := below2 W (.cells #[.int .i64 9, .int .i64 a, .slice ao 0 acap, .int .i32 k9, .int .i64 i.alu, .int .i64 i.wide, .slice po i.pred.length pcap] 51) (.cells #[] 79)
  have HM := hid' ((MidD.start h hR).on hb1)
  have hbx := heap_alloc_new W (.cells #[.int .i64 9, .int .i64 a, .slice ao 0 acap, .int .i32 k9, .int .i64 i.alu, .int .i64 i.wide, .slice po i.pred.length pcap] 51)
  have hbc : ∀ j, (W.alloc (.cells #[.int .i64 9, .int .i64 a, .slice ao 0 acap, .int .i32 k9, .int .i64 i.alu, .int .i64 i.wide, .slice po i.pred.length pcap] 51)).cell? ⟨W.heap.size, j, none⟩ = (#[.int .i64 9, .int .i64 a, .slice ao 0 acap, .int .i32 k9, .int .i64 i.alu, .int .i64 i.wide, .slice po i.pred.length pcap] : Array Value)[j]? := fun j => cell_of_row _ _ _ _ 51 (0, 0) hbx
  have HBC := hid' hbc
  have b0 := hbc 0
  have b1 := hbc 1
  have b2 := hbc 2
  have b3 := hbc 3
  simp only [List.getElem?_toArray, List.getElem?_cons_succ, List.getElem?_cons_zero] at b0 b1 b2 b3
  have hrr := HM.out.ne.1
  have hrr2 := HM.out.ne.2
  have hrs : ¬ r = W.heap.size := by have := h.lt; omega
  have hsr : ¬ W.heap.size = r := fun e => hrs e.symm
  have hrlt : rb < W.heap.size := (Array.getElem?_eq_some_iff.1 hR.rc).1
  have hW0 : W0.heap.size ≤ W.heap.size := h.below.size
  have hk9w : IntKind.i64.wrap (k9 : Int) = k9 := by have := hI.hi; rw [him] at this; simp [IntKind.wrap, IntKind.bits, IntKind.signed]; omega
  have HXS : Hid (∀ k (hk : k < i.args.length), ∃ q : Nat, i.args[k] = (q : Int) ∧ q < l.length) := hA
  have HLEN := hid' ha
  have HD := hid' hD
  have HL := hid' hl
  have H0 : Hid (CaM C W0 W r rb d v l i.args 0 (.slice (some ⟨W.heap.size + 1, 0, none⟩) 0 0) ((W.alloc (.cells #[.int .i64 9, .int .i64 a, .slice ao 0 acap, .int .i32 k9, .int .i64 i.alu, .int .i64 i.wide, .slice po i.pred.length pcap] 51)).alloc (.cells #[] 79))) := by
    refine ⟨(MidD.start h hR).on hb2, ⟨by simp [argL, flat], .inr ⟨W.heap.size + 1, 0, #[], rfl, Nat.le_refl _, ?_, Nat.le_refl _, Nat.zero_le _, by simp, by simp [argL, flat]⟩⟩, Kept.of_below hb2⟩
    have := heap_alloc_new (W.alloc (.cells #[.int .i64 9, .int .i64 a, .slice ao 0 acap, .int .i32 k9, .int .i64 i.alu, .int .i64 i.wide, .slice po i.pred.length pcap] 51)) (.cells #[] 79)
    rwa [show (W.alloc (.cells #[.int .i64 9, .int .i64 a, .slice ao 0 acap, .int .i32 k9, .int .i64 i.alu, .int .i64 i.wide, .slice po i.pred.length pcap] 51)).heap.size = W.heap.size + 1 by simp] at this
  have HBX : Hid (((W.alloc (.cells #[.int .i64 9, .int .i64 a, .slice ao 0 acap, .int .i32 k9, .int .i64 i.alu, .int .i64 i.wide, .slice po i.pred.length pcap] 51)).alloc (.cells #[] 79)).heap[W.heap.size]? = some (.cells #[.int .i64 9, .int .i64 a, .slice ao 0 acap, .int .i32 k9, .int .i64 i.alu, .int .i64 i.wide, .slice po i.pred.length pcap] 51 (0, 0))) := by
    show ((W.alloc (.cells #[.int .i64 9, .int .i64 a, .slice ao 0 acap, .int .i32 k9, .int .i64 i.alu, .int .i64 i.wide, .slice po i.pred.length pcap] 51)).alloc (.cells #[] 79)).heap[W.heap.size]? = _
    rw [Below.heap_alloc _ _ _ (by simp)]
    exact hbx
  have HEQ : Hid ((argL l i.args i.args.length) = i.args.map (fun a => l.getD a.toNat 0)) := argL_all _ _
  have HC : Hid (∀ (w : World) (lv : Value), CaM C W0 W r rb d v l i.args i.args.length lv w → _) := fun w lv hM => hC k9 (i.args.map (fun a => l.getD a.toNat 0)) d v w lv hk9 (by rw [List.length_map]; exact hpar) (words_map hl _) hD hf ht ho hM.mid.doc ⟨W.heap.size + 1, by omega, by rw [← argL_all, argL_len _ _ (Nat.le_refl _)]; exact hM.row⟩
  have hp12' : 0 ≤ 12 := by omega
  generalize hQ : call k9 (i.args.map (fun a => l.getD a.toNat 0)) d = Q at *
  clear hQ
  rw [ev]
  clear hC h hR hbc ev ea ep hop him hI hA hpar hp12 hl hD hf ht ho hbx hb1 hb2 HEQ hd ha
  go_enter Try.func55, Try.ntmps55
  go_wp2
  generalize ((W.alloc (.cells #[.int .i64 9, .int .i64 a, .slice ao 0 acap, .int .i32 k9, .int .i64 i.alu, .int .i64 i.wide, .slice po i.pred.length pcap] 51)).alloc (.cells #[] 79)) = w0 at *
  clear b0 b1 b2 b3 HBC
  go_loopw [13, 14] (fun lv ii wr => ∃ k : Nat, k ≤ 0 ∧ ii = .int .i64 k ∧ CaM C W0 W r rb d v l i.args k lv wr ∧ wr.heap[W.heap.size]? = some (.cells #[.int .i64 9, .int .i64 a, .slice ao 0 acap, .int .i32 k9, .int .i64 i.alu, .int .i64 i.wide, .slice po i.pred.length pcap] 51 (0, 0))) (fun _ ii _ => 0 - (intOf ii).toNat)
  case atStart => exact ⟨0, Nat.zero_le _, rfl, H0.out, HBX.out⟩
  case round =>
    obtain ⟨k, hk, rfl, hM, hbx⟩ := hrel
    have HM2 := hid' hM
    have HX2 := hid' hbx
    have y2 : wr.cell? ⟨W.heap.size, 2, none⟩ = some (.slice ao 0 acap) := by rw [cell_of_row wr W.heap.size 2 _ 51 (0, 0) hbx]; rfl
    have y3 : wr.cell? ⟨W.heap.size, 3, none⟩ = some (.int .i32 k9) := by rw [cell_of_row wr W.heap.size 3 _ 51 (0, 0) hbx]; rfl
    have hsz : W.heap.size + 1 ≤ wr.heap.size := (Array.getElem?_eq_some_iff.1 hbx).1
    clear hM hbx H0 HBX HM
    have e : k = 0 := by omega
    subst e
    have h19 := HC.out wr _ (by rw [HLEN.out]; exact HM2.out)
    clear HC
    go_wp2_with (go_at_call 19; refine h19.mono ?_; rintro e1 w9 ⟨rfl, ⟨v9, hD9⟩, hK9⟩; have HM9 := hid' (HM2.out.mid.called hD9 hK9); have p14 : w9.cell? ⟨r, 14, none⟩ = some (.bool false) := (by rw [← hv]; exact hD9.cell 14); have p13 : w9.cell? ⟨r, 13, none⟩ = some (.int .i64 0) := (by rw [← hv2]; exact hD9.cell 13); have d1 : w9.cell? ⟨W.heap.size, 1, none⟩ = some (.int .i64 a) := (by rw [hK9.cell hsz (no_turn HX2.out hsr), cell_of_row wr W.heap.size 1 _ 51 (0, 0) HX2.out]; rfl); obtain ⟨rc9, rf9⟩ := HM9.out.reg.cell hal; have hai : (a : Int) < l.length := (by omega); have ha0 : (a : Int) ≥ 0 := (by omega); clear hD9 hK9)
    go_ret
    exact HM9.out.setR a _
set_option maxHeartbeats 16000000 in
theorem do55_call_zkn {call : Nat → List Int → Ds → Int × Ds} {n : Nat} (hC : CallOk C W0 r call n) {rb : Nat} {l : List Int} {i : In} {fn : Int} (h : DocM C W0 r W d v) (hR : RegM W0 W rb l) (hI : In.ok W0 i) (hop : i.op = 9) {k9 : Nat} (him : i.imm = k9) (hk9 : k9 < C.p.funcs.length) (hpar : (i.args.length : Int) = (fnOf C k9).params) (hp12 : i.args.length ≤ 12)
    (hA : ∀ k (hk : k < i.args.length), ∃ q : Nat, i.args[k] = (q : Int) ∧ q < l.length) (hl : WordsOk l) (hD : DOk C 1 d) (hf : d.fuel.toNat < n) (ht : d.trap = 0) (ho : d.over = false) (ha : i.args.length = 0) (hd : i.dst = -1) (hv : (call k9 (i.args.map (fun a => l.getD a.toNat 0)) d).2.over = false) (hv2 : (call k9 (i.args.map (fun a => l.getD a.toNat 0)) d).2.trap = 0) :
    Calls Try.prog 55 #[.pointer (some ⟨r, 0, none⟩), .int .i64 fn, i.val, .slice (some ⟨rb, 0, none⟩) l.length l.length] W (DoneD C W0 W r rb (call k9 (i.args.map (fun a => l.getD a.toNat 0)) d).2 l true) := by
  obtain ⟨ao, acap, po, pcap, ea, ep, ev⟩ := in_val hI
  rw [hop, him, ha, hd] at ev
  have hb1 := below1 W (.cells #[.int .i64 9, .int .i64 (-1), .slice ao 0 acap, .int .i32 k9, .int .i64 i.alu, .int .i64 i.wide, .slice po i.pred.length pcap] 51)
  have hb2 := below2 W (.cells #[.int .i64 9, .int .i64 (-1), .slice ao 0 acap, .int .i32 k9, .int .i64 i.alu, .int .i64 i.wide, .slice po i.pred.length pcap] 51) (.cells #[] 79)
  have HM := hid' ((MidD.start h hR).on hb1)
  have hbx := heap_alloc_new W (.cells #[.int .i64 9, .int .i64 (-1), .slice ao 0 acap, .int .i32 k9, .int .i64 i.alu, .int .i64 i.wide, .slice po i.pred.length pcap] 51)
  have hbc : ∀ j, (W.alloc (.cells #[.int .i64 9, .int .i64 (-1), .slice ao 0 acap, .int .i32 k9, .int .i64 i.alu, .int .i64 i.wide, .slice po i.pred.length pcap] 51)).cell? ⟨W.heap.size, j, none⟩ = (#[.int .i64 9, .int .i64 (-1), .slice ao 0 acap, .int .i32 k9, .int .i64 i.alu, .int .i64 i.wide, .slice po i.pred.length pcap] : Array Value)[j]? := fun j => cell_of_row _ _ _ _ 51 (0, 0) hbx
  have HBC := hid' hbc
  have b0 := hbc 0
  have b1 := hbc 1
  have b2 := hbc 2
  have b3 := hbc 3
  simp only [List.getElem?_toArray, List.getElem?_cons_succ, List.getElem?_cons_zero] at b0 b1 b2 b3
  have hrr := HM.out.ne.1
  have hrr2 := HM.out.ne.2
  have hrs : ¬ r = W.heap.size := by have := h.lt; omega
  have hsr : ¬ W.heap.size = r := fun e => hrs e.symm
  have hrlt : rb < W.heap.size := (Array.getElem?_eq_some_iff.1 hR.rc).1
  have hW0 : W0.heap.size ≤ W.heap.size := h.below.size
  have hk9w : IntKind.i64.wrap (k9 : Int) = k9 := by have := hI.hi; rw [him] at this; simp [IntKind.wrap, IntKind.bits, IntKind.signed]; omega
  have HXS : Hid (∀ k (hk : k < i.args.length), ∃ q : Nat, i.args[k] = (q : Int) ∧ q < l.length) := hA
  have HLEN := hid' ha
  have HD := hid' hD
  have HL := hid' hl
  have H0 : Hid (CaM C W0 W r rb d v l i.args 0 (.slice (some ⟨W.heap.size + 1, 0, none⟩) 0 0) ((W.alloc (.cells #[.int .i64 9, .int .i64 (-1), .slice ao 0 acap, .int .i32 k9, .int .i64 i.alu, .int .i64 i.wide, .slice po i.pred.length pcap] 51)).alloc (.cells #[] 79))) := by
    refine ⟨(MidD.start h hR).on hb2, ⟨by simp [argL, flat], .inr ⟨W.heap.size + 1, 0, #[], rfl, Nat.le_refl _, ?_, Nat.le_refl _, Nat.zero_le _, by simp, by simp [argL, flat]⟩⟩, Kept.of_below hb2⟩
    have := heap_alloc_new (W.alloc (.cells #[.int .i64 9, .int .i64 (-1), .slice ao 0 acap, .int .i32 k9, .int .i64 i.alu, .int .i64 i.wide, .slice po i.pred.length pcap] 51)) (.cells #[] 79)
    rwa [show (W.alloc (.cells #[.int .i64 9, .int .i64 (-1), .slice ao 0 acap, .int .i32 k9, .int .i64 i.alu, .int .i64 i.wide, .slice po i.pred.length pcap] 51)).heap.size = W.heap.size + 1 by simp] at this
  have HBX : Hid (((W.alloc (.cells #[.int .i64 9, .int .i64 (-1), .slice ao 0 acap, .int .i32 k9, .int .i64 i.alu, .int .i64 i.wide, .slice po i.pred.length pcap] 51)).alloc (.cells #[] 79)).heap[W.heap.size]? = some (.cells #[.int .i64 9, .int .i64 (-1), .slice ao 0 acap, .int .i32 k9, .int .i64 i.alu, .int .i64 i.wide, .slice po i.pred.length pcap] 51 (0, 0))) := by
    show ((W.alloc (.cells #[.int .i64 9, .int .i64 (-1), .slice ao 0 acap, .int .i32 k9, .int .i64 i.alu, .int .i64 i.wide, .slice po i.pred.length pcap] 51)).alloc (.cells #[] 79)).heap[W.heap.size]? = _
    rw [Below.heap_alloc _ _ _ (by simp)]
    exact hbx
  have HEQ : Hid ((argL l i.args i.args.length) = i.args.map (fun a => l.getD a.toNat 0)) := argL_all _ _
  have HC : Hid (∀ (w : World) (lv : Value), CaM C W0 W r rb d v l i.args i.args.length lv w → _) := fun w lv hM => hC k9 (i.args.map (fun a => l.getD a.toNat 0)) d v w lv hk9 (by rw [List.length_map]; exact hpar) (words_map hl _) hD hf ht ho hM.mid.doc ⟨W.heap.size + 1, by omega, by rw [← argL_all, argL_len _ _ (Nat.le_refl _)]; exact hM.row⟩
  have hp12' : 0 ≤ 12 := by omega
  generalize hQ : call k9 (i.args.map (fun a => l.getD a.toNat 0)) d = Q at *
  clear hQ
  rw [ev]
  clear hC h hR hbc ev ea ep hop him hI hA hpar hp12 hl hD hf ht ho hbx hb1 hb2 HEQ hd ha
  go_enter Try.func55, Try.ntmps55
  go_wp2
  generalize ((W.alloc (.cells #[.int .i64 9, .int .i64 (-1), .slice ao 0 acap, .int .i32 k9, .int .i64 i.alu, .int .i64 i.wide, .slice po i.pred.length pcap] 51)).alloc (.cells #[] 79)) = w0 at *
  clear b0 b1 b2 b3 HBC
  go_loopw [13, 14] (fun lv ii wr => ∃ k : Nat, k ≤ 0 ∧ ii = .int .i64 k ∧ CaM C W0 W r rb d v l i.args k lv wr ∧ wr.heap[W.heap.size]? = some (.cells #[.int .i64 9, .int .i64 (-1), .slice ao 0 acap, .int .i32 k9, .int .i64 i.alu, .int .i64 i.wide, .slice po i.pred.length pcap] 51 (0, 0))) (fun _ ii _ => 0 - (intOf ii).toNat)
  case atStart => exact ⟨0, Nat.zero_le _, rfl, H0.out, HBX.out⟩
  case round =>
    obtain ⟨k, hk, rfl, hM, hbx⟩ := hrel
    have HM2 := hid' hM
    have HX2 := hid' hbx
    have y2 : wr.cell? ⟨W.heap.size, 2, none⟩ = some (.slice ao 0 acap) := by rw [cell_of_row wr W.heap.size 2 _ 51 (0, 0) hbx]; rfl
    have y3 : wr.cell? ⟨W.heap.size, 3, none⟩ = some (.int .i32 k9) := by rw [cell_of_row wr W.heap.size 3 _ 51 (0, 0) hbx]; rfl
    have hsz : W.heap.size + 1 ≤ wr.heap.size := (Array.getElem?_eq_some_iff.1 hbx).1
    clear hM hbx H0 HBX HM
    have e : k = 0 := by omega
    subst e
    have h19 := HC.out wr _ (by rw [HLEN.out]; exact HM2.out)
    clear HC
    go_wp2_with (go_at_call 19; refine h19.mono ?_; rintro e1 w9 ⟨rfl, ⟨v9, hD9⟩, hK9⟩; have HM9 := hid' (HM2.out.mid.called hD9 hK9); have p14 : w9.cell? ⟨r, 14, none⟩ = some (.bool false) := (by rw [← hv]; exact hD9.cell 14); have p13 : w9.cell? ⟨r, 13, none⟩ = some (.int .i64 0) := (by rw [← hv2]; exact hD9.cell 13); have d1 : w9.cell? ⟨W.heap.size, 1, none⟩ = some (.int .i64 (-1)) := (by rw [hK9.cell hsz (no_turn HX2.out hsr), cell_of_row wr W.heap.size 1 _ 51 (0, 0) HX2.out]; rfl); clear hD9 hK9)
    go_ret
    exact HM9.out.done true
end
end Go.Proofs.Ytiehlkhpblldaaa
