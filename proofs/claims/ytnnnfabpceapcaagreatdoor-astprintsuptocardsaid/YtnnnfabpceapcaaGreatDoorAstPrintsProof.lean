/- Proved: whatever tree is handed in, of bulk at most 1048576, Print tells of it what the document's Print tells (the law AstPrints returns true), and no argument is changed; the listed package variables start as the program's text lays them (a card tied to a PRUNED copy of the project: the packages that this seat's roots load, and no test file). -/
import Derived.Test.YtnnnfabpceapcaaGreatDoorFrame
import Derived.Test.YtnnnfabpceapcaaGreatDoorPX
import Derived.Test.YtnnnfabpceapcaaGreatDoorRows
import Derived.Test.YtnnnfabpceapcaaGreatDoorCards
import Derived.Test.YtnnnfabpceapcaaGreatDoorTie
import Derived.SevenTiedAt
import Derived.Deep.DeepHandedRow
import Derived.Deep.DeepWitnessRowRef
namespace Go.Proofs.YtnnnfabpceapcaaGreatDoor
open Go.RowKit
set_option linter.unusedVariables false
set_option linter.unusedSimpArgs false

def tinyN (x : NdH) (ks : List Tr) : Bool := decide (x.str.size ≤ 1048576)
theorem all_kid {F : NdH → List Tr → Bool} {ks : List Tr} (h : allL F ks = true) (t : Tr) (ht : t ∈ ks) : allT F t = true := by
  unfold allL at h
  exact List.all_eq_true.1 h _ (List.mem_map.2 ⟨t, ht, rfl⟩)
theorem all_mk {F : NdH → List Tr → Bool} {ks : List Tr} (h : ∀ t ∈ ks, allT F t = true) : allL F ks = true := by
  unfold allL
  refine List.all_eq_true.2 fun b hb => ?_
  obtain ⟨t, ht, rfl⟩ := List.mem_map.1 hb
  exact h t ht
theorem kids_g {x : NdH} {ks : List Tr} (hi : isL ks = true) (ht : allT typedN (Tr.node x ks) = true) (hz : allT tinyN (Tr.node x ks) = true) (hc : chkF mayN x ks = 0) : x.kind = 40 ∧ allL gN ks = true ∧ ∀ (x' : NdH) (l : List Tr), Tr.node x' l ∈ ks → isLn x' := by
  rw [allT_node, Bool.and_eq_true] at ht hz
  rw [chk_is x ks hi] at hc
  split at hc
  · rename_i h
    have hq : ∀ t ∈ ks, onT (ofK [41, 42, 45]) t = true ∧ allT mayN t = true := fun t htm => by
      have := List.all_eq_true.1 h.2.2.2 t htm
      rw [top_q t (isL_mem hi t htm)] at this
      unfold qR at this
      rw [Bool.and_eq_true] at this
      exact this
    refine ⟨h.2.1, all_mk fun t htm => ?_, fun x' l hm => ?_⟩
    · exact allT_both _ _ (Nat.le_refl _) (isL_mem hi t htm) (hq t htm).2 (allT_both _ _ (Nat.le_refl _) (isL_mem hi t htm) (all_kid ht.2 t htm) (all_kid hz.2 t htm))
    · have := (hq _ hm).1
      rw [onT_node] at this
      unfold ofK hasI at this
      simp at this
      unfold isLn
      omega
  · cases hc
theorem pt_new (w : World) : Pt w w.heap.size [] (w.alloc (.cells #[.slice none 0 0] 45)) :=
  ⟨⟨.slice none 0 0, [], heap_alloc_new w _, ⟨rfl, .inl ⟨rfl, rfl⟩⟩, Nat.le_refl _, by simp, .inl rfl⟩, below1 _ _⟩

theorem buf_small {b L : List UInt8} (h : b = [] ++ L ∨ (1048576 < b.length ∧ b <+: [] ++ L)) (hl : L.length ≤ 1048576) : b = L := by
  rcases h with h | ⟨h, hp⟩
  · exact h
  · have := hp.length_le
    rw [List.nil_append] at this
    omega
theorem buf_long {b L : List UInt8} (h : b = [] ++ L ∨ (1048576 < b.length ∧ b <+: [] ++ L)) (hl : ¬ L.length ≤ 1048576) : (1048576 : Int) < b.length := by
  rcases h with h | ⟨h, hp⟩
  · rw [h, List.nil_append]
    omega
  · omega

set_option maxHeartbeats 8000000 in
set_option maxRecDepth 20000 in
theorem rprint9 {cb n : Nat} {w : World} {x : NdH} {kv : Value} {ks : List Tr} (hK : Ks cb n w kv ks) (ht : allT typedN (Tr.node x ks) = true) (hz : allT tinyN (Tr.node x ks) = true) :
    Calls Tryz.prog 9 #[ndV x kv] w fun e w' => e = .returned (printV (chkF mayN x ks) (spellT qtL (Tr.node x ks))) ∧ Below w.heap.size w w' := by
  have h6 : Hid (∀ W, Below w.heap.size w W → Calls Tryz.prog 6 #[ndV x kv] W fun e w' => e = .returned (.int .i64 (chkF mayN x ks)) ∧ Below W.heap.size W w') := fun W hb => rcheck6 (hK.below hb) ht
  by_cases hc : chkF mayN x ks = 0
  · obtain ⟨hk40, hgk, hln⟩ := kids_g hK.isL ht hz hc
    obtain ⟨hlen, ao, cap, rfl⟩ := hK.shape
    have HA : Hid (∀ (W0 W : World) (tb : Nat) (F : List UInt8), Below w.heap.size w W0 → Pt W0 tb F W → Calls Tryz.prog 21 #[.pointer (some ⟨tb, 0, none⟩), .slice ao ks.length cap] W (Puts W0 tb F (joinL [] (ks.map (spellT qtL))) W)) := fun W0 W tb F hb hP => all21 hlen hP (fun i hi => by
      obtain ⟨m, b, off, x', ka, kc, l, hm, e, hlt, hc', ei, hk, hgi⟩ := kid_s (hK.below hb) hgk i hi
      exact ⟨b, off, x', _, e, hlt, hc', by rw [ei]; exact line_all m hk hgi (hln x' l (by rw [← ei]; exact List.getElem_mem hi))⟩)
    have hsp : spellT qtL (Tr.node x ks) = joinL [] (ks.map (spellT qtL)) := by
      rw [spellT_node]
      obtain ⟨kd, s, nu, f, p⟩ := x
      obtain rfl : kd = 40 := hk40
      rfl
    rw [hc] at h6 ⊢
    rw [hsp]
    clear hK ht hz hc hk40 hgk hln hsp
    generalize joinL [] (ks.map (spellT qtL)) = L at *
    unfold ndV at h6 ⊢
    unfold printV
    rw [if_pos rfl]
    by_cases hl : L.length ≤ 1048576
    · rw [if_pos hl]
      go_enter Tryz.func9, Tryz.ntmps9
      go_wp2_with (first
        | (go_at_call 21; (with_reducible refine (HA.out w1 _ _ [] HB1.out (pt_new w1)).mono ?_); rintro e w2 ⟨rfl, hP2, hK2⟩; have HB2 := hid' (below_on HB1.out hP2.bel); obtain ⟨v, b, hh, ho, _, hbl, hor⟩ := hP2.buf; obtain ⟨va, vc, rfl⟩ := own_form ho; have hcell : w2.cell? ⟨w1.heap.size, 0, none⟩ = some (.slice va b.length vc) := (by simp [World.cell?, hh]); have hcv := pq_conv ho; obtain rfl : b = L := buf_small hor hl; have hn : ¬ (1048576 : Int) < b.length := (by omega); clear hP2 hK2 hh ho hor)
        | (go_at_call 6; (with_reducible refine (h6.out _ (below1 _ _)).mono ?_); rintro e w1 ⟨rfl, hb1⟩; obtain ⟨x0, x1, x2, x3, x4, x5⟩ := box6g hb1; have hs1 : w.heap.size < w1.heap.size := (by have := hb1.size; simp at this; omega); have HB1 := hid' (below_call hb1); clear hb1))
      go_ret2
      exact ⟨rfl, HB2.out⟩
    · rw [if_neg hl]
      go_enter Tryz.func9, Tryz.ntmps9
      go_wp2_with (first
        | (go_at_call 21; (with_reducible refine (HA.out w1 _ _ [] HB1.out (pt_new w1)).mono ?_); rintro e w2 ⟨rfl, hP2, hK2⟩; have HB2 := hid' (below_on HB1.out hP2.bel); obtain ⟨v, b, hh, ho, _, hbl, hor⟩ := hP2.buf; obtain ⟨va, vc, rfl⟩ := own_form ho; have hcell : w2.cell? ⟨w1.heap.size, 0, none⟩ = some (.slice va b.length vc) := (by simp [World.cell?, hh]); have hcv := pq_conv ho; have hn : (1048576 : Int) < b.length := buf_long hor hl; clear hP2 hK2 hh ho hor)
        | (go_at_call 6; (with_reducible refine (h6.out _ (below1 _ _)).mono ?_); rintro e w1 ⟨rfl, hb1⟩; obtain ⟨x0, x1, x2, x3, x4, x5⟩ := box6g hb1; have hs1 : w.heap.size < w1.heap.size := (by have := hb1.size; simp at this; omega); have HB1 := hid' (below_call hb1); clear hb1))
      go_ret2
      exact ⟨rfl, HB2.out⟩
  · have hc80 : chkF mayN x ks = 80 := by
      have : chkF mayN x ks = 0 ∨ chkF mayN x ks = 80 := by
        unfold chkF
        split
        · exact .inl rfl
        · exact .inr rfl
      omega
    rw [hc80] at h6 ⊢
    unfold printV
    rw [if_neg (by decide)]
    clear hK ht hz hc hc80
    unfold ndV at h6 ⊢
    go_enter Tryz.func9, Tryz.ntmps9
    go_wp2_with (go_at_call 6; (with_reducible refine (h6.out _ (below1 _ _)).mono ?_); rintro e w1 ⟨rfl, hb1⟩; have HB1 := hid' (below_call hb1); clear hb1)
    go_ret2
    exact ⟨rfl, HB1.out⟩

theorem print_form (c : Int) (L : List UInt8) : ∃ S k, printV c L = .tuple #[.string S, .int .i64 k] := by
  unfold printV
  split
  · split
    · exact ⟨_, _, rfl⟩
    · exact ⟨_, _, rfl⟩
  · exact ⟨_, _, rfl⟩

set_option maxHeartbeats 8000000 in
set_option maxRecDepth 20000 in
theorem prints4 {cb n : Nat} {w : World} {x : NdH} {kv : Value} {ks : List Tr} (hT : TabOk w) (hK : Ks cb n w kv ks) (ht : allT typedN (Tr.node x ks) = true) (hz : allT tinyN (Tr.node x ks) = true) :
    Calls Tryz.prog 4 #[ndV x kv] w fun e w' => e = .returned (.bool true) ∧ Below w.heap.size w w' := by
  have h8 : Hid (∀ W, Below w.heap.size w W → Calls Tryz.prog 8 #[ndV x kv] W fun e w' => e = .returned (printV (chkF mayN x ks) (spellT qtL (Tr.node x ks))) ∧ Below W.heap.size W w') := fun W hb => print_all (hT.below hb) ht (hK.below hb)
  have h9 : Hid (∀ W, Below w.heap.size w W → Calls Tryz.prog 9 #[ndV x kv] W fun e w' => e = .returned (printV (chkF mayN x ks) (spellT qtL (Tr.node x ks))) ∧ Below W.heap.size W w') := fun W hb => rprint9 (hK.below hb) ht hz
  obtain ⟨S, k, e⟩ := print_form (chkF mayN x ks) (spellT qtL (Tr.node x ks))
  rw [e] at h8 h9
  clear e hK ht hz hT
  unfold ndV at h8 h9 ⊢
  go_enter Tryz.func4, Tryz.ntmps4
  go_wp2_with (first
    | (go_at_call 7; (with_reducible refine (awake10 _).mono ?_); rintro e w3 ⟨rfl, hb3⟩; have HB3 := hid' (below_on HB2.out hb3); clear hb3)
    | (go_at_call 9; (with_reducible refine (h9.out _ HB1.out).mono ?_); rintro e w2 ⟨rfl, hb2⟩; have HB2 := hid' (below_on HB1.out hb2); clear hb2)
    | (go_at_call 8; (with_reducible refine (h8.out _ (below1 _ _)).mono ?_); rintro e w1 ⟨rfl, hb1⟩; obtain ⟨x0, x1, x2, x3, x4, x5⟩ := box6g hb1; have HB1 := hid' (below_call hb1); clear hb1))
  go_ret
  exact ⟨rfl, HB3.out⟩
end Go.Proofs.YtnnnfabpceapcaaGreatDoor

namespace Go.Proofs.YtnnnfabpceapcaaGreatDoor
open Go.ChangeShapes Go.WideShapes Go.ChangeAt Go.RowKit
set_option linter.unusedVariables false
set_option linter.unusedSimpArgs false

section
variable {H : Type} {enc : TypeId × Value → H}
def tyN (x : NdH) (ks : List Tr) : Bool := typedN x ks && tinyN x ks
theorem bulk_mem : ∀ {ds : List (DataW H)} {d : DataW H}, d ∈ ds → Rows.uptoBulk d ≤ Rows.uptoBulkAll ds
  | e :: r, d, h => by
    rw [Rows.uptoBulkAll]
    rcases List.mem_cons.1 h with rfl | h
    · omega
    · have := bulk_mem h
      omega

set_option maxRecDepth 20000 in
theorem open_six3 {W : World} {base : Nat} {sp : Nat → Bool} {held : Bool} {fuel : Nat} {cs : List Value} {x : DataW H × List MemPlace} (h : DataW.trod enc Tryz.prog W base sp held fuel 25 cs = some x) (hw : Rows.uptoBulk x.1 ≤ 1048576) :
    ∃ (nd : NdH) (kv : Value) (n : Nat) (y : DataW H × List MemPlace), fuel = n + 1 ∧ cs = [.int .i64 nd.kind, .string nd.str, .int .u32 nd.num, .bool nd.flag, kv, .int .i64 nd.pos] ∧ DataW.trod enc Tryz.prog W base sp held n 23 [kv] = some y ∧ Rows.uptoBulk y.1 ≤ 1048576 ∧ ∀ ks, tyN nd ks = true := by
  obtain ⟨xs, n, hf, hx, hl, hlen, hg⟩ := DataW.trod_struct Tryz.underlying25 h
  rw [cells25] at hl
  match cs, hl with
  | [c0, c1, c2, c3, c4, c5], _ =>
    match xs, hlen with
    | [y0, y1, y2, y3, y4, y5], _ =>
      have g0 := hg 0 _ rfl
      have g1 := hg 1 _ rfl
      have g2 := hg 2 _ rfl
      have g3 := hg 3 _ rfl
      have g4 := hg 4 _ rfl
      have g5 := hg 5 _ rfl
      simp [cells23, cells3, cells9, cells22, cells4] at g0 g1 g2 g3 g4 g5
      obtain ⟨x0, e0, _, w0⟩ := DataW.trod_int Tryz.underlying3 g0
      obtain ⟨x1, e1, f1, w1⟩ := DataW.trod_string Tryz.underlying9 g1
      obtain ⟨x2, e2, _, w2⟩ := DataW.trod_int Tryz.underlying22 g2
      obtain ⟨x3, e3, _⟩ := DataW.trod_bool Tryz.underlying4 g3
      obtain ⟨x5, e5, _, w5⟩ := DataW.trod_int Tryz.underlying3 g5
      simp at e0 e1 e2 e3 e5
      subst e0 e1 e2 e3 e5
      rw [hx] at hw
      have hp : Rows.uptoBulkAll [y0.1, y1.1, y2.1, y3.1, y4.1, y5.1] + 1 ≤ 1048576 := hw
      simp only [Rows.uptoBulkAll] at hp
      have hw1 : Rows.uptoBulk y1.1 ≤ 1048576 := by omega
      have hw4 : Rows.uptoBulk y4.1 ≤ 1048576 := by omega
      clear hp hw
      refine ⟨⟨x0, x1, x2, x3, x5⟩, c4, n, y4, hf, rfl, g4, hw4, fun ks => ?_⟩
      rw [f1] at hw1
      have hw2 : x1.data.toList.length + 1 ≤ 1048576 := hw1
      have hs' : x1.size ≤ 1048576 := by
        have e : x1.size = x1.data.toList.length := Array.length_toList.symm
        rw [e]
        omega
      have hn : 0 ≤ x2 ∧ x2 < 4294967296 := by
        simp [Lit.wf] at w2
        have h1 : IntKind.u32.min = 0 := by decide
        have h2 : IntKind.u32.max = 4294967295 := by decide
        rw [h1, h2] at w2
        omega
      unfold tyN tinyN typedN smallN
      simp only [Bool.and_eq_true, decide_eq_true_eq]
      exact ⟨⟨by omega, hn⟩, hs'⟩

set_option maxRecDepth 20000 in
/-- A slice of trees. -/
theorem open_kids3 {W : World} {sp : Nat → Bool} {held : Bool} {cb : Nat} (hcb : W.heap.size ≤ cb) : ∀ (fuel : Nat) {c : Value} {x : DataW H × List MemPlace}, DataW.trod enc Tryz.prog W 0 sp held fuel 23 [c] = some x → Rows.uptoBulk x.1 ≤ 1048576 → ∃ ks, Ks cb fuel W c ks ∧ allL tyN ks = true := fun fuel => by
  induction fuel using Nat.strongRecOn with
  | ind fuel ih =>
  intro c x h hw
  rcases DataW.trod_slice Tryz.underlying23 h with ⟨hcs, _⟩ | ⟨a, len, cap, elems, rest, n, rfl, hcs, hxe, _, hlc, hcm, hel, hx, _, _⟩
  · simp at hcs
    subst hcs
    cases fuel with
    | zero => exact ⟨[], ⟨rfl, _, _, rfl⟩, rfl⟩
    | succ n => exact ⟨[], by rw [Ks]; exact ⟨by simp, _, _, rfl, fun i hi => by simp at hi⟩, rfl⟩
  · simp at hcs
    subst hcs
    rw [hxe] at hw
    have hwe : ∀ i (hi : i < elems.length), Rows.uptoBulk (elems[i]).1 ≤ 1048576 := fun i hi => Nat.le_trans (bulk_mem (ds := elems.map (·.1)) (d := (elems[i]).1) (List.mem_map.2 ⟨elems[i], List.getElem_mem hi, rfl⟩)) (Nat.le_trans (Nat.le_trans (Nat.le_add_right _ _) (Nat.le_add_right _ 1)) hw)
    rw [cells25] at hx
    have hsp : 0 < len → a.spot = none := fun h0 => by
      have hi' := hx 0 h0
      rw [List.getElem?_eq_getElem (by omega)] at hi'
      obtain ⟨cs', h1, h2⟩ := Option.bind_eq_some_iff.1 hi'
      obtain ⟨_, hlen', hcell⟩ := World.cells?_some h1
      obtain ⟨nd, kv, m, y, hm, rfl, h3⟩ := open_six h2
      have hc0 := hcell 0 (by omega)
      rw [Deep.add_add] at hc0
      simp at hc0
      simpa [Addr.add] using World.cell?_spot hc0
    haveI : Inhabited Tr := ⟨Tr.node ⟨0, ⟨#[]⟩, 0, false, 0⟩ []⟩
    obtain ⟨V, hV⟩ := Deep.choose_lt (α := Tr) (n := len) (p := fun i t => (∃ b off x kv ks', a = ⟨b, off, none⟩ ∧ (b < W.heap.size ∧ b ≠ cb) ∧ t = Tr.node x ks' ∧ NdAt W b (off + i * 6) x kv ∧ Ks cb n W kv ks') ∧ allT tyN t = true) (fun i hi => by
      have hi' := hx i hi
      rw [List.getElem?_eq_getElem (by omega)] at hi'
      obtain ⟨cs', h1, h2⟩ := Option.bind_eq_some_iff.1 hi'
      obtain ⟨_, hlen', hcell⟩ := World.cells?_some h1
      obtain ⟨nd, kv, m, y, hm, rfl, h3, h4, h5⟩ := open_six3 h2 (hwe i (by omega))
      subst hm
      obtain ⟨ks', hks, hty⟩ := ih m (by omega) h3 h4
      obtain ⟨b, off, spot⟩ := a
      have hspot : spot = none := hsp (by omega)
      subst hspot
      have hc0 := hcell 0 (by omega)
      have hc1 := hcell 1 (by omega)
      have hc2 := hcell 2 (by omega)
      have hc3 := hcell 3 (by omega)
      have hc4 := hcell 4 (by omega)
      have hc5 := hcell 5 (by omega)
      rw [Deep.add_add] at hc0 hc1 hc2 hc3 hc4 hc5
      simp at hc0 hc1 hc2 hc3 hc4 hc5
      have hadd : ∀ k, (⟨b, off, none⟩ : Addr).add k = ⟨b, off + k, none⟩ := fun k => by unfold Addr.add; split <;> simp_all
      rw [hadd] at hc0 hc1 hc2 hc3 hc4 hc5
      have hbW : b < W.heap.size := World.block_lt_of_cell? W _ hc0
      exact ⟨Tr.node nd ks', ⟨b, off, nd, kv, ks', rfl, ⟨hbW, by omega⟩, rfl, ⟨hc0, hc1, hc2, hc3, hc4, hc5⟩, hks.up⟩, by rw [allT_node, h5 ks', hty]; rfl⟩)
    refine ⟨(List.range len).map V, ?_, ?_⟩
    · rw [Ks]
      refine ⟨by simp; unfold maxLen at hcm; omega, some a, cap, by simp, fun i hi => ?_⟩
      simp at hi
      obtain ⟨b, off, x, kv, ks', e, hlt, he, hc, hk⟩ := (hV i hi).1
      exact ⟨b, off, x, kv, ks', by rw [e], hlt, ⟨by simp [he], by simp; omega⟩, hc, hk⟩
    · unfold allL
      simp only [List.all_map, List.all_eq_true, List.mem_range]
      exact fun i hi => (hV i hi).2

set_option maxRecDepth 20000 in
/-- A tree that came in. -/
theorem open_tree3 {W : World} {b0 : Nat} {r : Reach} {v : Value} {d : DataW H} {sp : Nat → Bool} {held : Bool} {p : List MemPlace} (hv : Value.okWide Tryz.prog W r b0 25 v) (h : DataW.Trod enc Tryz.prog W 0 sp held 25 v d p) (hw : Rows.uptoBulk d ≤ 1048576) :
    ∃ (nd : NdH) (kv : Value) (n : Nat) (ks : List Tr), v = ndV nd kv ∧ Ks W.heap.size n W kv ks ∧ allT typedN (Tr.node nd ks) = true ∧ allT tinyN (Tr.node nd ks) = true := by
  obtain ⟨cs, rfl, hsz⟩ := okWide_struct Tryz.underlying25 hv
  obtain ⟨l⟩ := cs
  obtain ⟨fuel, hf⟩ := h
  obtain ⟨nd, kv, n, y, _, e, h3, h4, h5⟩ := open_six3 hf hw
  obtain ⟨ks, hks, hty⟩ := open_kids3 (Nat.le_refl W.heap.size) n h3 h4
  have hall : allT tyN (Tr.node nd ks) = true := by rw [allT_node, h5 ks, hty]; rfl
  have hi : isT (Tr.node nd ks) = true := by rw [isT_node]; exact hks.isL
  refine ⟨nd, kv, n, ks, ?_, hks, allT_imp (fun x ks h => by unfold tyN at h; rw [Bool.and_eq_true] at h; exact h.1) _ _ (Nat.le_refl _) hi hall, allT_imp (fun x ks h => by unfold tyN at h; rw [Bool.and_eq_true] at h; exact h.2) _ _ (Nat.le_refl _) hi hall⟩
  have e' : l = [.int .i64 nd.kind, .string nd.str, .int .u32 nd.num, .bool nd.flag, kv, .int .i64 nd.pos] := by simpa [Value.cells] using e
  rw [e']
  rfl
end
end Go.Proofs.YtnnnfabpceapcaaGreatDoor

namespace Go.Proofs.YtnnnfabpceapcaaGreatDoor.astPrints
open Go.ChangeShapes Go.WideShapes Go.ChangeAt Go.RowKit
set_option linter.unusedVariables false
set_option linter.unusedSimpArgs false

theorem gT : Tryz.prog.globalNamed "internal/strconv.uint64pow10" = some 0 := by kernel_rfl
theorem gTType : (Tryz.prog.globals[0]?).map (·.type) = some 114 := by kernel_rfl
/-- The table of tens stands. -/
theorem tab_ok {W : World} (h : laidMetH Tryz.prog laidV W) : TabOk W := by
  have h' : laidMet Tryz.prog laidV W := h
  obtain ⟨ps, h1, _⟩ := h'
  obtain ⟨_, _, _, _, _, _, _, _, _, _, h2, _⟩ := h1
  obtain ⟨_, _, _, _, _, _, _, _, _, _, h3, _⟩ := h2
  obtain ⟨g', t', cs, fuel, p, q, hg', ht', hvar, hd, _⟩ := h3
  obtain rfl := Option.some.inj (gT.symm.trans hg')
  obtain rfl := Option.some.inj (gTType.symm.trans ht')
  have hd' : DataW.trod (fun _ => ()) Tryz.prog W 0 (fun _ => true) false fuel 114 cs.toList = some (Lib.tabData .u64 Lib.pow10Tab, p) := hd
  unfold TabOk Lib.TabIs
  rw [hvar, ← Lib.cells_of_tab Tryz.underlying114 Tryz.underlying99 (by kernel_rfl) (by kernel_rfl) hd']

set_option maxRecDepth 20000 in
theorem contract (H : Type) (enc : TypeId × Value → H) (W : World) (base : Nat) (args : Array Value) (ds gs : List (DataW H)) (before : List MemPlace)
    (hval : ∀ (j : Nat) t v, Tryz.f4.params[j]? = some t → args[j]? = some v → Value.okWide Tryz.prog W .any base t v)
    (hW : DataW.Whole enc Tryz.prog Tryz.f4.params.toList Rows.astPrintsSpec.vars false W args.toList ds gs before)
    (hk : Rows.uptoSmall H (ds ++ gs) = true) (ht : TabOk W) :
    Calls Tryz.prog 4 args W fun e W' => ∃ v, e = .returned v ∧ Rows.astPrintsSpec.post enc Tryz.prog Tryz.f4 false true false false W args v W' := by
  have hW' := hW
  obtain ⟨p, q, hA0, hV, rfl, hfz, hnd⟩ := hW
  have hA : DataW.TrodAll enc Tryz.prog W 0 (fun _ => true) true Tryz.f4.params.toList args.toList ds p := hA0
  rw [Tryz.params4] at hA hval
  obtain ⟨v0, vs0, d0, ds0, p0, q0, hargs, rfl, rfl, h0, r0⟩ := trodAll_cons hA
  obtain ⟨rfl, rfl, rfl⟩ := trodAll_nil r0
  obtain rfl : args = #[v0] := by cases args; simp_all
  obtain ⟨rfl, rfl⟩ := trodVars_none hV
  have hk' : Rows.uptoSmall H [d0] = true := by simpa only [List.append_nil] using hk
  have hb : Rows.uptoBulkAll [d0] ≤ 1048576 := of_decide_eq_true hk'
  have hbd : Rows.uptoBulk d0 ≤ 1048576 := hb
  obtain ⟨nd, kv, n, ks, rfl, hK, hty, htn⟩ := open_tree3 (hval 0 25 v0 rfl rfl) h0 hbd
  clear hA0
  simp only [List.append_nil] at hW'
  have hlt : ∀ x ∈ p0, x.block < W.heap.size := fun x hx => hW'.lt x (by simpa using hx)
  refine (prints4 ht hK hty htn).mono fun e W' ⟨he, hb'⟩ => ?_
  subst he
  exact ⟨_, rfl, post_kept hW' (fun _ _ _ => trodAll_cons_mk (shut_bool Tryz.underlying4 _) trodAll_mk0)
    (trodAll_cons_mk (Below.trod laidOut (by kernel_rfl) (of_decide_eq_true (by kernel_rfl)) h0 hb' hlt) trodAll_mk0) (fun _ => rfl) hb'⟩

theorem witness_row (os : Os) {H : Type} (enc : TypeId × Value → H) :
    (Rows.OpenSpec.upto Rows.astPrintsSpec).preRow enc Tryz.prog Tryz.f4 Rows.astPrintsUptoRow.domain false Rows.astPrintsUptoRow.laid ((World.doorLaid Tryz.prog 4000 os).forCall (fun _ _ => 0) ⟨#[], #[.agg #[.int .i64 0, .string ⟨#[]⟩, .int .u32 0, .bool false, .slice none 0 0, .int .i64 0]], []⟩).memory #[.agg #[.int .i64 0, .string ⟨#[]⟩, .int .u32 0, .bool false, .slice none 0 0, .int .i64 0]] := by
  have hw : (DataW.whole enc Tryz.prog ((World.doorLaid Tryz.prog 4000 os).forCall (fun _ _ => 0) ⟨#[], #[.agg #[.int .i64 0, .string ⟨#[]⟩, .int .u32 0, .bool false, .slice none 0 0, .int .i64 0]], []⟩).memory Tryz.f4.params.toList (Rows.OpenSpec.upto Rows.astPrintsSpec).vars false (Array.toList #[.agg #[.int .i64 0, .string ⟨#[]⟩, .int .u32 0, .bool false, .slice none 0 0, .int .i64 0]]) 8).map (fun x => (x.1, x.2.1)) =
      some ([.agg [.lit (.int .i64 0), .lit (.string []), .lit (.int .u32 0), .lit (.bool false), .nil, .lit (.int .i64 0)]], []) := by kernel_rfl
  obtain ⟨⟨x1, x2, x3⟩, hx, hx1⟩ := Option.map_eq_some_iff.1 hw
  simp only [Prod.mk.injEq] at hx1
  obtain ⟨rfl, rfl⟩ := hx1
  exact OpenSpec.preRow_of_cond 8 hx (by kernel_rfl) (fun k hk => by obtain rfl := Option.some.inj hk; kernel_rfl) (by kernel_rfl) (door_met os _)

set_option maxRecDepth 100000 in
theorem lifted (os : Os) (started : os.Started) (H : Type) (enc : TypeId × Value → H) (F : Stop.Interp) :
    ReturnsInHanded {} Tryz.checked os 4 .any ((Rows.OpenSpec.upto Rows.astPrintsSpec).preRow enc Tryz.prog Tryz.f4 Rows.astPrintsUptoRow.domain false Rows.astPrintsUptoRow.laid)
      (((Rows.OpenSpec.upto Rows.astPrintsSpec).at F).post enc Tryz.prog Tryz.f4 false true false false) := by
  refine returnsInHanded_of_row (C := Tryz.checked) (s := Rows.OpenSpec.upto Rows.astPrintsSpec) own started (by kernel_rfl) Tryz.func4
    (witness_row_atRef (enc := enc) (C := Tryz.checked) false (World.doorLaid Tryz.prog 4000 os) #[.agg #[.int .i64 0, .string ⟨#[]⟩, .int .u32 0, .bool false, .slice none 0 0, .int .i64 0]] rfl (by kernel_rfl) (by kernel_rfl) (by kernel_rfl) (witness_row os enc)) ?_
  intro W base args ds gs before hval hW _ hk _ hL _ _
  exact contract H enc W base args ds gs before hval hW (hk _ rfl) (tab_ok hL)

theorem row_holds : Rows.AstPrintsUptoSaid :=
  OpenClaim.holds_of_cond 4 Tryz.f4 rfl rfl rfl rfl rfl rfl rfl ⟨rfl, rfl, rfl, rfl, rfl⟩ rfl rfl rfl rfl rfl (by kernel_rfl) Tryz.func4 (by kernel_rfl)
    (of_decide_eq_true (by kernel_rfl)) (by unfold Func.isWrapper; first | (rw [if_pos (by decide +kernel)]; kernel_rfl) | (rw [if_neg (by decide +kernel)]; exact ⟨rfl, rfl⟩))
    (fun os started H enc _ F => by rw [OpenClaim.pre_eq_preRow]; exact lifted os started H enc F)
end Go.Proofs.YtnnnfabpceapcaaGreatDoor.astPrints
namespace Go.Proofs.YtnnnfabpceapcaaGreatDoor
open Go
theorem astPrintsUptoCard_holds : Rows.AstPrintsUptoCardSaid :=
  Claim7.holds_tied_plain_at .later [] [.data, .data, .data] true (true, "b54db685c6eb0984367ea59de440e89485c11492d281c61760c687d1a811a56b") false
    astPrints.row_holds (fun _ h => by cases h) (by kernel_rfl) (fun _ h => by cases h) astPrintsUpto_row_tie rfl ⟨rfl, rfl⟩ (by kernel_rfl) rfl
    (fun f fn hf hfn => by
      obtain rfl : f = 4 := Option.some.inj ((show Tryz.prog.funcNamed "crucible/cruciblelaw08.AstPrints" = some 4 by kernel_rfl).symm.trans hf) |>.symm
      obtain rfl : fn = Tryz.f4 := (Option.some.inj (Tryz.func4.symm.trans hfn)).symm
      exact ⟨by kernel_rfl, fun j t ht => by
        rw [Tryz.params4] at ht
        have hm : t ∈ [25] := by simpa using Array.mem_of_getElem? ht
        have hall : ([25].all fun u => !Tryz.prog.wantsStandIn u) = true := by kernel_rfl
        exact (show Tryz.prog.wantsStandIn t = false by simpa using List.all_eq_true.1 hall t hm)⟩)
    (by kernel_rfl)
#print axioms astPrintsUptoCard_holds
end Go.Proofs.YtnnnfabpceapcaaGreatDoor
