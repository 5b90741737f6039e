/- A tree that came in, with the bounds of its texts and numbers. -/
import Derived.Test.YtnnnfabpceapcaaGreatDoorOpen
import Derived.Test.YtnnnfabpceapcaaGreatDoorAllK
import Derived.SizedLaws
import Derived.Test.YtnnnfabpceapcaaGreatDoorRStW
import Derived.Test.YtnnnfabpceapcaaGreatDoorCheckW
import Derived.Test.YtnnnfabpceapcaaGreatDoorCount
import Derived.Test.YtnnnfabpceapcaaGreatDoorQuiet
import Derived.Test.YtnnnfabpceapcaaGreatDoorSpellP
import Derived.Test.YtnnnfabpceapcaaGreatDoorLawS
import Derived.Deep.QuietTactic
namespace Go.Proofs.YtnnnfabpceapcaaGreatDoor
set_option linter.unusedSimpArgs false
set_option linter.unusedSimpArgs false
open Go.ChangeShapes Go.WideShapes Go.ChangeAt Go.RowKit
set_option linter.unusedVariables false
section
variable {H : Type} {enc : TypeId × Value → H}
theorem weights_all {P : Program} {e : TypeId} : ∀ {ds : List (DataW H)} {d : DataW H}, d ∈ ds → ∀ n ∈ d.weights P e, n ∈ DataW.weightsAll P e ds
  | [], _, h, _, _ => by simp at h
  | c :: r, d, h, n, hn => by
    rw [DataW.weightsAll, List.mem_append]
    rw [List.mem_cons] at h
    rcases h with rfl | h
    · exact .inl hn
    · exact .inr (weights_all h n hn)
set_option maxRecDepth 20000 in
theorem open_six2 {W : World} {base : Nat} {sp : Nat → Bool} {held : Bool} {fuel : Nat} {cs : List Value} {x : DataW H × List MemPlace} (h : DataW.trod enc Tryz.prog W base sp held fuel 25 cs = some x) (hw : ∀ m ∈ x.1.weights Tryz.prog 25, m ≤ reachBytes) :
    ∃ (nd : NdH) (kv : Value) (n : Nat) (y : DataW H × List MemPlace), fuel = n + 1 ∧ cs = [.int .i64 nd.kind, .string nd.str, .int .u32 nd.num, .bool nd.flag, kv, .int .i64 nd.pos] ∧ DataW.trod enc Tryz.prog W base sp held n 23 [kv] = some y ∧ (∀ m ∈ y.1.weights Tryz.prog 23, m ≤ reachBytes) ∧ ∀ ks, typedN nd ks = true := by
  obtain ⟨xs, n, hf, hx, hl, hlen, hg⟩ := DataW.trod_struct Tryz.underlying25 h
  rw [cells25] at hl
  match cs, hl with
  | [c0, c1, c2, c3, c4, c5], _ =>
    match xs, hlen with
    | [y0, y1, y2, y3, y4, y5], _ =>
      have g0 := hg 0 _ rfl
      have g1 := hg 1 _ rfl
      have g2 := hg 2 _ rfl
      have g3 := hg 3 _ rfl
      have g4 := hg 4 _ rfl
      have g5 := hg 5 _ rfl
      simp [cells23, cells3, cells9, cells22, cells4] at g0 g1 g2 g3 g4 g5
      obtain ⟨x0, e0, _, w0⟩ := DataW.trod_int Tryz.underlying3 g0
      obtain ⟨x1, e1, f1, w1⟩ := DataW.trod_string Tryz.underlying9 g1
      obtain ⟨x2, e2, _, w2⟩ := DataW.trod_int Tryz.underlying22 g2
      obtain ⟨x3, e3, _⟩ := DataW.trod_bool Tryz.underlying4 g3
      obtain ⟨x5, e5, _, w5⟩ := DataW.trod_int Tryz.underlying3 g5
      simp at e0 e1 e2 e3 e5
      subst e0 e1 e2 e3 e5
      rw [hx] at hw
      simp only [DataW.weights, Tryz.underlying25] at hw
      refine ⟨⟨x0, x1, x2, x3, x5⟩, c4, n, y4, hf, rfl, g4, fun m hm => hw m (DataW.weights_mem_each (j := 4) (t := 23) (d := y4.1) rfl rfl m hm), fun ks => ?_⟩
      have hs := hw x1.size (DataW.weights_mem_each (j := 1) (t := 9) (d := y1.1) rfl rfl _ (by rw [f1]; simp [DataW.weights]))
      have hs' : x1.size ≤ 0x7ffffffff000 := hs
      have hn : 0 ≤ x2 ∧ x2 < 4294967296 := by
        simp [Lit.wf] at w2
        have h1 : IntKind.u32.min = 0 := by decide
        have h2 : IntKind.u32.max = 4294967295 := by decide
        rw [h1, h2] at w2
        omega
      unfold typedN smallN
      simp only [Bool.and_eq_true, decide_eq_true_eq]
      exact ⟨by omega, hn⟩

set_option maxRecDepth 20000 in
/-- A slice of trees. -/
theorem open_kids2 {W : World} {sp : Nat → Bool} {held : Bool} {cb : Nat} (hcb : W.heap.size ≤ cb) : ∀ (fuel : Nat) {c : Value} {x : DataW H × List MemPlace}, DataW.trod enc Tryz.prog W 0 sp held fuel 23 [c] = some x → (∀ m ∈ x.1.weights Tryz.prog 23, m ≤ reachBytes) → ∃ ks, Ks cb fuel W c ks ∧ allL typedN ks = true := fun fuel => by
  induction fuel using Nat.strongRecOn with
  | ind fuel ih =>
  intro c x h hw
  rcases DataW.trod_slice Tryz.underlying23 h with ⟨hcs, _⟩ | ⟨a, len, cap, elems, rest, n, rfl, hcs, hxe, _, hlc, hcm, hel, hx, _, _⟩
  · simp at hcs
    subst hcs
    cases fuel with
    | zero => exact ⟨[], ⟨rfl, _, _, rfl⟩, rfl⟩
    | succ n => exact ⟨[], by rw [Ks]; exact ⟨by simp, _, _, rfl, fun i hi => by simp at hi⟩, rfl⟩
  · simp at hcs
    subst hcs
    rw [hxe] at hw
    simp only [DataW.weights, Tryz.underlying23] at hw
    have hwe : ∀ i (hi : i < elems.length), ∀ m ∈ (elems[i]).1.weights Tryz.prog 25, m ≤ reachBytes := fun i hi m hm => hw m (by
      rw [List.mem_cons, List.mem_append]
      exact .inr (.inl (weights_all (List.mem_map.2 ⟨elems[i], List.getElem_mem hi, rfl⟩) m hm)))
    rw [cells25] at hx
    have hsp : 0 < len → a.spot = none := fun h0 => by
      have hi' := hx 0 h0
      rw [List.getElem?_eq_getElem (by omega)] at hi'
      obtain ⟨cs', h1, h2⟩ := Option.bind_eq_some_iff.1 hi'
      obtain ⟨_, hlen', hcell⟩ := World.cells?_some h1
      obtain ⟨nd, kv, m, y, hm, rfl, h3⟩ := open_six h2
      have hc0 := hcell 0 (by omega)
      rw [Deep.add_add] at hc0
      simp at hc0
      simpa [Addr.add] using World.cell?_spot hc0
    haveI : Inhabited Tr := ⟨Tr.node ⟨0, ⟨#[]⟩, 0, false, 0⟩ []⟩
    obtain ⟨V, hV⟩ := Deep.choose_lt (α := Tr) (n := len) (p := fun i t => (∃ b off x kv ks', a = ⟨b, off, none⟩ ∧ (b < W.heap.size ∧ b ≠ cb) ∧ t = Tr.node x ks' ∧ NdAt W b (off + i * 6) x kv ∧ Ks cb n W kv ks') ∧ allT typedN t = true) (fun i hi => by
      have hi' := hx i hi
      rw [List.getElem?_eq_getElem (by omega)] at hi'
      obtain ⟨cs', h1, h2⟩ := Option.bind_eq_some_iff.1 hi'
      obtain ⟨_, hlen', hcell⟩ := World.cells?_some h1
      obtain ⟨nd, kv, m, y, hm, rfl, h3, h4, h5⟩ := open_six2 h2 (hwe i (by omega))
      subst hm
      obtain ⟨ks', hks, hty⟩ := ih m (by omega) h3 h4
      obtain ⟨b, off, spot⟩ := a
      have hspot : spot = none := hsp (by omega)
      subst hspot
      have hc0 := hcell 0 (by omega)
      have hc1 := hcell 1 (by omega)
      have hc2 := hcell 2 (by omega)
      have hc3 := hcell 3 (by omega)
      have hc4 := hcell 4 (by omega)
      have hc5 := hcell 5 (by omega)
      rw [Deep.add_add] at hc0 hc1 hc2 hc3 hc4 hc5
      simp at hc0 hc1 hc2 hc3 hc4 hc5
      have hadd : ∀ k, (⟨b, off, none⟩ : Addr).add k = ⟨b, off + k, none⟩ := fun k => by unfold Addr.add; split <;> simp_all
      rw [hadd] at hc0 hc1 hc2 hc3 hc4 hc5
      have hbW : b < W.heap.size := World.block_lt_of_cell? W _ hc0
      exact ⟨Tr.node nd ks', ⟨b, off, nd, kv, ks', rfl, ⟨hbW, by omega⟩, rfl, ⟨hc0, hc1, hc2, hc3, hc4, hc5⟩, hks.up⟩, by rw [allT_node, h5 ks', hty]; rfl⟩)
    refine ⟨(List.range len).map V, ?_, ?_⟩
    · rw [Ks]
      refine ⟨by simp; unfold maxLen at hcm; omega, some a, cap, by simp, fun i hi => ?_⟩
      simp at hi
      obtain ⟨b, off, x, kv, ks', e, hlt, he, hc, hk⟩ := (hV i hi).1
      exact ⟨b, off, x, kv, ks', by rw [e], hlt, ⟨by simp [he], by simp; omega⟩, hc, hk⟩
    · unfold allL
      simp only [List.all_map, List.all_eq_true, List.mem_range]
      exact fun i hi => (hV i hi).2

set_option maxRecDepth 20000 in
/-- A tree that came in. -/
theorem open_tree2 {W : World} {b0 : Nat} {r : Reach} {v : Value} {d : DataW H} {sp : Nat → Bool} {held : Bool} {p : List MemPlace} (hv : Value.okWide Tryz.prog W r b0 25 v) (h : DataW.Trod enc Tryz.prog W 0 sp held 25 v d p) (hw : ∀ m ∈ d.weights Tryz.prog 25, m ≤ reachBytes) :
    ∃ (nd : NdH) (kv : Value) (n : Nat) (ks : List Tr), v = ndV nd kv ∧ Ks W.heap.size n W kv ks ∧ allT typedN (Tr.node nd ks) = true := by
  obtain ⟨cs, rfl, hsz⟩ := okWide_struct Tryz.underlying25 hv
  obtain ⟨l⟩ := cs
  obtain ⟨fuel, hf⟩ := h
  obtain ⟨nd, kv, n, y, _, e, h3, h4, h5⟩ := open_six2 hf hw
  obtain ⟨ks, hks, hty⟩ := open_kids2 (Nat.le_refl W.heap.size) n h3 h4
  refine ⟨nd, kv, n, ks, ?_, hks, by rw [allT_node, h5 ks, hty]; rfl⟩
  have e' : l = [.int .i64 nd.kind, .string nd.str, .int .u32 nd.num, .bool nd.flag, kv, .int .i64 nd.pos] := by simpa [Value.cells] using e
  rw [e']
  rfl
end
end Go.Proofs.YtnnnfabpceapcaaGreatDoor

namespace Go.Proofs.YtnnnfabpceapcaaGreatDoor
set_option linter.unusedSimpArgs false
open Go.RowKit
set_option linter.unusedVariables false
set_option linter.unusedSimpArgs false

/-- What stands in a program. -/
def topR (t : Tr) : Bool := qR (ofK [41]) t || (varsT false t || qR (ofK [45]) t)
theorem top_q (t : Tr) (ht : isT t = true) : topR t = qR (ofK [41, 42, 45]) t := by
  unfold topR
  rw [varsT_q t ht]
  obtain ⟨x, ks, rfl⟩ := isT_form ht
  rw [qR_node, qR_node, qR_node, qR_node, of_one, of_one, of_one]
  have e : ofK [41, 42, 45] x ks = (x.kind == 41 || (x.kind == 42 || (x.kind == 45 || false))) := rfl
  rw [e]
  cases x.kind == 41 <;> cases x.kind == 42 <;> cases x.kind == 45 <;> cases mayN x ks <;> cases allL mayN ks <;> rfl
theorem chk_is (x : NdH) (ks : List Tr) (hi : isL ks = true) : chkF mayN x ks = if szT (Tr.node x ks) ≤ 262144 ∧ x.kind = 40 ∧ partsF x false false false = true ∧ ks.all topR = true then 0 else 80 := by
  unfold chkF
  have ha : ks.all topR = (allK (ofK [41, 42, 45]) ks && allL mayN ks) := by
    rw [all_r]
    exact all_same fun t ht => top_q t (isL_mem hi t ht)
  by_cases hk : x.kind = 40
  · have e : allT mayN (Tr.node x ks) = (partsF x false false false && ks.all topR) := by
      rw [allT_node, ha]
      obtain ⟨kind, str, num, flag, pos⟩ := x
      dsimp only at hk
      subst hk
      have e : mayN ⟨40, str, num, flag, pos⟩ ks = (str.toList.isEmpty && (decide (num = 0) && (!flag && allK (ofK [41, 42, 45]) ks))) := rfl
      rw [e]
      unfold partsF
      dsimp only
      rw [emp_dec, num_dec]
      cases str.toList.isEmpty <;> cases decide (num = 0) <;> cases flag <;> cases allK (ofK [41, 42, 45]) ks <;> cases allL mayN ks <;> rfl
    rw [e]
    by_cases hs : szT (Tr.node x ks) ≤ 262144
    · cases partsF x false false false <;> cases ks.all topR <;> simp [hk, hs]
    · simp [hs]
  · simp [hk]

/-- What is told of a part of a program. -/
def TopQ (w : World) (ao : Option Addr) (ks : List Tr) : Prop := ∀ (W : World), Below w.heap.size w W → ∀ i (h : i < ks.length), ∃ b off x' ka kn kc A B C, ao = some ⟨b, off, none⟩ ∧ b < W.heap.size ∧ NdAt W b (off + i * 6) x' (.slice ka kn kc) ∧
    topR ks[i] = (A || (B || C)) ∧
    (∀ W', Below W.heap.size W W' → Calls Tryz.prog 16 #[ndV x' (.slice ka kn kc)] W' fun e w' => e = .returned (.bool A) ∧ Below W'.heap.size W' w') ∧
    (∀ W', Below W.heap.size W W' → Calls Tryz.prog 17 #[ndV x' (.slice ka kn kc), .bool false] W' fun e w' => e = .returned (.bool B) ∧ Below W'.heap.size W' w') ∧
    (∀ W', Below W.heap.size W W' → Calls Tryz.prog 18 #[ndV x' (.slice ka kn kc)] W' fun e w' => e = .returned (.bool C) ∧ Below W'.heap.size W' w')
theorem topq {cb n : Nat} {w : World} {ao : Option Addr} {cap : Nat} {ks : List Tr} (hK : Ks cb n w (.slice ao ks.length cap) ks) (hks : allL typedN ks = true) : TopQ w ao ks := fun W hW i hi => by
  obtain ⟨m, b, off, x', kv', ks', hm, e, ⟨hlt, hne⟩, he, hc, hk⟩ := (hK.below hW).kid i hi
  have ht := typed_kid hks i hi
  rw [he] at ht
  obtain ⟨_, ka, kc, rfl⟩ := hk.shape
  refine ⟨b, off, x', ka, ks'.length, kc, recD x' ks', varsD x' ks' false, qR (ofK [45]) (Tr.node x' ks'), e, hlt, hc, ?_, fun W' hW' => record16 (hk.below hW') ht, fun W' hW' => vars17 (hk.below hW') ht false, fun W' hW' => function18 (hk.below hW') ht⟩
  rw [he]
  unfold topR
  rw [varsT_node, rec_q x' ks' hk.isL]

set_option maxHeartbeats 8000000 in
set_option maxRecDepth 20000 in
theorem rcheck6 {cb n : Nat} {w : World} {x : NdH} {kv : Value} {ks : List Tr} (hK : Ks cb n w kv ks) (ht : allT typedN (Tr.node x ks) = true) :
    Calls Tryz.prog 6 #[ndV x kv] w fun e w' => e = .returned (.int .i64 (chkF mayN x ks)) ∧ Below w.heap.size w w' := by
  rw [chk_is x ks hK.isL]
  have h14 : Hid (∀ W, Below w.heap.size w W → Calls Tryz.prog 14 #[ndV x kv] W fun e w' => e = .returned (.int .i64 (szR (Tr.node x ks) : Int)) ∧ Below W.heap.size W w') := fun W hb => size7 (hK.below hb)
  have hz : 1 ≤ szT (Tr.node x ks) := szT_pos _
  rw [allT_node, Bool.and_eq_true] at ht
  obtain ⟨hlen, ao, cap, rfl⟩ := hK.shape
  have HT := hid' (topq hK ht.2)
  have h15 : Hid (∀ W, Calls Tryz.prog 15 _ W _) := fun W => parts15 x ao ks.length cap false false false W
  clear hK ht
  unfold szR at h14
  generalize szT (Tr.node x ks) = T at *
  generalize partsF x false false false = P at *
  unfold ndV at h14 h15 ⊢
  by_cases hT : T ≤ 262144
  · rw [if_pos hT] at h14
    have hT0 : ((T : Int) == 0) = false := by rw [beq_eq_false_iff_ne]; omega
    by_cases hk : x.kind = 40
    · rw [hk] at h14 h15 ⊢
      cases P with
      | false =>
        simp only [hT, true_and, Bool.false_eq_true, false_and, if_false]
        go_enter Tryz.func6, Tryz.ntmps6
        go_wp2_with (first
          | (go_at_call 14; (with_reducible refine (h14.out _ (below1 _ _)).mono ?_); rintro e w1 ⟨rfl, hb1⟩; obtain ⟨x0, x1, x2, x3, x4, x5⟩ := box6g hb1; replace hb1 := hid' (below_call hb1))
          | (go_at_call 15; (with_reducible refine (h15.out _).mono ?_); rintro e w2 ⟨rfl, hb2⟩; replace hb2 := hid' hb2))
        go_ret
        exact ⟨rfl, below_on hb1.out hb2.out⟩
      | true =>
        simp only [hT, true_and]
        obtain ⟨X, hX⟩ : ∃ X : Int, X = if ks.all topR = true then 0 else 80 := ⟨_, rfl⟩
        rw [← hX]
        have HX := hid' hX
        clear hX
        go_enter Tryz.func6, Tryz.ntmps6
        go_wp2_with (first
          | (go_at_call 14; (with_reducible refine (h14.out _ (below1 _ _)).mono ?_); rintro e w1 ⟨rfl, hb1⟩; have hs1 := hb1.size; obtain ⟨x0, x1, x2, x3, x4, x5⟩ := box6g hb1; replace hb1 := hid' (below_call hb1))
          | (go_at_call 15; (with_reducible refine (h15.out _).mono ?_); rintro e w2 ⟨rfl, hb2⟩; have hs2 := hb2.size; have y4 := (hb2.cell (p := ⟨w.heap.size, 4, none⟩) (by simp at hs1; simp; omega)).trans x4; replace hb2 := hid' hb2))
        have hsz : w.heap.size < w2.heap.size := by simp at hs1; omega
        have HB := hid' (below_on hb1.out hb2.out)
        clear x0 x1 x2 x3 x4 x5 hs1 hs2 hb1 hb2
        go_loopw [3] (fun i wr => ∃ j : Nat, j ≤ ks.length ∧ i = .int .i64 (j : Nat) ∧ (∀ m (hm : m < ks.length), m < j → topR ks[m] = true) ∧ Below w2.heap.size w2 wr) (fun i _ => ks.length - (intOf i).toNat)
        case atStart => exact ⟨0, Nat.zero_le _, rfl, fun m _ hm => by omega, Below.refl _ _⟩
        case round =>
          obtain ⟨j, hj, rfl, hok, hBw⟩ := hrel
          have HOK := hid' hok
          have HBW := hid' hBw
          have z4 := (hBw.cell (p := ⟨w.heap.size, 4, none⟩) hsz).trans y4
          have hl' : w.heap.size < wr.heap.size := Nat.lt_of_lt_of_le hsz hBw.size
          clear hok hBw
          by_cases hjt : j < ks.length
          · obtain ⟨b, off, x', ka, kn, kc, A, B, C, rfl, hlb, ⟨c0, c1, c2, c3, c4, c5⟩, htop, hA, hB, hC⟩ := HT.out wr (below_on HB.out HBW.out) j hjt
            have hlt' : (j : Int) < ks.length := by omega
            unfold ndV at hA hB hC
            have HA := hid' hA
            have HBB := hid' hB
            have HC := hid' hC
            have HTP := hid' htop
            clear hA hB hC htop
            cases A with
            | true =>
              have HN : Hid (∀ m (hm : m < ks.length), m < j + 1 → topR ks[m] = true) := fun m hm hmj => by
                by_cases e : m = j
                · subst e; rw [HTP.out]; rfl
                · exact HOK.out m hm (by omega)
              go_wp2_with (first
                | (go_at_call 16; (with_reducible refine (HA.out _ (below1 _ _)).mono ?_); rintro e w4 ⟨rfl, hb4⟩; have hs4 : wr.heap.size < w4.heap.size := (by have := hb4.size; simp at this; omega); obtain ⟨p0, p1, p2, p3, p4, p5⟩ := box6g hb4; replace hb4 := hid' (below_call hb4))
                | (go_at_call 17; (with_reducible refine (HBB.out _ hb4.out).mono ?_); rintro e w5 ⟨rfl, hb5⟩; have q0 := (hb5.cell (p := ⟨wr.heap.size, 0, none⟩) hs4).trans p0; have q1 := (hb5.cell (p := ⟨wr.heap.size, 1, none⟩) hs4).trans p1; have q2 := (hb5.cell (p := ⟨wr.heap.size, 2, none⟩) hs4).trans p2; have q3 := (hb5.cell (p := ⟨wr.heap.size, 3, none⟩) hs4).trans p3; have q4 := (hb5.cell (p := ⟨wr.heap.size, 4, none⟩) hs4).trans p4; have q5 := (hb5.cell (p := ⟨wr.heap.size, 5, none⟩) hs4).trans p5; replace hb5 := hid' (below_on hb4.out hb5))
                | (go_at_call 18; (with_reducible refine (HC.out _ hb5.out).mono ?_); rintro e w6 ⟨rfl, hb6⟩; replace hb6 := hid' (below_on hb5.out hb6)))
              go_roundw
              case rel => exact ⟨j + 1, by omega, by go_num, HN.out, below_on HBW.out hb4.out⟩
              case measure => simp [intOf]; omega
            | false =>
              cases B with
              | true =>
                have HN : Hid (∀ m (hm : m < ks.length), m < j + 1 → topR ks[m] = true) := fun m hm hmj => by
                  by_cases e : m = j
                  · subst e; rw [HTP.out]; rfl
                  · exact HOK.out m hm (by omega)
                go_wp2_with (first
                  | (go_at_call 16; (with_reducible refine (HA.out _ (below1 _ _)).mono ?_); rintro e w4 ⟨rfl, hb4⟩; have hs4 : wr.heap.size < w4.heap.size := (by have := hb4.size; simp at this; omega); obtain ⟨p0, p1, p2, p3, p4, p5⟩ := box6g hb4; replace hb4 := hid' (below_call hb4))
                  | (go_at_call 17; (with_reducible refine (HBB.out _ hb4.out).mono ?_); rintro e w5 ⟨rfl, hb5⟩; have q0 := (hb5.cell (p := ⟨wr.heap.size, 0, none⟩) hs4).trans p0; have q1 := (hb5.cell (p := ⟨wr.heap.size, 1, none⟩) hs4).trans p1; have q2 := (hb5.cell (p := ⟨wr.heap.size, 2, none⟩) hs4).trans p2; have q3 := (hb5.cell (p := ⟨wr.heap.size, 3, none⟩) hs4).trans p3; have q4 := (hb5.cell (p := ⟨wr.heap.size, 4, none⟩) hs4).trans p4; have q5 := (hb5.cell (p := ⟨wr.heap.size, 5, none⟩) hs4).trans p5; replace hb5 := hid' (below_on hb4.out hb5))
                  | (go_at_call 18; (with_reducible refine (HC.out _ hb5.out).mono ?_); rintro e w6 ⟨rfl, hb6⟩; replace hb6 := hid' (below_on hb5.out hb6)))
                go_roundw
                case rel => exact ⟨j + 1, by omega, by go_num, HN.out, below_on HBW.out hb5.out⟩
                case measure => simp [intOf]; omega
              | false =>
                cases C with
                | true =>
                  have HN : Hid (∀ m (hm : m < ks.length), m < j + 1 → topR ks[m] = true) := fun m hm hmj => by
                    by_cases e : m = j
                    · subst e; rw [HTP.out]; rfl
                    · exact HOK.out m hm (by omega)
                  go_wp2_with (first
                    | (go_at_call 16; (with_reducible refine (HA.out _ (below1 _ _)).mono ?_); rintro e w4 ⟨rfl, hb4⟩; have hs4 : wr.heap.size < w4.heap.size := (by have := hb4.size; simp at this; omega); obtain ⟨p0, p1, p2, p3, p4, p5⟩ := box6g hb4; replace hb4 := hid' (below_call hb4))
                    | (go_at_call 17; (with_reducible refine (HBB.out _ hb4.out).mono ?_); rintro e w5 ⟨rfl, hb5⟩; have q0 := (hb5.cell (p := ⟨wr.heap.size, 0, none⟩) hs4).trans p0; have q1 := (hb5.cell (p := ⟨wr.heap.size, 1, none⟩) hs4).trans p1; have q2 := (hb5.cell (p := ⟨wr.heap.size, 2, none⟩) hs4).trans p2; have q3 := (hb5.cell (p := ⟨wr.heap.size, 3, none⟩) hs4).trans p3; have q4 := (hb5.cell (p := ⟨wr.heap.size, 4, none⟩) hs4).trans p4; have q5 := (hb5.cell (p := ⟨wr.heap.size, 5, none⟩) hs4).trans p5; replace hb5 := hid' (below_on hb4.out hb5))
                    | (go_at_call 18; (with_reducible refine (HC.out _ hb5.out).mono ?_); rintro e w6 ⟨rfl, hb6⟩; replace hb6 := hid' (below_on hb5.out hb6)))
                  go_roundw
                  case rel => exact ⟨j + 1, by omega, by go_num, HN.out, below_on HBW.out hb6.out⟩
                  case measure => simp [intOf]; omega
                | false =>
                  have HN : Hid (X = 80) := HX.out.trans (if_neg (fun h => by
                    have := List.all_eq_true.1 h _ (List.getElem_mem hjt)
                    rw [HTP.out] at this
                    exact Bool.noConfusion this))
                  go_wp2_with (first
                    | (go_at_call 16; (with_reducible refine (HA.out _ (below1 _ _)).mono ?_); rintro e w4 ⟨rfl, hb4⟩; have hs4 : wr.heap.size < w4.heap.size := (by have := hb4.size; simp at this; omega); obtain ⟨p0, p1, p2, p3, p4, p5⟩ := box6g hb4; replace hb4 := hid' (below_call hb4))
                    | (go_at_call 17; (with_reducible refine (HBB.out _ hb4.out).mono ?_); rintro e w5 ⟨rfl, hb5⟩; have q0 := (hb5.cell (p := ⟨wr.heap.size, 0, none⟩) hs4).trans p0; have q1 := (hb5.cell (p := ⟨wr.heap.size, 1, none⟩) hs4).trans p1; have q2 := (hb5.cell (p := ⟨wr.heap.size, 2, none⟩) hs4).trans p2; have q3 := (hb5.cell (p := ⟨wr.heap.size, 3, none⟩) hs4).trans p3; have q4 := (hb5.cell (p := ⟨wr.heap.size, 4, none⟩) hs4).trans p4; have q5 := (hb5.cell (p := ⟨wr.heap.size, 5, none⟩) hs4).trans p5; replace hb5 := hid' (below_on hb4.out hb5))
                    | (go_at_call 18; (with_reducible refine (HC.out _ hb5.out).mono ?_); rintro e w6 ⟨rfl, hb6⟩; replace hb6 := hid' (below_on hb5.out hb6)))
                  go_ret
                  exact ⟨by rw [HN.out]; rfl, below_on HB.out (below_on HBW.out hb6.out)⟩
          · have e : j = ks.length := by omega
            subst e
            have HN : Hid (X = 0) := HX.out.trans (if_pos (List.all_eq_true.2 fun t ht => by
              obtain ⟨m, hm, rfl⟩ := List.getElem_of_mem ht
              exact HOK.out m hm hm))
            go_wp2_with fail
            go_ret
            exact ⟨by rw [HN.out]; rfl, below_on HB.out HBW.out⟩
    · simp only [hk, false_and, and_false, if_false]
      have hk' : (x.kind == 40) = false := by rw [beq_eq_false_iff_ne]; exact hk
      go_enter Tryz.func6, Tryz.ntmps6
      go_wp2_with (first
        | (go_at_call 14; (with_reducible refine (h14.out _ (below1 _ _)).mono ?_); rintro e w1 ⟨rfl, hb1⟩; obtain ⟨x0, x1, x2, x3, x4, x5⟩ := box6g hb1; replace hb1 := hid' (below_call hb1)))
      go_ret
      exact ⟨rfl, hb1.out⟩
  · rw [if_neg hT] at h14
    simp only [hT, false_and, if_false]
    go_enter Tryz.func6, Tryz.ntmps6
    go_wp2_with (first
      | (go_at_call 14; (with_reducible refine (h14.out _ (below1 _ _)).mono ?_); rintro e w1 ⟨rfl, hb1⟩; replace hb1 := hid' (below_call hb1)))
    go_ret
    exact ⟨rfl, hb1.out⟩
end Go.Proofs.YtnnnfabpceapcaaGreatDoor

namespace Go.Proofs.YtnnnfabpceapcaaGreatDoor
set_option linter.unusedSimpArgs false
open Go.RowKit
set_option linter.unusedVariables false
set_option linter.unusedSimpArgs false

set_option maxHeartbeats 4000000 in
theorem checks3 {cb n : Nat} {w : World} {x : NdH} {kv : Value} {ks : List Tr} (hK : Ks cb n w kv ks) (hg : allT typedN (Tr.node x ks) = true) :
    Calls Tryz.prog 3 #[ndV x kv] w fun e w' => e = .returned (.bool true) ∧ Below w.heap.size w w' := by
  have hi : isT (Tr.node x ks) = true := by rw [isT_node]; exact hK.isL
  have h5 : Hid (∀ W, Below w.heap.size w W → Calls Tryz.prog 5 #[ndV x kv] W fun e w' => e = .returned (.int .i64 (chkF mayN x ks)) ∧ Below W.heap.size W w') := fun W hb => check15 may_is (allT_imp (fun x ks h => by unfold typedN at h; rw [Bool.and_eq_true] at h; rw [h.1]; rfl) _ _ (Nat.le_refl _) hi hg) (hK.below hb)
  have h6 : Hid (∀ W, Below w.heap.size w W → Calls Tryz.prog 6 #[ndV x kv] W fun e w' => e = .returned (.int .i64 (chkF mayN x ks)) ∧ Below W.heap.size W w') := fun W hb => rcheck6 (hK.below hb) hg
  clear hK hg hi
  generalize chkF mayN x ks = s at *
  unfold ndV at h5 h6 ⊢
  obtain ⟨w0, hw0⟩ : ∃ w0, w0 = w.alloc (.cells #[.int .i64 x.kind, .string x.str, .int .u32 x.num, .bool x.flag, kv, .int .i64 x.pos] 25) := ⟨_, rfl⟩
  have hb0 : Below w.heap.size w w0 := by rw [hw0]; exact below1 _ _
  have ha : ∀ t : After w0, Below w.heap.size w t.1 := fun t => below_on hb0 t.2
  have H5 := fun t : After w0 => Calls.after t (h5.out t.1 (ha t))
  have H6 := fun t : After w0 => Calls.after t (h6.out t.1 (ha t))
  have H7 := fun t : After w0 => Calls.after t (awake10 t.1)
  have hbx : ∀ t : After w0, Below (w.alloc (.cells #[.int .i64 x.kind, .string x.str, .int .u32 x.num, .bool x.flag, kv, .int .i64 x.pos] 25)).heap.size (w.alloc (.cells #[.int .i64 x.kind, .string x.str, .int .u32 x.num, .bool x.flag, kv, .int .i64 x.pos] 25)) t.1 := fun t => by rw [← hw0]; exact t.2
  have x0 : ∀ t : After w0, t.1.cell? ⟨w.heap.size, 0, none⟩ = some (.int .i64 x.kind) := fun t => (box6g (hbx t)).1
  have x1 : ∀ t : After w0, t.1.cell? ⟨w.heap.size, 1, none⟩ = some (.string x.str) := fun t => (box6g (hbx t)).2.1
  have x2 : ∀ t : After w0, t.1.cell? ⟨w.heap.size, 2, none⟩ = some (.int .u32 x.num) := fun t => (box6g (hbx t)).2.2.1
  have x3 : ∀ t : After w0, t.1.cell? ⟨w.heap.size, 3, none⟩ = some (.bool x.flag) := fun t => (box6g (hbx t)).2.2.2.1
  have x4 : ∀ t : After w0, t.1.cell? ⟨w.heap.size, 4, none⟩ = some kv := fun t => (box6g (hbx t)).2.2.2.2.1
  have x5 : ∀ t : After w0, t.1.cell? ⟨w.heap.size, 5, none⟩ = some (.int .i64 x.pos) := fun t => (box6g (hbx t)).2.2.2.2.2
  have HB0 := hid' hb0
  clear h5 h6 ha hbx hb0
  go_enter Tryz.func3, Tryz.ntmps3
  go_upto_region 1 with fail
  rw [← hw0]
  clear hw0
  have hne := after_some w0
  refine region_after 8 mixed (by kernel_rfl) ?_
  simp only [List.take_succ_cons, List.take_zero, List.drop_succ_cons, List.drop_zero]
  repeat quiet_step (first | with_reducible exact H5 _ | with_reducible exact H6 _ | with_reducible exact H7 _)
  refine wpQuiet_nil ?_
  intro w5 hb5
  clear H5 H6 H7 x0 x1 x2 x3 x4 x5
  have HB5 := hid' hb5
  clear hb5
  go_wp2
  go_ret
  exact ⟨rfl, below_on HB0.out HB5.out⟩
end Go.Proofs.YtnnnfabpceapcaaGreatDoor
