/- A tree that came in: its texts and numbers have their bounds. -/
import Derived.Test.YtnnnfabpceapcaaDoorOpen
import Derived.Test.YtnnnfabpceapcaaDoorAllK
import Derived.SizedLaws
import Derived.Test.YtnnnfabpceapcaaDoorMov
import Derived.Test.YtnnnfabpceapcaaDoorSameL
namespace Go.Proofs.YtnnnfabpceapcaaDoor
set_option linter.unusedSimpArgs false
open Go.ChangeShapes Go.WideShapes Go.ChangeAt Go.RowKit
set_option linter.unusedVariables false
section
variable {H : Type} {enc : TypeId × Value → H}
theorem weights_all {P : Program} {e : TypeId} : ∀ {ds : List (DataW H)} {d : DataW H}, d ∈ ds → ∀ n ∈ d.weights P e, n ∈ DataW.weightsAll P e ds
  | [], _, h, _, _ => by simp at h
  | c :: r, d, h, n, hn => by
    rw [DataW.weightsAll, List.mem_append]
    rw [List.mem_cons] at h
    rcases h with rfl | h
    · exact .inl hn
    · exact .inr (weights_all h n hn)
set_option maxRecDepth 20000 in
theorem open_six2 {W : World} {base : Nat} {sp : Nat → Bool} {held : Bool} {fuel : Nat} {cs : List Value} {x : DataW H × List MemPlace} (h : DataW.trod enc Tryd.prog W base sp held fuel 25 cs = some x) (hw : ∀ m ∈ x.1.weights Tryd.prog 25, m ≤ reachBytes) :
    ∃ (nd : NdH) (kv : Value) (n : Nat) (y : DataW H × List MemPlace), fuel = n + 1 ∧ cs = [.int .i64 nd.kind, .string nd.str, .int .u32 nd.num, .bool nd.flag, kv, .int .i64 nd.pos] ∧ DataW.trod enc Tryd.prog W base sp held n 23 [kv] = some y ∧ (∀ m ∈ y.1.weights Tryd.prog 23, m ≤ reachBytes) ∧ ∀ ks, typedN nd ks = true := by
  obtain ⟨xs, n, hf, hx, hl, hlen, hg⟩ := DataW.trod_struct Tryd.underlying25 h
  rw [cells25] at hl
  match cs, hl with
  | [c0, c1, c2, c3, c4, c5], _ =>
    match xs, hlen with
    | [y0, y1, y2, y3, y4, y5], _ =>
      have g0 := hg 0 _ rfl
      have g1 := hg 1 _ rfl
      have g2 := hg 2 _ rfl
      have g3 := hg 3 _ rfl
      have g4 := hg 4 _ rfl
      have g5 := hg 5 _ rfl
      simp [cells23, cells3, cells9, cells22, cells4] at g0 g1 g2 g3 g4 g5
      obtain ⟨x0, e0, _, w0⟩ := DataW.trod_int Tryd.underlying3 g0
      obtain ⟨x1, e1, f1, w1⟩ := DataW.trod_string Tryd.underlying9 g1
      obtain ⟨x2, e2, _, w2⟩ := DataW.trod_int Tryd.underlying22 g2
      obtain ⟨x3, e3, _⟩ := DataW.trod_bool Tryd.underlying4 g3
      obtain ⟨x5, e5, _, w5⟩ := DataW.trod_int Tryd.underlying3 g5
      simp at e0 e1 e2 e3 e5
      subst e0 e1 e2 e3 e5
      rw [hx] at hw
      simp only [DataW.weights, Tryd.underlying25] at hw
      refine ⟨⟨x0, x1, x2, x3, x5⟩, c4, n, y4, hf, rfl, g4, fun m hm => hw m (DataW.weights_mem_each (j := 4) (t := 23) (d := y4.1) rfl rfl m hm), fun ks => ?_⟩
      have hs := hw x1.size (DataW.weights_mem_each (j := 1) (t := 9) (d := y1.1) rfl rfl _ (by rw [f1]; simp [DataW.weights]))
      have hs' : x1.size ≤ 0x7ffffffff000 := hs
      have hn : 0 ≤ x2 ∧ x2 < 4294967296 := by
        simp [Lit.wf] at w2
        have h1 : IntKind.u32.min = 0 := by decide
        have h2 : IntKind.u32.max = 4294967295 := by decide
        rw [h1, h2] at w2
        omega
      unfold typedN smallN
      simp only [Bool.and_eq_true, decide_eq_true_eq]
      exact ⟨by omega, hn⟩

set_option maxRecDepth 20000 in
/-- A slice of trees. -/
theorem open_kids2 {W : World} {sp : Nat → Bool} {held : Bool} {cb : Nat} (hcb : W.heap.size ≤ cb) : ∀ (fuel : Nat) {c : Value} {x : DataW H × List MemPlace}, DataW.trod enc Tryd.prog W 0 sp held fuel 23 [c] = some x → (∀ m ∈ x.1.weights Tryd.prog 23, m ≤ reachBytes) → ∃ ks, Ks cb fuel W c ks ∧ allL typedN ks = true := fun fuel => by
  induction fuel using Nat.strongRecOn with
  | ind fuel ih =>
  intro c x h hw
  rcases DataW.trod_slice Tryd.underlying23 h with ⟨hcs, _⟩ | ⟨a, len, cap, elems, rest, n, rfl, hcs, hxe, _, hlc, hcm, hel, hx, _, _⟩
  · simp at hcs
    subst hcs
    cases fuel with
    | zero => exact ⟨[], ⟨rfl, _, _, rfl⟩, rfl⟩
    | succ n => exact ⟨[], by rw [Ks]; exact ⟨by simp, _, _, rfl, fun i hi => by simp at hi⟩, rfl⟩
  · simp at hcs
    subst hcs
    rw [hxe] at hw
    simp only [DataW.weights, Tryd.underlying23] at hw
    have hwe : ∀ i (hi : i < elems.length), ∀ m ∈ (elems[i]).1.weights Tryd.prog 25, m ≤ reachBytes := fun i hi m hm => hw m (by
      rw [List.mem_cons, List.mem_append]
      exact .inr (.inl (weights_all (List.mem_map.2 ⟨elems[i], List.getElem_mem hi, rfl⟩) m hm)))
    rw [cells25] at hx
    have hsp : 0 < len → a.spot = none := fun h0 => by
      have hi' := hx 0 h0
      rw [List.getElem?_eq_getElem (by omega)] at hi'
      obtain ⟨cs', h1, h2⟩ := Option.bind_eq_some_iff.1 hi'
      obtain ⟨_, hlen', hcell⟩ := World.cells?_some h1
      obtain ⟨nd, kv, m, y, hm, rfl, h3⟩ := open_six h2
      have hc0 := hcell 0 (by omega)
      rw [Deep.add_add] at hc0
      simp at hc0
      simpa [Addr.add] using World.cell?_spot hc0
    haveI : Inhabited Tr := ⟨Tr.node ⟨0, ⟨#[]⟩, 0, false, 0⟩ []⟩
    obtain ⟨V, hV⟩ := Deep.choose_lt (α := Tr) (n := len) (p := fun i t => (∃ b off x kv ks', a = ⟨b, off, none⟩ ∧ (b < W.heap.size ∧ b ≠ cb) ∧ t = Tr.node x ks' ∧ NdAt W b (off + i * 6) x kv ∧ Ks cb n W kv ks') ∧ allT typedN t = true) (fun i hi => by
      have hi' := hx i hi
      rw [List.getElem?_eq_getElem (by omega)] at hi'
      obtain ⟨cs', h1, h2⟩ := Option.bind_eq_some_iff.1 hi'
      obtain ⟨_, hlen', hcell⟩ := World.cells?_some h1
      obtain ⟨nd, kv, m, y, hm, rfl, h3, h4, h5⟩ := open_six2 h2 (hwe i (by omega))
      subst hm
      obtain ⟨ks', hks, hty⟩ := ih m (by omega) h3 h4
      obtain ⟨b, off, spot⟩ := a
      have hspot : spot = none := hsp (by omega)
      subst hspot
      have hc0 := hcell 0 (by omega)
      have hc1 := hcell 1 (by omega)
      have hc2 := hcell 2 (by omega)
      have hc3 := hcell 3 (by omega)
      have hc4 := hcell 4 (by omega)
      have hc5 := hcell 5 (by omega)
      rw [Deep.add_add] at hc0 hc1 hc2 hc3 hc4 hc5
      simp at hc0 hc1 hc2 hc3 hc4 hc5
      have hadd : ∀ k, (⟨b, off, none⟩ : Addr).add k = ⟨b, off + k, none⟩ := fun k => by unfold Addr.add; split <;> simp_all
      rw [hadd] at hc0 hc1 hc2 hc3 hc4 hc5
      have hbW : b < W.heap.size := World.block_lt_of_cell? W _ hc0
      exact ⟨Tr.node nd ks', ⟨b, off, nd, kv, ks', rfl, ⟨hbW, by omega⟩, rfl, ⟨hc0, hc1, hc2, hc3, hc4, hc5⟩, hks.up⟩, by rw [allT_node, h5 ks', hty]; rfl⟩)
    refine ⟨(List.range len).map V, ?_, ?_⟩
    · rw [Ks]
      refine ⟨by simp; unfold maxLen at hcm; omega, some a, cap, by simp, fun i hi => ?_⟩
      simp at hi
      obtain ⟨b, off, x, kv, ks', e, hlt, he, hc, hk⟩ := (hV i hi).1
      exact ⟨b, off, x, kv, ks', by rw [e], hlt, ⟨by simp [he], by simp; omega⟩, hc, hk⟩
    · unfold allL
      simp only [List.all_map, List.all_eq_true, List.mem_range]
      exact fun i hi => (hV i hi).2

set_option maxRecDepth 20000 in
/-- A tree that came in. -/
theorem open_tree2 {W : World} {b0 : Nat} {r : Reach} {v : Value} {d : DataW H} {sp : Nat → Bool} {held : Bool} {p : List MemPlace} (hv : Value.okWide Tryd.prog W r b0 25 v) (h : DataW.Trod enc Tryd.prog W 0 sp held 25 v d p) (hw : ∀ m ∈ d.weights Tryd.prog 25, m ≤ reachBytes) :
    ∃ (nd : NdH) (kv : Value) (n : Nat) (ks : List Tr), v = ndV nd kv ∧ Ks W.heap.size n W kv ks ∧ allT typedN (Tr.node nd ks) = true := by
  obtain ⟨cs, rfl, hsz⟩ := okWide_struct Tryd.underlying25 hv
  obtain ⟨l⟩ := cs
  obtain ⟨fuel, hf⟩ := h
  obtain ⟨nd, kv, n, y, _, e, h3, h4, h5⟩ := open_six2 hf hw
  obtain ⟨ks, hks, hty⟩ := open_kids2 (Nat.le_refl W.heap.size) n h3 h4
  refine ⟨nd, kv, n, ks, ?_, hks, by rw [allT_node, h5 ks, hty]; rfl⟩
  have e' : l = [.int .i64 nd.kind, .string nd.str, .int .u32 nd.num, .bool nd.flag, kv, .int .i64 nd.pos] := by simpa [Value.cells] using e
  rw [e']
  rfl
end
end Go.Proofs.YtnnnfabpceapcaaDoor

namespace Go.Proofs.YtnnnfabpceapcaaDoor
set_option linter.unusedSimpArgs false
open Go.RowKit
set_option linter.unusedVariables false

theorem printV_form (c : Int) (L : List UInt8) : ∃ S E, printV c L = .tuple #[.string S, .int .i64 E] := by
  unfold printV
  split
  · split
    · exact ⟨_, _, rfl⟩
    · exact ⟨_, _, rfl⟩
  · exact ⟨_, _, rfl⟩
theorem box_at {w2 W : World} {y : NdH} {kv : Value} (h : Below (w2.alloc (.cells #[.int .i64 y.kind, .string y.str, .int .u32 y.num, .bool y.flag, kv, .int .i64 y.pos] 25)).heap.size (w2.alloc (.cells #[.int .i64 y.kind, .string y.str, .int .u32 y.num, .bool y.flag, kv, .int .i64 y.pos] 25)) W) : NdAt W w2.heap.size 0 y kv ∧ w2.heap.size < W.heap.size := by
  have na : NdAt (w2.alloc (.cells #[.int .i64 y.kind, .string y.str, .int .u32 y.num, .bool y.flag, kv, .int .i64 y.pos] 25)) w2.heap.size 0 y kv := by refine ⟨?_, ?_, ?_, ?_, ?_, ?_⟩ <;> simp [go_sem]
  have hs := h.size
  simp at hs
  exact ⟨na.below h (by simp), by omega⟩
section
variable {cb n : Nat} {w : World} {x : NdH} {kv : Value} {ks : List Tr} {d : Int}
set_option maxRecDepth 20000 in
set_option maxHeartbeats 8000000 in
theorem places5 (hA : ∀ W, Below w.heap.size w W → Calls Tryd.prog 10 #[] W fun e w' => e = .returned (.bool true) ∧ Below W.heap.size W w') (hK : Ks cb n w kv ks) (ht : TabOk w) (hg : szT (Tr.node x ks) ≤ 262144 → allT typedN (Tr.node x ks) = true) :
    Calls Tryd.prog 5 #[ndV x kv, .int .i64 d] w fun e w' => e = .returned (.bool true) ∧ Below w.heap.size w w' := by
  have h7 : Hid (∀ W, Below w.heap.size w W → Calls Tryd.prog 7 #[ndV x kv] W fun e w' => e = .returned (.int .i64 (szR (Tr.node x ks) : Int)) ∧ Below W.heap.size W w') := fun W hb => size7 (hK.below hb)
  have HA := hid' hA
  have p1 := szT_pos (Tr.node x ks)
  unfold szR at h7
  obtain ⟨w0, hw0⟩ : ∃ w0, w0 = w.alloc (.cells #[.int .i64 x.kind, .string x.str, .int .u32 x.num, .bool x.flag, kv, .int .i64 x.pos] 25) := ⟨_, rfl⟩
  have HB0 : Hid (Below w.heap.size w w0) := by rw [hw0]; exact below1 _ _
  have HAX : Hid (∀ W, Below w0.heap.size w0 W → NdAt W w.heap.size 0 x kv ∧ w.heap.size < W.heap.size) := fun W h => by
    have hs0 : w0.heap.size = w.heap.size + 1 := by rw [hw0]; simp
    have na : NdAt w0 w.heap.size 0 x kv := by rw [hw0]; refine ⟨?_, ?_, ?_, ?_, ?_, ?_⟩ <;> simp [go_sem]
    exact ⟨na.below h (by omega), by have := h.size; omega⟩
  by_cases hz : szT (Tr.node x ks) ≤ 262144
  rotate_left
  · rw [if_neg hz] at h7
    clear hK hA hg ht
    unfold ndV at h7 ⊢
    go_enter Tryd.func5, Tryd.ntmps5
    go_wp2_with (first
      | (go_at_call 10; refine (HA.out w1 (below_on HB0.out hb1.out)).mono ?_; rintro e w2 ⟨rfl, hb2⟩; replace hb2 := hid' hb2)
      | (go_at_call 7; rw [← hw0]; refine (h7.out w0 HB0.out).mono ?_; rintro e w1 ⟨rfl, hb1⟩; replace hb1 := hid' hb1))
    go_ret
    exact ⟨rfl, below_on HB0.out (below_on hb1.out hb2.out)⟩
  rw [if_pos hz] at h7
  have hgt := hg hz
  have hi : isT (Tr.node x ks) = true := by rw [isT_node]; exact hK.isL
  have hbt : BlindK typedN := fun _ _ _ _ _ _ _ _ _ => rfl
  have hwd : ∀ {t : Tr}, isT t = true → allT typedN t = true → allT (fun x ks => smallN x ks && anyF x ks) t = true := fun hi hg => allT_imp (fun x ks h => by unfold typedN at h; rw [Bool.and_eq_true] at h; rw [h.1]; rfl) _ _ (Nat.le_refl _) hi hg
  obtain ⟨V, hV⟩ : ∃ V, V = printV (chkF mayN x ks) (spellT qtL (Tr.node x ks)) := ⟨_, rfl⟩
  obtain ⟨C, hC⟩ : ∃ C, C = chkF mayN x ks := ⟨_, rfl⟩
  obtain ⟨D, hD⟩ : ∃ D, D = dpR (Tr.node x ks) := ⟨_, rfl⟩
  obtain ⟨Z, hZ⟩ : ∃ Z, Z = szT (Tr.node x ks) := ⟨_, rfl⟩
  have hzr : szR (Tr.node x ks) = Z := by unfold szR; rw [if_pos hz, hZ]
  have H14 : Hid (∀ W, Below w.heap.size w W → Calls Tryd.prog 14 #[ndV x kv] W fun e w' => e = .returned V ∧ Below W.heap.size W w') := fun W hb => by
    rw [hV]; exact print_all (ht.below hb) hgt (hK.below hb)
  have H15 : Hid (∀ W, Below w.heap.size w W → Calls Tryd.prog 15 #[ndV x kv] W fun e w' => e = .returned (.int .i64 C) ∧ Below W.heap.size W w') := fun W hb => by
    rw [hC]; exact check15 may_is (hwd hi hgt) (hK.below hb)
  have H8 : Hid (∀ W, Below w.heap.size w W → Calls Tryd.prog 8 #[ndV x kv] W fun e w' => e = .returned (.int .i64 (D : Int)) ∧ Below W.heap.size W w') := fun W hb => by
    rw [hD]; exact depth8 (hK.below hb)
  have H6 : Hid (∀ W, Below w.heap.size w W → Calls Tryd.prog 6 #[ndV x kv] W fun e w' => e = .returned (.int .i64 (Z : Int)) ∧ Below W.heap.size W w') := fun W hb => by
    rw [← hzr]; exact size6 (hK.below hb)
  have H13 : Hid (∀ W, Below w.heap.size w W → Calls Tryd.prog 13 #[ndV x kv, .int .i64 d] W fun e w' => ∃ y ka kl kc, e = .returned (ndV y (.slice ka kl kc)) ∧ Below W.heap.size W w' ∧
      (∀ W', Below w'.heap.size w' W' → Calls Tryd.prog 14 #[ndV y (.slice ka kl kc)] W' fun e w' => e = .returned V ∧ Below W'.heap.size W' w') ∧
      (∀ W', Below w'.heap.size w' W' → Calls Tryd.prog 15 #[ndV y (.slice ka kl kc)] W' fun e w' => e = .returned (.int .i64 C) ∧ Below W'.heap.size W' w') ∧
      (∀ W', Below w'.heap.size w' W' → Calls Tryd.prog 8 #[ndV y (.slice ka kl kc)] W' fun e w' => e = .returned (.int .i64 (D : Int)) ∧ Below W'.heap.size W' w') ∧
      (∀ W', Below w'.heap.size w' W' → Calls Tryd.prog 6 #[ndV y (.slice ka kl kc)] W' fun e w' => e = .returned (.int .i64 (Z : Int)) ∧ Below W'.heap.size W' w') ∧
      (∀ W', Below w'.heap.size w' W' → Calls Tryd.prog 11 #[ndV x kv, ndV y (.slice ka kl kc)] W' fun e w' => e = .returned (.bool true) ∧ Below W'.heap.size W' w')) := fun W hb => by
    refine (moved13 n (hK.below hb) hz).mono ?_
    rintro e w1 ⟨y, kv', ls, rfl, hb1, hKx, he, hs⟩
    have hbw := below_on hb hb1
    obtain ⟨_, ka, kc, rfl⟩ := hKx.ks'
    have hL := hKx.ks (cb := w1.heap.size) (.inr (Nat.le_refl _))
    have hi' : isT (Tr.node y ls) = true := by rw [isT_node]; exact hL.isL
    have hsame : sameT (Tr.node x ks) (Tr.node y ls) = true := by rw [sameT_node, he, hs]; rfl
    have hsm : Sm (Tr.node x ks) (Tr.node y ls) := ⟨hi, hi', hsame⟩
    have hz' : szT (Tr.node y ls) = szT (Tr.node x ks) := (sm_sz hsm).symm
    have hgt' : allT typedN (Tr.node y ls) = true := by rw [← sm_all hbt hsm]; exact hgt
    have hchk : chkF mayN y ls = chkF mayN x ks := by
      unfold chkF
      rw [hz', ← sm_all b_may hsm]
      have : x.kind = y.kind := by
        unfold eqN at he
        simp only [Bool.and_eq_true, decide_eq_true_eq] at he
        exact he.1
      rw [this]
    have hsp : spellT qtL (Tr.node y ls) = spellT qtL (Tr.node x ks) := (sm_spell qtL hsm).symm
    refine ⟨y, ka, _, kc, rfl, hb1, fun W' hb' => ?_, fun W' hb' => ?_, fun W' hb' => ?_, fun W' hb' => ?_, fun W' hb' => ?_⟩
    · rw [hV, ← hchk, ← hsp]; exact print_all (ht.below (below_on hbw hb')) hgt' (hL.below hb')
    · rw [hC, ← hchk]; exact check15 may_is (hwd hi' hgt') (hL.below hb')
    · have : dpR (Tr.node x ks) = dpR (Tr.node y ls) := by unfold dpR; rw [hz', sm_dp hsm]
      rw [hD, this]; exact depth8 (hL.below hb')
    · have : Z = szR (Tr.node y ls) := by unfold szR; rw [hz', if_pos hz, hZ]
      rw [this]; exact size6 (hL.below hb')
    · rw [← hsame]; exact same11_any (hK.below (below_on hbw hb')) (hL.below hb') hz (by rw [hz']; exact hz)
  obtain ⟨S, E, hVf⟩ := printV_form (chkF mayN x ks) (spellT qtL (Tr.node x ks))
  rw [← hV] at hVf
  subst hVf
  rw [← hZ] at h7 p1 hz
  clear hK hA hg ht hgt hi hbt hwd hV hC hD hZ hzr
  have hzz : ((Z : Int) == 0) = false := by simp; omega
  unfold ndV at h7 H14 H15 H8 H6 H13 ⊢
  go_enter Tryd.func5, Tryd.ntmps5
  go_wp2_with (first
    | (go_at_call 14; refine (J14.out w4 hb4s.out).mono ?_; rintro e w5 ⟨rfl, hb5⟩; replace hb5 := hid' hb5)
    | (go_at_call 14; refine (H14.out _ (below_on HB0.out (below_on hb1.out (below_on hb2.out (below1 _ _))))).mono ?_; rintro e w4 ⟨rfl, hb4⟩; have hb4s := hid' (below_on (below1 w2 _) hb4); obtain ⟨⟨m0, m1, m2, m3, m4, m5⟩, ml⟩ := HMX.out w4 hb4; replace hb4 := hid' hb4)
    | (go_at_call 13; refine (H13.out w1 (below_on HB0.out hb1.out)).mono ?_; rintro e w2 ⟨y, ka, kl, kc, rfl, hb2, J14, J15, J8, J6, J11⟩; obtain ⟨⟨o0, o1, o2, o3, o4, o5⟩, ol⟩ := HAX.out w2 (below_on hb1.out hb2); have HMX : Hid (∀ W, Below (w2.alloc (.cells #[.int .i64 y.kind, .string y.str, .int .u32 y.num, .bool y.flag, .slice ka kl kc, .int .i64 y.pos] 25)).heap.size (w2.alloc (.cells #[.int .i64 y.kind, .string y.str, .int .u32 y.num, .bool y.flag, .slice ka kl kc, .int .i64 y.pos] 25)) W → NdAt W w2.heap.size 0 y (.slice ka kl kc) ∧ w2.heap.size < W.heap.size) := (fun W h => box_at h); replace J14 := hid' J14; replace J15 := hid' J15; replace J8 := hid' J8; replace J6 := hid' J6; replace J11 := hid' J11; replace hb2 := hid' hb2)
    | (go_at_call 7; rw [← hw0]; refine (h7.out w0 HB0.out).mono ?_; rintro e w1 ⟨rfl, hb1⟩; obtain ⟨⟨a0, a1, a2, a3, a4, a5⟩, al⟩ := HAX.out w1 hb1; replace hb1 := hid' hb1))
  have hb25 : Below w2.heap.size w2 w5 := below_on hb4s.out hb5.out
  have hb05 : Below w0.heap.size w0 w5 := below_on hb1.out (below_on hb2.out hb25)
  have hbw : Below w.heap.size w w5 := below_on HB0.out hb05
  have ha : ∀ t : After w5, Below w.heap.size w t.1 := fun t => below_on hbw t.2
  have hx : ∀ t : After w5, NdAt t.1 w.heap.size 0 x kv ∧ NdAt t.1 w2.heap.size 0 y (.slice ka kl kc) ∧ w.heap.size < t.1.heap.size ∧ w2.heap.size < t.1.heap.size := fun t =>
    ⟨(HAX.out t.1 (below_on hb05 t.2)).1, (HMX.out t.1 (below_on (below_on hb4.out hb5.out) t.2)).1, (HAX.out t.1 (below_on hb05 t.2)).2, (HMX.out t.1 (below_on (below_on hb4.out hb5.out) t.2)).2⟩
  have K11 := fun t : After w5 => Calls.after t (J11.out t.1 (below_on hb25 t.2))
  have K8 := fun t : After w5 => Calls.after t (H8.out t.1 (ha t))
  have K8' := fun t : After w5 => Calls.after t (J8.out t.1 (below_on hb25 t.2))
  have K6 := fun t : After w5 => Calls.after t (H6.out t.1 (ha t))
  have K6' := fun t : After w5 => Calls.after t (J6.out t.1 (below_on hb25 t.2))
  have K15 := fun t : After w5 => Calls.after t (H15.out t.1 (ha t))
  have K15' := fun t : After w5 => Calls.after t (J15.out t.1 (below_on hb25 t.2))
  have K10 := fun t : After w5 => Calls.after t (HA.out t.1 (ha t))
  have q0 := fun t => (hx t).1.1
  have q1 := fun t => (hx t).1.2.1
  have q2 := fun t => (hx t).1.2.2.1
  have q3 := fun t => (hx t).1.2.2.2.1
  have q4 := fun t => (hx t).1.2.2.2.2.1
  have q5 := fun t => (hx t).1.2.2.2.2.2
  have r0 := fun t => (hx t).2.1.1
  have r1 := fun t => (hx t).2.1.2.1
  have r2 := fun t => (hx t).2.1.2.2.1
  have r3 := fun t => (hx t).2.1.2.2.2.1
  have r4 := fun t => (hx t).2.1.2.2.2.2.1
  have r5 := fun t => (hx t).2.1.2.2.2.2.2
  simp only [Nat.zero_add] at q1 q2 q3 q4 q5 r1 r2 r3 r4 r5
  have HBW := hid' hbw
  clear hx hbw ha h7 H14 H15 H8 H6 H13 J14 J15 J8 J6 J11 HA HAX HMX HB0 hw0 hb25 hb05 hb1 hb2 hb4 hb4s hb5 a0 a1 a2 a3 a4 a5 o0 o1 o2 o3 o4 o5 m0 m1 m2 m3 m4 m5
  have hne := after_some w5
  refine region_after 37 mixed (by kernel_rfl) ?_
  simp only [List.take_succ_cons, List.take_zero, List.drop_succ_cons, List.drop_zero]
  repeat quiet_step (first | with_reducible exact K11 _ | with_reducible exact K8 _ | with_reducible exact K8' _ | with_reducible exact K6 _ | with_reducible exact K6' _ | with_reducible exact K15 _ | with_reducible exact K15' _ | with_reducible exact K10 _)
  refine wpQuiet_nil ?_
  intro w6 hb6
  clear K11 K8 K8' K6 K6' K15 K15' K10 q0 q1 q2 q3 q4 q5 r0 r1 r2 r3 r4 r5
  have HB6 := hid' hb6
  clear hb6
  go_wp2
  go_ret
  exact ⟨rfl, below_on HBW.out HB6.out⟩
end
end Go.Proofs.YtnnnfabpceapcaaDoor
