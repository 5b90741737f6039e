/- The law of all edges agreeing. -/
import Derived.Test.YtjhndnhldhmjnaaDoorMa
namespace Go.Proofs.YtjhndnhldhmjnaaDoor
open Go Go.RowKit Go.Maps
set_option linter.unusedVariables false
set_option linter.unusedSimpArgs false
set_option maxRecDepth 20000 in
set_option maxHeartbeats 8000000 in
theorem must4 {w : World} {nv ev : Value} {ns : List Nd} {l : List (Int × Int)} (hn : Src Nd.cells w nv ns) (he : Src ecell w ev l) (hT : TabM w) (hnb : ns.length * 24 ≤ big) (hlb : l.length * 16 ≤ big) :
    Calls Tryd.prog 4 #[nv, ev] w fun e w' => e = .returned (.bool true) ∧ Below w.heap.size w w' := by
  obtain ⟨ao, cap, rfl⟩ := hn.len
  obtain ⟨bo, cap2, rfl, hfe⟩ := he.edges
  unfold big at hnb hlb
  have HN := hid' hn
  have HE := hid' he
  have HT := hid' hT
  have HFE := hid' hfe
  have HNF := hid' hn.nodes
  obtain ⟨W0, eW0⟩ : ∃ W0, W0 = w.alloc (.cells #[.slice ao ns.length cap] 22) := ⟨_, rfl⟩
  have hb0 : Below w.heap.size w W0 := by rw [eW0]; exact below1 _ _
  have n0 : W0.heap[w.heap.size]? = some (.cells #[.slice ao ns.length cap] 22 (0, 0)) := by rw [eW0]; exact heap_alloc_new _ _
  have hlt0 : w.heap.size < W0.heap.size := by rw [eW0]; simp
  have q0 : W0.cell? ⟨w.heap.size, 0, none⟩ = some (.slice ao ns.length cap) := cell_of_row W0 _ 0 _ 22 (0, 0) n0
  have HB0 := hid' hb0
  have N0 := hid' n0
  have hmf : ∀ (fn : Fn) (first cap : Array Value) (w : World), (Instr.makeFunc fn first cap).run Tryd.prog w = .ok (.func fn first cap) w := fun _ _ _ _ => rfl
  clear hn he hT hfe hb0 n0
  by_cases c1 : 64 < ns.length
  · go_enter Tryd.func4, Tryd.ntmps4
    go_upto_region 1 with fail
    rw [← eW0]
    clear eW0
    go_wp2_with (go_at_call 9; refine (awake9 _).mono ?_; rintro e9 w9 ⟨rfl, hb9⟩)
    go_ret
    exact ⟨rfl, below_up HB0.out hb9⟩
  by_cases c2 : 256 < l.length
  · go_enter Tryd.func4, Tryd.ntmps4
    go_upto_region 1 with fail
    rw [← eW0]
    clear eW0
    go_wp2_with (go_at_call 9; refine (awake9 _).mono ?_; rintro e9 w9 ⟨rfl, hb9⟩)
    go_ret
    exact ⟨rfl, below_up HB0.out hb9⟩
  have KE := edges12 (HE.out.on HB0.out) (by unfold big; omega) ns.length
  cases hE : edgesF l ns.length with
  | false =>
    rw [hE] at KE
    go_enter Tryd.func4, Tryd.ntmps4
    go_upto_region 1 with fail
    rw [← eW0]
    clear eW0
    go_wp2_with (first
      | (go_at_call 12; refine KE.mono ?_; rintro e3 w3 ⟨rfl, rfl⟩)
      | (go_at_call 9; refine (awake9 _).mono ?_; rintro e9 w9 ⟨rfl, hb9⟩))
    go_ret
    exact ⟨rfl, below_up HB0.out hb9⟩
  | true =>
    rw [hE] at KE
    have KP := problem11 (HN.out.on HB0.out) (HE.out.on HB0.out) (by omega) (by omega)
    have KP := hid' KP
    go_enter Tryd.func4, Tryd.ntmps4
    go_upto_region 1 with fail
    rw [← eW0]
    clear eW0
    go_wp2_with (first
      | (go_at_call 12; refine KE.mono ?_; rintro e3 w3 ⟨rfl, rfl⟩)
      | (go_at_call 11; refine of_mark ?_))
    unfold Mark
    refine KP.out.mono ?_
    rintro e1 w1 ⟨q, ev', rfl, hB1, hs1, hb1⟩
    obtain ⟨vo, vc, rfl⟩ := hs1.len
    have n1 : w1.heap[w.heap.size]? = some (.cells #[.slice ao ns.length cap] 22 (0, 0)) := (hb1.block _ hlt0).trans N0.out
    have q1 : w1.cell? ⟨w.heap.size, 0, none⟩ = some (.slice ao ns.length cap) := cell_of_row w1 _ 0 _ 22 (0, 0) n1
    have HS1 := hid' hs1
    have HBN := hid' hB1
    have HB1 := hid' (below_up HB0.out hb1)
    have N1 := hid' n1
    have hlt1 : w.heap.size < w1.heap.size := Nat.lt_of_lt_of_le hlt0 hb1.size
    clear KE KP hB1 hs1 hb1 n1
    unfold prbV
    obtain ⟨W1, eW1⟩ : ∃ W1, W1 = w1.alloc (.cells #[.int .i64 ns.length, .slice vo l.length vc, .int .u64 18446744073709551615, .func (.func 16) #[] #[.pointer (some ⟨w.heap.size, 0, none⟩)], .func (.func 15) #[] #[], .func (.func 33) #[] #[], .func (.func 34) #[] #[.pointer (some ⟨q, 0, none⟩)]] 35) := ⟨_, rfl⟩
    have hbx : Below w1.heap.size w1 W1 := by rw [eW1]; exact below1 _ _
    have n2 : W1.heap[w.heap.size]? = some (.cells #[.slice ao ns.length cap] 22 (0, 0)) := (hbx.block _ hlt1).trans N1.out
    have hlt2 : w.heap.size < W1.heap.size := Nat.lt_of_lt_of_le hlt1 hbx.size
    have HBW := hid' (below_up HB1.out hbx)
    have HBX : BoxN W1 w.heap.size ns := ⟨_, cell_of_row W1 _ 0 _ 22 (0, 0) n2, HN.out.on HBW.out⟩
    have N2 := hid' n2
    have KS := solveAnd hE HBX (HBN.out.on hbx) (HS1.out.on hbx) (HT.out.on HBW.out) (by omega) (by omega)
    unfold prbV at KS
    clear hbx n2 HBX
    go_wp2_with (go_at_call 10; refine of_mark ?_)
    rw [← eW1]
    clear eW1
    unfold Mark
    refine KS.mono ?_
    rintro e2 w2 ⟨gi, go_, i, o, rfl, hri, hro, hFx, hLw, hb2⟩
    have hri : RowU w2 gi ns.length i := hri
    have hro : RowU w2 go_ ns.length o := hro
    have hpn : (andP ns l hE).n = ns.length := rfl
    rw [hpn]
    have n3 : w2.heap[w.heap.size]? = some (.cells #[.slice ao ns.length cap] 22 (0, 0)) := (hb2.block _ hlt2).trans N2.out
    have q2 : w2.cell? ⟨w.heap.size, 0, none⟩ = some (.slice ao ns.length cap) := cell_of_row w2 _ 0 _ 22 (0, 0) n3
    have hlt3 : w.heap.size < w2.heap.size := Nat.lt_of_lt_of_le hlt2 hb2.size
    have HB2 := hid' (below_up HBW.out hb2)
    have HRI := hid' hri
    have HRO := hid' hro
    have HFX := hid' hFx
    have HLW := hid' hLw
    have N3 := hid' n3
    have HM : Hid (∀ W : World, ∃ w', (Instr.makeSlice 25 (.int .i64 (ns.length : Nat)) (.int .i64 (ns.length : Nat))).run Tryd.prog W = .ok (.slice (some ⟨W.heap.size, 0, none⟩) ns.length ns.length) w' ∧ RowU w' W.heap.size ns.length (fun _ => 0) ∧ Below W.heap.size W w' ∧ w'.heap.size = W.heap.size + 1) := fun W => make_words W (n := ns.length) (by unfold big; omega)
    clear KS hb2 hri hro hFx hLw n3
    go_wp2_with fail
    go_cut [9, 10] (fun iv ov wx => ∃ (g1 g2 : Nat), iv = .slice (some ⟨g1, 0, none⟩) ns.length ns.length ∧ ov = .slice (some ⟨g2, 0, none⟩) ns.length ns.length ∧ RowU wx g1 ns.length (fun _ => 0) ∧ RowU wx g2 ns.length (fun _ => 0) ∧ g1 ≠ g2 ∧ Below w2.heap.size w2 wx ∧ w2.heap.size ≤ g1 ∧ w2.heap.size ≤ g2)
    case first =>
      obtain ⟨w3, hm1, hR1, hb1, hs1⟩ := HM.out w2.drew
      obtain ⟨w4, hm2, hR2, hb2, hs2⟩ := HM.out w3
      have D0 : Hid (Below w2.heap.size w2 w4) := by
        refine Below.trans (bdrew (Below.refl _ _) 1 : Below w2.heap.size w2 w2.drew) ?_
        exact below_up hb1 hb2
      have R1 := hid' (hR1.on hb2)
      have R2 := hid' hR2
      have NE : Hid (w2.drew.heap.size ≠ w3.heap.size) := by unfold Hid; omega
      have L1 : Hid (w2.heap.size ≤ w3.heap.size) := by have : w2.drew.heap.size = w2.heap.size := rfl; unfold Hid; omega
      have n3 : w3.heap[w.heap.size]? = some (.cells #[.slice ao ns.length cap] 22 (0, 0)) := (hb1.block _ hlt3).trans N3.out
      have n4 : w4.heap[w.heap.size]? = some (.cells #[.slice ao ns.length cap] 22 (0, 0)) := (hb2.block _ (Nat.lt_of_lt_of_le hlt3 hb1.size)).trans n3
      have q2d : w2.drew.cell? ⟨w.heap.size, 0, none⟩ = some (.slice ao ns.length cap) := q2
      have q3 : w3.cell? ⟨w.heap.size, 0, none⟩ = some (.slice ao ns.length cap) := cell_of_row w3 _ 0 _ 22 (0, 0) n3
      have q4 : w4.cell? ⟨w.heap.size, 0, none⟩ = some (.slice ao ns.length cap) := cell_of_row w4 _ 0 _ 22 (0, 0) n4
      clear hR1 hR2 hb1 hb2 hs1 hs2 n3 n4
      go_region_law (fail)
      all_goals go_wp2_with fail
      all_goals go_meet
      all_goals first
        | exact ⟨w2.drew.heap.size, w3.heap.size, rfl, rfl, R1.out, R2.out, NE.out, D0.out, Nat.le_refl _, L1.out⟩
        | exact ⟨w3.heap.size, w2.drew.heap.size, rfl, rfl, R2.out, R1.out, fun e => NE.out e.symm, D0.out, L1.out, Nat.le_refl _⟩
    case rest =>
      obtain ⟨g1, g2, rfl, rfl, hR1, hR2, hne, hB, hg1, hg2⟩ := hcut
      have HC : Hid (∀ W, Below w2.heap.size w2 W → W.cell? ⟨w.heap.size, 0, none⟩ = some (.slice ao ns.length cap)) := fun W hW => cell_of_row W _ 0 _ 22 (0, 0) ((hW.block _ hlt3).trans N3.out)
      have HR1 := hid' hR1
      have HR2 := hid' hR2
      have HBc := hid' hB
      have U1 : Hid (uv (BitVec.allOnes 64) = .int .u64 18446744073709551615) := rfl
      have qc := HC.out wc hB
      clear hR1 hR2 hB HM
      go_wp2_with fail
      go_loopw [11] (fun kv wr => ∃ k : Nat, k ≤ ns.length ∧ kv = .int .i64 k ∧ RowU wr g1 ns.length (fun j => if j < k then BitVec.allOnes 64 else 0) ∧ RowU wr g2 ns.length (fun j => if j < k then BitVec.allOnes 64 else 0) ∧ Below w2.heap.size w2 wr) (fun kv _ => ns.length - (intOf kv).toNat)
      case atStart => exact ⟨0, Nat.zero_le _, rfl, HR1.out.congr (fun i _ => by simp), HR2.out.congr (fun i _ => by simp), HBc.out⟩
      case round =>
        obtain ⟨k, hk, rfl, h1, h2, hB⟩ := hrel
        have qr := HC.out wr hB
        by_cases hlt : k < ns.length
        · have f1 := h1.fro k
          have f2 := h2.fro k
          have c1 := h1.cell hlt
          have c2 := h2.cell hlt
          have M1 := hid' ((h1.set k (BitVec.allOnes 64)).other (g' := g2) (i := k) (v := uv (BitVec.allOnes 64)) hne)
          have M2 := hid' ((h2.other (g' := g1) (i := k) (v := uv (BitVec.allOnes 64)) (Ne.symm hne)).set k (BitVec.allOnes 64))
          have MB := hid' ((hB.setCell hg1 (uv (BitVec.allOnes 64))).setCell hg2 (uv (BitVec.allOnes 64)) : Below w2.heap.size w2 ((wr.setCell ⟨g1, k, none⟩ (uv (BitVec.allOnes 64))).setCell ⟨g2, k, none⟩ (uv (BitVec.allOnes 64))))
          rw [U1.out] at M1 M2 MB
          clear h1 h2 hB
          go_wp2_with fail
          refine ⟨⟨k + 1, by omega, by go_num, M1.out.congr (fun i _ => ?_), M2.out.congr (fun i _ => ?_), MB.out⟩, by simp [intOf]; omega⟩
          · unfold upd
            by_cases c : i = k
            · subst c; simp
            · have : (i < k + 1) ↔ i < k := by omega
              simp [c, this]
          · unfold upd
            by_cases c : i = k
            · subst c; simp
            · have : (i < k + 1) ↔ i < k := by omega
              simp [c, this]
        · have e : k = ns.length := by omega
          subst e
          have K1 := hid' (h1.congr (f' := fun _ => BitVec.allOnes 64) (fun i hi => if_pos hi))
          have K2 := hid' (h2.congr (f' := fun _ => BitVec.allOnes 64) (fun i hi => if_pos hi))
          have KB := hid' hB
          clear h1 h2 hB HR1 HR2 HBc
          go_wp2_with fail
          obtain ⟨P, eP⟩ : ∃ P, P = andP ns l hE := ⟨_, rfl⟩
          have ePn : P.n = ns.length := by rw [eP]; rfl
          have R0 : Hid (P.Rnd (fun _ => BitVec.allOnes 64) (fun _ => BitVec.allOnes 64)) := by
            have := (andP ns l hE).rnd_begin
            rw [eP]
            exact this
          go_loopw [12, 13, 14, 15, 16] (fun tv _ _ _ _ wr => ∃ (b : Bool) (i' o' : Nat → Wd), tv = .bool b ∧ RowU wr g1 ns.length i' ∧ RowU wr g2 ns.length o' ∧ P.Rnd i' o' ∧ (b = false → P.Fix i' o') ∧ Below w2.heap.size w2 wr) (fun tv _ _ _ _ wr => msr P g1 g2 wr * 2 + (match tv with | .bool true => 1 | _ => 0))
          case atStart => exact ⟨true, _, _, rfl, K1.out, K2.out, R0.out, (fun e => by cases e), KB.out⟩
          case round =>
            obtain ⟨b, i', o', rfl, hR1, hR2, hRn, hFx, hB⟩ := hrel
            have qr := HC.out _ hB
            have L1 := hid' hR1
            have L2 := hid' hR2
            have LN := hid' hRn
            have LF := hid' hFx
            have LB := hid' hB
            clear hR1 hR2 hRn hFx hB
            cases b with
            | false =>
              rw [eP] at LN LF
              have hle := (andP ns l hE).least HFX.out HLW.out (LF.out (by trivial)) LN.out.low
              have S1 := same14 (HRI.out.on LB.out) L1.out (by omega) (fun k hk => (hle k hk).1)
              have S2 : ∀ d, _ := fun d => same14 (w := wr.drewN d) (HRO.out.on (bdrew LB.out d)) L2.out (by omega) (fun k hk => (hle k hk).2)
              have S2 := hid' S2
              have HB4 := hid' (below_up HB2.out LB.out)
              clear hle
              go_wp2_with (go_at_call 14; refine of_mark ?_)
              unfold Mark
              refine S1.mono ?_
              rintro e5 w5 ⟨rfl, d5, rfl⟩
              have S2 := S2.out d5
              go_wp2_with (go_at_call 14; refine of_mark ?_)
              unfold Mark
              refine S2.mono ?_
              rintro e6 w6 ⟨rfl, d6, rfl⟩
              clear S1 S2
              go_wp2_with (go_at_call 9; refine (awake9 _).mono ?_; rintro e9 w9 ⟨rfl, hb9⟩)
              go_ret
              exact ⟨rfl, below_up (bdrew HB4.out (d5 + d6)) hb9⟩
            | true =>
              have KM : Hid (msr P g1 g2 wr = P.potR i' o') := msr_is (by rw [ePn]; exact L1.out) (by rw [ePn]; exact L2.out)
              go_wp2_with fail
              go_loopw [12, 13, 14, 15, 16] (fun tv kv _ _ _ wx => ∃ (b : Bool) (k : Nat) (i2 o2 : Nat → Wd), k ≤ ns.length ∧ kv = .int .i64 k ∧ tv = .bool b ∧ RowU wx g1 ns.length i2 ∧ RowU wx g2 ns.length o2 ∧ P.Rnd i2 o2 ∧ Below w2.heap.size w2 wx ∧ (b = false → P.potR i2 o2 = P.potR i' o' ∧ ∀ j, j < k → i2 j = P.inOf o2 j ∧ o2 j = P.flow j (i2 j)) ∧ (b = true → P.potR i2 o2 < P.potR i' o')) (fun _ kv _ _ _ _ => ns.length - (intOf kv).toNat)
              case atStart => exact ⟨false, 0, i', o', Nat.zero_le _, rfl, rfl, L1.out, L2.out, LN.out, LB.out, (fun _ => ⟨rfl, fun j hj => by omega⟩), (fun e => by cases e)⟩
              case round =>
                obtain ⟨b, k, i2, o2, hk, rfl, rfl, hR1, hR2, hRn, hB, hF, hTt⟩ := hrel
                have qr := HC.out _ hB
                have J1 := hid' hR1
                have J2 := hid' hR2
                have JN := hid' hRn
                have JB := hid' hB
                have JF := hid' hF
                have JT := hid' hTt
                clear hR1 hR2 hRn hB hF hTt
                by_cases hlt : k < ns.length
                · obtain ⟨ao1, cap1, eao, hnf⟩ := HNF.out
                  obtain ⟨b1, off1, hao1, hb1, hc1, hcc1⟩ := hnf k hlt
                  injection eao with eao1 _ eao2
                  subst eao2
                  obtain rfl : ao = some _ := eao1.trans hao1
                  obtain ⟨c1, c2, c3⟩ := hcc1 wr (below_up HB2.out JB.out)
                  have en := nth_at hlt
                  rw [← en] at c1 c2 c3
                  clear en hcc1 hnf hao1 eao1
                  have BN := hid' (b_not (nth ns k).start)
                  unfold uv at c1 c2 c3
                  go_wp2_with fail
                  go_loopw [14, 15] (fun vv iv wx => ∃ (j : Nat), j ≤ l.length ∧ iv = .int .i64 j ∧ vv = uv (foldE (· &&& ·) o2 k (l.take j) (~~~(nth ns k).start)) ∧ wx = wr) (fun _ iv _ => l.length - (intOf iv).toNat)
                  case atStart => exact ⟨0, Nat.zero_le _, rfl, congrArg (Value.int .u64) BN.out, rfl⟩
                  case round =>
                    obtain ⟨j, hj, rfl, rfl, rfl⟩ := hrel
                    by_cases hjl : j < l.length
                    · obtain ⟨b2, off2, rfl, hb2, hc2, hcc2⟩ := HFE.out j hjl
                      obtain ⟨d1, d2⟩ := hcc2 _ (below_up HB2.out JB.out)
                      have SN := hid' (foldE_snoc (· &&& ·) o2 k l (~~~(nth ns k).start) j hjl)
                      have EA := edges_at hE hjl
                      clear hcc2
                      generalize foldE (· &&& ·) o2 k (l.take j) (~~~(nth ns k).start) = x at *
                      obtain ⟨ea1, ea2, ea3, ea4⟩ := EA
                      obtain ⟨a, ha⟩ : ∃ a : Nat, l[j].1 = a := ⟨l[j].1.toNat, by omega⟩
                      have r2 := J2.out.cell (i := a) (by omega)
                      rw [ha] at d1
                      rw [ha, Int.toNat_natCast] at SN
                      generalize l[j].2 = y at *
                      have BA := hid' (b_and x (o2 a))
                      by_cases hy : y = (k : Int)
                      · subst hy
                        have SNo := SN.out
                        rw [if_pos rfl] at SNo
                        have SNh := hid' SNo
                        clear SNo
                        unfold uv at r2 ⊢
                        go_wp2_with fail
                        refine ⟨⟨j + 1, by omega, by go_num, ?_, trivial⟩, by simp [intOf]; omega⟩
                        rw [SNh.out]
                        exact congrArg (Value.int .u64) BA.out
                      · have SNo := SN.out
                        rw [if_neg hy] at SNo
                        have SNh := hid' SNo
                        clear SNo
                        unfold uv at r2 ⊢
                        go_wp2_with fail
                        refine ⟨⟨j + 1, by omega, by go_num, ?_, trivial⟩, by simp [intOf]; omega⟩
                        rw [SNh.out]
                    · have e : j = l.length := by omega
                      subst e
                      rw [List.take_length, foldE_and hE, ← eP]
                      have q1' := J1.out.cell hlt
                      have q2' := J2.out.cell hlt
                      have f1 := J1.out.fro k
                      have f2 := J2.out.fro k
                      generalize eX : P.inOf o2 k = X at *
                      have FX : Hid (P.flow k X = X &&& ~~~(nth ns k).kill ||| (nth ns k).gen) := by rw [eP]; rfl
                      have BX := hid' (b_andNot X (nth ns k).kill)
                      generalize (nth ns k).kill = kl at *
                      generalize (nth ns k).gen = gn at *
                      have BY := hid' (b_or (X &&& ~~~kl) gn)
                      unfold uv at q1' q2' ⊢
                      go_wp2_with fail
                      go_quiet (fail)
                      rw [b_andNot, b_or, ← FX.out]
                      have M1 : Hid (RowU (wr.drewN nq) g1 ns.length i2) := J1.out
                      have M2 : Hid (RowU (wr.drewN nq) g2 ns.length o2) := J2.out
                      have MB : Hid (Below w2.heap.size w2 (wr.drewN nq)) := bdrew JB.out nq
                      have p1 : (wr.drewN nq).cell? ⟨g1, k, none⟩ = some (.int .u64 ((i2 k).toNat : Nat)) := q1'
                      have p2 : (wr.drewN nq).cell? ⟨g2, k, none⟩ = some (.int .u64 ((o2 k).toNat : Nat)) := q2'
                      have z1 : (wr.drewN nq).frozen? ⟨g1, k, none⟩ = false := f1
                      have z2 : (wr.drewN nq).frozen? ⟨g2, k, none⟩ = false := f2
                      have VS := hid' (JN.out.visit P (k := k) (by omega))
                      have FL := hid' (JN.out.falls P (k := k) (by omega))
                      rw [eX] at VS FL
                      generalize eF : P.flow k X = F at *
                      clear q1' q2' f1 f2 c1 c2 c3 qr
                      generalize wr.drewN nq = W at *
                      have e1 := b_eq X (i2 k)
                      have e2 := b_eq F (o2 k)
                      have hd : Hid (P.potR i2 o2 ≤ P.potR i' o') := by
                        cases b with
                        | true => exact Nat.le_of_lt (JT.out rfl)
                        | false => exact Nat.le_of_eq (JF.out rfl).1
                      have FIN : Hid (X ≠ i2 k ∨ F ≠ o2 k → P.potR (upd i2 k X) (upd o2 k F) < P.potR i' o') := fun hc => by
                        exact Nat.lt_of_lt_of_le (FL.out hc) hd.out
                      by_cases h1 : X = i2 k
                      · by_cases h2 : F = o2 k
                        · have hx : Hid (P.inOf o2 k = i2 k) := eX.trans h1
                          have hf : Hid (P.flow k (i2 k) = o2 k) := by rw [← h1]; exact eF.trans h2
                          rw [← h1] at p1
                          rw [← h2] at p2
                          clear h1 h2 e1 e2
                          go_wp2
                          refine ⟨⟨b, k + 1, i2, o2, by omega, by go_num, rfl, M1.out, M2.out, JN.out, MB.out, (fun e => ⟨(JF.out e).1, fun j hj => ?_⟩), JT.out⟩, by simp [intOf]; omega⟩
                          by_cases c : j = k
                          · subst c
                            exact ⟨hx.out.symm, hf.out.symm⟩
                          · exact (JF.out e).2 j (by omega)
                        · have n2 : ¬ ((F.toNat : Int) = ((o2 k).toNat : Int)) := by rw [e2]; exact h2
                          rw [← h1] at p1
                          have FN := hid' (FIN.out (.inr h2))
                          clear h1 h2 e1 e2
                          go_wp2
                          exact ⟨⟨true, k + 1, upd i2 k X, upd o2 k F, by omega, by go_num, rfl, (M1.out.set k X).other hne, (M2.out.other (Ne.symm hne)).set k F, VS.out, (MB.out.setCell hg1 _).setCell hg2 _, (fun e => by cases e), fun _ => FN.out⟩, by simp [intOf]; omega⟩
                      · have n1 : ¬ ((X.toNat : Int) = ((i2 k).toNat : Int)) := by rw [e1]; exact h1
                        have FN := hid' (FIN.out (.inl h1))
                        clear h1 e1 e2
                        go_wp2
                        exact ⟨⟨true, k + 1, upd i2 k X, upd o2 k F, by omega, by go_num, rfl, (M1.out.set k X).other hne, (M2.out.other (Ne.symm hne)).set k F, VS.out, (MB.out.setCell hg1 _).setCell hg2 _, (fun e => by cases e), fun _ => FN.out⟩, by simp [intOf]; omega⟩
                · have e : k = ns.length := by omega
                  subst e
                  have NM : Hid (msr P g1 g2 wr = P.potR i2 o2) := msr_is (by rw [ePn]; exact J1.out) (by rw [ePn]; exact J2.out)
                  go_wp2_with fail
                  refine ⟨⟨b, i2, o2, rfl, J1.out, J2.out, JN.out, (fun e j hj => (JF.out e).2 j (by omega)), JB.out⟩, ?_⟩
                  rw [NM.out, KM.out]
                  cases b with
                  | true =>
                    have := JT.out rfl
                    show P.potR i2 o2 * 2 + 1 < P.potR i' o' * 2 + 1
                    omega
                  | false =>
                    have := (JF.out rfl).1
                    show P.potR i2 o2 * 2 + 0 < P.potR i' o' * 2 + 1
                    omega
end Go.Proofs.YtjhndnhldhmjnaaDoor
