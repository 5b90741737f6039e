/- The law of the fixed point. -/
import Derived.Test.YtjhndnhldhmjnaaDoorLl
namespace Go.Proofs.YtjhndnhldhmjnaaDoor
open Go Go.RowKit Go.Maps
set_option linter.unusedVariables false
set_option linter.unusedSimpArgs false
theorem foldE_all {ns : List Nd} {l : List (Int × Int)} (h : edgesF l ns.length = true) (o : Nat → Wd) (k : Nat) : foldE (· ||| ·) o k (l.take l.length) (nth ns k).start = (orP ns l h).inOf o k := by
  rw [List.take_length]
  exact foldE_or h o k
set_option maxRecDepth 20000 in
set_option maxHeartbeats 8000000 in
theorem fixed5 {w : World} {nv ev : Value} {ns : List Nd} {l : List (Int × Int)} (hn : Src Nd.cells w nv ns) (he : Src ecell w ev l) (hT : TabM w) (hnb : ns.length * 24 ≤ big) (hlb : l.length * 16 ≤ big) :
    Calls Tryd.prog 5 #[nv, ev] w fun e w' => e = .returned (.bool true) ∧ Below w.heap.size w w' := by
  obtain ⟨ao, cap, rfl⟩ := hn.len
  obtain ⟨bo, cap2, rfl, hfe⟩ := he.edges
  unfold big at hnb hlb
  have HN := hid' hn
  have HE := hid' he
  have HT := hid' hT
  have HFE := hid' hfe
  clear hn he hT hfe
  by_cases c1 : 64 < ns.length
  · go_enter Tryd.func5, Tryd.ntmps5
    go_wp2_with (go_at_call 9; refine (awake9 _).mono ?_; rintro e9 w9 ⟨rfl, hb9⟩)
    go_ret
    exact ⟨rfl, hb9⟩
  by_cases c2 : 256 < l.length
  · go_enter Tryd.func5, Tryd.ntmps5
    go_wp2_with (go_at_call 9; refine (awake9 _).mono ?_; rintro e9 w9 ⟨rfl, hb9⟩)
    go_ret
    exact ⟨rfl, hb9⟩
  have KE := edges12 HE.out (by unfold big; omega) ns.length
  cases hE : edgesF l ns.length with
  | false =>
    rw [hE] at KE
    go_enter Tryd.func5, Tryd.ntmps5
    go_wp2_with (first
      | (go_at_call 12; refine KE.mono ?_; rintro e3 w3 ⟨rfl, rfl⟩)
      | (go_at_call 9; refine (awake9 _).mono ?_; rintro e9 w9 ⟨rfl, hb9⟩))
    go_ret
    exact ⟨rfl, hb9⟩
  | true =>
    rw [hE] at KE
    have KP := problem11 HN.out HE.out (by omega) (by omega)
    have KP := hid' KP
    go_enter Tryd.func5, Tryd.ntmps5
    go_wp2_with (first
      | (go_at_call 12; refine KE.mono ?_; rintro e3 w3 ⟨rfl, rfl⟩)
      | (go_at_call 11; refine of_mark ?_))
    unfold Mark
    refine KP.out.mono ?_
    rintro e1 w1 ⟨q, ev', rfl, hB1, hs1, hb1⟩
    obtain ⟨vo, vc, rfl⟩ := hs1.len
    obtain ⟨W1, eW1⟩ : ∃ W1, W1 = w1.alloc (.cells #[.int .i64 ns.length, .slice vo l.length vc, .int .u64 0, .func (.func 31) #[] #[.pointer (some ⟨q, 0, none⟩)], .func (.func 32) #[] #[], .func (.func 33) #[] #[], .func (.func 34) #[] #[.pointer (some ⟨q, 0, none⟩)]] 35) := ⟨_, rfl⟩
    have hbx : Below w1.heap.size w1 W1 := by rw [eW1]; exact below1 _ _
    have hpb : W1.heap[w1.heap.size]? = some (.cells #[.int .i64 ns.length, .slice vo l.length vc, .int .u64 0, .func (.func 31) #[] #[.pointer (some ⟨q, 0, none⟩)], .func (.func 32) #[] #[], .func (.func 33) #[] #[], .func (.func 34) #[] #[.pointer (some ⟨q, 0, none⟩)]] 35 (0, 0)) := by rw [eW1]; exact heap_alloc_new _ _
    have hlp : w1.heap.size < W1.heap.size := by rw [eW1]; simp
    have HB1 := hid' (below_up hb1 hbx)
    have HBQ := hid' (hB1.on hbx)
    have KS := solveOr (most := 1048576) hE (hB1.on hbx) (hs1.on hbx) (HT.out.on HB1.out) (by omega) (by omega) (by decide)
    unfold prbV at KS ⊢
    clear KE KP hB1 hs1 hb1 hbx
    subst eW1
    go_wp2_with (go_at_call 10; refine of_mark ?_)
    unfold Mark
    refine KS.mono ?_
    rintro e2 w2 (⟨gi, go_, i, o, rfl, hri, hro, hFx, hLw, hb2⟩ | ⟨_, hlt⟩)
    · have hri : RowU w2 gi ns.length i := hri
      have hro : RowU w2 go_ ns.length o := hro
      have hpn : (orP ns l hE).n = ns.length := rfl
      rw [hpn]
      have HB2 := hid' (below_up HB1.out hb2)
      have HQ2 := hid' (HBQ.out.on hb2)
      have b2 : w2.heap[w1.heap.size]? = some (.cells #[.int .i64 ns.length, .slice vo l.length vc, .int .u64 0, .func (.func 31) #[] #[.pointer (some ⟨q, 0, none⟩)], .func (.func 32) #[] #[], .func (.func 33) #[] #[], .func (.func 34) #[] #[.pointer (some ⟨q, 0, none⟩)]] 35 (0, 0)) := (hb2.block _ hlp).trans hpb
      have d3 : w2.cell? ⟨w1.heap.size, 3, none⟩ = some (.func (.func 31) #[] #[.pointer (some ⟨q, 0, none⟩)]) := cell_of_row w2 _ 3 _ 35 (0, 0) b2
      have d4 : w2.cell? ⟨w1.heap.size, 4, none⟩ = some (.func (.func 32) #[] #[]) := cell_of_row w2 _ 4 _ 35 (0, 0) b2
      have d6 : w2.cell? ⟨w1.heap.size, 6, none⟩ = some (.func (.func 34) #[] #[.pointer (some ⟨q, 0, none⟩)]) := cell_of_row w2 _ 6 _ 35 (0, 0) b2
      have HRI := hid' hri
      have HRO := hid' hro
      have HFX := hid' hFx
      clear KS hb2 hri hro hFx hLw b2 hpb
      go_wp2_with fail
      generalize w1.heap.size = pb at *
      go_loopw [9] (fun kv wr => ∃ k d : Nat, k ≤ ns.length ∧ kv = .int .i64 k ∧ wr = w2.drewN d) (fun kv _ => ns.length - (intOf kv).toNat)
      case atStart => exact ⟨0, 0, Nat.zero_le _, rfl, rfl⟩
      case round =>
        obtain ⟨k, d, hk, rfl, rfl⟩ := hrel
        by_cases hkn : k < ns.length
        · have KA := start31 (w := w2.drewN d) (HQ2.out.on (bdrew (Below.refl _ _) d)) (by omega) hkn
          have enth := nth_at hkn
          rw [← enth] at KA
          have ENTH := hid' enth
          clear enth
          have e3 : (w2.drewN d).cell? ⟨pb, 3, none⟩ = some (.func (.func 31) #[] #[.pointer (some ⟨q, 0, none⟩)]) := d3
          have e4 : (w2.drewN d).cell? ⟨pb, 4, none⟩ = some (.func (.func 32) #[] #[]) := d4
          have e6 : (w2.drewN d).cell? ⟨pb, 6, none⟩ = some (.func (.func 34) #[] #[.pointer (some ⟨q, 0, none⟩)]) := d6
          have HFA := hid' (foldE_all hE o k)
          obtain ⟨hf1, hf2⟩ := HFX.out k hkn
          have HF1 := hid' hf1
          have HF2 : Hid (o k = (i k &&& ~~~(nth ns k).kill) ||| (nth ns k).gen) := hf2
          unfold uv at KA
          clear hf1 hf2
          go_wp2_with (go_at_call 31; refine KA.mono ?_; rintro e5 w5 ⟨rfl, rfl⟩)
          go_loopw [10, 11] (fun vv iv wx => ∃ (j d' : Nat), j ≤ l.length ∧ iv = .int .i64 j ∧ vv = .int .u64 ((foldE (· ||| ·) o k (l.take j) (nth ns k).start).toNat : Nat) ∧ wx = w2.drewN d') (fun _ iv _ => l.length - (intOf iv).toNat)
          case atStart => exact ⟨0, d, Nat.zero_le _, rfl, rfl, rfl⟩
          case round =>
            obtain ⟨j, d', hj, rfl, rfl, rfl⟩ := hrel
            by_cases hjl : j < l.length
            · obtain ⟨b, off, rfl, hb1, hc1, hx⟩ := HFE.out j hjl
              obtain ⟨x0, x1⟩ := hx (w2.drewN d') (bdrew HB2.out d')
              have SN := hid' (foldE_snoc (· ||| ·) o k l (nth ns k).start j hjl)
              obtain ⟨ea1, ea2, ea3, ea4⟩ := edges_at hE hjl
              have e4' : (w2.drewN d').cell? ⟨pb, 4, none⟩ = some (.func (.func 32) #[] #[]) := d4
              clear hx
              generalize l[j] = ed at *
              obtain ⟨a, y⟩ := ed
              dsimp only at *
              obtain ⟨an, rfl⟩ : ∃ an : Nat, a = an := ⟨a.toNat, by omega⟩
              rw [Int.toNat_natCast] at SN
              have ro : (w2.drewN d').cell? ⟨go_, an, none⟩ = some (uv (o an)) := HRO.out.cell (i := an) (by omega)
              generalize foldE (· ||| ·) o k (l.take j) (nth ns k).start = x at *
              have KJ := fun W => join32 W x (o an)
              unfold uv at KJ ro
              by_cases hy : y = (k : Int)
              · subst hy
                have SNo := SN.out
                rw [if_pos rfl] at SNo
                have SNh := hid' SNo
                clear SNo
                generalize hW : w2.drewN d' = W at *
                go_wp2_with fail
                go_quiet (exact Calls.quiet_of_same (KJ _))
                go_wp2_with fail
                subst hW
                exact ⟨⟨j + 1, d' + nq, by omega, by go_num, by rw [SNh.out], by rw [World.drewN_drewN]⟩, by simp [intOf]; omega⟩
              · have SNo := SN.out
                rw [if_neg hy] at SNo
                have SNh := hid' SNo
                clear SNo
                go_wp2_with fail
                exact ⟨⟨j + 1, d', by omega, by go_num, by rw [SNh.out], rfl⟩, by simp [intOf]; omega⟩
            · have e : j = l.length := by omega
              subst e
              rw [HFA.out, ← HF1.out]
              have ri : (w2.drewN d').cell? ⟨gi, k, none⟩ = some (uv (i k)) := HRI.out.cell hkn
              have ro : (w2.drewN d').cell? ⟨go_, k, none⟩ = some (uv (o k)) := HRO.out.cell hkn
              have KF := fun n => flow34 (w := (w2.drewN d').drewN n) (HQ2.out.on (bdrew (bdrew (Below.refl _ _) d') n)) (by omega) hkn (i k)
              have e6' : (w2.drewN d').cell? ⟨pb, 6, none⟩ = some (.func (.func 34) #[] #[.pointer (some ⟨q, 0, none⟩)]) := d6
              rw [← ENTH.out, ← HF2.out] at KF
              have hq1 := b_beq (i k) (i k)
              have hq2 := b_beq (o k) (o k)
              rw [decide_eq_true rfl] at hq1 hq2
              generalize i k = x at *
              generalize o k = y at *
              generalize hW : w2.drewN d' = W at *
              unfold uv at KF ri ro
              go_wp2_with fail
              go_quiet (exact Calls.quiet_of (KF _))
              go_wp2_with fail
              subst hW
              exact ⟨⟨k + 1, d' + nq, by omega, by go_num, by rw [World.drewN_drewN]⟩, by simp [intOf]; omega⟩
        · have e : k = ns.length := by omega
          subst e
          go_wp2_with (go_at_call 9; refine (awake9 _).mono ?_; rintro e9 w9 ⟨rfl, hb9⟩)
          go_ret
          exact ⟨rfl, below_up (bdrew HB2.out d) hb9⟩
    · exfalso
      omega
end Go.Proofs.YtjhndnhldhmjnaaDoor
