/- The law of the order of edges. -/
import Derived.Test.YtjhndnhldhmjnaaDoorLl
namespace Go.Proofs.YtjhndnhldhmjnaaDoor
open Go Go.RowKit Go.Maps
set_option linter.unusedVariables false
set_option linter.unusedSimpArgs false
theorem same14_nil (w : World) : Calls Tryd.prog 14 #[.slice none 0 0, .slice none 0 0] w fun e w' => e = .returned (.bool true) ∧ w' = w := by
  go_enter Tryd.func14, Tryd.ntmps14
  go_wp2
  go_loopw [5] (fun i wr => i = .int .i64 0 ∧ wr = w) (fun i _ => 0)
  case atStart => exact ⟨rfl, rfl⟩
  case round =>
    obtain ⟨rfl, rfl⟩ := hrel
    go_wp2
    go_ret
    exact ⟨rfl, rfl⟩
/-- An edge more. -/
theorem edge_push {W : World} {B : Nat} {v : Value} {l : List (Int × Int)} (h : Own 44 2 ecell W B v l) (hB : B ≤ W.heap.size) (e : Int × Int) (hl : l.length ≤ 65536) :
    ∃ v' w2, (∀ ty, (Builtin.append_ #[23, 23] ty #[v, .slice (some ⟨W.heap.size, 0, none⟩) 1 1]).run Tryd.prog (W.alloc (.cells #[.int .i64 e.1, .int .i64 e.2] 44)) = .ok v' w2) ∧ Own 44 2 ecell w2 B v' (l ++ [e]) ∧ Below B W w2 := by
  have hq := heap_alloc_new W (.cells #[.int .i64 e.1, .int .i64 e.2] 44)
  have hqlt := (Array.getElem?_eq_some_iff.1 hq).1
  have hbq := below1 W (.cells #[.int .i64 e.1, .int .i64 e.2] 44)
  have hsrc : Src ecell (W.alloc (.cells #[.int .i64 e.1, .int .i64 e.2] 44)) (.slice (some ⟨W.heap.size, 0, none⟩) 1 1) [e] := .inr ⟨W.heap.size, 0, 1, rfl, hqlt, Nat.le_refl _, fun j u hj => by
    rw [Nat.zero_add, cell_of_row _ W.heap.size j _ 44 (0, 0) hq]
    simpa [flat, ecell] using hj⟩
  have hO := own_on h hbq
  obtain ⟨v', w2, h1, h2, h3, h4⟩ := append_own2 (f := ecell) (st := 23) (et := 44) (bytes := 16) ec2 (base := B) (v := v) (x := .slice (some ⟨W.heap.size, 0, none⟩) 1 1) (m := [e]) (fun y hy u hu => by
    simp only [ecell, List.mem_cons, List.not_mem_nil, or_false] at hu
    rcases hu with rfl | rfl <;> rfl) Tryd.underlying23 info44 rfl (by decide) hO hsrc (by simp only [List.length_singleton]; omega) (by simp only [List.length_singleton]; unfold maxLen; omega) (Nat.le_trans hB hbq.size) 23
  exact ⟨v', w2, fun ty => h1, h2, ((Below.refl B W).alloc hB _).grown h3 (by simp; omega) (fun b hb => (World.ownsRow.lt hO b hb).1)⟩
theorem rev_take (l : List (Int × Int)) (j : Nat) (hj : j < l.length) : l.reverse.take (j + 1) = l.reverse.take j ++ [l[l.length - 1 - j]] := by
  rw [take_snoc l.reverse j (by simpa using hj)]
  simp
theorem edges_rev {l : List (Int × Int)} {n : Int} : edgesF l.reverse n = edgesF l n := by
  unfold edgesF
  simp
/-- The answer hangs not on the order of edges. -/
theorem least_rev {ns : List Nd} {l : List (Int × Int)} (h : edgesF l ns.length = true) (h' : edgesF l.reverse ns.length = true) {i o i' o' : Nat → Wd} (hF : (orP ns l h).Fix i o) (hL : (orP ns l h).Low i o) (hF' : (orP ns l.reverse h').Fix i' o') (hL' : (orP ns l.reverse h').Low i' o') : ∀ k, k < ns.length → i k = i' k ∧ o k = o' k := by
  have he : ∀ e, e ∈ (orP ns l.reverse h').edges ↔ e ∈ (orP ns l h).edges := fun e => by
    show e ∈ natE l.reverse ↔ e ∈ natE l
    unfold natE
    simp
  have f2 := ((orP ns l h).fix_same (Q := orP ns l.reverse h') rfl rfl (fun _ => rfl) (fun _ _ => rfl) he i' o').1 hF'
  have l2 := ((orP ns l h).low_same (Q := orP ns l.reverse h') rfl rfl (fun _ => rfl) (fun _ _ => rfl) he i' o').1 hL'
  exact (orP ns l h).least hF hL f2 l2
set_option maxRecDepth 20000 in
set_option maxHeartbeats 8000000 in
theorem order6 {w : World} {nv ev : Value} {ns : List Nd} {l : List (Int × Int)} (hn : Src Nd.cells w nv ns) (he : Src ecell w ev l) (hT : TabM w) (hnb : ns.length * 24 ≤ big) (hlb : l.length * 16 ≤ big) :
    Calls Tryd.prog 6 #[nv, ev] w fun e w' => e = .returned (.bool true) ∧ Below w.heap.size w w' := by
  obtain ⟨ao, cap, rfl⟩ := hn.len
  obtain ⟨bo, cap2, rfl, hfe⟩ := he.edges
  unfold big at hnb hlb
  have HN := hid' hn
  have HE := hid' he
  have HT := hid' hT
  have HFE := hid' hfe
  clear hn he hT hfe
  by_cases c1 : 64 < ns.length
  · go_enter Tryd.func6, Tryd.ntmps6
    go_wp2_with (go_at_call 9; refine (awake9 _).mono ?_; rintro e9 w9 ⟨rfl, hb9⟩)
    go_ret
    exact ⟨rfl, hb9⟩
  by_cases c2 : 256 < l.length
  · go_enter Tryd.func6, Tryd.ntmps6
    go_wp2_with (go_at_call 9; refine (awake9 _).mono ?_; rintro e9 w9 ⟨rfl, hb9⟩)
    go_ret
    exact ⟨rfl, hb9⟩
  have HO0 : Hid (Own 44 2 ecell (w.alloc (.cells #[] 44)) w.heap.size (.slice (some ⟨w.heap.size, 0, none⟩) 0 0) []) := ⟨rfl, .inr ⟨w.heap.size, 0, #[], rfl, Nat.le_refl _, heap_alloc_new _ _, Nat.le_refl _, Nat.zero_le _, rfl, rfl⟩⟩
  have HB0 : Hid (Below w.heap.size w (w.alloc (.cells #[] 44))) := below1 _ _
  go_enter Tryd.func6, Tryd.ntmps6
  go_wp2_with fail
  generalize w.alloc (.cells #[] 44) = W0 at *
  go_loopw [5, 6] (fun bv iv wr => ∃ j : Nat, j ≤ l.length ∧ iv = .int .i64 ((l.length : Int) - 1 - j) ∧ Own 44 2 ecell wr w.heap.size bv (l.reverse.take j) ∧ Below w.heap.size w wr) (fun _ iv _ => (intOf iv + 1).toNat)
  case atStart => exact ⟨0, Nat.zero_le _, by simp, HO0.out, HB0.out⟩
  case round =>
    obtain ⟨j, hj, rfl, hO, hB⟩ := hrel
    by_cases hjl : j < l.length
    · obtain ⟨b, off, rfl, hb1, hc1, hx⟩ := HFE.out (l.length - 1 - j) (by omega)
      obtain ⟨x0, x1⟩ := hx wr hB
      have hcast : ((l.length : Int) - 1 - (j : Int)) = ((l.length - 1 - j : Nat) : Int) := by omega
      rw [hcast]
      have RT := hid' (rev_take l j hjl)
      have hlen : (l.reverse.take j).length ≤ 65536 := by rw [List.length_take, List.length_reverse]; omega
      obtain ⟨v', w2, hr7, hO7, hB7⟩ := edge_push hO hB.size l[l.length - 1 - j] hlen
      have HR7 := hid' hr7
      have HO7 := hid' hO7
      have HB7 := hid' (hB.trans hB7)
      have hk : l.length - 1 - j < l.length := by omega
      clear hx hO hB hr7 hO7 hB7
      generalize l[l.length - 1 - j] = ed at *
      obtain ⟨a, x⟩ := ed
      dsimp only at *
      generalize hkk : l.length - 1 - j = k at *
      go_wp2_with (at_builtin; refine wpList_append_run rfl _ _ rfl _ _ _ rfl rfl (HR7.out _) ?_)
      exact ⟨⟨j + 1, by omega, by congr 1; omega, by rw [RT.out]; exact HO7.out, HB7.out⟩, by simp [intOf]⟩
    · have e : j = l.length := by omega
      subst e
      have eT : l.reverse.take l.length = l.reverse := by rw [← List.length_reverse, List.take_length]
      rw [eT] at hO
      obtain ⟨ko, kc, ebv⟩ := (hO.src ec2).len
      rw [List.length_reverse] at ebv
      subst ebv
      have HSR := hid' (hO.src ec2)
      have HBR := hid' hB
      have KP := problem11 (HN.out.on hB) (HE.out.on hB) (by omega) (by omega)
      have hneg : ((l.length : Int) - 1 - (l.length : Int)) = -1 := by omega
      rw [hneg]
      clear hO hB
      go_wp2_with (go_at_call 11; refine of_mark ?_)
      unfold Mark
      refine KP.mono ?_
      rintro e1 w1 ⟨q, ev', rfl, hB1, hs1, hb1⟩
      have HB1 := hid' (below_up HBR.out hb1)
      have HS1 := hid' (HSR.out.on hb1)
      have LRL : Hid (l.reverse.length ≤ 256) := by unfold Hid; rw [List.length_reverse]; omega
      clear hneg eT
      cases hE : edgesF l ns.length with
      | false =>
        have KS := solveNo (q := q) (most := 1048576) hE hs1 (by omega) (by omega) (by decide)
        unfold prbV at KS ⊢
        clear KP hB1 hs1 hb1
        go_wp2_with (go_at_call 10; refine of_mark ?_)
        unfold Mark
        refine KS.mono ?_
        rintro e2 w2 ⟨rfl, hb2⟩
        have HB2 := hid' (below_up HB1.out hb2)
        have KP2 := problem11 (HN.out.on HB2.out) (HS1.out.on hb2) (by omega) LRL.out
        clear KS hb2
        go_wp2_with (go_at_call 11; refine of_mark ?_)
        unfold Mark
        refine KP2.mono ?_
        rintro e3 w3 ⟨q3, ev3, rfl, hB3, hs3, hb3⟩
        have HB3 := hid' (below_up HB2.out hb3)
        have KS3 := solveNo (q := q3) (most := 1048576) (by rw [edges_rev]; exact hE) hs3 (by omega) LRL.out (by decide)
        unfold prbV at KS3 ⊢
        clear KP2 hB3 hs3 hb3
        go_wp2_with (go_at_call 10; refine of_mark ?_)
        unfold Mark
        refine KS3.mono ?_
        rintro e4 w4 ⟨rfl, hb4⟩
        have HB4 := hid' (below_up HB3.out hb4)
        clear KS3 hb4
        go_wp2_with (first
          | (go_at_call 14; refine (same14_nil _).mono ?_; rintro e5 w5 ⟨rfl, rfl⟩)
          | (go_at_call 9; refine (awake9 _).mono ?_; rintro e9 w9 ⟨rfl, hb9⟩))
        go_ret
        exact ⟨rfl, below_up HB4.out hb9⟩
      | true =>
        have hE' : edgesF l.reverse ns.length = true := by rw [edges_rev]; exact hE
        have KS := solveOr (most := 1048576) hE hB1 hs1 (HT.out.on HB1.out) (by omega) (by omega) (by decide)
        unfold prbV at KS ⊢
        clear KP hB1 hs1 hb1
        go_wp2_with (go_at_call 10; refine of_mark ?_)
        unfold Mark
        refine KS.mono ?_
        rintro e2 w2 (⟨gi, go_, i, o, rfl, hri, hro, hFx, hLw, hb2⟩ | ⟨_, hlt⟩)
        · have hri : RowU w2 gi ns.length i := hri
          have hro : RowU w2 go_ ns.length o := hro
          have hpn : (orP ns l hE).n = ns.length := rfl
          rw [hpn]
          have HB2 := hid' (below_up HB1.out hb2)
          have KP2 := problem11 (HN.out.on HB2.out) (HS1.out.on hb2) (by omega) LRL.out
          have HRI := hid' hri
          have HRO := hid' hro
          have HFx := hid' hFx
          have HLw := hid' hLw
          clear KS hb2 hri hro hFx hLw hpn
          go_wp2_with (go_at_call 11; refine of_mark ?_)
          unfold Mark
          refine KP2.mono ?_
          rintro e3 w3 ⟨q3, ev3, rfl, hB3, hs3, hb3⟩
          have HB3 := hid' (below_up HB2.out hb3)
          have HRI3 := hid' (HRI.out.on hb3)
          have HRO3 := hid' (HRO.out.on hb3)
          have KS3 := solveOr (most := 1048576) hE' hB3 hs3 (HT.out.on HB3.out) (by omega) LRL.out (by decide)
          unfold prbV at KS3 ⊢
          clear KP2 hB3 hs3 hb3 HRI HRO
          go_wp2_with (go_at_call 10; refine of_mark ?_)
          unfold Mark
          refine KS3.mono ?_
          rintro e4 w4 (⟨gi4, go4, i4, o4, rfl, hri4, hro4, hFx4, hLw4, hb4⟩ | ⟨_, hlt⟩)
          · have hri4 : RowU w4 gi4 ns.length i4 := hri4
            have hro4 : RowU w4 go4 ns.length o4 := hro4
            have hpn4 : (orP ns l.reverse hE').n = ns.length := rfl
            rw [hpn4]
            have hle := least_rev hE hE' HFx.out HLw.out hFx4 hLw4
            have K1 := same14 (HRI3.out.on hb4) hri4 (by omega) (fun k hk => (hle k hk).1)
            have K2 : ∀ d, _ := fun d => same14 (w := w4.drewN d) (HRO3.out.on (bdrew hb4 d)) hro4 (by omega) (fun k hk => (hle k hk).2)
            have HB4 := hid' (below_up HB3.out hb4)
            have K2 := hid' K2
            clear KS3 hri4 hro4 hFx4 hLw4 hb4 hle hpn4
            go_wp2_with (go_at_call 14; refine of_mark ?_)
            unfold Mark
            refine K1.mono ?_
            rintro e5 w5 ⟨rfl, d5, rfl⟩
            have K2 := K2.out d5
            go_wp2_with (go_at_call 14; refine of_mark ?_)
            unfold Mark
            refine K2.mono ?_
            rintro e6 w6 ⟨rfl, d6, rfl⟩
            clear K1 K2
            go_wp2_with (go_at_call 9; refine (awake9 _).mono ?_; rintro e9 w9 ⟨rfl, hb9⟩)
            go_ret
            exact ⟨rfl, below_up (bdrew HB4.out (d5 + d6)) hb9⟩
          · exfalso
            omega
        · exfalso
          omega
end Go.Proofs.YtjhndnhldhmjnaaDoor
