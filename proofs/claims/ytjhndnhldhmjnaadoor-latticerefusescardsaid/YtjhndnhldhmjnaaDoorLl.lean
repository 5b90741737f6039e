/- The law of the least answer. -/
import Derived.Test.YtjhndnhldhmjnaaDoorSl
import Derived.Test.YtjhndnhldhmjnaaDoorPb
import Derived.Test.YtjhndnhldhmjnaaDoorSa
import Derived.Test.YtjhndnhldhmjnaaDoorAw
namespace Go.Proofs.YtjhndnhldhmjnaaDoor
open Go Go.RowKit Go.Maps
set_option linter.unusedVariables false
set_option linter.unusedSimpArgs false
theorem BoxN.on {w w' : World} {q : Nat} {ns : List Nd} (h : BoxN w q ns) (hb : Below w.heap.size w w') : BoxN w' q ns := by
  obtain ⟨nv, c, hs⟩ := h.v
  exact ⟨nv, keep_cell c hb, hs.on hb⟩
theorem ent31 (args : Array Value) (W : World) : (callFunc 31 args).run Tryd.prog W = .ok (.enter 31 args) W := by simp [go_sem, Tryd.func31]
theorem ent32 (args : Array Value) (W : World) : (callFunc 32 args).run Tryd.prog W = .ok (.enter 32 args) W := by simp [go_sem, Tryd.func32]
theorem ent33 (args : Array Value) (W : World) : (callFunc 33 args).run Tryd.prog W = .ok (.enter 33 args) W := by simp [go_sem, Tryd.func33]
theorem ent34 (args : Array Value) (W : World) : (callFunc 34 args).run Tryd.prog W = .ok (.enter 34 args) W := by simp [go_sem, Tryd.func34]
theorem fns_or {w : World} {q : Nat} {ns : List Nd} {l : List (Int × Int)} (hE : edgesF l ns.length = true) (h : BoxN w q ns) (hl : ns.length ≤ 64) : FnsOk (orP ns l hE) w q 31 32 33 34 := by
  refine ⟨ent31, ent32, ent33, ent34, fun W hW k hk => ?_, fun W a b => ?_, fun W a b => ?_, fun W hW k hk x => ?_⟩
  · have hk' : k < ns.length := hk
    refine (start31 (h.on hW) hl hk').mono ?_
    rintro e w' ⟨rfl, rfl⟩
    exact ⟨by show _ = Ending.returned (uv (nth ns k).start); rw [nth_at hk'], 0, rfl⟩
  · refine (join32 W a b).mono ?_
    rintro e w' ⟨rfl, rfl⟩
    exact ⟨rfl, 0, rfl⟩
  · refine (equal33 W a b).mono ?_
    rintro e w' ⟨rfl, rfl⟩
    exact ⟨rfl, 0, rfl⟩
  · have hk' : k < ns.length := hk
    refine (flow34 (h.on hW) hl hk' x).mono ?_
    rintro e w' ⟨rfl, d, rfl⟩
    exact ⟨by show _ = Ending.returned (uv (flowN ns k x)); unfold flowN; rw [nth_at hk'], d, rfl⟩
/-- The law's problem, solved. -/
theorem solveOr {w : World} {q : Nat} {ev : Value} {ns : List Nd} {l : List (Int × Int)} {most : Int} (hE : edgesF l ns.length = true) (h : BoxN w q ns) (he : Src ecell w ev l) (hT : TabM w) (hl : ns.length ≤ 64) (l256 : l.length ≤ 256) (h1 : 1 ≤ most) :
    Calls Tryd.prog 10 #[prbV ns.length ev 0 (.func (.func 31) #[] #[.pointer (some ⟨q, 0, none⟩)]) (.func (.func 32) #[] #[]) (.func (.func 33) #[] #[]) (.func (.func 34) #[] #[.pointer (some ⟨q, 0, none⟩)]), .int .i64 most] w fun e w' => AnsR (orP ns l hE) w e w' ∨ (NoneR 2 w e w' ∧ most < (ns.length : Int) * 65) := by
  have hl' : (orP ns l hE).n ≤ 4096 := by show ns.length ≤ 4096; omega
  refine (solve10 (P := orP ns l hE) (q := q) (fs := 31) (fj := 32) (fe := 33) (ff := 34) (most := most) he (by omega) hl' hE rfl (fns_or hE h hl) hT h1 (by show 64 < 4194304; decide)).mono ?_
  rintro e w' (h | ⟨h, h2⟩)
  · exact .inl h
  · exact .inr ⟨h, h2⟩
theorem solveNo {w : World} {q : Nat} {ev : Value} {ns : List Nd} {l : List (Int × Int)} {most : Int} (hE : edgesF l ns.length = false) (he : Src ecell w ev l) (hl : ns.length ≤ 64) (l256 : l.length ≤ 256) (h1 : 1 ≤ most) :
    Calls Tryd.prog 10 #[prbV ns.length ev 0 (.func (.func 31) #[] #[.pointer (some ⟨q, 0, none⟩)]) (.func (.func 32) #[] #[]) (.func (.func 33) #[] #[]) (.func (.func 34) #[] #[.pointer (some ⟨q, 0, none⟩)]), .int .i64 most] w (NoneR 1 w) :=
  solve10_no h1 (fun W hW => by
    have := mayBe28 (w := W) (n := ns.length) (bot := 0) (s := .func 31) (j := .func 32) (q := .func 33) (f := .func 34) (s1 := #[]) (s2 := #[.pointer (some ⟨q, 0, none⟩)]) (j1 := #[]) (j2 := #[]) (q1 := #[]) (q2 := #[]) (f1 := #[]) (f2 := #[.pointer (some ⟨q, 0, none⟩)]) (he.on hW) (by unfold big; omega) ⟨by omega, by omega⟩
    rw [hE] at this
    exact this)
set_option maxRecDepth 20000 in
set_option maxHeartbeats 8000000 in
theorem solves3 {w : World} {nv ev : Value} {ns : List Nd} {l : List (Int × Int)} (hn : Src Nd.cells w nv ns) (he : Src ecell w ev l) (hT : TabM w) (hnb : ns.length * 24 ≤ big) (hlb : l.length * 16 ≤ big) :
    Calls Tryd.prog 3 #[nv, ev] w fun e w' => e = .returned (.bool true) ∧ Below w.heap.size w w' := by
  obtain ⟨ao, cap, rfl⟩ := hn.len
  obtain ⟨bo, cap2, rfl⟩ := he.len
  unfold big at hnb hlb
  have HN := hid' hn
  have HE := hid' he
  have HT := hid' hT
  clear hn he hT
  by_cases c1 : 64 < ns.length
  · go_enter Tryd.func3, Tryd.ntmps3
    go_wp2_with (go_at_call 9; refine (awake9 _).mono ?_; rintro e9 w9 ⟨rfl, hb9⟩)
    go_ret
    exact ⟨rfl, hb9⟩
  by_cases c2 : 256 < l.length
  · go_enter Tryd.func3, Tryd.ntmps3
    go_wp2_with (go_at_call 9; refine (awake9 _).mono ?_; rintro e9 w9 ⟨rfl, hb9⟩)
    go_ret
    exact ⟨rfl, hb9⟩
  have KP := problem11 HN.out HE.out (by omega) (by omega)
  cases hE : edgesF l ns.length with
  | false =>
    go_enter Tryd.func3, Tryd.ntmps3
    go_wp2_with (go_at_call 11; refine of_mark ?_)
    unfold Mark
    refine KP.mono ?_
    rintro e1 w1 ⟨q, ev', rfl, hB1, hs1, hb1⟩
    have KS := solveNo (q := q) (most := 1048576) hE hs1 (by omega) (by omega) (by decide)
    have HB1 := hid' hb1
    unfold prbV at *
    clear KP hB1 hs1 hb1
    go_wp2_with (go_at_call 10; refine of_mark ?_)
    unfold Mark
    refine KS.mono ?_
    rintro e2 w2 ⟨rfl, hb2⟩
    have HB2 := hid' (below_up HB1.out hb2)
    have KE := edges12 (HE.out.on HB2.out) (by unfold big; omega) ns.length
    rw [hE] at KE
    clear KS hb2
    go_wp2_with (first
      | (go_at_call 12; refine KE.mono ?_; rintro e3 w3 ⟨rfl, rfl⟩)
      | (go_at_call 9; refine (awake9 _).mono ?_; rintro e9 w9 ⟨rfl, hb9⟩))
    go_ret
    exact ⟨rfl, below_up HB2.out hb9⟩
  | true =>
    go_enter Tryd.func3, Tryd.ntmps3
    go_wp2_with (go_at_call 11; refine of_mark ?_)
    unfold Mark
    refine KP.mono ?_
    rintro e1 w1 ⟨q, ev', rfl, hB1, hs1, hb1⟩
    have KS := solveOr (most := 1048576) hE hB1 hs1 (HT.out.on hb1) (by omega) (by omega) (by decide)
    have HB1 := hid' hb1
    unfold prbV at *
    clear KP hB1 hs1 hb1
    go_wp2_with (go_at_call 10; refine of_mark ?_)
    unfold Mark
    refine KS.mono ?_
    rintro e2 w2 (⟨gi, go_, i, o, rfl, hri, hro, hFx, hLw, hb2⟩ | ⟨_, hlt⟩)
    · have hri : RowU w2 gi ns.length i := hri
      have hro : RowU w2 go_ ns.length o := hro
      have hpn : (orP ns l hE).n = ns.length := rfl
      rw [hpn]
      have HB2 := hid' (below_up HB1.out hb2)
      have KE := edges12 (HE.out.on HB2.out) (by unfold big; omega) ns.length
      rw [hE] at KE
      have KL := least13 (HN.out.on HB2.out) (HE.out.on HB2.out) (by omega) (by omega) hE
      have HRI := hid' hri
      have HRO := hid' hro
      have HFx := hid' hFx
      have HLw := hid' hLw
      clear KS hb2 hri hro hFx hLw
      go_wp2_with (first
        | (go_at_call 12; refine KE.mono ?_; rintro e3 w3 ⟨rfl, rfl⟩)
        | (go_at_call 13; refine of_mark ?_))
      unfold Mark
      refine KL.mono ?_
      rintro e4 w4 ⟨g1, g2, i', o', rfl, h1, h2, hFx', hLw', hb4, _, _⟩
      have hle := (orP ns l hE).least HFx.out HLw.out hFx' hLw'
      have K1 := same14 (HRI.out.on hb4) h1 (by omega) (fun k hk => (hle k hk).1)
      have K2 : ∀ d, _ := fun d => same14 (w := w4.drewN d) (HRO.out.on (bdrew hb4 d)) h2 (by omega) (fun k hk => (hle k hk).2)
      have HB4 := hid' (below_up HB2.out hb4)
      have K2 := hid' K2
      clear KL KE h1 h2 hFx' hLw' hb4 hle
      go_wp2_with (go_at_call 14; refine of_mark ?_)
      unfold Mark
      refine K1.mono ?_
      rintro e5 w5 ⟨rfl, d5, rfl⟩
      have K2 := K2.out d5
      go_wp2_with (go_at_call 14; refine of_mark ?_)
      unfold Mark
      refine K2.mono ?_
      rintro e6 w6 ⟨rfl, d6, rfl⟩
      clear K1 K2
      go_wp2_with (go_at_call 9; refine (awake9 _).mono ?_; rintro e9 w9 ⟨rfl, hb9⟩)
      go_ret
      exact ⟨rfl, below_up (bdrew HB4.out (d5 + d6)) hb9⟩
    · exfalso
      omega
end Go.Proofs.YtjhndnhldhmjnaaDoor
