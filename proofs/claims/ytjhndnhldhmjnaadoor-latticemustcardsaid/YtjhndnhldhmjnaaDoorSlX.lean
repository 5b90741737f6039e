/- Solve. -/
import Derived.Test.YtjhndnhldhmjnaaDoorNwX
namespace Go.Proofs.YtjhndnhldhmjnaaDoor
open Go Go.RowKit Go.Maps
set_option linter.unusedVariables false
set_option linter.unusedSimpArgs false
/-- An answer. -/
def AnsR (P : Prb Wd) (w : World) (e : Ending) (w' : World) : Prop :=
  ∃ gi go_ i o, e = .returned (.tuple #[.slice (some ⟨gi, 0, none⟩) P.n P.n, .slice (some ⟨go_, 0, none⟩) P.n P.n, .int .i64 0]) ∧ RowU w' gi P.n i ∧ RowU w' go_ P.n o ∧ P.Fix i o ∧ P.Low i o ∧ Below w.heap.size w w'
def NoneR (k : Int) (w : World) (e : Ending) (w' : World) : Prop := e = .returned (.tuple #[.slice none 0 0, .slice none 0 0, .int .i64 k]) ∧ Below w.heap.size w w'
set_option maxRecDepth 20000 in
set_option maxHeartbeats 4000000 in
theorem solve10_few {w : World} {n bot most : Int} {ev s j q f : Value} (h : most < 1) : Calls Tryd.prog 10 #[prbV n ev bot s j q f, .int .i64 most] w (NoneR 1 w) := by
  unfold prbV
  go_enter Tryd.func10, Tryd.ntmps10
  go_wp2_with fail
  refine bodyPost_ret (results_tmp3 rfl _ _ _) rfl ?_
  exact ⟨rfl, below1 _ _⟩
set_option maxRecDepth 20000 in
set_option maxHeartbeats 4000000 in
theorem solve10_no {w : World} {n bot most : Int} {ev s j q f : Value} (h : 1 ≤ most) (hm : ∀ W, Below w.heap.size w W → Calls Tryd.prog 28 #[prbV n ev bot s j q f] W fun e w' => e = .returned (.bool false) ∧ Below W.heap.size W w') : Calls Tryd.prog 10 #[prbV n ev bot s j q f, .int .i64 most] w (NoneR 1 w) := by
  unfold prbV at *
  have K := hm _ (below1 w (.cells #[.int .i64 n, ev, .int .u64 bot, s, j, q, f] 35))
  have h2 : ¬ most < 1 := by omega
  clear hm
  go_enter Tryd.func10, Tryd.ntmps10
  go_wp2_with (go_at_call 28; refine K.mono ?_; rintro e9 w9 ⟨rfl, hb9⟩)
  refine bodyPost_ret (results_tmp3 rfl _ _ _) rfl ?_
  exact ⟨rfl, Below.trans (below1 _ _) (hb9.mono (by simp))⟩
set_option maxRecDepth 20000 in
set_option maxHeartbeats 4000000 in
theorem solve10 {P : Prb Wd} {w : World} {ev : Value} {q : Nat × Nat} {fs fj fe ff : FuncId} {l : List (Int × Int)} {most : Int} (he : Src ecell w ev l) (hl : l.length ≤ 65536) (hn : P.n ≤ 4096) (hE : edgesF l P.n = true) (hP : P.edges = natE l) (hf : FnsOk P w q fs fj fe ff) (hT : TabM w) (h1 : 1 ≤ most) (htop : P.L.top < 4194304) :
    Calls Tryd.prog 10 #[prbV P.n ev (P.bot.toNat : Nat) (fv1 fs q.1) (fv0 fj) (fv0 fe) (fv1 ff q.2), .int .i64 most] w fun e w' => AnsR P w e w' ∨ (NoneR 2 w e w' ∧ most < P.n * (P.L.top + 1)) := by
  obtain ⟨W0, eW0⟩ : ∃ W0, W0 = w.alloc (.cells #[.int .i64 P.n, ev, .int .u64 (P.bot.toNat : Nat), fv1 fs q.1, fv0 fj, fv0 fe, fv1 ff q.2] 35) := ⟨_, rfl⟩
  have hB0 : Below w.heap.size w W0 := by rw [eW0]; exact below1 _ _
  have hbox : W0.heap[w.heap.size]? = some (.cells #[.int .i64 P.n, ev, .int .u64 (P.bot.toNat : Nat), fv1 fs q.1, fv0 fj, fv0 fe, fv1 ff q.2] 35 (0, 0)) := by rw [eW0]; exact heap_alloc_new _ _
  have hlt : w.heap.size < W0.heap.size := by rw [eW0]; simp
  have HC : Hid (∀ W, Below W0.heap.size W0 W → ∀ o, W.cell? ⟨w.heap.size, o, none⟩ = #[.int .i64 P.n, ev, .int .u64 (P.bot.toNat : Nat), fv1 fs q.1, fv0 fj, fv0 fe, fv1 ff q.2][o]?) := fun W hW o => cell_of_row W _ o _ 35 (0, 0) ((hW.block _ hlt).trans hbox)
  have KM : Calls Tryd.prog 28 #[prbV P.n ev (P.bot.toNat : Nat) (fv1 fs q.1) (fv0 fj) (fv0 fe) (fv1 ff q.2)] W0 fun e w' => e = .returned (.bool true) ∧ Below W0.heap.size W0 w' := by
    have := mayBe28 (w := W0) (n := P.n) (bot := (P.bot.toNat : Nat)) (s := .func fs) (j := .func fj) (q := .func fe) (f := .func ff) (s1 := #[]) (s2 := #[.pointer (some ⟨q.1, 0, none⟩)]) (j1 := #[]) (j2 := #[]) (q1 := #[]) (q2 := #[]) (f1 := #[]) (f2 := #[.pointer (some ⟨q.2, 0, none⟩)]) (he.on hB0) (by unfold big; omega) ⟨by omega, by omega⟩
    rw [hE] at this
    exact this
  have KN : ∀ W, Below W0.heap.size W0 W → Calls Tryd.prog 29 #[prbV P.n ev (P.bot.toNat : Nat) (fv1 fs q.1) (fv0 fj) (fv0 fe) (fv1 ff q.2)] W (NewS P q fs fj fe ff W) := fun W hW => newSolver29 (he.on (below_up hB0 hW)) hl hn hE hP (hf.on (below_up hB0 hW))
  have KN := hid' KN
  have HB0 := hid' hB0
  have HT := hid' hT
  have h2 : ¬ most < 1 := by omega
  unfold prbV at *
  clear he hE hf hB0 hbox hT
  subst eW0
  go_enter Tryd.func10, Tryd.ntmps10
  go_wp2_with (go_at_call 28; refine of_mark ?_)
  unfold Mark
  refine KM.mono ?_
  rintro e9 w9 ⟨rfl, hb9⟩
  have c := HC.out w9 hb9
  have c0 : w9.cell? ⟨w.heap.size, 0, none⟩ = some (.int .i64 P.n) := c 0
  have c1 : w9.cell? ⟨w.heap.size, 1, none⟩ = some ev := c 1
  have c2 : w9.cell? ⟨w.heap.size, 2, none⟩ = some (.int .u64 (P.bot.toNat : Nat)) := c 2
  have c3 : w9.cell? ⟨w.heap.size, 3, none⟩ = some (fv1 fs q.1) := c 3
  have c4 : w9.cell? ⟨w.heap.size, 4, none⟩ = some (fv0 fj) := c 4
  have c5 : w9.cell? ⟨w.heap.size, 5, none⟩ = some (fv0 fe) := c 5
  have c6 : w9.cell? ⟨w.heap.size, 6, none⟩ = some (fv1 ff q.2) := c 6
  have K9 := KN.out w9 hb9
  have HB9 := hid' (below_up HB0.out hb9)
  clear c KM hb9
  go_wp2_with (go_at_call 29; refine of_mark ?_)
  unfold Mark
  refine K9.mono ?_
  rintro e8 w8 ⟨c, w0, qs, rfl, hcP, hCn, hSM, hB8, hst, hto, hF⟩
  have hTw : TabM w0 := HT.out.on (below_up HB9.out hB8)
  have hpot : c.P.pot c.P.start (stF c qs) ≤ c.P.n * (c.P.L.top + 1) := by
    rw [c.P.pot_st (st' := fun _ => true) (fun x hx => hst x hx)]
    exact c.P.pot_begin _
  have htop' : c.P.L.top < 4194304 := by rw [hcP]; exact htop
  have KS := settle30 (most := most) hSM hCn hF hTw hto (c.P.slv_st c.P.slv_begin (fun x hx => (hst x hx).symm)) hpot (by
    rw [Nat.mul_comm]
    exact Nat.mul_le_mul_right _ (by omega))
  have HB8 := hid' (below_up HB9.out hB8)
  clear K9 hSM hCn hF hTw hto hst hpot hB8 c0 c1 c2 c3 c4 c5 c6
  go_wp2_with (go_at_call 30; refine of_mark ?_)
  unfold Mark
  refine KS.mono ?_
  rintro e7 w7 (⟨rfl, i, o, qs', a, hM, hFx, hLw⟩ | ⟨rfl, hlt2, hB7⟩)
  · have c12 := hM.all.2.2.2.2.2.1
    have c13 := hM.all.2.2.2.2.2.2
    have HM := hid' hM
    have HFx := hid' hFx
    have HLw := hid' hLw
    clear hM KS hFx hLw
    go_wp2_with fail
    go_quiet (fail)
    go_wp2_with fail
    refine bodyPost_ret (results_tmp3 rfl _ _ _) rfl ?_
    refine .inl ?_
    subst hcP
    exact ⟨c.gi, c.go, i, o, rfl, (HM.out.drew _).ri, (HM.out.drew _).ro, HFx.out, HLw.out, HB8.out.trans ((HM.out.drew _).below.mono HB8.out.size)⟩
  · clear KS
    go_wp2_with fail
    refine bodyPost_ret (results_tmp3 rfl _ _ _) rfl ?_
    subst hcP
    exact .inr ⟨⟨rfl, HB8.out.trans (hB7.mono HB8.out.size)⟩, by exact_mod_cast hlt2⟩
end Go.Proofs.YtjhndnhldhmjnaaDoor
