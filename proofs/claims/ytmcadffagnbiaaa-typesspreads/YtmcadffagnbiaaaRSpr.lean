/- The document's Spread. -/
import Derived.Test.YtmcadffagnbiaaaLie
import Derived.Test.YtmcadffagnbiaaaRUp
namespace Go.Proofs.Ytmcadffagnbiaaa
open Go.RowKit Go.Maps
set_option linter.unusedVariables false
set_option linter.unusedSimpArgs false

def Mark (p : Prop) : Prop := p
theorem of_mark {p : Prop} (h : Mark p) : p := h
theorem cell_six_at {W : World} {b : Nat} {v0 v1 v2 v3 v4 v5 : Value} (h0 : W.cell? ⟨b, 0, none⟩ = some v0) (h1 : W.cell? ⟨b, 1, none⟩ = some v1) (h2 : W.cell? ⟨b, 2, none⟩ = some v2) (h3 : W.cell? ⟨b, 3, none⟩ = some v3) (h4 : W.cell? ⟨b, 4, none⟩ = some v4) (h5 : W.cell? ⟨b, 5, none⟩ = some v5) :
    ∀ j u, [v0, v1, v2, v3, v4, v5][j]? = some u → W.cell? ((⟨b, 0, none⟩ : Addr).add j) = some u
  | 0, u, e => by simp at e; subst e; exact h0
  | 1, u, e => by simp at e; subst e; exact h1
  | 2, u, e => by simp at e; subst e; exact h2
  | 3, u, e => by simp at e; subst e; exact h3
  | 4, u, e => by simp at e; subst e; exact h4
  | 5, u, e => by simp at e; subst e; exact h5
  | j + 6, u, e => by simp at e

/-- In the midst. -/
def RM (w : World) (rs : List Rc) (l : List Mb) (k : Nat) (out : Value) (lg : Bool) (A : Int) (W : World) : Prop :=
  0 ≤ A ∧ A ≤ 65536 ∧ Below w.heap.size w W ∧ ((lg = false ∧ (runS rs (l.take k)).z = upF A 4 ∧ (runS rs (l.take k)).z ≤ 65536 ∧ Own 47 6 Mb.cells W w.heap.size out (runS rs (l.take k)).d) ∨ (lg = true ∧ 65536 < (runS rs (l.take k)).z))

set_option maxRecDepth 100000 in
set_option maxHeartbeats 8000000 in
theorem spread25 {w : World} {v rv : Value} {l : List Mb} {rs : List Rc} (h : Src Mb.cells w v l) (hr : Src Rc.cells w rv rs) (hl : l.length * 56 ≤ 140737488351232) (hrl : rs.length * 48 ≤ 140737488351232) (hsz : sizedR rs) :
    Calls Try.prog 25 #[v, rv] w (SprR rs l w) := by
  obtain ⟨ao, cap, rfl, hf⟩ := h.form mb6
  have HF := hid' hf
  have H12 : Hid (∀ W, Below w.heap.size w W → ∀ t : Ty, Calls Try.prog 12 #[t.val, rv] W fun e w' => e = .returned (.tuple #[.int .i64 (szE t rs).1, .int .i64 (szE t rs).2]) ∧ Below W.heap.size W w') := fun W hW t => size12 (hr.on hW) (by omega) t
  have HSZ := hid' hsz
  obtain ⟨rao, rcap, rfl⟩ := hr.len
  obtain ⟨i47, hi47, z0', z1', z2'⟩ := info_parts info47
  clear hf h hr hsz
  go_enter Try.func25, Try.ntmps25
  go_wp2_with fail
  go_loopw [7, 8, 9, 10] (fun o a lg i wr => ∃ (k : Nat) (A : Int) (b : Bool), k ≤ l.length ∧ i = .int .i64 k ∧ a = .int .i64 A ∧ lg = .bool b ∧ okS rs l k ∧ RM w rs l k o b A wr) (fun _ _ _ i _ => l.length - (intOf i).toNat)
  case atStart =>
    refine ⟨0, 0, false, Nat.zero_le _, rfl, rfl, rfl, fun j _ hj => by omega, by omega, by omega, Below.refl _ _, .inl ⟨rfl, by simp [runS, upF], by simp [runS], ?_⟩⟩
    exact World.ownsRow_nil _ _ _ _
  case round =>
    obtain ⟨k, A, bl, hk, rfl, rfl, rfl, hok, a0, a1, hb, hM⟩ := hrel
    have HK := hid' hok
    have HB := hid' hb
    have HM := hid' hM
    clear hok hb hM
    by_cases hlt : k < l.length
    · obtain ⟨b, off, rfl, hbl, hcp, hc⟩ := HF.out k hlt
      obtain ⟨c0, c1, c2, c3, c4, c5⟩ := mb_cells (hc wr HB.out)
      have HC : Hid (∀ W, Below w.heap.size w W → _) := fun W hW => mb_cells (hc W hW)
      have hszk := sz_le HSZ.out l[k].ty
      have HT : Hid (∀ W, Below w.heap.size w W → Calls Try.prog 12 #[l[k].ty.val, .slice rao rs.length rcap] W fun e w' => e = .returned (.tuple #[.int .i64 (szE l[k].ty rs).1, .int .i64 (szE l[k].ty rs).2]) ∧ Below W.heap.size W w') := fun W hW => H12.out W hW _
      have H37 := fun W => up37 A 4 a0 (by omega) (.inr rfl) W
      have hupA := up_le a0 (u := 4) (.inr rfl)
      have HSX : Hid (runS rs (l.take (k + 1)) = ⟨(runS rs (l.take k)).d ++ [⟨l[k].nm, l[k].ty, (runS rs (l.take k)).z⟩], upF ((runS rs (l.take k)).z + (szE l[k].ty rs).1) 4⟩) := by unfold Hid; rw [take_snoc l k hlt, runS_snoc]; rfl
      have HE : Hid (∀ j (hj : j < l.length), j = k → (szE l[j].ty rs).2 = (szE l[k].ty rs).2) := fun j hj e => by subst e; rfl
      have hdl : (runS rs (l.take k)).d.length = k := by rw [runS_len, List.length_take]; omega
      have hA4 : upF A 4 ≤ 65536 := by unfold upF; omega
      have hUD : Hid (∀ x : Int, upF x 4 = (x + 4 - 1) / 4 * 4) := fun x => rfl
      generalize upF A 4 = A4 at *
      generalize (szE l[k].ty rs).1 = sz at *
      generalize (szE l[k].ty rs).2 = er at *
      unfold RM at *
      generalize (runS rs (l.take k)).z = z at *
      generalize (runS rs (l.take k)).d = D at *
      generalize l[k] = m at *
      obtain ⟨mn, ⟨tk, te, tn, ts⟩, mp⟩ := m
      unfold Ty.val at *
      dsimp only at *
      clear hc
      by_cases he : er = 0
      · subst he
        have HNK : Hid (okS rs l (k + 1)) := fun j hj hjk => by
          by_cases e : j = k
          · exact HE.out j hj e
          · exact HK.out j hj (by omega)
        have hw1 : IntKind.i64.wrap (65536 - A4) = 65536 - A4 := by simp [IntKind.wrap, IntKind.bits, IntKind.signed]; omega
        rcases HM.out with ⟨rfl, hz, hz1, hO⟩ | ⟨rfl, hz⟩
        · subst hz
          have HO := hid' hO
          clear hO HM
          by_cases hlong : 65536 - z < sz
          · have HN : Hid (65536 < upF (z + sz) 4) := by unfold Hid; have := hUD.out (z + sz); omega
            have hz0 : 0 ≤ z := by omega
            clear hUD hupA
            go_wp2_with (first
              | (go_at_call 12; refine (HT.out _ HB.out).mono ?_; rintro e3 w3 ⟨rfl, hb3⟩)
              | (go_at_call 37; with_reducible refine (H37 _).mono ?_; rintro e4 w4 ⟨rfl, rfl⟩))
            go_roundw
            case rel => exact ⟨k + 1, z, true, by omega, by go_num, rfl, rfl, HNK.out, hz0, hz1, below_on HB.out hb3 HB.out.size, .inr ⟨rfl, by rw [HSX.out]; exact HN.out⟩⟩
            case measure => simp [intOf]; omega
          · have HN : Hid (upF (z + sz) 4 ≤ 65536) := by unfold Hid; have := hUD.out (z + sz); omega
            have hz0 : 0 ≤ z := by omega
            have hw2 : IntKind.i64.wrap (z + sz) = z + sz := by simp [IntKind.wrap, IntKind.bits, IntKind.signed]; omega
            have HZS : Hid (0 ≤ z + sz ∧ z + sz ≤ 65536) := by unfold Hid; omega
            clear hUD hupA
            go_wp2_with (first
              | (go_at_call 12; refine (HT.out _ HB.out).mono ?_; rintro e3 w3 ⟨rfl, hb3⟩; clear c0 c1 c2 c3 c4 c5; obtain ⟨c0, c1, c2, c3, c4, c5⟩ := HC.out w3 (below_on HB.out hb3 HB.out.size); replace hb3 := hid' hb3)
              | (go_at_call 37; with_reducible refine (H37 _).mono ?_; rintro e4 w4 ⟨rfl, rfl⟩)
              | (at_builtin; refine of_mark ?_))
            unfold Mark
            have hO4 := (Kept.of_below (S := fun _ => False) hb3.out).owns HO.out (fun _ _ e => e)
            refine wpList_append_own_at _ rfl _ _ 43 rfl w.heap.size 47 i47 mz 6 56 Try.underlying43 hi47 z0' z1' z2' rfl (by decide) u7 _ _ rfl (World.ownsRow.alloc (World.ownsRow.alloc hO4 _) _) ⟨w4.heap.size + 1, 0, none⟩ 1 1 [.string mn, .int .i64 tk, .int .i64 te, .int .i64 tn, .int .i64 ts, .int .i64 z] rfl rfl (cell_six_at (by simp [go_sem]) (by simp [go_sem]) (by simp [go_sem]) (by simp [go_sem]) (by simp [go_sem]) (by simp [go_sem])) (by intro x hx; simp at hx; rcases hx with rfl | rfl | rfl | rfl | rfl | rfl <;> rfl) (by unfold maxLen; omega) (by omega) (by have := HB.out.size; have := hb3.out.size; simp; omega) ?_
            intro v' w5 hown' hgrow hnil hloc
            have HO' : Hid (Own 47 6 Mb.cells w5 w.heap.size v' (runS rs (l.take (k + 1))).d) := by
              unfold Hid
              rw [HSX.out]
              dsimp only
              unfold Own
              rw [flat_append, List.length_append]
              exact hown'
            have HB5 : Hid (Below w.heap.size w w5) := by
              have h3 := below_on HB.out hb3.out HB.out.size
              refine Below.grown ?_ hgrow ?_ (fun b hb => (World.ownsRow.lt hO4 b hb).1)
              · exact below_on h3 (below2 _ _ _) h3.size
              · have := h3.size
                simp
                omega
            clear hown' hgrow hnil hloc hO4 c0 c1 c2 c3 c4 c5
            go_wp2_with fail
            go_roundw
            case rel => exact ⟨k + 1, z + sz, false, by omega, by go_num, rfl, by simp [hlong], HNK.out, HZS.out.1, HZS.out.2, HB5.out, .inl ⟨rfl, by rw [HSX.out], by rw [HSX.out]; exact HN.out, HO'.out⟩⟩
            case measure => simp [intOf]; omega
        · have HN : Hid (65536 < upF (z + sz) 4) := by unfold Hid; have := hUD.out (z + sz); omega
          have hA40 : 0 ≤ A4 := by omega
          clear hUD hupA HM hz
          go_wp2_with (first
            | (go_at_call 12; refine (HT.out _ HB.out).mono ?_; rintro e3 w3 ⟨rfl, hb3⟩)
            | (go_at_call 37; with_reducible refine (H37 _).mono ?_; rintro e4 w4 ⟨rfl, rfl⟩))
          go_roundw
          case rel => exact ⟨k + 1, A4, true, by omega, by go_num, rfl, rfl, HNK.out, hA40, hA4, below_on HB.out hb3 HB.out.size, .inr ⟨rfl, by rw [HSX.out]; exact HN.out⟩⟩
          case measure => simp [intOf]; omega
      · have HBad : Hid (¬ okS rs l l.length) := fun h => he ((HE.out k hlt rfl).symm.trans (h k hlt hlt))
        have HER : Hid (er = 1) := by rcases hszk.2.2 with h | h; exact absurd h he; exact h
        clear H37 hszk hUD hupA
        go_wp2_with (go_at_call 12; refine (HT.out _ HB.out).mono ?_; rintro e3 w3 ⟨rfl, hb3⟩)
        exact bodyPost_ret (v := .tuple #[.slice none 0 0, .int .i64 0, .int .i64 er]) (by simp [results, Try.results25, go_sem]) rfl ⟨_, _, _, [], rfl, .inl ⟨HBad.out, HER.out, rfl, rfl⟩, src_nil, below_on HB.out hb3 HB.out.size⟩
    · have e : k = l.length := by omega
      subst e
      have H37 := fun W => up37 A 4 a0 (by omega) (.inr rfl) W
      unfold RM at *
      rw [List.take_length] at *
      rcases HM.out with ⟨rfl, hz, hz1, hO⟩ | ⟨rfl, hz⟩
      · have HR : Hid (SprIs rs l (runS rs l).d (runS rs l).z 0) := .inr (.inr ⟨HK.out, hz1, rfl, rfl, rfl⟩)
        have HS : Hid (Src Mb.cells wr u7 (runS rs l).d) := Own.src mb6 hO
        obtain ⟨ao7, cap7, rfl⟩ := HS.out.len
        rw [← hz] at H37
        have hzn : ¬ 65536 < (runS rs l).z := by omega
        have HZ := hid' hz
        clear hz hO HM HF
        go_wp2_with (go_at_call 37; with_reducible refine (H37 _).mono ?_; rintro e4 w4 ⟨rfl, rfl⟩)
        exact bodyPost_ret (v := .tuple #[.slice ao7 (runS rs l).d.length cap7, .int .i64 (runS rs l).z, .int .i64 0]) (by simp [results, Try.results25, go_sem]) rfl ⟨_, _, _, (runS rs l).d, rfl, HR.out, HS.out, HB.out⟩
      · have HR : Hid (SprIs rs l [] 0 3) := .inr (.inl ⟨HK.out, hz, rfl, rfl, rfl⟩)
        clear HM HF
        go_wp2_with (go_at_call 37; with_reducible refine (H37 _).mono ?_; rintro e4 w4 ⟨rfl, rfl⟩)
        exact bodyPost_ret (v := .tuple #[.slice none 0 0, .int .i64 0, .int .i64 3]) (by simp [results, Try.results25, go_sem]) rfl ⟨_, _, _, [], rfl, HR.out, src_nil, HB.out⟩
end Go.Proofs.Ytmcadffagnbiaaa
