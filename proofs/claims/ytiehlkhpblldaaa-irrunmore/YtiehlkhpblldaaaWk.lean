/- Check. -/
import Derived.Test.YtiehlkhpblldaaaChk
namespace Go.Proofs.Ytiehlkhpblldaaa
open Go.RowKit Go.Maps
set_option linter.unusedVariables false
set_option linter.unusedSimpArgs false

/-- May a program be? -/
def pgF (p : Pg) : Bool := mayF p && p.funcs.all (fnF p)
set_option maxRecDepth 20000 in
set_option maxHeartbeats 8000000 in
theorem check15 {w : World} {p : Pg} (hp : Pg.ok w p) :
    Calls Try.prog 15 #[p.val] w fun e w' => e = .returned (.int .i64 (errF (pgF p))) ∧ Below w.heap.size w w' := by
  have H25 : Hid (∀ W, Below w.heap.size w W → Calls Try.prog 21 #[p.val] W fun e w' => e = .returned (.bool (mayF p)) ∧ Below W.heap.size W w') := fun W hW => mayBe25 (hp.on hW)
  have H12 : Hid (∀ W, Below w.heap.size w W → ∀ k (hk : k < p.funcs.length), Calls Try.prog 22 #[p.val, (p.funcs[k]).val] W fun e w' => e = .returned (.int .i64 (errF (fnF p p.funcs[k]))) ∧ Below W.heap.size W w') := fun W hW k hk => checkFunc12 (hp.on hW) ((hp.fns _ (List.getElem_mem hk)).on hW)
  have HNO : Hid (∀ k (hk : k < p.funcs.length), fnF p p.funcs[k] = false → p.funcs.all (fnF p) = false) := fun k hk h => all_no k hk h
  have HYES : Hid ((∀ k (hk : k < p.funcs.length), fnF p p.funcs[k] = true) → p.funcs.all (fnF p) = true) := fun h => all_yes h
  have HFN := hid' hp.fns
  unfold pgF
  generalize fnF p = F at *
  obtain ⟨fv, funcs, gl, dv, data, main⟩ := p
  obtain ⟨fo, fc, ef, hff⟩ := hp.f.form fn5
  obtain ⟨dd, dc, ed⟩ := hp.d.len
  have hfl := hp.fl
  dsimp only at *
  subst ef ed
  have HF := hid' hff
  unfold big at hfl
  clear hp hff
  generalize hq : mayF ⟨.slice fo funcs.length fc, funcs, gl, .slice dd data.length dc, data, main⟩ = q at *
  clear hq
  unfold Pg.val at *
  dsimp only at *
  cases q
  · clear H12
    go_enter Try.func15, Try.ntmps15
    go_wp2_with (go_at_call 21; refine (H25.out _ (below1 _ _)).mono ?_; rintro e1 w1 ⟨rfl, hb1⟩)
    go_ret
    exact ⟨rfl, below_up (below1 _ _) hb1⟩
  · go_enter Try.func15, Try.ntmps15
    go_wp2_with (go_at_call 21; refine (H25.out _ (below1 _ _)).mono ?_; rintro e1 w1 ⟨rfl, hb1⟩; have HB1 := hid' hb1; obtain ⟨_, _, g0, g1, g2, g3⟩ := pbox hb1)
    go_loopw [12] (fun i wr => ∃ k : Nat, k ≤ funcs.length ∧ i = .int .i64 k ∧ (∀ j (hj : j < funcs.length), j < k → F funcs[j] = true) ∧ Below (w.alloc (.cells #[.slice fo funcs.length fc, .int .i64 gl, .slice dd data.length dc, .int .i64 main] 25)).heap.size (w.alloc (.cells #[.slice fo funcs.length fc, .int .i64 gl, .slice dd data.length dc, .int .i64 main] 25)) wr) (fun i _ => funcs.length - (intOf i).toNat)
    case atStart => exact ⟨0, Nat.zero_le _, rfl, fun j _ hj => by omega, HB1.out⟩
    case round =>
      obtain ⟨k, hk, rfl, hok, hbw⟩ := hrel
      have HK := hid' hok
      have HB := hid' hbw
      obtain ⟨hsz, hB0, p0, p1, p2, p3⟩ := pbox hbw
      have HB0 := hid' hB0
      clear hok hbw hB0 g0 g1 g2 g3
      by_cases hlt : k < funcs.length
      · obtain ⟨b, o, rfl, hb1, hc1, hx⟩ := HF.out k hlt
        obtain ⟨c0, c1, c2, c3, c4⟩ := fn_cells (hx wr HB0.out)
        have ho := HFN.out _ (List.getElem_mem hlt)
        obtain ⟨bo, bc, eb⟩ := ho.b.len
        have HC := fun W hW => H12.out W hW k hlt
        have HN : Hid (F funcs[k] = true → ∀ j (hj : j < funcs.length), j < k + 1 → F funcs[j] = true) := fun he j hj hjk => by
          by_cases e : j = k
          · subst e; exact he
          · exact HK.out j hj (by omega)
        have HNO2 := hid' (HNO.out k hlt)
        unfold Fn.val at HC
        rw [eb] at c4 HC
        have hnb : ¬ b = wr.heap.size := by have := HB0.out.size; omega
        have hnw : ¬ w.heap.size = wr.heap.size := by omega
        clear hx ho eb
        generalize F funcs[k] = q at *
        generalize funcs[k] = x at *
        unfold errF at HC
        cases q
        · rw [if_neg (by decide)] at HC
          go_wp2_with (go_at_call 22; refine (HC _ (HB0.out.alloc HB0.out.size _)).mono ?_; rintro e1 w2 ⟨rfl, hb2⟩)
          go_ret
          exact ⟨by rw [HNO2.out (by trivial)]; rfl, below_on (HB0.out.alloc HB0.out.size _) hb2 (by have := HB0.out.size; simp; omega)⟩
        · rw [if_pos rfl] at HC
          go_wp2_with (go_at_call 22; refine (HC _ (HB0.out.alloc HB0.out.size _)).mono ?_; rintro e1 w2 ⟨rfl, hb2⟩)
          go_roundw
          case rel => exact ⟨k + 1, by omega, by go_num, HN.out (by trivial), below_on (HB.out.alloc HB.out.size _) hb2 (by have := HB.out.size; simp at this ⊢; omega)⟩
          case measure => simp [intOf]; omega
      · have e : k = funcs.length := by omega
        subst e
        have HR := hid' (HYES.out (fun k hk => HK.out k hk hk))
        go_wp2_with fail
        go_ret
        exact ⟨by rw [HR.out]; rfl, HB0.out⟩

end Go.Proofs.Ytiehlkhpblldaaa
