/- The document's Instr: the ways out ahead of Args. -/
import Derived.Test.YthnbnilammjceaaIn0
namespace Go.Proofs.Ythnbnilammjceaa
open Go.RowKit Go.Maps
set_option linter.unusedVariables false
set_option linter.unusedSimpArgs false

set_option maxRecDepth 20000 in
set_option maxHeartbeats 8000000 in
theorem insN {w : World} {p : Pg} {f : Fn} {x : In} (hp : Pg.ok w p) (hf : Src Bl.cells w f.bv f.blocks) (hx : In.ok w x) {a d : Int} {ok : Bool}
    (h49 : ∀ W, Calls Try.prog 49 #[.int .i64 x.op] W fun e w' => e = .returned (.tuple #[.int .i64 a, .int .i64 d, .bool ok]) ∧ w' = W)
    (hno : ok = false ∨ (ok = true ∧ 0 ≤ a ∧ ¬ (x.args.length : Int) = a) ∨ (ok = true ∧ ¬ (0 ≤ a ∧ ¬ (x.args.length : Int) = a) ∧ ((d = -1 ∧ ¬ x.dst = -1) ∨ (d = 1 ∧ regB f x.dst = false) ∨ (d = 0 ∧ ¬ x.dst = -1 ∧ regB f x.dst = false)))) :
    Calls Try.prog 30 #[p.val, f.val, x.val] w fun e w' => e = .returned (.bool false) ∧ Below w.heap.size w w' := by
  have h50 := fun W => register50 f x.dst W
  obtain ⟨nm, ps, rs, sl, bv, bl⟩ := f
  obtain ⟨op, dst, av, args, imm, alu, wide, xv, pred⟩ := x
  obtain ⟨fv, funcs, gl, dv, data, main⟩ := p
  obtain ⟨ha, hal, hq, hql, hi1, hi2⟩ := hx
  obtain ⟨fo, fc, ef⟩ := hp.f.len
  obtain ⟨dd, dc, ed⟩ := hp.d.len
  dsimp only at *
  obtain ⟨ao, ac, rfl⟩ := ha.len
  obtain ⟨qo, qc, rfl⟩ := hq.len
  obtain ⟨bo, bc, rfl⟩ := hf.len
  subst ef ed
  unfold big at hal hql
  clear ha hq hf hp
  unfold In.val Fn.val Pg.val at *
  dsimp only at *
  rcases hno with rfl | ⟨rfl, h1, h2⟩ | ⟨rfl, h3, h4⟩
  · clear h50
    go_enter Try.func30, Try.ntmps30
    go_wp2_with (go_at_call 49; refine (h49 _).mono ?_; rintro e1 w1 ⟨rfl, rfl⟩)
    go_ret
    exact ⟨rfl, below3 _ _ _ _⟩
  · clear h50
    have h2' : ((args.length : Int) == a) = false := by simp [h2]
    go_enter Try.func30, Try.ntmps30
    go_wp2_with (go_at_call 49; refine (h49 _).mono ?_; rintro e1 w1 ⟨rfl, rfl⟩)
    go_ret
    exact ⟨rfl, below3 _ _ _ _⟩
  · by_cases ha : 0 ≤ a
    · have he : (args.length : Int) = a := Classical.byContradiction fun h => h3 ⟨ha, h⟩
      subst he
      clear h3 ha
      rcases h4 with ⟨rfl, hd⟩ | ⟨rfl, hd⟩ | ⟨rfl, hd, hr⟩
      · clear h50
        have hd' : (dst == -1) = false := by simp [hd]
        go_enter Try.func30, Try.ntmps30
        go_wp2_with (go_at_call 49; refine (h49 _).mono ?_; rintro e1 w1 ⟨rfl, rfl⟩)
        go_ret
        exact ⟨rfl, below3 _ _ _ _⟩
      · rw [hd] at h50
        go_enter Try.func30, Try.ntmps30
        go_wp2_with (first
          | (go_at_call 49; refine (h49 _).mono ?_; rintro e1 w1 ⟨rfl, rfl⟩)
          | (go_at_call 50; refine (h50 _).mono ?_; rintro e2 w2 ⟨rfl, hb2⟩))
        go_ret
        exact ⟨rfl, below_on (below3 _ _ _ _) hb2 (by simp; omega)⟩
      · rw [hr] at h50
        have hd' : (dst == -1) = false := by simp [hd]
        go_enter Try.func30, Try.ntmps30
        go_wp2_with (first
          | (go_at_call 49; refine (h49 _).mono ?_; rintro e1 w1 ⟨rfl, rfl⟩)
          | (go_at_call 50; refine (h50 _).mono ?_; rintro e2 w2 ⟨rfl, hb2⟩))
        go_ret
        exact ⟨rfl, below_on (below3 _ _ _ _) hb2 (by simp; omega)⟩
    · clear h3
      rcases h4 with ⟨rfl, hd⟩ | ⟨rfl, hd⟩ | ⟨rfl, hd, hr⟩
      · clear h50
        have hd' : (dst == -1) = false := by simp [hd]
        go_enter Try.func30, Try.ntmps30
        go_wp2_with (go_at_call 49; refine (h49 _).mono ?_; rintro e1 w1 ⟨rfl, rfl⟩)
        go_ret
        exact ⟨rfl, below3 _ _ _ _⟩
      · rw [hd] at h50
        go_enter Try.func30, Try.ntmps30
        go_wp2_with (first
          | (go_at_call 49; refine (h49 _).mono ?_; rintro e1 w1 ⟨rfl, rfl⟩)
          | (go_at_call 50; refine (h50 _).mono ?_; rintro e2 w2 ⟨rfl, hb2⟩))
        go_ret
        exact ⟨rfl, below_on (below3 _ _ _ _) hb2 (by simp; omega)⟩
      · rw [hr] at h50
        have hd' : (dst == -1) = false := by simp [hd]
        go_enter Try.func30, Try.ntmps30
        go_wp2_with (first
          | (go_at_call 49; refine (h49 _).mono ?_; rintro e1 w1 ⟨rfl, rfl⟩)
          | (go_at_call 50; refine (h50 _).mono ?_; rintro e2 w2 ⟨rfl, hb2⟩))
        go_ret
        exact ⟨rfl, below_on (below3 _ _ _ _) hb2 (by simp; omega)⟩
end Go.Proofs.Ythnbnilammjceaa
