/- The document's do: calls. -/
import Derived.Test.YtiehlkhpblldaaaG33
import Derived.Test.YtiehlkhpblldaaaG35
set_option linter.unusedVariables false
set_option linter.unusedSimpArgs false
set_option maxRecDepth 20000
set_option maxHeartbeats 8000000
namespace Go.Proofs.Ytiehlkhpblldaaa
open Go.RowKit Go.Maps
section
variable {C : Cst} {W0 W W' : World} {r : Nat} {d d' : Ds} {v v' : Dv}
/-- A call's arguments in memory. -/
def ArgM (W0 W : World) (av : Value) (args : List Int) : Prop := ∃ B, W0.heap.size ≤ B ∧ W.ownsRow B 79 1 av args.length (flat ucel args)
/-- The document's call does what it tells, if less than n of fuel is left. -/
def CallOk (C : Cst) (W0 : World) (r : Nat) (call : Nat → List Int → Ds → Int × Ds) (n : Nat) : Prop :=
  ∀ (fn : Nat) (args : List Int) (d : Ds) (v : Dv) (W : World) (av : Value), fn < C.p.funcs.length → (args.length : Int) = (fnOf C fn).params → WordsOk args → DOk C 1 d → d.fuel.toNat < n → d.trap = 0 → d.over = false → DocM C W0 r W d v → ArgM W0 W av args →
    Calls Try.prog 19 #[.pointer (some ⟨r, 0, none⟩), .int .i64 fn, av] W fun e w' => e = .returned (.int .u32 (call fn args d).1) ∧ (∃ v', DocM C W0 r w' (call fn args d).2 v') ∧ Kept (TurnC W0 W r) W w'
theorem no_turn {W0 w : World} {r b : Nat} {cs : Array Value} {fr : Nat × Nat} (h : w.heap[b]? = some (.cells cs 51 fr)) (hn : ¬ b = r) : ¬ TurnC W0 w r b := fun e => by
  rcases e with e | ⟨_, c2, f2, e⟩
  · exact hn e
  · rw [h] at e
    injection e with e
    injection e with _ e
    exact absurd e (by decide)
def argL (l : List Int) (xs : List Int) (k : Nat) : List Int := (xs.take k).map (fun a => l.getD a.toNat 0)
theorem argL_succ (l xs : List Int) {k : Nat} (h : k < xs.length) : argL l xs (k + 1) = argL l xs k ++ [l.getD (xs[k]).toNat 0] := by
  unfold argL
  rw [take_snoc _ _ h, List.map_append]
  rfl
theorem argL_len (l xs : List Int) {k : Nat} (h : k ≤ xs.length) : (argL l xs k).length = k := by simp [argL]; omega
theorem argL_all (l xs : List Int) : argL l xs xs.length = xs.map (fun a => l.getD a.toNat 0) := by simp [argL]
/-- The midst of the loop over a call's arguments. -/
structure CaM (C : Cst) (W0 W : World) (r rb : Nat) (d : Ds) (v : Dv) (l xs : List Int) (k : Nat) (lv : Value) (w : World) : Prop where
  mid : MidD C W0 W r rb d v l w
  row : w.ownsRow (W.heap.size + 1) 79 1 lv k (flat ucel (argL l xs k))
  kept : Kept (fun q => W.heap.size + 1 ≤ q) W w
theorem MidD.grown {rb : Nat} {l : List Int} {w w' : World} {B n : Nat} {vv : Value} {xs : List Value} (h : MidD C W0 W r rb d v l w) (ho : w.ownsRow B 79 1 vv n xs) (hB : W.heap.size + 1 ≤ B) (hW : W0.heap.size ≤ W.heap.size) (hg : w.grownBy w' vv.ownBlock) (hrb : rb < W.heap.size) : MidD C W0 W r rb d v l w' ∧ Kept (fun q => W.heap.size + 1 ≤ q) w w' := by
  have K7 : Kept (fun q => W.heap.size + 1 ≤ q) w w' := Kept.of_grown hg (fun q e => by
    rcases ho.2 with ⟨e1, _⟩ | ⟨g, cap, cur, e1, hgB, _⟩
    · rw [e1] at e; cases e
    · rw [e1] at e; injection e with e; subst e; exact Nat.le_trans hB hgB)
  exact ⟨⟨h.doc.grown ho (by omega) hg, h.reg.kept K7 (by omega), h.kept.ahead K7 (fun i hi e => by omega)⟩, K7⟩
end
end Go.Proofs.Ytiehlkhpblldaaa
