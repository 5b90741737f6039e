/- walk's inner loop, in its midst. -/
import Derived.Test.YtnnnfabpceapcaaGreatDoorWalkP
namespace Go.Proofs.YtnnnfabpceapcaaGreatDoor
open Go.RowKit
set_option linter.unusedVariables false

theorem info49' : (Tryz.prog.info? 48).map (fun i => (i.zero, i.size, i.bytes)) = some (some (.agg #[.slice none 0 0, .int .i64 0]), 2, 32) := by kernel_rfl
theorem info_parts {t : TypeId} {z : Value} {s b : Nat} (h : (Tryz.prog.info? t).map (fun i => (i.zero, i.size, i.bytes)) = some (some z, s, b)) : ∃ i, Tryz.prog.info? t = some i ∧ i.zero = some z ∧ i.size = s ∧ i.bytes = b := by
  cases hi : Tryz.prog.info? t with
  | none => rw [hi] at h; cases h
  | some i => rw [hi] at h; simp at h; exact ⟨i, rfl, h.1, h.2.1, h.2.2⟩

/-- append to a slice that the call itself made, as one step of a region that draws its order; where its row lies. -/
theorem step_app {P : Program} {ops : Array Oper} {o : Oper} {a : Act} {w : World} {K : Act → World → Prop} {Q : Exit → Act → World → Prop} {E : Prop}
    (hg : o.guard = none) (s x : Operand) (t : TypeId) (hop : o.op = Op.call { callee := Callee.builtin Builtin.append, args := #[s, x], argTypes := #[t, t] })
    (base : Nat) (e : TypeId) (i : TypeInfo) (z : Value) (size bytes : Nat) (h1 : P.underlying t = some (.slice e)) (h2 : P.info? e = some i) (h3 : i.zero = some z) (h4 : i.size = size) (h5 : i.bytes = bytes) (h6 : z.cells.size = size) (h7 : 0 < size)
    (v : Value) (n : Nat) (xs : List Value) (hs : a.eval s = v) (hown : w.ownsRow base e size v n xs)
    (ad : Addr) (m c : Nat) (news : List Value) (hx : a.eval x = .slice (some ad) m c) (hn : news.length = m * size) (hc : ∀ j u, news[j]? = some u → w.cell? (ad.add j) = some u) (h1c : ∀ u ∈ news, u.oneCell' = true)
    (b1 : n + m ≤ maxLen) (b2 : (n + m) * bytes ≤ 140737488355328) (hbase : base ≤ w.heap.size)
    (hK : ∀ v' w', w'.ownsRow base e size v' (n + m) (xs ++ news) → w.grownBy w' v.ownBlock → (v'.ownBlock = v.ownBlock ∨ v'.ownBlock = some w.heap.size) → K (a.put o.dst v') w') :
    if Region.wanted o (yielded ops a.tmps) = true then Oper.wp P o a w K Q else E := by
  have hw : Region.wanted o (yielded ops a.tmps) = true := by simp [Region.wanted, hg]
  rw [if_pos hw]
  obtain ⟨v', w', hrun, r1, r2, _, r3⟩ := run_append_own_at (P := P) w base t o.type e i z size bytes h1 h2 h3 h4 h5 h6 h7 v n xs hown ad m c news hn hc h1c b1 b2 hbase
  unfold Oper.wp
  simp [execOp, hop, resolve, invoke, builtin, hs, hx, hrun, Result.andThen]
  exact hK v' w' r1 r2 r3
theorem cells2 {w : World} {g : Nat} {a b : Value} (h0 : w.cell? ⟨g, 0, none⟩ = some a) (h1 : w.cell? ⟨g, 1, none⟩ = some b) : ∀ (j : Nat) (u : Value), [a, b][j]? = some u → w.cell? ((⟨g, 0, none⟩ : Addr).add j) = some u := by
  intro j u hj
  rw [Addr.add_lit]
  match j, hj with
  | 0, hj => simp at hj; subst hj; simpa using h0
  | 1, hj => simp at hj; subst hj; simpa using h1

/-- In the inner loop's midst. -/
structure IM (wB : World) (cb T : Nat) (Inv : Int → List (List Tr × Nat) → Prop) (cur : List (List Tr × Nat)) (rest vis : Nat) (S : List Ent) (v : Value) (rb : Nat) (rv : Value) (d : Nat) (W : World) : Prop where
  wm : WM wB cb T Inv cur rest vis S v W
  r0 : W.cell? ⟨rb, 0, none⟩ = some rv
  r1 : W.cell? ⟨rb, 1, none⟩ = some (.int .i64 (d : Int))
  rlt : rb < W.heap.size
  rge : wB.heap.size ≤ rb
  rne : v.ownBlock ≠ some rb
  few : S.length ≤ vis
theorem WM.next {wB W W' : World} {cb T vis r : Nat} {Inv : Int → List (List Tr × Nat) → Prop} {cur : List (List Tr × Nat)} {S : List Ent} {v : Value} (h : WM wB cb T Inv cur r vis S v W) (hcb : cb < wB.heap.size) (hb : Below W.heap.size W W') : WM wB cb T Inv cur r vis S v W' := by
  obtain ⟨hown, hrows, hkept, ⟨c, hc, h0, h1, hI⟩, hfrz, hsum, hfew, hlim⟩ := h
  have hl : cb < W.heap.size := Nat.lt_of_lt_of_le hcb hkept.size
  exact ⟨(Kept.of_below (S := fun _ => False) hb).owns hown (fun _ _ e => e), hrows, hkept.trans (Kept.of_below hb), ⟨c, (hb.cell (p := ⟨cb, 0, none⟩) hl).trans hc, h0, h1, hI⟩, (hb.frozen (p := ⟨cb, 0, none⟩) hl).trans hfrz, hsum, hfew, hlim⟩
/-- It begins. -/
theorem IM.start {wB W : World} {cb T vis r d : Nat} {Inv : Int → List (List Tr × Nat) → Prop} {cur : List (List Tr × Nat)} {S : List Ent} {v rv : Value} (h : WM wB cb T Inv cur r vis S v W) (hcb : cb < wB.heap.size) (hf : S.length ≤ vis) :
    IM wB cb T Inv cur r vis S v W.heap.size rv d (W.alloc (.cells #[rv, .int .i64 (d : Int)] 48)) :=
  ⟨h.next hcb (below1 _ _), by simp [go_sem], by simp [go_sem], by simp, h.kept.size, fun e => by have := (h.own.lt _ e).2; omega, hf⟩
/-- A node is seen. -/
theorem IM.see {wB W W' : World} {cb T vis d rb : Nat} {step : Int → Nat → Int} {Inv : Int → List (List Tr × Nat) → Prop} {S : List Ent} {v rv : Value} {x : NdH} {ks ts : List Tr} {c : Int} (hw : Way step Inv)
    (h : IM wB cb T Inv [(Tr.node x ks :: ts, d)] (szL (Tr.node x ks :: ts)) vis S v rb rv d W) (hcb : cb < wB.heap.size) (hd : d ≤ vis + 1) (hv : vis < 262144) (hc : W.cell? ⟨cb, 0, none⟩ = some (.int .i64 c)) (hW : W' = W.setCell ⟨cb, 0, none⟩ (.int .i64 (step c d))) :
    IM wB cb T Inv [(ts, d), (ks, d + 1)] (szL ts + szL ks) (vis + 1) S v rb rv d W' := by
  have hne : cb ≠ rb := by have := h.rge; omega
  have k := (Kept.rfl (fun b => b = cb) W).setC (b := cb) (o := 0) (fun _ => rfl) (.int .i64 (step c d))
  rw [← hW] at k
  exact ⟨h.wm.see hw hcb hd hv hc hW, (k.cell h.rlt (fun e => hne e.symm)).trans h.r0, (k.cell h.rlt (fun e => hne e.symm)).trans h.r1, Nat.lt_of_lt_of_le h.rlt k.size, h.rge, h.rne, by have := h.few; omega⟩
theorem IM.leaf {wB W : World} {cb T vis d r rb : Nat} {step : Int → Nat → Int} {Inv : Int → List (List Tr × Nat) → Prop} {S : List Ent} {v rv : Value} {ts : List Tr} (hw : Way step Inv) (h : IM wB cb T Inv [(ts, d), ([], d + 1)] r vis S v rb rv d W) : IM wB cb T Inv [(ts, d)] r vis S v rb rv d W :=
  ⟨h.wm.leaf hw, h.r0, h.r1, h.rlt, h.rge, h.rne, h.few⟩
/-- Its kids are laid: the region's world is the old one, a draw and a block more. -/
theorem IM.push {wB W W1 W' : World} {cb T vis d n rb : Nat} {Inv : Int → List (List Tr × Nat) → Prop} {S : List Ent} {v v' rv kv : Value} {ks ts : List Tr} (h : IM wB cb T Inv [(ts, d), (ks, d + 1)] (szL ts + szL ks) (vis + 1) S v rb rv d W) (hcb : cb < wB.heap.size) (hd : d ≤ vis + 1) (hf : S.length ≤ vis) (hk : Ks cb n wB kv ks) (h1 : 1 ≤ ks.length)
    (hb : Below W.heap.size W W1) (ho : W'.ownsRow wB.heap.size 48 2 v' (S.length + 1) (entsC S ++ [kv, .int .i64 ((d + 1 : Nat) : Int)])) (hg : W1.grownBy W' v.ownBlock) (hat : v'.ownBlock = v.ownBlock ∨ v'.ownBlock = some W1.heap.size) :
    IM wB cb T Inv [(ts, d)] (szL ts) (vis + 1) (S ++ [⟨kv, d + 1, ks⟩]) v' rb rv d W' := by
  have hK : Kept (fun b => v.ownBlock = some b) W W' := (Kept.of_below hb).grown hg (fun k e _ => e)
  have hr : ¬ v.ownBlock = some rb := h.rne
  refine ⟨h.wm.push hcb hd (by omega) hk h1 ho hK, (hK.cell h.rlt hr).trans h.r0, (hK.cell h.rlt hr).trans h.r1, Nat.lt_of_lt_of_le h.rlt hK.size, h.rge, fun e => ?_, by rw [List.length_append, List.length_singleton]; omega⟩
  rcases hat with e1 | e1
  · rw [e1] at e
    exact hr e
  · rw [e1] at e
    have := Option.some.inj e
    have := hb.size
    have := h.rlt
    omega
end Go.Proofs.YtnnnfabpceapcaaGreatDoor
