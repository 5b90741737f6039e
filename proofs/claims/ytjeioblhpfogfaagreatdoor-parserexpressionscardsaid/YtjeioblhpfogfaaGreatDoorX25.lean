/- What the program's walks see: Size's and Depth's closures. -/
import Derived.Test.YtjeioblhpfogfaaGreatDoorX09
import Derived.Deep.QuietTactic
import Derived.BigQuiet
import Derived.Laws.OwnMore
import Derived.Maps.AppendAt
import Derived.Deep.RegionLaw
import Derived.Deep.CutBlock
set_option linter.unusedVariables false
set_option linter.unusedSimpArgs false
set_option maxRecDepth 20000
set_option maxHeartbeats 8000000
namespace Go.Proofs.YtjeioblhpfogfaaGreatDoor
open Go.RowKit

end Go.Proofs.YtjeioblhpfogfaaGreatDoor
namespace Go.Proofs.YtjeioblhpfogfaaGreatDoor
open Go.RowKit

theorem Kept.owns {S : Nat → Prop} {w w' : World} (h : Kept S w w') {base : Nat} {e : TypeId} {size : Nat} {v : Value} {n : Nat} {xs : List Value} (ho : w.ownsRow base e size v n xs) (hn : ∀ b, v.ownBlock = some b → ¬ S b) : w'.ownsRow base e size v n xs := by
  obtain ⟨hl, h'⟩ := ho
  refine ⟨hl, ?_⟩
  rcases h' with h' | ⟨g, cap, cur, hv, hg, hb, hr⟩
  · exact .inl h'
  · have hgl : g < w.heap.size := (Array.getElem?_eq_some_iff.1 hb).1
    exact .inr ⟨g, cap, cur, hv, hg, (h.block g hgl (hn g (by rw [hv]; exact Eq.refl _))).trans hb, hr⟩

/-- A row of nodes: the slice, how deep, and its trees. -/
structure Ent where
  v : Value
  d : Nat
  ks : List Tr
def entC (e : Ent) : List Value := [e.v, .int .i64 (e.d : Int)]
def entsC (S : List Ent) : List Value := S.flatMap entC
def tot : List Ent → Nat
  | [] => 0
  | e :: S => szL e.ks + tot S
theorem tot_append : ∀ (a b : List Ent), tot (a ++ b) = tot a + tot b
  | [], b => by simp [tot]
  | e :: r, b => by rw [List.cons_append, tot, tot, tot_append r b]; omega
theorem entsC_append (a b : List Ent) : entsC (a ++ b) = entsC a ++ entsC b := by unfold entsC; rw [List.flatMap_append]
theorem entsC_length : ∀ (S : List Ent), (entsC S).length = S.length * 2
  | [] => rfl
  | e :: S => by
    have := entsC_length S
    have h : entsC (e :: S) = entC e ++ entsC S := by unfold entsC; rw [List.flatMap_cons]
    rw [h, List.length_append, this]
    unfold entC
    simp
    omega
/-- What is still to be seen, the last row first. -/
def seen (S : List Ent) : List (List Tr × Nat) := S.reverse.map fun e => (e.ks, e.d)
theorem seen_push (S : List Ent) (e : Ent) : seen (S ++ [e]) = (e.ks, e.d) :: seen S := by unfold seen; rw [List.reverse_append]; simp

/-- How a closure's number goes. -/
structure Way (step : Int → Nat → Int) (Inv : Int → List (List Tr × Nat) → Prop) : Prop where
  go : ∀ c x ks ts d L, Inv c ((Tr.node x ks :: ts, d) :: L) → Inv (step c d) ((ts, d) :: (ks, d + 1) :: L)
  end_ : ∀ c d L, Inv c (([], d) :: L) → Inv c L
  none_ : ∀ c ts d L, Inv c ((ts, d) :: ([], d + 1) :: L) → Inv c ((ts, d) :: L)
  low : ∀ (c : Int) (d m : Nat), 0 ≤ c → c ≤ (m : Int) → d ≤ m + 1 → 0 ≤ step c d ∧ step c d ≤ (m : Int) + 1

/-- In walk's midst. -/
structure WM (wB : World) (cb T : Nat) (Inv : Int → List (List Tr × Nat) → Prop) (cur : List (List Tr × Nat)) (rest vis : Nat) (S : List Ent) (v : Value) (W : World) : Prop where
  own : W.ownsRow wB.heap.size 119 2 v S.length (entsC S)
  rows : ∀ e ∈ S, (∃ n, Ks cb n wB e.v e.ks) ∧ e.d ≤ vis + 1 ∧ 1 ≤ e.ks.length
  kept : Kept (fun b => b = cb) wB W
  inv : ∃ c : Int, W.cell? ⟨cb, 0, none⟩ = some (.int .i64 c) ∧ 0 ≤ c ∧ c ≤ (vis : Int) ∧ Inv c (cur ++ seen S)
  frz : W.frozen? ⟨cb, 0, none⟩ = false
  sum : T = vis + rest + tot S
  few : S.length ≤ vis + 1
  lim : vis ≤ 262144

/-- The last row, taken. -/
theorem WM.pop {wB W : World} {cb T vis : Nat} {Inv : Int → List (List Tr × Nat) → Prop} {S : List Ent} {e : Ent} {v : Value} (h : WM wB cb T Inv [] 0 vis (S ++ [e]) v W) :
    ∃ g cap, v = .slice (some ⟨g, 0, none⟩) (S.length + 1) cap ∧ wB.heap.size ≤ g ∧ g < W.heap.size ∧ S.length + 1 ≤ cap ∧ cap ≤ maxLen ∧ W.cell? ⟨g, S.length * 2, none⟩ = some e.v ∧ W.cell? ⟨g, S.length * 2 + 1, none⟩ = some (.int .i64 (e.d : Int)) ∧
      WM wB cb T Inv [(e.ks, e.d)] (szL e.ks) vis S (.slice (some ⟨g, 0, none⟩) S.length cap) W ∧ (∃ n, Ks cb n wB e.v e.ks) ∧ e.d ≤ vis + 1 ∧ 1 ≤ e.ks.length := by
  obtain ⟨hown, hrows, hkept, ⟨c, hc, h0, h1, hI⟩, hfrz, hsum, hfew, hlim⟩ := h
  obtain ⟨r1, r2, r3⟩ := hrows e (by simp)
  rw [List.length_append, List.length_singleton] at hown hfew
  obtain ⟨hlen, ⟨_, h⟩ | ⟨g, cap, cur, rfl, hg, hh, hn, hm, hs, ht⟩⟩ := hown
  · omega
  rw [entsC_append] at ht hlen
  have hl := entsC_length S
  have he : entsC [e] = [e.v, .int .i64 (e.d : Int)] := rfl
  have hown' : W.ownsRow wB.heap.size 119 2 (.slice (some ⟨g, 0, none⟩) (S.length + 1) cap) (S.length + 1) (entsC S ++ entsC [e]) := ⟨hlen, .inr ⟨g, cap, cur, rfl, hg, hh, hn, hm, hs, ht⟩⟩
  have c0 := hown'.cellAt (S.length * 2) (by omega)
  have c1 := hown'.cellAt (S.length * 2 + 1) (by omega)
  rw [List.getElem?_append_right (by omega), hl, he] at c0 c1
  simp at c0 c1
  have hgl := (hown'.lt g rfl).2
  refine ⟨g, cap, rfl, hg, hgl, hn, hm, c0, c1, ⟨⟨hl, .inr ⟨g, cap, cur, rfl, hg, hh, by omega, hm, hs, ?_⟩⟩, fun e' he' => hrows e' (by simp [he']), hkept, ⟨c, hc, h0, h1, ?_⟩, hfrz, ?_, by omega, hlim⟩, r1, r2, r3⟩
  · have := congrArg (List.take (S.length * 2)) ht
    rw [List.take_take, Nat.min_eq_left (by omega), List.take_append_of_le_length (by omega), List.take_of_length_le (l := entsC S) (by omega)] at this
    exact this
  · rw [seen_push] at hI
    exact hI
  · rw [tot_append] at hsum
    simp only [tot] at hsum
    omega

/-- A node seen, no row laid. -/
theorem WM.see {wB W W' : World} {cb T vis d : Nat} {step : Int → Nat → Int} {Inv : Int → List (List Tr × Nat) → Prop} {S : List Ent} {v : Value} {x : NdH} {ks ts : List Tr} {c : Int} (hw : Way step Inv)
    (h : WM wB cb T Inv [(Tr.node x ks :: ts, d)] (szL (Tr.node x ks :: ts)) vis S v W) (hcb : cb < wB.heap.size) (hd : d ≤ vis + 1) (hv : vis < 262144) (hc : W.cell? ⟨cb, 0, none⟩ = some (.int .i64 c)) (hW : W' = W.setCell ⟨cb, 0, none⟩ (.int .i64 (step c d))) :
    WM wB cb T Inv [(ts, d), (ks, d + 1)] (szL ts + szL ks) (vis + 1) S v W' := by
  obtain ⟨hown, hrows, hkept, ⟨c', hc', h0, h1, hI⟩, hfrz, hsum, hfew, hlim⟩ := h
  have : c' = c := by rw [hc] at hc'; injection hc' with e; injection e with _ e2; exact e2.symm
  subst this
  subst hW
  have hl : cb < W.heap.size := Nat.lt_of_lt_of_le hcb hkept.size
  obtain ⟨l0, l1⟩ := hw.low c' d vis h0 h1 hd
  refine ⟨?_, fun e he => by obtain ⟨r1, r2, r3⟩ := hrows e he; exact ⟨r1, by omega, r3⟩, hkept.setC (fun _ => rfl) _, ⟨step c' d, ?_, l0, by omega, hw.go _ _ _ _ _ _ hI⟩, ?_, ?_, by omega, by omega⟩
  · exact ((Kept.rfl (fun b => b = cb) W).setC (fun _ => rfl) _).owns hown (fun b hb e => by have := (hown.lt b hb).1; omega)
  · exact World.cell?_setCell_same _ _ _ hc'
  · rw [World.frozen?_setCell]; exact hfrz
  · rw [szL_cons, szT_node] at hsum
    omega
/-- No kids: nothing is laid. -/
theorem WM.leaf {wB W : World} {cb T vis d r : Nat} {step : Int → Nat → Int} {Inv : Int → List (List Tr × Nat) → Prop} {S : List Ent} {v : Value} {ts : List Tr} (hw : Way step Inv) (h : WM wB cb T Inv [(ts, d), ([], d + 1)] r vis S v W) : WM wB cb T Inv [(ts, d)] r vis S v W := by
  obtain ⟨hown, hrows, hkept, ⟨c, hc, h0, h1, hI⟩, hfrz, hsum, hfew, hlim⟩ := h
  exact ⟨hown, hrows, hkept, ⟨c, hc, h0, h1, hw.none_ _ _ _ _ hI⟩, hfrz, hsum, hfew, hlim⟩
/-- A row is done. -/
theorem WM.done {wB W : World} {cb T vis d : Nat} {step : Int → Nat → Int} {Inv : Int → List (List Tr × Nat) → Prop} {S : List Ent} {v : Value} (hw : Way step Inv) (h : WM wB cb T Inv [([], d)] (szL []) vis S v W) : WM wB cb T Inv [] 0 vis S v W := by
  obtain ⟨hown, hrows, hkept, ⟨c, hc, h0, h1, hI⟩, hfrz, hsum, hfew, hlim⟩ := h
  exact ⟨hown, hrows, hkept, ⟨c, hc, h0, h1, hw.end_ _ _ _ hI⟩, hfrz, hsum, hfew, hlim⟩
/-- The kids' row is laid. -/
theorem WM.push {wB W W' : World} {cb T vis d n : Nat} {Inv : Int → List (List Tr × Nat) → Prop} {S : List Ent} {v v' kv : Value} {ks ts : List Tr} (h : WM wB cb T Inv [(ts, d), (ks, d + 1)] (szL ts + szL ks) vis S v W) (hcb : cb < wB.heap.size) (hd : d ≤ vis) (hf : S.length ≤ vis) (hk : Ks cb n wB kv ks) (h1 : 1 ≤ ks.length)
    (ho : W'.ownsRow wB.heap.size 119 2 v' (S.length + 1) (entsC S ++ [kv, .int .i64 ((d + 1 : Nat) : Int)])) (hK : Kept (fun b => v.ownBlock = some b) W W') : WM wB cb T Inv [(ts, d)] (szL ts) vis (S ++ [⟨kv, d + 1, ks⟩]) v' W' := by
  obtain ⟨hown, hrows, hkept, ⟨c, hc, h0, h2, hI⟩, hfrz, hsum, hfew, hlim⟩ := h
  have hl : cb < W.heap.size := Nat.lt_of_lt_of_le hcb hkept.size
  have hnb : ¬ v.ownBlock = some cb := fun e => by have := (hown.lt cb e).1; omega
  refine ⟨?_, fun e he => ?_, ?_, ⟨c, (hK.cell hl hnb).trans hc, h0, h2, ?_⟩, (hK.frozen hl hnb).trans hfrz, ?_, ?_, hlim⟩
  · rw [List.length_append, entsC_append]
    exact ho
  · rw [List.mem_append, List.mem_singleton] at he
    rcases he with he | rfl
    · exact hrows e he
    · exact ⟨⟨n, hk⟩, by show d + 1 ≤ vis + 1; omega, h1⟩
  · refine ⟨hK.os.trans hkept.os, hK.tape.trans hkept.tape, hK.output.trans hkept.output, Nat.le_trans hkept.size hK.size, fun k hk' hn => (hK.block k (Nat.lt_of_lt_of_le hk' hkept.size) (fun e => ?_)).trans (hkept.block k hk' hn)⟩
    have := (hown.lt k e).1
    omega
  · rw [seen_push]
    exact hI
  · rw [tot_append]
    simp only [tot]
    omega
  · rw [List.length_append, List.length_singleton]
    omega
end Go.Proofs.YtjeioblhpfogfaaGreatDoor
namespace Go.Proofs.YtjeioblhpfogfaaGreatDoor
open Go.RowKit

theorem info49' : (Tryz.prog.info? 119).map (fun i => (i.zero, i.size, i.bytes)) = some (some (.agg #[.slice none 0 0, .int .i64 0]), 2, 32) := by kernel_rfl
theorem info_partsW {t : TypeId} {z : Value} {s b : Nat} (h : (Tryz.prog.info? t).map (fun i => (i.zero, i.size, i.bytes)) = some (some z, s, b)) : ∃ i, Tryz.prog.info? t = some i ∧ i.zero = some z ∧ i.size = s ∧ i.bytes = b := by
  cases hi : Tryz.prog.info? t with
  | none => rw [hi] at h; cases h
  | some i => rw [hi] at h; simp at h; exact ⟨i, rfl, h.1, h.2.1, h.2.2⟩

/-- append to a slice that the call itself made, as one step of a region that draws its order; where its row lies. -/
theorem step_appW {P : Program} {ops : Array Oper} {o : Oper} {a : Act} {w : World} {K : Act → World → Prop} {Q : Exit → Act → World → Prop} {E : Prop}
    (hg : o.guard = none) (s x : Operand) (t : TypeId) (hop : o.op = Op.call { callee := Callee.builtin Builtin.append, args := #[s, x], argTypes := #[t, t] })
    (base : Nat) (e : TypeId) (i : TypeInfo) (z : Value) (size bytes : Nat) (h1 : P.underlying t = some (.slice e)) (h2 : P.info? e = some i) (h3 : i.zero = some z) (h4 : i.size = size) (h5 : i.bytes = bytes) (h6 : z.cells.size = size) (h7 : 0 < size)
    (v : Value) (n : Nat) (xs : List Value) (hs : a.eval s = v) (hown : w.ownsRow base e size v n xs)
    (ad : Addr) (m c : Nat) (news : List Value) (hx : a.eval x = .slice (some ad) m c) (hn : news.length = m * size) (hc : ∀ j u, news[j]? = some u → w.cell? (ad.add j) = some u) (h1c : ∀ u ∈ news, u.oneCell' = true)
    (b1 : n + m ≤ maxLen) (b2 : (n + m) * bytes ≤ 140737488355328) (hbase : base ≤ w.heap.size)
    (hK : ∀ v' w', w'.ownsRow base e size v' (n + m) (xs ++ news) → w.grownBy w' v.ownBlock → (v'.ownBlock = v.ownBlock ∨ v'.ownBlock = some w.heap.size) → K (a.put o.dst v') w') :
    if Region.wanted o (yielded ops a.tmps) = true then Oper.wp P o a w K Q else E := by
  have hw : Region.wanted o (yielded ops a.tmps) = true := by simp [Region.wanted, hg]
  rw [if_pos hw]
  obtain ⟨v', w', hrun, r1, r2, _, r3⟩ := run_append_own_at (P := P) w base t o.type e i z size bytes h1 h2 h3 h4 h5 h6 h7 v n xs hown ad m c news hn hc h1c b1 b2 hbase
  unfold Oper.wp
  simp [execOp, hop, resolve, invoke, builtin, hs, hx, hrun, Result.andThen]
  exact hK v' w' r1 r2 r3
theorem cells2 {w : World} {g : Nat} {a b : Value} (h0 : w.cell? ⟨g, 0, none⟩ = some a) (h1 : w.cell? ⟨g, 1, none⟩ = some b) : ∀ (j : Nat) (u : Value), [a, b][j]? = some u → w.cell? ((⟨g, 0, none⟩ : Addr).add j) = some u := by
  intro j u hj
  rw [Addr.add_lit]
  match j, hj with
  | 0, hj => simp at hj; subst hj; simpa using h0
  | 1, hj => simp at hj; subst hj; simpa using h1

/-- In the inner loop's midst. -/
structure IM (wB : World) (cb T : Nat) (Inv : Int → List (List Tr × Nat) → Prop) (cur : List (List Tr × Nat)) (rest vis : Nat) (S : List Ent) (v : Value) (rb : Nat) (rv : Value) (d : Nat) (W : World) : Prop where
  wm : WM wB cb T Inv cur rest vis S v W
  r0 : W.cell? ⟨rb, 0, none⟩ = some rv
  r1 : W.cell? ⟨rb, 1, none⟩ = some (.int .i64 (d : Int))
  rlt : rb < W.heap.size
  rge : wB.heap.size ≤ rb
  rne : v.ownBlock ≠ some rb
  few : S.length ≤ vis
theorem WM.next {wB W W' : World} {cb T vis r : Nat} {Inv : Int → List (List Tr × Nat) → Prop} {cur : List (List Tr × Nat)} {S : List Ent} {v : Value} (h : WM wB cb T Inv cur r vis S v W) (hcb : cb < wB.heap.size) (hb : Below W.heap.size W W') : WM wB cb T Inv cur r vis S v W' := by
  obtain ⟨hown, hrows, hkept, ⟨c, hc, h0, h1, hI⟩, hfrz, hsum, hfew, hlim⟩ := h
  have hl : cb < W.heap.size := Nat.lt_of_lt_of_le hcb hkept.size
  exact ⟨(Kept.of_below (S := fun _ => False) hb).owns hown (fun _ _ e => e), hrows, hkept.trans (Kept.of_below hb), ⟨c, (hb.cell (p := ⟨cb, 0, none⟩) hl).trans hc, h0, h1, hI⟩, (hb.frozen (p := ⟨cb, 0, none⟩) hl).trans hfrz, hsum, hfew, hlim⟩
/-- It begins. -/
theorem IM.start {wB W : World} {cb T vis r d : Nat} {Inv : Int → List (List Tr × Nat) → Prop} {cur : List (List Tr × Nat)} {S : List Ent} {v rv : Value} (h : WM wB cb T Inv cur r vis S v W) (hcb : cb < wB.heap.size) (hf : S.length ≤ vis) :
    IM wB cb T Inv cur r vis S v W.heap.size rv d (W.alloc (.cells #[rv, .int .i64 (d : Int)] 119)) :=
  ⟨h.next hcb (below1 _ _), by simp [go_sem], by simp [go_sem], by simp, h.kept.size, fun e => by have := (h.own.lt _ e).2; omega, hf⟩
/-- A node is seen. -/
theorem IM.see {wB W W' : World} {cb T vis d rb : Nat} {step : Int → Nat → Int} {Inv : Int → List (List Tr × Nat) → Prop} {S : List Ent} {v rv : Value} {x : NdH} {ks ts : List Tr} {c : Int} (hw : Way step Inv)
    (h : IM wB cb T Inv [(Tr.node x ks :: ts, d)] (szL (Tr.node x ks :: ts)) vis S v rb rv d W) (hcb : cb < wB.heap.size) (hd : d ≤ vis + 1) (hv : vis < 262144) (hc : W.cell? ⟨cb, 0, none⟩ = some (.int .i64 c)) (hW : W' = W.setCell ⟨cb, 0, none⟩ (.int .i64 (step c d))) :
    IM wB cb T Inv [(ts, d), (ks, d + 1)] (szL ts + szL ks) (vis + 1) S v rb rv d W' := by
  have hne : cb ≠ rb := by have := h.rge; omega
  have k := (Kept.rfl (fun b => b = cb) W).setC (b := cb) (o := 0) (fun _ => rfl) (.int .i64 (step c d))
  rw [← hW] at k
  exact ⟨h.wm.see hw hcb hd hv hc hW, (k.cell h.rlt (fun e => hne e.symm)).trans h.r0, (k.cell h.rlt (fun e => hne e.symm)).trans h.r1, Nat.lt_of_lt_of_le h.rlt k.size, h.rge, h.rne, by have := h.few; omega⟩
theorem IM.leaf {wB W : World} {cb T vis d r rb : Nat} {step : Int → Nat → Int} {Inv : Int → List (List Tr × Nat) → Prop} {S : List Ent} {v rv : Value} {ts : List Tr} (hw : Way step Inv) (h : IM wB cb T Inv [(ts, d), ([], d + 1)] r vis S v rb rv d W) : IM wB cb T Inv [(ts, d)] r vis S v rb rv d W :=
  ⟨h.wm.leaf hw, h.r0, h.r1, h.rlt, h.rge, h.rne, h.few⟩
/-- Its kids are laid: the region's world is the old one, a draw and a block more. -/
theorem IM.push {wB W W1 W' : World} {cb T vis d n rb : Nat} {Inv : Int → List (List Tr × Nat) → Prop} {S : List Ent} {v v' rv kv : Value} {ks ts : List Tr} (h : IM wB cb T Inv [(ts, d), (ks, d + 1)] (szL ts + szL ks) (vis + 1) S v rb rv d W) (hcb : cb < wB.heap.size) (hd : d ≤ vis + 1) (hf : S.length ≤ vis) (hk : Ks cb n wB kv ks) (h1 : 1 ≤ ks.length)
    (hb : Below W.heap.size W W1) (ho : W'.ownsRow wB.heap.size 119 2 v' (S.length + 1) (entsC S ++ [kv, .int .i64 ((d + 1 : Nat) : Int)])) (hg : W1.grownBy W' v.ownBlock) (hat : v'.ownBlock = v.ownBlock ∨ v'.ownBlock = some W1.heap.size) :
    IM wB cb T Inv [(ts, d)] (szL ts) (vis + 1) (S ++ [⟨kv, d + 1, ks⟩]) v' rb rv d W' := by
  have hK : Kept (fun b => v.ownBlock = some b) W W' := (Kept.of_below hb).grown hg (fun k e _ => e)
  have hr : ¬ v.ownBlock = some rb := h.rne
  refine ⟨h.wm.push hcb hd (by omega) hk h1 ho hK, (hK.cell h.rlt hr).trans h.r0, (hK.cell h.rlt hr).trans h.r1, Nat.lt_of_lt_of_le h.rlt hK.size, h.rge, fun e => ?_, by rw [List.length_append, List.length_singleton]; omega⟩
  rcases hat with e1 | e1
  · rw [e1] at e
    exact hr e
  · rw [e1] at e
    have := Option.some.inj e
    have := hb.size
    have := h.rlt
    omega
end Go.Proofs.YtjeioblhpfogfaaGreatDoor
namespace Go.Proofs.YtjeioblhpfogfaaGreatDoor
open Go.RowKit

theorem szT_pos (t : Tr) : 1 ≤ szT t := by unfold szT; split <;> omega
theorem len_le_szL : ∀ (l : List Tr), l.length ≤ szL l
  | [] => by simp
  | t :: r => by
    have := szT_pos t
    have := len_le_szL r
    rw [szL_cons, List.length_cons]
    omega

theorem walk_start {w wB : World} {cb n : Nat} {Inv : Int → List (List Tr × Nat) → Prop} {x : NdH} {kv : Value} {ks : List Tr} (hcb : cb < w.heap.size) (hc : w.cell? ⟨cb, 0, none⟩ = some (.int .i64 0)) (hf : w.frozen? ⟨cb, 0, none⟩ = false) (hK : Ks cb n w kv ks) (h0 : Inv 0 [([Tr.node x ks], 1)])
    (hwB : wB = (w.alloc (.cells #[.int .i64 x.kind, .string x.str, .int .u32 x.num, .bool x.flag, kv, .int .i64 x.pos] 25)).alloc (.cells #[.int .i64 x.kind, .string x.str, .int .u32 x.num, .bool x.flag, kv, .int .i64 x.pos] 25)) :
    WM wB cb (1 + szL ks) Inv [] 0 0 [⟨.slice (some ⟨w.heap.size + 1, 0, none⟩) 1 1, 1, [Tr.node x ks]⟩] (.slice (some ⟨w.heap.size + 1 + 1, 0, none⟩) 1 1) (wB.alloc (.cells #[.slice (some ⟨w.heap.size + 1, 0, none⟩) 1 1, .int .i64 1] 119)) := by
  have hs : wB.heap.size = w.heap.size + 1 + 1 := by rw [hwB]; simp
  have hb : Below w.heap.size w wB := by rw [hwB]; exact (below1 _ _).alloc (by simp) _
  have hKB := hK.below hb
  refine ⟨⟨rfl, .inr ⟨w.heap.size + 1 + 1, 1, #[.slice (some ⟨w.heap.size + 1, 0, none⟩) 1 1, .int .i64 1], rfl, by omega, ?_, Nat.le_refl _, by unfold maxLen; omega, rfl, rfl⟩⟩, fun e he => ?_, (Kept.rfl _ _).alloc _, ⟨0, ?_, Int.le_refl _, Int.le_refl _, h0⟩, ?_, ?_, by simp, by omega⟩
  · rw [← hs]
    exact heap_alloc_new wB _
  · rw [List.mem_singleton] at he
    subst he
    refine ⟨⟨n + 1, ?_⟩, by show 1 ≤ 0 + 1; omega, by simp⟩
    rw [Ks]
    refine ⟨by simp, _, _, rfl, fun i hi => ?_⟩
    have : i = 0 := by simp at hi; omega
    subst this
    refine ⟨w.heap.size + 1, 0, x, kv, ks, rfl, ⟨by omega, by omega⟩, ⟨rfl, by simp⟩, ?_, hKB⟩
    rw [hwB]
    refine ⟨?_, ?_, ?_, ?_, ?_, ?_⟩ <;> simp [go_sem]
  · have h1 := (below1 wB (.cells #[.slice (some ⟨w.heap.size + 1, 0, none⟩) 1 1, .int .i64 1] 119)).cell (p := ⟨cb, 0, none⟩) (by show cb < _; omega)
    exact h1.trans ((hb.cell (p := ⟨cb, 0, none⟩) hcb).trans hc)
  · have h1 := (below1 wB (.cells #[.slice (some ⟨w.heap.size + 1, 0, none⟩) 1 1, .int .i64 1] 119)).frozen (p := ⟨cb, 0, none⟩) (by show cb < _; omega)
    exact h1.trans ((hb.frozen (p := ⟨cb, 0, none⟩) hcb).trans hf)
  · simp only [tot]
    rw [szL_cons, szL_nil, szT_node]
    omega

theorem walk16 {w : World} {cb n : Nat} {g : FuncId} {step : Int → Nat → Int} {Inv : Int → List (List Tr × Nat) → Prop} {x : NdH} {kv : Value} {ks : List Tr} (hw : Way step Inv) (hcb : cb < w.heap.size) (hc : w.cell? ⟨cb, 0, none⟩ = some (.int .i64 0)) (hf : w.frozen? ⟨cb, 0, none⟩ = false) (hK : Ks cb n w kv ks) (h0 : Inv 0 [([Tr.node x ks], 1)]) (hg : ∀ (args : Array Value) (W : World), (callFunc g args).run Tryz.prog W = .ok (.enter g args) W)
    (hsee : ∀ (W : World) (p : Value) (d : Nat) (c : Int), W.cell? ⟨cb, 0, none⟩ = some (.int .i64 c) → W.frozen? ⟨cb, 0, none⟩ = false → cb < W.heap.size → 0 ≤ c → c ≤ 1000000 → d ≤ 1000000 → Calls Tryz.prog g #[p, .int .i64 (d : Int), .pointer (some ⟨cb, 0, none⟩)] W fun e w' => e = .returned (.bool true) ∧ w' = W.setCell ⟨cb, 0, none⟩ (.int .i64 (step c d))) :
    Calls Tryz.prog 56 #[ndV x kv, .func (.func g) #[] #[.pointer (some ⟨cb, 0, none⟩)]] w fun e w' => ∃ c : Int, e = .returned (.bool (decide (1 + szL ks ≤ 262144))) ∧ w'.cell? ⟨cb, 0, none⟩ = some (.int .i64 c) ∧ (1 + szL ks ≤ 262144 → Inv c []) ∧ Kept (fun b => b = cb) w w' := by
  obtain ⟨wB, hwB⟩ : ∃ wB, wB = (w.alloc (.cells #[.int .i64 x.kind, .string x.str, .int .u32 x.num, .bool x.flag, kv, .int .i64 x.pos] 25)).alloc (.cells #[.int .i64 x.kind, .string x.str, .int .u32 x.num, .bool x.flag, kv, .int .i64 x.pos] 25) := ⟨_, rfl⟩
  have HST := hid' (walk_start hcb hc hf hK h0 hwB)
  have HSB : Hid (Kept (fun b => b = cb) w wB) := by rw [hwB]; exact ((Kept.rfl _ _).alloc _).alloc _
  have hcB : cb < wB.heap.size := by rw [hwB]; simp; omega
  have HW := hid' hw
  have HSEE := hid' hsee
  clear hsee hw hK hc hf h0
  obtain ⟨i49, hi49, hz0, hz1, hz2⟩ := info_partsW info49'
  unfold ndV
  go_enter Tryz.func56, Tryz.ntmps56
  go_wp2_with fail
  rw [← hwB]
  clear hwB
  go_loopw [5, 6] (fun v l wr => ∃ S vis, l = .int .i64 (262144 - (vis : Nat) : Int) ∧ WM wB cb (1 + szL ks) Inv [] 0 vis S v wr) (fun _ l _ => (intOf l).toNat)
  case atStart => exact ⟨_, 0, rfl, HST.out⟩
  case round =>
    obtain ⟨S, vis, rfl, hM⟩ := hrel
    rcases List.eq_nil_or_concat S with rfl | ⟨S, e, rfl⟩
    · obtain ⟨ao, cap, rfl⟩ : ∃ ao cap, u5 = .slice ao 0 cap := by
        obtain ⟨_, ⟨e, _⟩ | ⟨g, cap, cur, e, _⟩⟩ := hM.own
        · exact ⟨_, _, e⟩
        · exact ⟨_, _, e⟩
      obtain ⟨c, hc, _, _, hI⟩ := hM.inv
      have hs := hM.sum
      have hl := hM.lim
      simp only [tot] at hs
      have hd : decide (1 + szL ks ≤ 262144) = true := by simp; omega
      have HC : Hid (∃ c : Int, wr.cell? ⟨cb, 0, none⟩ = some (.int .i64 c) ∧ Inv c []) := ⟨c, hc, hI⟩
      have HKe := hid' (HSB.out.trans hM.kept)
      have HD := hid' hd
      clear hM hc hI hs hd
      go_wp2
      go_ret
      obtain ⟨c, h1, h2⟩ := HC.out
      exact ⟨c, by rw [HD.out]; rfl, h1, fun _ => h2, HKe.out⟩
    · rw [List.concat_eq_append] at hM
      obtain ⟨gb, cap, rfl, hg, hgl, hcap, hmx, c0, c1, hM1, ⟨m, hKe⟩, hed, he1⟩ := hM.pop
      obtain ⟨hkl, ao, kcap, hev⟩ := hKe.shape
      rw [hev] at c0 hKe
      have hlim := hM.lim
      have hsum := hM1.sum
      have hlen := len_le_szL e.ks
      have hfw := hM.few
      rw [List.length_append, List.length_singleton] at hfw
      have HSB' := hid' (HSB.out.trans hM.kept)
      obtain ⟨cc, hcc, _⟩ := hM.inv
      have hlc := Nat.lt_of_lt_of_le hcB hM.kept.size
      have HM1 := hid' hM1
      have HKE := hid' hKe
      by_cases hfit : 262144 < vis + e.ks.length
      · have HD : Hid (decide (1 + szL ks ≤ 262144) = false) := by show _ = _; simp; omega
        have HC : Hid (∀ W', Below wr.heap.size wr W' → W'.cell? ⟨cb, 0, none⟩ = some (.int .i64 cc)) := fun W' hb => (hb.cell (p := ⟨cb, 0, none⟩) hlc).trans hcc
        clear hM hM1 hKe hsum hlen hcc hev HM1
        go_wp2
        go_ret
        exact ⟨cc, by rw [HD.out]; rfl, HC.out _ (below1 _ _), fun h => by have := HD.out; simp at this; omega, HSB'.out.trans (Kept.of_below (below1 _ _))⟩
      · have HI0 := hid' (IM.start (rv := .slice ao e.ks.length kcap) (d := e.d) hM1 hcB (by omega))
        have HEV := hid' hev
        clear hM hM1 hKe hsum hlen hcc hev HM1 HSB'
        go_wp2_with fail
        obtain ⟨rb, hrb⟩ : ∃ rb, rb = wr.heap.size := ⟨_, rfl⟩
        rw [← hrb] at HI0 ⊢
        have hrb1 : cb < rb := by rw [hrb]; exact hlc
        clear hrb
        go_loopw [5, 41] (fun v i wx => ∃ S' k, k ≤ e.ks.length ∧ i = .int .i64 (k : Nat) ∧ IM wB cb (1 + szL ks) Inv [(e.ks.drop k, e.d)] (szL (e.ks.drop k)) (vis + k) S' v rb (.slice ao e.ks.length kcap) e.d wx) (fun _ i _ => e.ks.length - (intOf i).toNat)
        case atStart => exact ⟨S, 0, Nat.zero_le _, rfl, HI0.out⟩
        case round =>
          obtain ⟨S', k, hk, rfl, hI⟩ := hrel
          have y0 := hI.r0
          have y1 := hI.r1
          have yl := hI.rlt
          by_cases hlt : k < e.ks.length
          · obtain ⟨m', b, off, x', kv', ks', hm', rfl, ⟨hbl, hbn⟩, hke, hat, hK'⟩ := HKE.out.kid k hlt
            obtain ⟨hkl', ao', kcap', rfl⟩ := hK'.shape
            obtain ⟨c, hc, hc0, hc1, _⟩ := hI.wm.inv
            have hfz := hI.wm.frz
            have hlx : cb < wr.heap.size := Nat.lt_of_lt_of_le hcB hI.wm.kept.size
            have hdr : e.ks.drop k = Tr.node x' ks' :: e.ks.drop (k + 1) := by rw [List.drop_eq_getElem_cons hlt, hke]
            rw [hdr] at hI
            have hS := hid' (HSEE.out wr (.pointer (some ⟨b, off + k * 6, none⟩)) e.d c hc hfz hlx hc0 (by omega) (by omega))
            have HI5 : Hid (∀ W', W' = wr.setCell ⟨cb, 0, none⟩ (.int .i64 (step c e.d)) → IM wB cb (1 + szL ks) Inv [(e.ks.drop (k + 1), e.d), (ks', e.d + 1)] (szL (e.ks.drop (k + 1)) + szL ks') (vis + k + 1) S' u5 rb (.slice (some ⟨b, off, none⟩) e.ks.length kcap) e.d W') := fun W' hW => hI.see HW.out hcB (by omega) (by omega) hc hW
            have HAT := hid' hat
            have hfs := hI.few
            have HK' := hid' hK'
            clear hI hdr hc hfz hat hK' hke
            by_cases hks : 0 < ks'.length
            · go_wp2_with ((with_reducible refine hS.out.mono ?_); rintro e5 w5 ⟨rfl, hw5⟩; have hJ := HI5.out w5 hw5; have z0 := hJ.r0; have z1 := hJ.r1; have zl := hJ.rlt; obtain ⟨_, _, _, _, z4, _⟩ := HAT.out.kept hJ.wm.kept hbl hbn; have HJ := hid' hJ; clear hJ hw5)
              have hown := HJ.out.wm.own
              have hbs := HJ.out.wm.kept.size
              have HY : Hid (((w5.alloc (.cells #[.slice ao' ks'.length kcap', .int .i64 (IntKind.i64.wrap ((e.d : Int) + 1))] 119)).drew).ownsRow wB.heap.size 119 2 u5 S'.length (entsC S')) := (World.ownsRow.alloc hown _).drew
              have HBD : Hid (Below w5.heap.size w5 ((w5.alloc (.cells #[.slice ao' ks'.length kcap', .int .i64 (IntKind.i64.wrap ((e.d : Int) + 1))] 119)).drew)) := (below1 _ _).drew
              clear hown
              go_region_law (refine step_appW rfl (.tmp 60) (.tmp 69) 120 rfl wB.heap.size 119 i49 (.agg #[.slice none 0 0, .int .i64 0]) 2 32 Tryz.underlying120 hi49 hz0 hz1 hz2 rfl (by decide) u5 S'.length (entsC S') (by simp [Act.eval]) HY.out ⟨w5.heap.size, 0, none⟩ 1 1 [.slice ao' ks'.length kcap', .int .i64 (IntKind.i64.wrap ((e.d : Int) + 1))] (by simp [Act.eval]) rfl (cells2 (by simp [go_sem]) (by simp [go_sem])) (fun u hu => by simp at hu; rcases hu with rfl | rfl <;> rfl) (by unfold maxLen; omega) (by omega) (by simp; omega) ?_; intro v' w6 hown2 hgrow hloc)
              all_goals
                have hD : IntKind.i64.wrap ((e.d : Int) + 1) = ((e.d + 1 : Nat) : Int) := by rw [Go.IntWalk.i64_in _ (by omega)]; rfl
                have HN : Hid (IM wB cb (1 + szL ks) Inv [(e.ks.drop (k + 1), e.d)] (szL (e.ks.drop (k + 1))) (vis + (k + 1)) (S' ++ [⟨.slice ao' ks'.length kcap', e.d + 1, ks'⟩]) v' rb (.slice (some ⟨b, off, none⟩) e.ks.length kcap) e.d w6) := HJ.out.push hcB (by omega) hfs HK'.out hks HBD.out (by rw [← hD]; exact hown2) hgrow hloc
                clear hown2 hgrow hloc hD
                try go_wp2
                exact ⟨⟨_, k + 1, by omega, by go_num, HN.out⟩, by simp [intOf]; omega⟩
            · have hks0 : ks' = [] := List.eq_nil_of_length_eq_zero (by omega)
              subst hks0
              go_wp2_with ((with_reducible refine hS.out.mono ?_); rintro e5 w5 ⟨rfl, hw5⟩; have hJ := HI5.out w5 hw5; have z0 := hJ.r0; have z1 := hJ.r1; have zl := hJ.rlt; obtain ⟨_, _, _, _, z4, _⟩ := HAT.out.kept hJ.wm.kept hbl hbn; have HJ := hid' hJ; clear hJ hw5)
              have HN : IM wB cb (1 + szL ks) Inv [(e.ks.drop (k + 1), e.d)] (szL (e.ks.drop (k + 1))) (vis + (k + 1)) S' u5 rb (.slice (some ⟨b, off, none⟩) e.ks.length kcap) e.d w5 := by
                have h := HJ.out
                rw [szL_nil, Nat.add_zero] at h
                exact h.leaf HW.out
              exact ⟨⟨S', k + 1, by omega, by go_num, HN⟩, by simp [intOf]; omega⟩
          · have hk' : k = e.ks.length := by omega
            subst hk'
            rw [List.drop_length] at hI
            have HN := hid' (hI.wm.done HW.out)
            clear hI
            go_wp2_with fail
            exact ⟨⟨S', vis + e.ks.length, by congr 1; omega, HN.out⟩, by simp [intOf]; omega⟩
end Go.Proofs.YtjeioblhpfogfaaGreatDoor
namespace Go.Proofs.YtjeioblhpfogfaaGreatDoor
open Go.RowKit

theorem Ks.fresh {w : World} {cb cb' : Nat} (hb : w.heap.size ≤ cb') : ∀ {n : Nat} {v : Value} {ks : List Tr}, Ks cb n w v ks → Ks cb' n w v ks
  | 0, _, _, h => h
  | n + 1, v, ks, h => by
    rw [Ks] at h ⊢
    obtain ⟨hl, ao, cap, rfl, h⟩ := h
    refine ⟨hl, ao, cap, rfl, fun i hi => ?_⟩
    obtain ⟨b, off, x, kv, ks', e, ⟨hlt, hne⟩, he, hc, hk⟩ := h i hi
    exact ⟨b, off, x, kv, ks', e, ⟨hlt, by omega⟩, he, hc, Ks.fresh hb hk⟩

/-- How deep a row goes. -/
def cont (r : List Tr × Nat) : Int := if dpL r.1 = 0 then 0 else (r.2 : Int) - 1 + (dpL r.1 : Int)
theorem cont_nil (d : Nat) : cont ([], d) = 0 := by unfold cont; rw [if_pos dpL_nil]
def maxD : List (List Tr × Nat) → Int
  | [] => 0
  | r :: L => max (cont r) (maxD L)
theorem way19 (D : Int) : Way (fun c d => max c (d : Int)) (fun c L => 0 ≤ c ∧ max c (maxD L) = D) where
  go c x ks ts d L h := by
    simp only [maxD, cont, dpL_cons, dpT_node] at h ⊢
    rw [if_neg (by omega)] at h
    split <;> split <;> omega
  end_ c d L h := by
    simp only [maxD] at h ⊢
    rw [cont_nil] at h
    omega
  none_ c ts d L h := by
    simp only [maxD] at h ⊢
    rw [cont_nil] at h
    omega
  low c d m h0 h1 h2 := by omega

theorem depth_start (x : NdH) (ks : List Tr) : (0 : Int) ≤ 0 ∧ max 0 (maxD [([Tr.node x ks], 1)]) = ((1 + dpL ks : Nat) : Int) := by
  refine ⟨Int.le_refl _, ?_⟩
  simp only [maxD, cont, dpL_cons, dpL_nil, dpT_node]
  rw [if_neg (by omega)]
  omega

end Go.Proofs.YtjeioblhpfogfaaGreatDoor
namespace Go.Proofs.YtjeioblhpfogfaaGreatDoor
open Go.RowKit

theorem see74 {w : World} {p : Value} {d c : Int} {cb : Nat} (hc : w.cell? ⟨cb, 0, none⟩ = some (.int .i64 c)) (hf : w.frozen? ⟨cb, 0, none⟩ = false) (hl : cb < w.heap.size) (h0 : 0 ≤ c) (h1 : c ≤ 1000000) (h2 : 0 ≤ d) (h3 : d ≤ 1000000) :
    Calls Tryz.prog 74 #[p, .int .i64 d, .pointer (some ⟨cb, 0, none⟩)] w fun e w' => e = .returned (.bool true) ∧ w' = w.setCell ⟨cb, 0, none⟩ (.int .i64 (max c d)) := by
  go_enter Tryz.func74, Tryz.ntmps74
  go_wp2
  all_goals
    go_ret
    refine ⟨rfl, ?_⟩
    congr 2
    omega
theorem enter74 (args : Array Value) (W : World) : (callFunc 74 args).run Tryz.prog W = .ok (.enter 74 args) W := by
  simp [go_sem]
theorem depth29 {cb : Nat} : ∀ (n : Nat) {w : World} {x : NdH} {kv : Value} {ks : List Tr}, Ks cb n w kv ks → szL ks ≤ 262144 →
    Calls Tryz.prog 29 #[ndV x kv] w fun e w' => e = .returned (.int .i64 ((dpL ks + 1 : Nat) : Int)) ∧ Below w.heap.size w w' := fun n => by
  induction n using Nat.strongRecOn with
  | ind n ih =>
  intro w x kv ks hK hh
  obtain ⟨hlen, ao, cap, rfl⟩ := hK.shape
  have hdp := hK.deep
  have hkid : Hid (∀ (W : World), Below w.heap.size w W → ∀ i (h : i < ks.length), ∃ b off x kv ks', ao = some ⟨b, off, none⟩ ∧ b < W.heap.size ∧ NdAt W b (off + i * 6) x kv ∧ dpT ks[i] = dpL ks' + 1 ∧ dpL ks' + 1 ≤ 262145 ∧ Calls Tryz.prog 29 #[ndV x kv] W fun e w' => e = .returned (.int .i64 ((dpL ks' + 1 : Nat) : Int)) ∧ Below W.heap.size W w') := fun W hb i hi => by
    obtain ⟨m, b, off, x', kv', ks', hm, e, ⟨hlt, hne⟩, he, hc, hk⟩ := (hK.below hb).kid i hi
    have h1 := sz_kid ks i hi
    rw [he, szT_node] at h1
    have h2 := hk.deep
    exact ⟨b, off, x', kv', ks', e, hlt, hc, by rw [he, dpT_node]; omega, by omega, ih m hm hk (by omega)⟩
  clear ih hK
  unfold ndV
  obtain ⟨w0, hw0⟩ : ∃ w0, w0 = w.alloc (.cells #[.int .i64 x.kind, .string x.str, .int .u32 x.num, .bool x.flag, .slice ao ks.length cap, .int .i64 x.pos] 25) := ⟨_, rfl⟩
  have hb0 : Below w.heap.size w w0 := by rw [hw0]; exact below1 _ _
  have c4 : w0.cell? ⟨w.heap.size, 4, none⟩ = some (.slice ao ks.length cap) := by rw [hw0]; simp [go_sem]
  have hl0 : w.heap.size < w0.heap.size := by rw [hw0]; simp
  have HB0 := hid' hb0
  clear hb0
  go_enter Tryz.func29, Tryz.ntmps29
  go_wp2_with fail
  rw [← hw0]
  clear hw0
  go_loopw [3, 4] (fun h i wr => ∃ k : Nat, k ≤ ks.length ∧ i = .int .i64 (k : Nat) ∧ h = .int .i64 ((dpL (ks.take k) : Nat) : Int) ∧ dpL (ks.take k) ≤ 262145 ∧ Below w0.heap.size w0 wr) (fun _ i _ => ks.length - (intOf i).toNat)
  case atStart => exact ⟨0, Nat.zero_le _, rfl, by rw [List.take_zero, dpL_nil]; rfl, by rw [List.take_zero, dpL_nil]; omega, Below.refl _ _⟩
  case round =>
    obtain ⟨k, hk, rfl, rfl, hH1, hBw⟩ := hrel
    have HBW := hid' hBw
    have d4 := (hBw.cell (p := ⟨w.heap.size, 4, none⟩) hl0).trans c4
    have hl' : w.heap.size < wr.heap.size := Nat.lt_of_lt_of_le hl0 hBw.size
    by_cases hlt : k < ks.length
    · obtain ⟨b, off, x', kv', ks', rfl, hlb, ⟨c0, c1, c2, c3, c5, c6⟩, hdt, hd1, hC⟩ := hkid.out wr (below_on HB0.out hBw) k hlt
      have HNX : Hid (dpL (ks.take (k + 1)) = max (dpL (ks.take k)) (dpL ks' + 1)) := by rw [← hdt]; exact dpL_next ks k hlt
      have hc := hid' hC
      clear hC hdt hBw
      unfold ndV at hc
      generalize dpL (ks.take k) = H at *
      generalize dpL ks' + 1 = D at *
      by_cases hm : H < D
      · go_wp2_with (go_at_call 29; (with_reducible refine hc.out.mono ?_); rintro e w3 ⟨rfl, hb3⟩; replace hb3 := hid' hb3)
        go_roundw
        case rel => exact ⟨k + 1, by omega, by go_num, by rw [HNX.out, Nat.max_eq_right (by omega)], by rw [HNX.out]; omega, below_on HBW.out hb3.out⟩
        case measure => simp [intOf]; omega
      · go_wp2_with (go_at_call 29; (with_reducible refine hc.out.mono ?_); rintro e w3 ⟨rfl, hb3⟩; replace hb3 := hid' hb3)
        go_roundw
        case rel => exact ⟨k + 1, by omega, by go_num, by rw [HNX.out, Nat.max_eq_left (by omega)], by rw [HNX.out]; omega, below_on HBW.out hb3.out⟩
        case measure => simp [intOf]; omega
    · have hk' : k = ks.length := by omega
      have HR : Hid (dpL (ks.take k) = dpL ks) := by rw [hk', List.take_length]; exact rfl
      clear hk'
      go_wp2
      go_ret
      exact ⟨by rw [← HR.out]; go_num, below_on HB0.out HBW.out⟩
theorem depth15 {cb n : Nat} {w : World} {x : NdH} {kv : Value} {ks : List Tr} (hK : Ks cb n w kv ks) :
    Calls Tryz.prog 15 #[ndV x kv] w fun e w' => e = .returned (.int .i64 (dpR (Tr.node x ks) : Int)) ∧ Below w.heap.size w w' := by
  have hS : Hid (∀ W, Below w.heap.size w W → Calls Tryz.prog 28 #[ndV x kv] W fun e w' => e = .returned (.int .i64 (szR (Tr.node x ks) : Int)) ∧ Below W.heap.size W w') := fun W hb => size7 (hK.below hb)
  have hD : Hid (∀ W, Below w.heap.size w W → szL ks ≤ 262144 → Calls Tryz.prog 29 #[ndV x kv] W fun e w' => e = .returned (.int .i64 ((dpL ks + 1 : Nat) : Int)) ∧ Below W.heap.size W w') := fun W hb h => depth29 n (hK.below hb) h
  unfold szR at hS
  unfold dpR
  rw [szT_node] at hS ⊢
  rw [dpT_node]
  by_cases hle : 1 + szL ks ≤ 262144
  · rw [if_pos hle] at hS ⊢
    have hD' : Hid (∀ W, Below w.heap.size w W → Calls Tryz.prog 29 #[ndV x kv] W fun e w' => e = .returned (.int .i64 ((1 + dpL ks : Nat) : Int)) ∧ Below W.heap.size W w') := fun W hb => by
      have := hD.out W hb (by omega)
      rw [Nat.add_comm] at this
      exact this
    clear hD
    generalize 1 + dpL ks = d at *
    have hs0 : 0 < 1 + szL ks := by omega
    generalize 1 + szL ks = s at *
    unfold ndV at hS hD' ⊢
    go_enter Tryz.func15, Tryz.ntmps15
    go_wp2_with (first
      | (go_at_call 28; (with_reducible refine (hS.out _ (below1 _ _)).mono ?_); rintro e w1 ⟨rfl, hb1⟩; obtain ⟨x0, x1, x2, x3, x4, x5⟩ := box6W hb1; replace hb1 := hid' (below_call hb1))
      | (go_at_call 29; (with_reducible refine (hD'.out _ hb1.out).mono ?_); rintro e w2 ⟨rfl, hb2⟩; replace hb2 := hid' hb2))
    go_ret
    exact ⟨rfl, below_on hb1.out hb2.out⟩
  · rw [if_neg hle] at hS ⊢
    unfold ndV at hS ⊢
    go_enter Tryz.func15, Tryz.ntmps15
    go_wp2_with (go_at_call 28; (with_reducible refine (hS.out _ (below1 _ _)).mono ?_); rintro e w1 ⟨rfl, hb1⟩; replace hb1 := hid' (below_call hb1))
    go_ret
    exact ⟨rfl, hb1.out⟩
theorem depth37 {cb n : Nat} {w : World} {x : NdH} {kv : Value} {ks : List Tr} (hK : Ks cb n w kv ks) :
    Calls Tryz.prog 37 #[ndV x kv] w fun e w' => e = .returned (.int .i64 (dpR (Tr.node x ks) : Int)) ∧ Below w.heap.size w w' := by
  have hmf : ∀ (fn : Fn) (first cap : Array Value) (w : World), (Instr.makeFunc fn first cap).run Tryz.prog w = .ok (.func fn first cap) w := fun _ _ _ _ => rfl
  obtain ⟨w2, hw2⟩ : ∃ w2, w2 = (w.alloc (.cells #[.int .i64 x.kind, .string x.str, .int .u32 x.num, .bool x.flag, kv, .int .i64 x.pos] 25)).alloc (.cells #[.int .i64 0] 3) := ⟨_, rfl⟩
  have hb2 : Below w.heap.size w w2 := by rw [hw2]; exact (below1 _ _).alloc (by simp) _
  have hs2 : w2.heap.size = w.heap.size + 1 + 1 := by rw [hw2]; simp
  have hW := walk16 (w := w2) (cb := w.heap.size + 1) (n := n) (g := 74) (x := x) (kv := kv) (ks := ks) (way19 ((1 + dpL ks : Nat) : Int)) (by omega) (by rw [hw2]; simp [go_sem]) (by rw [hw2]; simp [go_sem]) ((hK.fresh (cb' := w.heap.size + 1) (by omega)).below hb2) (depth_start x ks) enter74 (fun W p d c h1 h2 h3 h4 h5 h6 => see74 h1 h2 h3 h4 h5 (by omega) (by omega))
  have HB2 : Hid (∀ w3, Kept (fun b => b = w.heap.size + 1) w2 w3 → Below w.heap.size w w3) := fun w3 k => ⟨k.os.trans hb2.os, k.tape.trans hb2.tape, k.output.trans hb2.output, Nat.le_trans hb2.size k.size, fun j hj => (k.block j (by omega) (by omega)).trans (hb2.block j hj)⟩
  clear hK hb2
  unfold dpR
  rw [szT_node, dpT_node]
  have hd := hid' hW
  unfold ndV at hd ⊢
  clear hW
  by_cases hle : 1 + szL ks ≤ 262144
  · rw [if_pos hle]
    rw [decide_eq_true hle] at hd
    have HLE := hid' hle
    clear hle
    go_enter Tryz.func37, Tryz.ntmps37
    go_wp2_with (go_at_call 56; rw [← hw2]; clear hw2; (with_reducible refine hd.out.mono ?_); rintro e w3 ⟨c, rfl, hc, hI, hk⟩; have HI := hid' (hI HLE.out); have HK3 := hid' (HB2.out w3 hk); clear hI hk)
    go_ret
    have h := HI.out
    obtain ⟨h0, h⟩ := h
    simp only [maxD] at h
    exact ⟨by rw [show ((1 + dpL ks : Nat) : Int) = c by omega]; rfl, HK3.out⟩
  · rw [if_neg hle]
    rw [decide_eq_false hle] at hd
    clear hle
    go_enter Tryz.func37, Tryz.ntmps37
    go_wp2_with (go_at_call 56; rw [← hw2]; clear hw2; (with_reducible refine hd.out.mono ?_); rintro e w3 ⟨c, rfl, hc, hI, hk⟩; have HK3 := hid' (HB2.out w3 hk); clear hI hk)
    go_ret
    exact ⟨rfl, HK3.out⟩
end Go.Proofs.YtjeioblhpfogfaaGreatDoor
