/- walk's list of rows. -/
import Derived.Test.YtnnnfabpceapcaaGreatDoorSee
import Derived.Laws.OwnMore
import Derived.Maps.AppendAt
import Derived.Deep.RegionLaw
namespace Go.Proofs.YtnnnfabpceapcaaGreatDoor
open Go.RowKit
set_option linter.unusedVariables false

theorem Kept.owns {S : Nat → Prop} {w w' : World} (h : Kept S w w') {base : Nat} {e : TypeId} {size : Nat} {v : Value} {n : Nat} {xs : List Value} (ho : w.ownsRow base e size v n xs) (hn : ∀ b, v.ownBlock = some b → ¬ S b) : w'.ownsRow base e size v n xs := by
  obtain ⟨hl, h'⟩ := ho
  refine ⟨hl, ?_⟩
  rcases h' with h' | ⟨g, cap, cur, hv, hg, hb, hr⟩
  · exact .inl h'
  · have hgl : g < w.heap.size := (Array.getElem?_eq_some_iff.1 hb).1
    exact .inr ⟨g, cap, cur, hv, hg, (h.block g hgl (hn g (by rw [hv]; exact Eq.refl _))).trans hb, hr⟩

/-- A row of nodes: the slice, how deep, and its trees. -/
structure Ent where
  v : Value
  d : Nat
  ks : List Tr
def entC (e : Ent) : List Value := [e.v, .int .i64 (e.d : Int)]
def entsC (S : List Ent) : List Value := S.flatMap entC
def tot : List Ent → Nat
  | [] => 0
  | e :: S => szL e.ks + tot S
theorem tot_append : ∀ (a b : List Ent), tot (a ++ b) = tot a + tot b
  | [], b => by simp [tot]
  | e :: r, b => by rw [List.cons_append, tot, tot, tot_append r b]; omega
theorem entsC_append (a b : List Ent) : entsC (a ++ b) = entsC a ++ entsC b := by unfold entsC; rw [List.flatMap_append]
theorem entsC_length : ∀ (S : List Ent), (entsC S).length = S.length * 2
  | [] => rfl
  | e :: S => by
    have := entsC_length S
    have h : entsC (e :: S) = entC e ++ entsC S := by unfold entsC; rw [List.flatMap_cons]
    rw [h, List.length_append, this]
    unfold entC
    simp
    omega
/-- What is still to be seen, the last row first. -/
def seen (S : List Ent) : List (List Tr × Nat) := S.reverse.map fun e => (e.ks, e.d)
theorem seen_push (S : List Ent) (e : Ent) : seen (S ++ [e]) = (e.ks, e.d) :: seen S := by unfold seen; rw [List.reverse_append]; simp

/-- How a closure's number goes. -/
structure Way (step : Int → Nat → Int) (Inv : Int → List (List Tr × Nat) → Prop) : Prop where
  go : ∀ c x ks ts d L, Inv c ((Tr.node x ks :: ts, d) :: L) → Inv (step c d) ((ts, d) :: (ks, d + 1) :: L)
  end_ : ∀ c d L, Inv c (([], d) :: L) → Inv c L
  none_ : ∀ c ts d L, Inv c ((ts, d) :: ([], d + 1) :: L) → Inv c ((ts, d) :: L)
  low : ∀ (c : Int) (d m : Nat), 0 ≤ c → c ≤ (m : Int) → d ≤ m + 1 → 0 ≤ step c d ∧ step c d ≤ (m : Int) + 1

/-- In walk's midst. -/
structure WM (wB : World) (cb T : Nat) (Inv : Int → List (List Tr × Nat) → Prop) (cur : List (List Tr × Nat)) (rest vis : Nat) (S : List Ent) (v : Value) (W : World) : Prop where
  own : W.ownsRow wB.heap.size 48 2 v S.length (entsC S)
  rows : ∀ e ∈ S, (∃ n, Ks cb n wB e.v e.ks) ∧ e.d ≤ vis + 1 ∧ 1 ≤ e.ks.length
  kept : Kept (fun b => b = cb) wB W
  inv : ∃ c : Int, W.cell? ⟨cb, 0, none⟩ = some (.int .i64 c) ∧ 0 ≤ c ∧ c ≤ (vis : Int) ∧ Inv c (cur ++ seen S)
  frz : W.frozen? ⟨cb, 0, none⟩ = false
  sum : T = vis + rest + tot S
  few : S.length ≤ vis + 1
  lim : vis ≤ 262144

/-- The last row, taken. -/
theorem WM.pop {wB W : World} {cb T vis : Nat} {Inv : Int → List (List Tr × Nat) → Prop} {S : List Ent} {e : Ent} {v : Value} (h : WM wB cb T Inv [] 0 vis (S ++ [e]) v W) :
    ∃ g cap, v = .slice (some ⟨g, 0, none⟩) (S.length + 1) cap ∧ wB.heap.size ≤ g ∧ g < W.heap.size ∧ S.length + 1 ≤ cap ∧ cap ≤ maxLen ∧ W.cell? ⟨g, S.length * 2, none⟩ = some e.v ∧ W.cell? ⟨g, S.length * 2 + 1, none⟩ = some (.int .i64 (e.d : Int)) ∧
      WM wB cb T Inv [(e.ks, e.d)] (szL e.ks) vis S (.slice (some ⟨g, 0, none⟩) S.length cap) W ∧ (∃ n, Ks cb n wB e.v e.ks) ∧ e.d ≤ vis + 1 ∧ 1 ≤ e.ks.length := by
  obtain ⟨hown, hrows, hkept, ⟨c, hc, h0, h1, hI⟩, hfrz, hsum, hfew, hlim⟩ := h
  obtain ⟨r1, r2, r3⟩ := hrows e (by simp)
  rw [List.length_append, List.length_singleton] at hown hfew
  obtain ⟨hlen, ⟨_, h⟩ | ⟨g, cap, cur, rfl, hg, hh, hn, hm, hs, ht⟩⟩ := hown
  · omega
  rw [entsC_append] at ht hlen
  have hl := entsC_length S
  have he : entsC [e] = [e.v, .int .i64 (e.d : Int)] := rfl
  have hown' : W.ownsRow wB.heap.size 48 2 (.slice (some ⟨g, 0, none⟩) (S.length + 1) cap) (S.length + 1) (entsC S ++ entsC [e]) := ⟨hlen, .inr ⟨g, cap, cur, rfl, hg, hh, hn, hm, hs, ht⟩⟩
  have c0 := hown'.cellAt (S.length * 2) (by omega)
  have c1 := hown'.cellAt (S.length * 2 + 1) (by omega)
  rw [List.getElem?_append_right (by omega), hl, he] at c0 c1
  simp at c0 c1
  have hgl := (hown'.lt g rfl).2
  refine ⟨g, cap, rfl, hg, hgl, hn, hm, c0, c1, ⟨⟨hl, .inr ⟨g, cap, cur, rfl, hg, hh, by omega, hm, hs, ?_⟩⟩, fun e' he' => hrows e' (by simp [he']), hkept, ⟨c, hc, h0, h1, ?_⟩, hfrz, ?_, by omega, hlim⟩, r1, r2, r3⟩
  · have := congrArg (List.take (S.length * 2)) ht
    rw [List.take_take, Nat.min_eq_left (by omega), List.take_append_of_le_length (by omega), List.take_of_length_le (l := entsC S) (by omega)] at this
    exact this
  · rw [seen_push] at hI
    exact hI
  · rw [tot_append] at hsum
    simp only [tot] at hsum
    omega

/-- A node seen, no row laid. -/
theorem WM.see {wB W W' : World} {cb T vis d : Nat} {step : Int → Nat → Int} {Inv : Int → List (List Tr × Nat) → Prop} {S : List Ent} {v : Value} {x : NdH} {ks ts : List Tr} {c : Int} (hw : Way step Inv)
    (h : WM wB cb T Inv [(Tr.node x ks :: ts, d)] (szL (Tr.node x ks :: ts)) vis S v W) (hcb : cb < wB.heap.size) (hd : d ≤ vis + 1) (hv : vis < 262144) (hc : W.cell? ⟨cb, 0, none⟩ = some (.int .i64 c)) (hW : W' = W.setCell ⟨cb, 0, none⟩ (.int .i64 (step c d))) :
    WM wB cb T Inv [(ts, d), (ks, d + 1)] (szL ts + szL ks) (vis + 1) S v W' := by
  obtain ⟨hown, hrows, hkept, ⟨c', hc', h0, h1, hI⟩, hfrz, hsum, hfew, hlim⟩ := h
  have : c' = c := by rw [hc] at hc'; injection hc' with e; injection e with _ e2; exact e2.symm
  subst this
  subst hW
  have hl : cb < W.heap.size := Nat.lt_of_lt_of_le hcb hkept.size
  obtain ⟨l0, l1⟩ := hw.low c' d vis h0 h1 hd
  refine ⟨?_, fun e he => by obtain ⟨r1, r2, r3⟩ := hrows e he; exact ⟨r1, by omega, r3⟩, hkept.setC (fun _ => rfl) _, ⟨step c' d, ?_, l0, by omega, hw.go _ _ _ _ _ _ hI⟩, ?_, ?_, by omega, by omega⟩
  · exact ((Kept.rfl (fun b => b = cb) W).setC (fun _ => rfl) _).owns hown (fun b hb e => by have := (hown.lt b hb).1; omega)
  · exact World.cell?_setCell_same _ _ _ hc'
  · rw [World.frozen?_setCell]; exact hfrz
  · rw [szL_cons, szT_node] at hsum
    omega
/-- No kids: nothing is laid. -/
theorem WM.leaf {wB W : World} {cb T vis d r : Nat} {step : Int → Nat → Int} {Inv : Int → List (List Tr × Nat) → Prop} {S : List Ent} {v : Value} {ts : List Tr} (hw : Way step Inv) (h : WM wB cb T Inv [(ts, d), ([], d + 1)] r vis S v W) : WM wB cb T Inv [(ts, d)] r vis S v W := by
  obtain ⟨hown, hrows, hkept, ⟨c, hc, h0, h1, hI⟩, hfrz, hsum, hfew, hlim⟩ := h
  exact ⟨hown, hrows, hkept, ⟨c, hc, h0, h1, hw.none_ _ _ _ _ hI⟩, hfrz, hsum, hfew, hlim⟩
/-- A row is done. -/
theorem WM.done {wB W : World} {cb T vis d : Nat} {step : Int → Nat → Int} {Inv : Int → List (List Tr × Nat) → Prop} {S : List Ent} {v : Value} (hw : Way step Inv) (h : WM wB cb T Inv [([], d)] (szL []) vis S v W) : WM wB cb T Inv [] 0 vis S v W := by
  obtain ⟨hown, hrows, hkept, ⟨c, hc, h0, h1, hI⟩, hfrz, hsum, hfew, hlim⟩ := h
  exact ⟨hown, hrows, hkept, ⟨c, hc, h0, h1, hw.end_ _ _ _ hI⟩, hfrz, hsum, hfew, hlim⟩
/-- The kids' row is laid. -/
theorem WM.push {wB W W' : World} {cb T vis d n : Nat} {Inv : Int → List (List Tr × Nat) → Prop} {S : List Ent} {v v' kv : Value} {ks ts : List Tr} (h : WM wB cb T Inv [(ts, d), (ks, d + 1)] (szL ts + szL ks) vis S v W) (hcb : cb < wB.heap.size) (hd : d ≤ vis) (hf : S.length ≤ vis) (hk : Ks cb n wB kv ks) (h1 : 1 ≤ ks.length)
    (ho : W'.ownsRow wB.heap.size 48 2 v' (S.length + 1) (entsC S ++ [kv, .int .i64 ((d + 1 : Nat) : Int)])) (hK : Kept (fun b => v.ownBlock = some b) W W') : WM wB cb T Inv [(ts, d)] (szL ts) vis (S ++ [⟨kv, d + 1, ks⟩]) v' W' := by
  obtain ⟨hown, hrows, hkept, ⟨c, hc, h0, h2, hI⟩, hfrz, hsum, hfew, hlim⟩ := h
  have hl : cb < W.heap.size := Nat.lt_of_lt_of_le hcb hkept.size
  have hnb : ¬ v.ownBlock = some cb := fun e => by have := (hown.lt cb e).1; omega
  refine ⟨?_, fun e he => ?_, ?_, ⟨c, (hK.cell hl hnb).trans hc, h0, h2, ?_⟩, (hK.frozen hl hnb).trans hfrz, ?_, ?_, hlim⟩
  · rw [List.length_append, entsC_append]
    exact ho
  · rw [List.mem_append, List.mem_singleton] at he
    rcases he with he | rfl
    · exact hrows e he
    · exact ⟨⟨n, hk⟩, by show d + 1 ≤ vis + 1; omega, h1⟩
  · refine ⟨hK.os.trans hkept.os, hK.tape.trans hkept.tape, hK.output.trans hkept.output, Nat.le_trans hkept.size hK.size, fun k hk' hn => (hK.block k (Nat.lt_of_lt_of_le hk' hkept.size) (fun e => ?_)).trans (hkept.block k hk' hn)⟩
    have := (hown.lt k e).1
    omega
  · rw [seen_push]
    exact hI
  · rw [tot_append]
    simp only [tot]
    omega
  · rw [List.length_append, List.length_singleton]
    omega
end Go.Proofs.YtnnnfabpceapcaaGreatDoor
