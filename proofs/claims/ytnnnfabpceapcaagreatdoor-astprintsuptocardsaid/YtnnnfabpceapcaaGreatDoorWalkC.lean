/- The program's walk, with a closure that asks each node and writes nothing. -/
import Derived.Test.YtnnnfabpceapcaaGreatDoorWalk
namespace Go.Proofs.YtnnnfabpceapcaaGreatDoor
open Go.RowKit
set_option linter.unusedVariables false

/-- Does a question hold of a tree's every node? -/
def allT (ok : NdH → List Tr → Bool) : Tr → Bool
  | .slice ks [.held x] => ok x ks && (ks.map (allT ok)).all id
  | _ => true
def allL (ok : NdH → List Tr → Bool) (l : List Tr) : Bool := (l.map (allT ok)).all id
theorem allT_node (ok : NdH → List Tr → Bool) (x : NdH) (ks : List Tr) : allT ok (Tr.node x ks) = (ok x ks && allL ok ks) := by unfold Tr.node; rw [allT]; rfl
theorem allL_nil (ok : NdH → List Tr → Bool) : allL ok [] = true := rfl
theorem allL_cons (ok : NdH → List Tr → Bool) (t : Tr) (r : List Tr) : allL ok (t :: r) = (allT ok t && allL ok r) := rfl
theorem allL_append (ok : NdH → List Tr → Bool) (a b : List Tr) : allL ok (a ++ b) = (allL ok a && allL ok b) := by unfold allL; rw [List.map_append, List.all_append]
def allS (ok : NdH → List Tr → Bool) (S : List Ent) : Bool := S.all fun e => allL ok e.ks
theorem allS_push (ok : NdH → List Tr → Bool) (S : List Ent) (e : Ent) : allS ok (S ++ [e]) = (allS ok S && allL ok e.ks) := by unfold allS; rw [List.all_append]; simp

/-- In walk's midst. -/
structure CM (wB : World) (cb T : Nat) (A : Bool) (ok : NdH → List Tr → Bool) (cur : List Tr) (rest vis : Nat) (S : List Ent) (v : Value) (W : World) : Prop where
  own : W.ownsRow wB.heap.size 48 2 v S.length (entsC S)
  rows : ∀ e ∈ S, (∃ n, Ks cb n wB e.v e.ks) ∧ e.d ≤ vis + 1 ∧ 1 ≤ e.ks.length
  kept : Kept (fun b => b = cb) wB W
  inv : A = (allL ok cur && allS ok S)
  sum : T = vis + rest + tot S
  few : S.length ≤ vis + 1
  lim : vis ≤ 262144
/-- The last row, taken. -/
theorem CM.pop {wB W : World} {cb T vis : Nat} {A : Bool} {ok : NdH → List Tr → Bool} {S : List Ent} {e : Ent} {v : Value} (h : CM wB cb T A ok [] 0 vis (S ++ [e]) v W) :
    ∃ g cap, v = .slice (some ⟨g, 0, none⟩) (S.length + 1) cap ∧ wB.heap.size ≤ g ∧ g < W.heap.size ∧ S.length + 1 ≤ cap ∧ cap ≤ maxLen ∧ W.cell? ⟨g, S.length * 2, none⟩ = some e.v ∧ W.cell? ⟨g, S.length * 2 + 1, none⟩ = some (.int .i64 (e.d : Int)) ∧
      CM wB cb T A ok e.ks (szL e.ks) vis S (.slice (some ⟨g, 0, none⟩) S.length cap) W ∧ (∃ n, Ks cb n wB e.v e.ks) ∧ e.d ≤ vis + 1 ∧ 1 ≤ e.ks.length := by
  obtain ⟨hown, hrows, hkept, hI, hsum, hfew, hlim⟩ := h
  obtain ⟨r1, r2, r3⟩ := hrows e (by simp)
  rw [List.length_append, List.length_singleton] at hown hfew
  obtain ⟨hlen, ⟨_, h⟩ | ⟨g, cap, cur, rfl, hg, hh, hn, hm, hs, ht⟩⟩ := hown
  · omega
  rw [entsC_append] at ht hlen
  have hl := entsC_length S
  have he : entsC [e] = [e.v, .int .i64 (e.d : Int)] := rfl
  have hown' : W.ownsRow wB.heap.size 48 2 (.slice (some ⟨g, 0, none⟩) (S.length + 1) cap) (S.length + 1) (entsC S ++ entsC [e]) := ⟨hlen, .inr ⟨g, cap, cur, rfl, hg, hh, hn, hm, hs, ht⟩⟩
  have c0 := hown'.cellAt (S.length * 2) (by omega)
  have c1 := hown'.cellAt (S.length * 2 + 1) (by omega)
  rw [List.getElem?_append_right (by omega), hl, he] at c0 c1
  simp at c0 c1
  have hgl := (hown'.lt g rfl).2
  refine ⟨g, cap, rfl, hg, hgl, hn, hm, c0, c1, ⟨⟨hl, .inr ⟨g, cap, cur, rfl, hg, hh, by omega, hm, hs, ?_⟩⟩, fun e' he' => hrows e' (by simp [he']), hkept, ?_, ?_, by omega, hlim⟩, r1, r2, r3⟩
  · have := congrArg (List.take (S.length * 2)) ht
    rw [List.take_take, Nat.min_eq_left (by omega), List.take_append_of_le_length (by omega), List.take_of_length_le (l := entsC S) (by omega)] at this
    exact this
  · rw [allS_push, allL_nil, Bool.true_and] at hI
    rw [hI, Bool.and_comm]
  · rw [tot_append] at hsum
    simp only [tot] at hsum
    omega

/-- A node seen, and it may be. -/
theorem CM.see {wB W W' : World} {cb T vis : Nat} {A : Bool} {ok : NdH → List Tr → Bool} {S : List Ent} {v : Value} {x : NdH} {ks ts : List Tr}
    (h : CM wB cb T A ok (Tr.node x ks :: ts) (szL (Tr.node x ks :: ts)) vis S v W) (hv : vis < 262144) (hok : ok x ks = true) (hb : Below W.heap.size W W') :
    CM wB cb T A ok (ts ++ ks) (szL ts + szL ks) (vis + 1) S v W' := by
  obtain ⟨hown, hrows, hkept, hI, hsum, hfew, hlim⟩ := h
  refine ⟨(Kept.of_below (S := fun _ => False) hb).owns hown (fun _ _ e => e), fun e he => by obtain ⟨r1, r2, r3⟩ := hrows e he; exact ⟨r1, by omega, r3⟩, hkept.trans (Kept.of_below hb), ?_, ?_, by omega, by omega⟩
  · rw [allL_cons, allT_node, hok, Bool.true_and] at hI
    rw [hI, allL_append, Bool.and_comm (allL ok ks)]
  · rw [szL_cons, szT_node] at hsum
    omega
theorem CM.not {wB W : World} {cb T vis r : Nat} {A : Bool} {ok : NdH → List Tr → Bool} {S : List Ent} {v : Value} {x : NdH} {ks ts : List Tr} (h : CM wB cb T A ok (Tr.node x ks :: ts) r vis S v W) (hok : ok x ks = false) : A = false := by
  rw [h.inv, allL_cons, allT_node, hok]
  rfl
theorem CM.done {wB W : World} {cb T vis : Nat} {A : Bool} {ok : NdH → List Tr → Bool} {S : List Ent} {v : Value} (h : CM wB cb T A ok [] (szL []) vis S v W) : CM wB cb T A ok [] 0 vis S v W := h
/-- The kids' row is laid. -/
theorem CM.push {wB W W' : World} {cb T vis d n : Nat} {A : Bool} {ok : NdH → List Tr → Bool} {S : List Ent} {v v' kv : Value} {ks ts : List Tr} (h : CM wB cb T A ok (ts ++ ks) (szL ts + szL ks) vis S v W) (hd : d ≤ vis) (hf : S.length ≤ vis) (hk : Ks cb n wB kv ks) (h1 : 1 ≤ ks.length)
    (ho : W'.ownsRow wB.heap.size 48 2 v' (S.length + 1) (entsC S ++ [kv, .int .i64 ((d + 1 : Nat) : Int)])) (hK : Kept (fun b => v.ownBlock = some b) W W') : CM wB cb T A ok ts (szL ts) vis (S ++ [⟨kv, d + 1, ks⟩]) v' W' := by
  obtain ⟨hown, hrows, hkept, hI, hsum, hfew, hlim⟩ := h
  refine ⟨?_, fun e he => ?_, ?_, ?_, ?_, ?_, hlim⟩
  · rw [List.length_append, entsC_append]
    exact ho
  · rw [List.mem_append, List.mem_singleton] at he
    rcases he with he | rfl
    · exact hrows e he
    · exact ⟨⟨n, hk⟩, by show d + 1 ≤ vis + 1; omega, h1⟩
  · refine ⟨hK.os.trans hkept.os, hK.tape.trans hkept.tape, hK.output.trans hkept.output, Nat.le_trans hkept.size hK.size, fun k hk' hn => (hK.block k (Nat.lt_of_lt_of_le hk' hkept.size) (fun e => ?_)).trans (hkept.block k hk' hn)⟩
    have := (hown.lt k e).1
    omega
  · rw [hI, allS_push, allL_append, Bool.and_assoc, Bool.and_comm (allL ok ks)]
  · rw [tot_append]
    simp only [tot]
    omega
  · rw [List.length_append, List.length_singleton]
    omega

/-- In the inner loop's midst. -/
structure CI (wB : World) (cb T : Nat) (A : Bool) (ok : NdH → List Tr → Bool) (cur : List Tr) (rest vis : Nat) (S : List Ent) (v : Value) (rb : Nat) (rv : Value) (d : Nat) (W : World) : Prop where
  wm : CM wB cb T A ok cur rest vis S v W
  r0 : W.cell? ⟨rb, 0, none⟩ = some rv
  r1 : W.cell? ⟨rb, 1, none⟩ = some (.int .i64 (d : Int))
  rlt : rb < W.heap.size
  rge : wB.heap.size ≤ rb
  rne : v.ownBlock ≠ some rb
  few : S.length ≤ vis
theorem CM.next {wB W W' : World} {cb T vis r : Nat} {A : Bool} {ok : NdH → List Tr → Bool} {cur : List Tr} {S : List Ent} {v : Value} (h : CM wB cb T A ok cur r vis S v W) (hb : Below W.heap.size W W') : CM wB cb T A ok cur r vis S v W' := by
  obtain ⟨hown, hrows, hkept, hI, hsum, hfew, hlim⟩ := h
  exact ⟨(Kept.of_below (S := fun _ => False) hb).owns hown (fun _ _ e => e), hrows, hkept.trans (Kept.of_below hb), hI, hsum, hfew, hlim⟩
theorem CI.start {wB W : World} {cb T vis r d : Nat} {A : Bool} {ok : NdH → List Tr → Bool} {cur : List Tr} {S : List Ent} {v rv : Value} (h : CM wB cb T A ok cur r vis S v W) (hf : S.length ≤ vis) :
    CI wB cb T A ok cur r vis S v W.heap.size rv d (W.alloc (.cells #[rv, .int .i64 (d : Int)] 48)) :=
  ⟨h.next (below1 _ _), by simp [go_sem], by simp [go_sem], by simp, h.kept.size, fun e => by have := (h.own.lt _ e).2; omega, hf⟩
theorem CI.see {wB W W' : World} {cb T vis d rb : Nat} {A : Bool} {ok : NdH → List Tr → Bool} {S : List Ent} {v rv : Value} {x : NdH} {ks ts : List Tr}
    (h : CI wB cb T A ok (Tr.node x ks :: ts) (szL (Tr.node x ks :: ts)) vis S v rb rv d W) (hv : vis < 262144) (hok : ok x ks = true) (hb : Below W.heap.size W W') :
    CI wB cb T A ok (ts ++ ks) (szL ts + szL ks) (vis + 1) S v rb rv d W' :=
  ⟨h.wm.see hv hok hb, (hb.cell (p := ⟨rb, 0, none⟩) h.rlt).trans h.r0, (hb.cell (p := ⟨rb, 1, none⟩) h.rlt).trans h.r1, Nat.lt_of_lt_of_le h.rlt hb.size, h.rge, h.rne, by have := h.few; omega⟩
theorem CI.push {wB W W1 W' : World} {cb T vis d n rb : Nat} {A : Bool} {ok : NdH → List Tr → Bool} {S : List Ent} {v v' rv kv : Value} {ks ts : List Tr} (h : CI wB cb T A ok (ts ++ ks) (szL ts + szL ks) (vis + 1) S v rb rv d W) (hd : d ≤ vis + 1) (hf : S.length ≤ vis) (hk : Ks cb n wB kv ks) (h1 : 1 ≤ ks.length)
    (hb : Below W.heap.size W W1) (ho : W'.ownsRow wB.heap.size 48 2 v' (S.length + 1) (entsC S ++ [kv, .int .i64 ((d + 1 : Nat) : Int)])) (hg : W1.grownBy W' v.ownBlock) (hat : v'.ownBlock = v.ownBlock ∨ v'.ownBlock = some W1.heap.size) :
    CI wB cb T A ok ts (szL ts) (vis + 1) (S ++ [⟨kv, d + 1, ks⟩]) v' rb rv d W' := by
  have hK : Kept (fun b => v.ownBlock = some b) W W' := (Kept.of_below hb).grown hg (fun k e _ => e)
  have hr : ¬ v.ownBlock = some rb := h.rne
  refine ⟨h.wm.push hd (by omega) hk h1 ho hK, (hK.cell h.rlt hr).trans h.r0, (hK.cell h.rlt hr).trans h.r1, Nat.lt_of_lt_of_le h.rlt hK.size, h.rge, fun e => ?_, by rw [List.length_append, List.length_singleton]; omega⟩
  rcases hat with e1 | e1
  · rw [e1] at e
    exact hr e
  · rw [e1] at e
    have := Option.some.inj e
    have := hb.size
    have := h.rlt
    omega
end Go.Proofs.YtnnnfabpceapcaaGreatDoor
