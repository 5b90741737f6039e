/- longOnes: which branches become long. -/
import Derived.Test.YtgnlplddppheiaaNewTree
namespace Go.Proofs.Ytgnlplddppheiaa
open Go.RowKit Go.Sort Go.Lib
set_option linter.unusedVariables false

def btw (x : Nat × Nat × Nat) : Nat := x.2.2 - x.2.1
def longL (l : List (Nat × Nat × Nat)) : List Nat := (l.filter fun x => decide (32767 < btw x)).map (·.1)
def unsL (l : List (Nat × Nat × Nat)) : List (Nat × Nat × Nat) := l.filter fun x => decide (btw x ≤ 32767 ∧ 32767 < 2 * btw x)
theorem longL_snoc (l : List (Nat × Nat × Nat)) (x : Nat × Nat × Nat) : longL (l ++ [x]) = longL l ++ (if 32767 < btw x then [x.1] else []) := by
  unfold longL
  by_cases h : 32767 < btw x <;> simp [h]
theorem unsL_snoc (l : List (Nat × Nat × Nat)) (x : Nat × Nat × Nat) : unsL (l ++ [x]) = unsL l ++ (if btw x ≤ 32767 ∧ 32767 < 2 * btw x then [x] else []) := by
  unfold unsL
  by_cases h : btw x ≤ 32767 ∧ 32767 < 2 * btw x <;> simp [h]
theorem longL_le (l : List (Nat × Nat × Nat)) : (longL l).length ≤ l.length := by unfold longL; simp [List.length_filter_le]
theorem unsL_le (l : List (Nat × Nat × Nat)) : (unsL l).length ≤ l.length := List.length_filter_le _ _

/-- Triples as cells. -/
def cells3 (l : List (Nat × Nat × Nat)) : List Value := l.flatMap enc3
theorem cells3_length (l : List (Nat × Nat × Nat)) : (cells3 l).length = l.length * 3 := by
  induction l with
  | nil => rfl
  | cons x l ih => simp [cells3, enc3] at *; omega
theorem cells3_append (l m : List (Nat × Nat × Nat)) : cells3 (l ++ m) = cells3 l ++ cells3 m := by simp [cells3]
theorem cells3_get : ∀ (l : List (Nat × Nat × Nat)) (i c : Nat) (hi : i < l.length), c < 3 → (cells3 l)[i * 3 + c]? = some ((enc3 l[i])[c]!)
  | x :: l, 0, c, _, hc => by
    have : c = 0 ∨ c = 1 ∨ c = 2 := by omega
    rcases this with rfl | rfl | rfl <;> simp [cells3, enc3]
  | x :: l, i + 1, c, hi, hc => by
    have := cells3_get l i c (by simpa using hi) hc
    have e : cells3 (x :: l) = enc3 x ++ cells3 l := by simp [cells3]
    rw [e, List.getElem?_append_right (by simp [enc3]; omega), show (i + 1) * 3 + c - (enc3 x).length = i * 3 + c by simp [enc3]; omega, this]
    simp

/-- Two slices of the call's own lie apart. -/
def Apart2 (u v : Value) : Prop := ∀ b, u.ownBlock = some b → v.ownBlock ≠ some b

theorem info80' : (Try.prog.info? 80).map (fun i => (i.zero, i.size, i.bytes)) = some (some (.agg #[.int .i64 0, .int .i64 0, .int .i64 0]), 3, 24) := by kernel_rfl

theorem apart_new {u v v' : Value} {w : World} {B n : Nat} {e : TypeId} {s : Nat} {xs : List Value} (h : Apart2 u v) (hu : w.ownsRow B e s u n xs) (hl : v'.ownBlock = v.ownBlock ∨ v'.ownBlock = some (w.heap.size + 1)) : Apart2 u v' := by
  intro b hb
  rcases hl with hl | hl
  · rw [hl]; exact h b hb
  · rw [hl]
    have := (hu.lt b hb).2
    simp
    omega
theorem Apart2.symm {u v : Value} (h : Apart2 u v) : Apart2 v u := fun b hb e => h b e hb

theorem taken {α : Type} (l : List α) (k : Nat) (h : k < l.length) : l.take (k + 1) = l.take k ++ [l[k]] := by
  rw [List.take_succ_eq_append_getElem h]

theorem cell_one_at {W : World} {b : Nat} {v : Value} (h : W.cell? ⟨b, 0, none⟩ = some v) : ∀ j u, [v][j]? = some u → W.cell? ((⟨b, 0, none⟩ : Addr).add j) = some u
  | 0, u, e => by simp at e; subst e; exact h
  | j + 1, u, e => by simp at e
theorem cell_three_at {W : World} {b : Nat} {v0 v1 v2 : Value} (h0 : W.cell? ⟨b, 0, none⟩ = some v0) (h1 : W.cell? ⟨b, 1, none⟩ = some v1) (h2 : W.cell? ⟨b, 2, none⟩ = some v2) : ∀ j u, [v0, v1, v2][j]? = some u → W.cell? ((⟨b, 0, none⟩ : Addr).add j) = some u
  | 0, u, e => by simp at e; subst e; exact h0
  | 1, u, e => by simp at e; subst e; exact h1
  | 2, u, e => by simp at e; subst e; exact h2
  | j + 3, u, e => by simp at e

/-- In the midst of longOnes: the first k branches have been looked at. -/
structure Mid1 (w : World) (l : List (Nat × Nat × Nat)) (k : Nat) (a u : Value) (W : World) : Prop where
  longs : W.ownsRow w.heap.size 3 1 a (longL (l.take k)).length (ints (longL (l.take k)))
  uns : W.ownsRow w.heap.size 80 3 u (unsL (l.take k)).length (cells3 (unsL (l.take k)))
  apart : Apart2 a u
  below : Below w.heap.size w W

theorem Mid1.size {w : World} {l : List (Nat × Nat × Nat)} {k : Nat} {a u : Value} {W : World} (h : Mid1 w l k a u W) : w.heap.size ≤ W.heap.size := h.below.size

section
variable {w W w1 : World} {l : List (Nat × Nat × Nat)} {k : Nat} {a u v' : Value} {o p : Obj}
theorem grown2 {row : Option Nat} (h : ((W.alloc o).alloc p).grownBy w1 row) : Kept (fun b => row = some b) W w1 :=
  (((Kept.rfl _ W).alloc o).alloc p).trans (Kept.of_grown h (fun k hk => hk))

theorem Mid1.addLong (h : Mid1 w l k a u W) (hk : k < l.length) (hb : 32767 < btw l[k]) (ho : w1.ownsRow w.heap.size 3 1 v' ((longL (l.take k)).length + 1) (ints (longL (l.take k)) ++ [.int .i64 (l[k].1 : Int)]))
    (hg : ((W.alloc o).alloc p).grownBy w1 a.ownBlock) (hl : v'.ownBlock = a.ownBlock ∨ v'.ownBlock = some ((W.alloc o).alloc p).heap.size) : Mid1 w l (k + 1) v' u w1 := by
  have K := grown2 hg
  have e1 : longL (l.take (k + 1)) = longL (l.take k) ++ [l[k].1] := by rw [taken l k hk, longL_snoc, if_pos hb]
  have e2 : unsL (l.take (k + 1)) = unsL (l.take k) := by rw [taken l k hk, unsL_snoc, if_neg (by omega), List.append_nil]
  refine ⟨?_, ?_, ?_, ?_⟩
  · rw [e1, ints_append, List.length_append]; exact ho
  · rw [e2]; exact K.owns h.uns (fun b hb e => h.apart b e hb)
  · intro b hb' e
    rcases hl with hl | hl
    · exact h.apart b (hl ▸ hb') e
    · have := (h.uns.lt b e).2
      rw [hl] at hb'
      simp at hb'
      omega
  · exact h.below.trans (K.below h.size (fun b hb => (h.longs.lt b hb).1))

theorem Mid1.addUns (h : Mid1 w l k a u W) (hk : k < l.length) (hb : btw l[k] ≤ 32767 ∧ 32767 < 2 * btw l[k]) (ho : w1.ownsRow w.heap.size 80 3 v' ((unsL (l.take k)).length + 1) (cells3 (unsL (l.take k)) ++ enc3 l[k]))
    (hg : ((W.alloc o).alloc p).grownBy w1 u.ownBlock) (hl : v'.ownBlock = u.ownBlock ∨ v'.ownBlock = some ((W.alloc o).alloc p).heap.size) : Mid1 w l (k + 1) a v' w1 := by
  have K := grown2 hg
  have e1 : longL (l.take (k + 1)) = longL (l.take k) := by rw [taken l k hk, longL_snoc, if_neg (by omega), List.append_nil]
  have e2 : unsL (l.take (k + 1)) = unsL (l.take k) ++ [l[k]] := by rw [taken l k hk, unsL_snoc, if_pos hb]
  refine ⟨?_, ?_, ?_, ?_⟩
  · rw [e1]; exact K.owns h.longs (fun b hb e => h.apart b hb e)
  · rw [e2, cells3_append, List.length_append]
    have : cells3 [l[k]] = enc3 l[k] := by simp [cells3]
    rw [this]; exact ho
  · intro b hb' e
    rcases hl with hl | hl
    · exact h.apart b hb' (hl ▸ e)
    · have := (h.longs.lt b hb').2
      rw [hl] at e
      simp at e
      omega
  · exact h.below.trans (K.below h.size (fun b hb => (h.uns.lt b hb).1))

theorem Mid1.addNone (h : Mid1 w l k a u W) (hk : k < l.length) (hb : btw l[k] ≤ 32767 ∧ ¬ 32767 < 2 * btw l[k]) : Mid1 w l (k + 1) a u (W.alloc o) := by
  have K : Kept (fun _ => False) W (W.alloc o) := (Kept.rfl _ W).alloc o
  have e1 : longL (l.take (k + 1)) = longL (l.take k) := by rw [taken l k hk, longL_snoc, if_neg (by omega), List.append_nil]
  have e2 : unsL (l.take (k + 1)) = unsL (l.take k) := by rw [taken l k hk, unsL_snoc, if_neg (by omega), List.append_nil]
  refine ⟨?_, ?_, h.apart, h.below.trans (K.below h.size (fun b hb => hb.elim))⟩
  · rw [e1]; exact K.owns h.longs (fun _ _ e => e)
  · rw [e2]; exact K.owns h.uns (fun _ _ e => e)
end

/-- What longOnes hands back. -/
def Longs (w w' : World) (v : Value) (l : List (Nat × Nat × Nat)) : Prop :=
  ∃ L : List Nat, w'.ownsRow w.heap.size 3 1 v L.length (ints L) ∧ L.Nodup ∧ (∀ x ∈ L, x ∈ l.map (·.1)) ∧ Least (l.map mkBr) (memB L) ∧ Below w.heap.size w w'

theorem pigeon : ∀ (L M : List Nat), L.Nodup → (∀ x ∈ L, x ∈ M) → L.length ≤ M.length
  | [], _, _, _ => Nat.zero_le _
  | x :: L, M, hn, hs => by
    obtain ⟨h1, h2⟩ := List.nodup_cons.1 hn
    have hx := hs x (by simp)
    have := pigeon L (M.erase x) h2 (fun y hy => (List.mem_erase_of_ne (fun (e : y = x) => h1 (by rw [← e]; exact hy))).2 (hs y (by simp [hy])))
    rw [List.length_erase_of_mem hx] at this
    have : 0 < M.length := List.length_pos_of_mem hx
    simp
    omega

theorem Inv.alive {h : Nat → Int} {dn L : List Nat} : ∀ {T : TT} {k : Nat} {A : Int}, Inv h dn L T k A → ∀ b ∈ lvs T, b.ix ∉ L → 0 ≤ roomOf b dn
  | .leaf, _, _, _, b, hb, _ => by simp [lvs] at hb
  | .inner _ _ (some c) _ _, k, A, hi, b, hb, hn => by
    simp [lvs] at hb
    subst hb
    unfold Inv at hi
    rcases hi.2.2 with ⟨_, e0, e1, e2, e3, e4, e5, e6⟩ | ⟨hl, _⟩
    · exact e6
    · exact absurd hl hn
  | .inner _ _ none l r, k, A, hi, b, hb, hn => by
    simp [lvs] at hb
    unfold Inv at hi
    obtain ⟨a1, a2, a3, a4, a5, a6, a7, a8, a9, a10, a11, a12⟩ := hi
    rcases hb with hb | hb
    · exact a11.alive b hb hn
    · exact a12.alive b hb hn

theorem least_of {l : List (Nat × Nat × Nat)} {L : List Nat} {T : TT} {h : Nat → Int} (hw : ∀ x ∈ l, x.2.1 ≤ x.2.2) (hn : L.Nodup) (hlong : ∀ x ∈ l, 32767 < btw x → x.1 ∈ L) (hT : (lvs T).Perm ((unsL l).map mkBr)) (hi : Inv h L L T 1 0)
    (hf : ∀ S, Closed (l.map mkBr) S → ∀ x ∈ L, S x = true) : Least (l.map mkBr) (memB L) := by
  refine ⟨fun b hb hs => ?_, fun S hS p hp => hf S hS p ((memB_iff L p).1 hp)⟩
  obtain ⟨x, hx, rfl⟩ := List.mem_map.1 hb
  have hle := hw x hx
  have hnl : x.1 ∉ L := (memB_false L x.1).1 hs
  show (x.2.2 - x.2.1) + (below (memB L) x.2.2 - below (memB L) x.2.1) ≤ 32767
  by_cases c1 : 32767 < btw x
  · exact absurd (hlong x hx c1) hnl
  · by_cases c2 : 32767 < 2 * btw x
    · have hm : mkBr x ∈ lvs T := hT.mem_iff.2 (List.mem_map.2 ⟨x, List.mem_filter.2 ⟨hx, by simp; omega⟩, rfl⟩)
      have := hi.alive (mkBr x) hm hnl
      rw [range_mem hn hle]
      unfold roomOf mkBr at this
      simp only at this
      unfold btw at c1
      omega
    · have := range_le (memB L) hle
      unfold btw at c2
      omega

theorem holds_of_own {w : World} {B g cap : Nat} {l : List (Nat × Nat × Nat)} (h : w.ownsRow B 80 3 (.slice (some ⟨g, 0, none⟩) l.length cap) l.length (cells3 l)) : HoldsK enc3 3 w g 0 l.toArray := holdsK_of fun i c hi hc => by
  have hi' : i < l.length := by simpa using hi
  have h1 := h.cellAt (i * 3 + c) (by omega)
  rw [cells3_get l i c hi' hc] at h1
  have e : l.toArray[i]! = l[i] := by rw [getElem!_pos _ i (by simpa using hi')]; simp
  rw [e, Nat.zero_add]
  exact ⟨h1, h.frozenAt _⟩

theorem newTree_any {W : World} {B : Nat} {u : Value} {l : List (Nat × Nat × Nat)} (h : W.ownsRow B 80 3 u l.length (cells3 l)) (hl : l.length ≤ 900000) (hg : ∀ x ∈ l, Good3 x) :
    Calls Try.prog 40 #[u] W fun e w' => ∃ n hh T, e = .returned (.slice (some ⟨W.heap.size, 0, none⟩) n n) ∧ IsTree w' W.heap.size n hh ∧ Inv hh [] [] T 1 0 ∧ Fit n T 1 ∧ (lvs T).Perm (l.map mkBr) ∧ n ≤ 4000000 ∧ Kept (fun b => u.ownBlock = some b) W w' := by
  by_cases e : l = []
  · subst e
    obtain ⟨ao, cap, rfl⟩ : ∃ ao cap, u = .slice ao 0 cap := by
      rcases h.2 with ⟨rfl, _⟩ | ⟨g, cap, cur, rfl, _⟩
      · exact ⟨_, _, rfl⟩
      · exact ⟨_, _, rfl⟩
    refine (newTree_none ao cap W).mono ?_
    rintro e w' ⟨hh, rfl, h1, h2, h3⟩
    exact ⟨2, hh, .leaf, rfl, h1, h2, by show 1 < 2; omega, by simp [lvs], by omega, Kept.of_below h3⟩
  · have hp : 1 ≤ l.length := by cases l; exact absurd rfl e; simp
    have h0 := h
    rcases h.2 with ⟨_, e'⟩ | ⟨g, cap, cur, rfl, hb, hh, hc, _⟩
    · omega
    · have hgl : g < W.heap.size := (Array.getElem?_eq_some_iff.1 hh).1
      refine (newTree_some g cap l.length (4 * l.length + 2) l.toArray W (by simp) hp hl rfl hc (holds_of_own h0) hgl (by simpa using hg)).mono ?_
      rintro e w' ⟨hh, T, rfl, h1, h2, h3, h4, h5⟩
      exact ⟨_, hh, T, rfl, h1, h2, h3, by simpa using h4, by omega, h5.mono (fun k _ e => by simp [Value.ownBlock, e])⟩

theorem push41 {tb n o : Nat} {v : Value} {w : World} {P : Value → World → Prop} (h : Calls Try.prog 53 #[.slice (some ⟨tb, 0, none⟩) n n, .int .i64 1, .int .i64 o, v] w fun e w' => ∃ v', e = .returned v' ∧ P v' w') :
    Calls Try.prog 41 #[.slice (some ⟨tb, 0, none⟩) n n, .int .i64 o, v] w fun e w' => ∃ v', e = .returned v' ∧ P v' w' := by
  have H := hid h
  clear h
  go_enter Try.func41, Try.ntmps41
  go_wp2_with (go_at_call 53; refine H.out.mono ?_; rintro e w1 ⟨v', rfl, hq⟩)
  go_ret
  exact ⟨v', rfl, hq⟩

theorem inj_of_nodup : ∀ {l : List (Nat × Nat × Nat)}, (l.map (·.1)).Nodup → ∀ {a b}, a ∈ l → b ∈ l → a.1 = b.1 → a = b
  | x :: l, hn, a, b, ha, hb, e => by
    obtain ⟨h1, h2⟩ := List.nodup_cons.1 hn
    rcases List.mem_cons.1 ha with ea | ha'
    · rcases List.mem_cons.1 hb with eb | hb'
      · rw [ea, eb]
      · exact absurd (List.mem_map.2 ⟨b, hb', by rw [← e, ea]⟩) h1
    · rcases List.mem_cons.1 hb with eb | hb'
      · exact absurd (List.mem_map.2 ⟨a, ha', by rw [e, eb]⟩) h1
      · exact inj_of_nodup h2 ha' hb' e

/-- In the midst of the second loop. -/
structure Mid2 (w : World) (l : List (Nat × Nat × Nat)) (tb n : Nat) (T : TT) (k : Nat) (L : List Nat) (h : Nat → Int) (v : Value) (W : World) : Prop where
  own : W.ownsRow w.heap.size 3 1 v L.length (ints L)
  ne : v.ownBlock ≠ some tb
  tree : IsTree W tb n h
  inv : Inv h (L.take k) L T 1 0
  kl : k ≤ L.length
  nodup : L.Nodup
  sub : ∀ x ∈ L, x ∈ l.map (·.1)
  forced : ∀ S, Closed (l.map mkBr) S → ∀ x ∈ L, S x = true
  long : ∀ x ∈ l, 32767 < btw x → x.1 ∈ L
  below : Below w.heap.size w W

theorem ownsRow_up {w : World} {B B' : Nat} {e : TypeId} {s : Nat} {v : Value} {n : Nat} {xs : List Value} (h : w.ownsRow B e s v n xs) (hb : ∀ b, v.ownBlock = some b → B' ≤ b) : w.ownsRow B' e s v n xs := by
  obtain ⟨hl, h'⟩ := h
  refine ⟨hl, ?_⟩
  rcases h' with h' | ⟨g, cap, cur, hv, hg, r⟩
  · exact .inl h'
  · exact .inr ⟨g, cap, cur, hv, hb g (by rw [hv]; rfl), r⟩

theorem Mid2.next {w W W' : World} {l : List (Nat × Nat × Nat)} {tb n k : Nat} {T : TT} {L new : List Nat} {h h' : Nat → Int} {v v' : Value} (hM : Mid2 w l tb n T k L h v W) (hw : ∀ x ∈ l, x.2.1 ≤ x.2.2) (hT : (lvs T).Perm ((unsL l).map mkBr)) (hk : k < L.length) (hB : w.heap.size ≤ tb)
    (ht : IsTree W' tb n h') (ho : W'.ownsRow 0 3 1 v' (L ++ new).length (ints (L ++ new))) (hp : Push h (L.take k) L T 1 L[k] h' new) (hK : Kept (fun b => b = tb ∨ v.ownBlock = some b) W W') (hl : v'.ownBlock = v.ownBlock ∨ ∃ b, v'.ownBlock = some b ∧ W.heap.size ≤ b) :
    Mid2 w l tb n T (k + 1) (L ++ new) h' v' W' := by
  have et : (L ++ new).take (k + 1) = L.take k ++ [L[k]] := by rw [List.take_append_of_le_length (by omega), taken L k hk]
  refine ⟨ownsRow_up ho ?_, ne_of_loc hM.ne hM.tree.lt hl, ht, by rw [et]; exact hp.inv, by simp; omega, ?_, ?_, ?_, ?_, ?_⟩
  · intro b hb
    rcases hl with hl | ⟨c, hl, hc⟩
    · exact (hM.own.lt b (hl ▸ hb)).1
    · rw [hl] at hb
      simp at hb
      have := hM.below.size
      omega
  · refine List.nodup_append.2 ⟨hM.nodup, hp.nodup, fun a ha b hb e => ?_⟩
    subst e
    obtain ⟨_, _, _, hn, _⟩ := hp.forced _ hb
    exact hn ha
  · intro x hx
    rcases List.mem_append.1 hx with hx | hx
    · exact hM.sub x hx
    · obtain ⟨b, hb, rfl, _⟩ := hp.forced _ hx
      obtain ⟨y, hy, rfl⟩ := List.mem_map.1 (hT.mem_iff.1 hb)
      exact List.mem_map.2 ⟨y, (List.mem_filter.1 hy).1, rfl⟩
  · intro S hS x hx
    rcases List.mem_append.1 hx with hx | hx
    · exact hM.forced S hS x hx
    · obtain ⟨b, hb, rfl, _, ho, hr⟩ := hp.forced _ hx
      obtain ⟨y, hy, rfl⟩ := List.mem_map.1 (hT.mem_iff.1 hb)
      have hyl := (List.mem_filter.1 hy).1
      refine forced_in (L := L.take k ++ [L[k]]) (fun c hc => by obtain ⟨z, hz, rfl⟩ := List.mem_map.1 hc; exact hw z hz) (by rw [← taken L k hk]; exact hM.nodup.sublist (List.take_sublist _ _)) ⟨mkBr y, List.mem_map.2 ⟨y, hyl, rfl⟩, rfl, ?_⟩ hS (fun p hp' => hM.forced S hS p (by rw [← taken L k hk] at hp'; exact List.mem_of_mem_take hp'))
      rw [cntL_append, cntL_one, if_pos ho]
      have := hw y hyl
      unfold roomOf at hr
      unfold mkBr at hr ⊢
      simp only at hr ⊢
      omega
  · intro x hx hb
    exact List.mem_append.2 (.inl (hM.long x hx hb))
  · refine hM.below.trans (hK.below hM.below.size (fun b hb => ?_))
    rcases hb with rfl | hb
    · exact hB
    · exact (hM.own.lt b hb).1

set_option maxRecDepth 100000 in
set_option maxHeartbeats 4000000 in
theorem longs29 (lb cap m : Nat) (d : Array (Nat × Nat × Nat)) (w : World) (hd : d.size = m) (hm : m ≤ 900000) (hH : HoldsK enc3 3 w lb 0 d) (hlb : lb < w.heap.size) (hg : ∀ x ∈ d.toList, x.1 ≤ 1000000 ∧ x.2.1 ≤ x.2.2 ∧ x.2.2 ≤ 1000000) (hnd : (d.toList.map (·.1)).Nodup) :
    Calls Try.prog 29 #[.slice (some ⟨lb, 0, none⟩) m cap] w fun e w' => ∃ v, e = .returned v ∧ Longs w w' v d.toList := by
  obtain ⟨i3, hi3, z30, z31, z32⟩ := info_parts info3'
  obtain ⟨i80, hi80, z80, z81, z82⟩ := info_parts info80'
  have HH := hid hH
  clear hH
  have hdl : d.toList.length = m := by simp [hd]
  go_enter Try.func29, Try.ntmps29
  go_wp2
  go_loopw [3, 4, 12] (fun a u i wr => ∃ k : Nat, k ≤ m ∧ i = .int .i64 k ∧ Mid1 w d.toList k a u wr) (fun _ _ i _ => m - (intOf i).toNat)
  case atStart => exact ⟨0, Nat.zero_le _, rfl, World.ownsRow_nil _ _ _ _, World.ownsRow_nil _ _ _ _, fun b hb => by simp [Value.ownBlock] at hb, Below.refl _ _⟩
  case round =>
    obtain ⟨k, hk, rfl, hM⟩ := hrel
    by_cases hlt : k < m
    · obtain ⟨x, hx⟩ : ∃ x, x = d.toList[k]'(by omega) := ⟨_, rfl⟩
      have hxd : d[k]! = x := by rw [getElem!_pos d k (by omega), hx]; simp
      have c0 : wr.cell? ⟨lb, k * 3, none⟩ = some (.int .i64 (x.1 : Int)) := (hM.below.cell (p := ⟨lb, k * 3, none⟩) hlb).trans (by have := (HH.out.cell (i := k) (c := 0) (by omega) (by omega)).1; rw [hxd] at this; simpa [enc3] using this)
      have c1 : wr.cell? ⟨lb, k * 3 + 1, none⟩ = some (.int .i64 (x.2.1 : Int)) := (hM.below.cell (p := ⟨lb, k * 3 + 1, none⟩) hlb).trans (by have := (HH.out.cell (i := k) (c := 1) (by omega) (by omega)).1; rw [hxd] at this; simpa [enc3] using this)
      have c2 : wr.cell? ⟨lb, k * 3 + 2, none⟩ = some (.int .i64 (x.2.2 : Int)) := (hM.below.cell (p := ⟨lb, k * 3 + 2, none⟩) hlb).trans (by have := (HH.out.cell (i := k) (c := 2) (by omega) (by omega)).1; rw [hxd] at this; simpa [enc3] using this)
      have gx := hg x (by rw [hx]; exact List.getElem_mem _)
      have hlbr : lb < wr.heap.size := Nat.lt_of_lt_of_le hlb hM.size
      have HX := hid hx
      have hbt : Hid (btw x = x.2.2 - x.2.1) := rfl
      clear hx hxd
      obtain ⟨x0, x1, x2⟩ := x
      simp only at c0 c1 c2 gx hbt
      have hl1 := longL_le (d.toList.take k)
      have hl2 := unsL_le (d.toList.take k)
      have hl3 : (d.toList.take k).length ≤ k := by simp; omega
      by_cases p1 : (32767 : Int) < (x2 : Int) - x1
      · go_wp2_with (at_builtin; refine of_mark ?_)
        unfold Mark
        refine wpList_append_own_at _ rfl _ _ 45 rfl w.heap.size 3 i3 (.int .i64 0) 1 8 Try.underlying45 hi3 z30 z31 z32 rfl (by decide) u3 _ _ rfl ((hM.longs.alloc _).alloc _) ⟨wr.heap.size + 1, 0, none⟩ 1 1 [.int .i64 (x0 : Int)] rfl rfl (cell_one_at (by simp [go_sem])) (ints_oneCell .i64 [(x0 : Int)]) (by unfold maxLen; omega) (by omega) (by have := hM.size; simp; omega) ?_
        intro v' w1 hown' hgrow hnil hloc
        have hM' := hM.addLong (k := k) (by omega) (by rw [← HX.out, hbt.out]; omega) (by rw [← HX.out]; exact hown') hgrow hloc
        have HM' := hid hM'
        clear hM' hown' hgrow hnil hloc hM c0 c1 c2
        go_wp2
        go_roundw
        case rel => exact ⟨k + 1, by omega, by go_num, HM'.out⟩
        case measure => simp [intOf]; omega
      · by_cases p2 : (32767 : Int) < 2 * ((x2 : Int) - x1)
        · go_wp2_with (at_builtin; refine of_mark ?_)
          unfold Mark
          refine wpList_append_own_at _ rfl _ _ 67 rfl w.heap.size 80 i80 (.agg #[.int .i64 0, .int .i64 0, .int .i64 0]) 3 24 Try.underlying67 hi80 z80 z81 z82 rfl (by decide) u4 _ _ rfl ((hM.uns.alloc _).alloc _) ⟨wr.heap.size + 1, 0, none⟩ 1 1 [.int .i64 (x0 : Int), .int .i64 (x1 : Int), .int .i64 (x2 : Int)] rfl rfl (cell_three_at (by simp [go_sem]) (by simp [go_sem]) (by simp [go_sem])) (by intro z hz; simp at hz; rcases hz with rfl | rfl | rfl <;> rfl) (by unfold maxLen; omega) (by omega) (by have := hM.size; simp; omega) ?_
          intro v' w1 hown' hgrow hnil hloc
          have hM' := hM.addUns (k := k) (by omega) (by rw [← HX.out, hbt.out]; omega) (by rw [← HX.out]; exact hown') hgrow hloc
          have HM' := hid hM'
          clear hM' hown' hgrow hnil hloc hM c0 c1 c2
          go_wp2
          go_roundw
          case rel => exact ⟨k + 1, by omega, by go_num, HM'.out⟩
          case measure => simp [intOf]; omega
        · have hM' := fun o => hM.addNone (k := k) (o := o) (by omega) (by rw [← HX.out, hbt.out]; omega)
          have HM' := hid hM'
          clear hM' hM
          go_wp2
          go_roundw
          case rel => exact ⟨k + 1, by omega, by go_num, HM'.out _⟩
          case measure => simp [intOf]; omega
    · have : k = m := by omega
      subst this
      have et : d.toList.take k = d.toList := List.take_of_length_le (by omega)
      obtain ⟨hO, hU, hA, hBl⟩ := hM
      rw [et] at hO hU
      have HU := hid hU
      have HBl := hid hBl
      have hw : Hid (∀ x ∈ d.toList, x.2.1 ≤ x.2.2) := fun x hx => (hg x hx).2.1
      have hO0 := hid hO
      have hlc := longL_le d.toList
      have hUl := unsL_le d.toList
      obtain ⟨ao, n0, cp, rfl, hn0⟩ : ∃ ao n0 cp, u3 = .slice ao n0 cp ∧ n0 = (longL d.toList).length := by
        rcases hO.2 with ⟨rfl, e⟩ | ⟨g, cp, cur, rfl, _⟩
        · exact ⟨_, _, _, rfl, e.symm⟩
        · exact ⟨_, _, _, rfl, rfl⟩
      have HA := hid hA
      have Hg := hid hg
      have Hn := hid hnd
      clear hA hBl hO hU hg hnd
      by_cases hz : (longL d.toList).length = 0
      · rw [hz] at hn0
        subst hn0
        have HZ := hid (List.eq_nil_of_length_eq_zero hz)
        clear hz
        go_wp2
        go_ret
        refine ⟨_, rfl, [], World.ownsRow_nil _ _ _ _, List.nodup_nil, by simp, ⟨fun b hb _ => ?_, fun S _ p hp => by simp [memB] at hp⟩, HBl.out⟩
        obtain ⟨x, hx, rfl⟩ := List.mem_map.1 hb
        have e0 : ∀ n, below (memB []) n = 0 := fun n => by rw [below_mem List.nodup_nil]; rfl
        rw [e0, e0]
        have hx2 : ¬ 32767 < btw x := fun hlt => by
          have : x.1 ∈ longL d.toList := List.mem_map.2 ⟨x, List.mem_filter.2 ⟨hx, by simpa using hlt⟩, rfl⟩
          rw [HZ.out] at this
          cases this
        unfold btw at hx2
        show x.2.2 - x.2.1 + (0 - 0) ≤ 32767
        omega
      · have hnz : ¬ (n0 : Int) = 0 := by omega
        have hnz' : ¬ n0 = 0 := by omega
        have HN := hid hn0
        clear hn0 hz
        have R := newTree_any HU.out (by omega) (fun x hx => by
          have h1 := List.mem_filter.1 hx
          have h2 := Hg.out x h1.1
          have h3 := h1.2
          simp [btw] at h3
          exact ⟨h2.1, h2.2.1, h2.2.2, by omega⟩)
        go_wp2_with (go_at_call 40; refine R.mono ?_; rintro e w2 ⟨n, hh, T, rfl, hT2, hI2, hF2, hP2, hn4, hK2⟩)
        have hM2 : Mid2 w d.toList wr.heap.size n T 0 (longL d.toList) hh (.slice ao n0 cp) w2 := by
          have hne : (Value.slice ao n0 cp).ownBlock ≠ some wr.heap.size := fun e => by have := (hO0.out.lt _ e).2; omega
          refine ⟨hK2.owns hO0.out (fun b hb e => HA.out b hb e), hne, hT2, ?_, Nat.zero_le _, ?_, ?_, ?_, ?_, ?_⟩
          · refine hI2.more (fun b hb e => ?_)
            obtain ⟨y, hy, rfl⟩ := List.mem_map.1 (hP2.mem_iff.1 hb)
            obtain ⟨z, hz, e2⟩ := List.mem_map.1 e
            have hy' := List.mem_filter.1 hy
            have hz' := List.mem_filter.1 hz
            have : z = y := inj_of_nodup Hn.out hz'.1 hy'.1 e2
            subst this
            have h1 := hy'.2
            have h2 : 32767 < btw z := by simpa using hz'.2
            simp at h1
            omega
          · exact Hn.out.sublist (List.Sublist.map _ List.filter_sublist)
          · intro x hx
            obtain ⟨y, hy, rfl⟩ := List.mem_map.1 hx
            exact List.mem_map.2 ⟨y, (List.mem_filter.1 hy).1, rfl⟩
          · intro S hS x hx
            obtain ⟨y, hy, rfl⟩ := List.mem_map.1 hx
            have hy' := List.mem_filter.1 hy
            cases e : S y.1
            · have := hS (mkBr y) (List.mem_map.2 ⟨y, hy'.1, rfl⟩) e
              have h2 : 32767 < btw y := by simpa using hy'.2
              unfold btw at h2
              unfold mkBr at this
              simp only at this
              omega
            · rfl
          · intro x hx hb
            exact List.mem_map.2 ⟨x, List.mem_filter.2 ⟨hx, by simpa using hb⟩, rfl⟩
          · exact HBl.out.trans (hK2.below HBl.out.size (fun b hb => (HU.out.lt b hb).1))
        have HM2 := hid hM2
        have HP2 := hid hP2
        have HF2 := hid hF2
        clear hM2 hT2 hI2 hF2 hP2 hK2 R
        have hAp : Hid (Apart T) := by
          unfold Hid Apart
          refine ((HP2.out.map Br.ix).nodup_iff).2 ?_
          rw [List.map_map]
          exact Hn.out.sublist (List.Sublist.map _ List.filter_sublist)
        have hlo : Hid (∀ b ∈ lvs T, b.low ≤ b.high) := fun b hb => by
          obtain ⟨y, hy, rfl⟩ := List.mem_map.1 (HP2.out.mem_iff.1 hb)
          exact hw.out y (List.mem_filter.1 hy).1
        have hTl : Hid ((lvs T).length ≤ 900000) := by
          have := HP2.out.length_eq
          simp at this
          unfold Hid
          omega
        have hBt : Hid (w.heap.size ≤ wr.heap.size) := HBl.out.size
        have hLm : Hid (∀ (k' : Nat) (L : List Nat) (h : Nat → Int) (v : Value) (W : World), Mid2 w d.toList wr.heap.size n T k' L h v W → L.length ≤ k) := fun k' L h v W hM => by
          have := pigeon L _ hM.nodup hM.sub
          simp at this
          unfold Hid at *
          omega
        have hix : Hid (∀ x ∈ d.toList.map (·.1), x ≤ 1000000) := fun x hx => by
          obtain ⟨y, hy, rfl⟩ := List.mem_map.1 hx
          exact (Hg.out y hy).1
        clear hO0 HU HA HBl
        generalize wr.heap.size = tb at *
        go_loopw [3, 9] (fun v i wq => ∃ (k' : Nat) (L : List Nat) (h : Nat → Int), i = .int .i64 k' ∧ Mid2 w d.toList tb n T k' L h v wq) (fun _ i _ => k - (intOf i).toNat)
        case atStart => exact ⟨0, longL d.toList, hh, rfl, HM2.out⟩
        case round =>
          obtain ⟨k', L, h, rfl, hM⟩ := hrel
          have hLk := hLm.out _ _ _ _ _ hM
          by_cases hlt2 : k' < L.length
          · obtain ⟨g, cg, rfl⟩ : ∃ g cg, u3 = .slice (some ⟨g, 0, none⟩) L.length cg := by
              rcases hM.own.2 with ⟨_, e⟩ | ⟨g, cg, cur, rfl, _⟩
              · omega
              · exact ⟨g, cg, rfl⟩
            have cl : wr.cell? ⟨g, k', none⟩ = some (.int .i64 (L[k'] : Int)) := by
              rw [hM.own.cellAt k' (by omega)]
              simp [ints, hlt2]
            have hLx : L[k'] ≤ 1000000 := hix.out _ (hM.sub _ (List.getElem_mem _))
            have R := pushOk T tb n 1 L[k'] h (.slice (some ⟨g, 0, none⟩) L.length cg) (L.take k') L wr hM.tree (ownsRow_up hM.own (fun _ _ => Nat.zero_le _)) hM.ne (by have := hTl.out; omega) (Nat.le_refl _) hn4 HF2.out (by simp; omega) hLx hAp.out hlo.out hM.inv
            have R' := push41 (P := fun v' w' => ∃ h' new, IsTree w' tb n h' ∧ w'.ownsRow 0 3 1 v' (L ++ new).length (ints (L ++ new)) ∧ Push h (L.take k') L T 1 L[k'] h' new ∧ Kept (fun b => b = tb ∨ (Value.slice (some ⟨g, 0, none⟩) L.length cg).ownBlock = some b) wr w' ∧ (v'.ownBlock = (Value.slice (some ⟨g, 0, none⟩) L.length cg).ownBlock ∨ ∃ b, v'.ownBlock = some b ∧ wr.heap.size ≤ b)) (R.mono (fun e w' ⟨v', h', new, he, r⟩ => ⟨v', he, h', new, r⟩))
            have hlt3 : (k' : Int) < (L.length : Int) := by omega
            have HMr := hid hM
            generalize hy : L[k'] = y at *
            have HY := hid hy
            clear hM R hy
            go_wp2_with (go_at_call 41; refine R'.mono ?_; rintro e w3 ⟨v', rfl, h', new, hT3, hO3, hP3, hK3, hl3⟩)
            have hN := HMr.out.next hw.out HP2.out hlt2 hBt.out hT3 hO3 (by rw [HY.out]; exact hP3) hK3 hl3
            have HN2 := hid hN
            clear hN hT3 hO3 hP3 hK3 hl3 R'
            go_roundw
            case rel => exact ⟨k' + 1, _, _, by go_num, HN2.out⟩
            case measure => simp [intOf]; omega
          · have hkl := hM.kl
            have e : k' = L.length := by omega
            have hIn := hM.inv
            rw [e, List.take_of_length_le (Nat.le_refl _)] at hIn
            obtain ⟨ag, cg, rfl⟩ : ∃ ag cg, u3 = .slice ag L.length cg := by
              rcases hM.own.2 with ⟨rfl, e⟩ | ⟨g, cg, cur, rfl, _⟩
              · exact ⟨_, _, by rw [e]⟩
              · exact ⟨_, _, rfl⟩
            have HMr := hid hM
            have HI := hid hIn
            have hlt3 : ¬ (k' : Int) < (L.length : Int) := by omega
            clear hM hIn
            go_wp2
            go_ret
            exact ⟨_, rfl, L, HMr.out.own, HMr.out.nodup, HMr.out.sub, least_of hw.out HMr.out.nodup HMr.out.long HP2.out HI.out HMr.out.forced, HMr.out.below⟩
end Go.Proofs.Ytgnlplddppheiaa
