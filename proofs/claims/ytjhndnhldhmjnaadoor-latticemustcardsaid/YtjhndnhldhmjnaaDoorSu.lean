/- Successors: of each node those to which edges go. -/
import Derived.Test.YtjhndnhldhmjnaaDoorOw
import Derived.Test.YtjhndnhldhmjnaaDoorQuiet
namespace Go.Proofs.YtjhndnhldhmjnaaDoor
open Go.RowKit Go.Maps
set_option linter.unusedVariables false
set_option linter.unusedSimpArgs false
def giveE (L : List (List Int)) (e : Int × Int) : List (List Int) := L.set e.1.toNat (L.getD e.1.toNat [] ++ [e.2])
def giveF (n : Nat) (l : List (Int × Int)) : List (List Int) := l.foldl giveE (List.replicate n [])
def succF (n : Nat) (l : List (Int × Int)) : List (List Int) := turnF (turnF (giveF n l))
theorem giveE_len (L : List (List Int)) (e : Int × Int) : (giveE L e).length = L.length := by simp [giveE]
theorem gives_len : ∀ (l : List (Int × Int)) (L : List (List Int)), (l.foldl giveE L).length = L.length
  | [], L => rfl
  | e :: l, L => by rw [List.foldl_cons, gives_len l, giveE_len]
theorem giveF_len (n : Nat) (l : List (Int × Int)) : (giveF n l).length = n := by unfold giveF; rw [gives_len, List.length_replicate]
theorem getD_set {α : Type} {d : α} (L : List α) (i j : Nat) (x : α) (hi : i < L.length) : (L.set i x).getD j d = if j = i then x else L.getD j d := by
  by_cases e : j = i
  · subst e
    rw [if_pos rfl]
    simp [List.getD, hi]
  · rw [if_neg e]
    simp only [List.getD]
    rw [List.getElem?_set_ne (Ne.symm e)]
theorem gives_mem (j : Nat) (x : Int) : ∀ (l : List (Int × Int)) (L : List (List Int)), (∀ e ∈ l, 0 ≤ e.1 ∧ e.1.toNat < L.length) → (x ∈ (l.foldl giveE L).getD j [] ↔ x ∈ L.getD j [] ∨ ∃ e ∈ l, e.1.toNat = j ∧ e.2 = x)
  | [], L, _ => by simp
  | e :: l, L, h => by
    rw [List.foldl_cons, gives_mem j x l _ (fun y hy => by rw [giveE_len]; exact h y (List.mem_cons_of_mem _ hy))]
    have h0 := h e List.mem_cons_self
    unfold giveE
    rw [getD_set _ _ _ _ h0.2]
    by_cases c : j = e.1.toNat
    · rw [if_pos c, ← c, List.mem_append, List.mem_singleton]
      simp only [List.mem_cons]
      constructor
      · rintro ((a | a) | ⟨y, hy, a⟩)
        · exact .inl a
        · exact .inr ⟨e, .inl rfl, c.symm, a.symm⟩
        · exact .inr ⟨y, .inr hy, a⟩
      · rintro (a | ⟨y, (rfl | hy), a⟩)
        · exact .inl (.inl a)
        · exact .inl (.inr a.2.symm)
        · exact .inr ⟨y, hy, a⟩
    · rw [if_neg c]
      simp only [List.mem_cons]
      constructor
      · rintro (a | ⟨y, hy, a⟩)
        · exact .inl a
        · exact .inr ⟨y, .inr hy, a⟩
      · rintro (a | ⟨y, (rfl | hy), a⟩)
        · exact .inl a
        · exact absurd a.1.symm c
        · exact .inr ⟨y, hy, a⟩
theorem gives_le : ∀ (l : List (Int × Int)) (L : List (List Int)) (m : Nat), (∀ x ∈ L, x.length ≤ m) → ∀ x ∈ l.foldl giveE L, x.length ≤ m + l.length
  | [], L, m, h => fun x hx => h x hx
  | e :: l, L, m, h => fun x hx => by
    rw [List.foldl_cons] at hx
    have := gives_le l (giveE L e) (m + 1) (fun y hy => by
      unfold giveE at hy
      rcases List.mem_or_eq_of_mem_set hy with hy | rfl
      · have := h y hy; omega
      · rw [List.length_append]
        by_cases c : e.1.toNat < L.length
        · have e1 : L.getD e.1.toNat [] = L[e.1.toNat] := by simp [c]
          have := h _ (List.getElem_mem c)
          rw [e1]; simp; exact this
        · have e1 : L.getD e.1.toNat [] = [] := by simp [List.getD, List.getElem?_eq_none (by omega : L.length ≤ e.1.toNat)]
          rw [e1]; simp) x hx
    rw [List.length_cons]
    omega
theorem giveF_mem {n : Nat} {l : List (Int × Int)} (h : edgesF l n = true) (j : Nat) (x : Int) : x ∈ (giveF n l).getD j [] ↔ ∃ e ∈ l, e.1.toNat = j ∧ e.2 = x := by
  unfold giveF
  rw [gives_mem j x l _ (fun e he => by
    have := of_decide_eq_true h e he
    rw [List.length_replicate]
    omega)]
  have : ¬ x ∈ (List.replicate n ([] : List Int)).getD j [] := by
    by_cases c : j < n <;> simp [List.getD, c]
  simp only [this, false_or]
theorem addP_mem {L : List (List Int)} {b q : Int} (hq : 0 ≤ q ∧ q < L.length) (j : Nat) (x : Int) : x ∈ (addP L b q).getD j [] ↔ x ∈ L.getD j [] ∨ (x = b ∧ q = j) := by
  unfold addP
  rw [if_pos hq]
  have hlt : q.toNat < L.length := by omega
  split
  · rename_i hb
    constructor
    · exact fun h => .inl h
    · rintro (h | ⟨rfl, h⟩)
      · exact h
      · have : q.toNat = j := by omega
        rw [← this]; exact hb
  · rw [getD_set _ _ _ _ hlt]
    by_cases c : j = q.toNat
    · rw [if_pos c, ← c, List.mem_append, List.mem_singleton]
      have : q = j := by omega
      simp [this]
    · rw [if_neg c]
      have : ¬ q = j := by omega
      simp [this]
theorem addB_mem (b : Int) (j : Nat) (x : Int) : ∀ (tos : List Int) (L : List (List Int)), (∀ q ∈ tos, 0 ≤ q ∧ q < L.length) → (x ∈ (addB L b tos).getD j [] ↔ x ∈ L.getD j [] ∨ (x = b ∧ (j : Int) ∈ tos))
  | [], L, _ => by simp [addB]
  | q :: tos, L, h => by
    have ih := addB_mem b j x tos (addP L b q) (fun y hy => by rw [addP_len]; exact h y (List.mem_cons_of_mem _ hy))
    unfold addB at *
    rw [List.foldl_cons, ih, addP_mem (h q List.mem_cons_self), List.mem_cons]
    constructor
    · rintro ((a | ⟨a, rfl⟩) | ⟨a, c⟩)
      · exact .inl a
      · exact .inr ⟨a, .inl rfl⟩
      · exact .inr ⟨a, .inr c⟩
    · rintro (a | ⟨a, (rfl | c)⟩)
      · exact .inl (.inl a)
      · exact .inl (.inr ⟨a, rfl⟩)
      · exact .inr ⟨a, c⟩
theorem turnN_mem {I : List (List Int)} (hr : ∀ l ∈ I, ∀ x ∈ l, 0 ≤ x ∧ x < I.length) (j : Nat) (x : Int) : ∀ k, k ≤ I.length → (x ∈ (turnN I k).getD j [] ↔ ∃ i : Nat, i < k ∧ x = i ∧ (j : Int) ∈ I.getD i [])
  | 0, _ => by
    have : ¬ x ∈ (List.replicate I.length ([] : List Int)).getD j [] := by
      by_cases c : j < I.length <;> simp [List.getD, c]
    simp only [turnN, this, false_iff]
    rintro ⟨i, h, _⟩
    omega
  | k + 1, hk => by
    have hlt : k < I.length := by omega
    have e1 : I.getD k [] = I[k] := by simp [hlt]
    rw [turnN_succ I k hlt, addB_mem _ _ _ _ _ (fun q hq => by rw [turnN_len]; exact hr _ (List.getElem_mem hlt) q hq), turnN_mem hr j x k (by omega)]
    constructor
    · rintro (⟨i, h1, h2⟩ | ⟨h1, h2⟩)
      · exact ⟨i, by omega, h2⟩
      · exact ⟨k, by omega, h1, by rw [e1]; exact h2⟩
    · rintro ⟨i, h1, h2, h3⟩
      by_cases c : i = k
      · subst c
        rw [e1] at h3
        exact .inr ⟨h2, h3⟩
      · exact .inl ⟨i, by omega, h2, h3⟩
theorem turnF_mem {I : List (List Int)} (hr : ∀ l ∈ I, ∀ x ∈ l, 0 ≤ x ∧ x < I.length) (j : Nat) (x : Int) : x ∈ (turnF I).getD j [] ↔ ∃ i : Nat, i < I.length ∧ x = i ∧ (j : Int) ∈ I.getD i [] := turnN_mem hr j x _ (Nat.le_refl _)
theorem turnF_len (I : List (List Int)) : (turnF I).length = I.length := turnN_len I _
theorem turnF_in {I : List (List Int)} (hr : ∀ l ∈ I, ∀ x ∈ l, 0 ≤ x ∧ x < I.length) : ∀ l ∈ turnF I, ∀ x ∈ l, 0 ≤ x ∧ x < (turnF I).length := fun l hl x hx => by
  obtain ⟨j, hj, rfl⟩ := List.getElem_of_mem hl
  have : x ∈ (turnF I).getD j [] := by simpa [hj] using hx
  obtain ⟨i, h1, h2, _⟩ := (turnF_mem hr j x).1 this
  rw [turnF_len]
  omega
theorem turnN_le (I : List (List Int)) : ∀ k, ∀ l ∈ turnN I k, l.length ≤ k
  | 0 => fun l hl => by
    have := List.eq_of_mem_replicate hl
    subst this
    exact Nat.le_refl _
  | k + 1 => fun l hl => by
    rw [turnN] at hl
    exact (inv_addB _ (inv_turnN I k) l hl).2.2.2
theorem turnF_le (I : List (List Int)) : ∀ l ∈ turnF I, l.length ≤ I.length := turnN_le I I.length
theorem giveF_in {n : Nat} {l : List (Int × Int)} (h : edgesF l n = true) : ∀ m ∈ giveF n l, ∀ x ∈ m, 0 ≤ x ∧ x < (giveF n l).length := fun m hm x hx => by
  obtain ⟨j, hj, rfl⟩ := List.getElem_of_mem hm
  have : x ∈ (giveF n l).getD j [] := by simpa [hj] using hx
  obtain ⟨e, he, _, rfl⟩ := (giveF_mem h j x).1 this
  have := of_decide_eq_true h e he
  rw [giveF_len]
  omega
theorem succF_mem {n : Nat} {l : List (Int × Int)} (h : edgesF l n = true) (k : Nat) (hk : k < n) (x : Int) : x ∈ (succF n l).getD k [] ↔ ∃ t : Nat, x = t ∧ ((k : Int), (t : Int)) ∈ l := by
  unfold succF
  rw [turnF_mem (turnF_in (giveF_in h)), turnF_len, giveF_len]
  constructor
  · rintro ⟨i, h1, rfl, h3⟩
    obtain ⟨j, h4, h5, h6⟩ := (turnF_mem (giveF_in h) i k).1 h3
    obtain ⟨e, he, h7, h8⟩ := (giveF_mem h j i).1 h6
    have hb := of_decide_eq_true h e he
    refine ⟨i, rfl, ?_⟩
    have e1 : e.1 = (k : Int) := by omega
    have : e = ((k : Int), (i : Int)) := Prod.ext e1 h8
    rw [← this]
    exact he
  · rintro ⟨t, rfl, ht⟩
    have hb := of_decide_eq_true h _ ht
    dsimp only at hb
    refine ⟨t, by omega, rfl, (turnF_mem (giveF_in h) t k).2 ⟨k, by rw [giveF_len]; omega, rfl, (giveF_mem h k t).2 ⟨_, ht, by simp, rfl⟩⟩⟩
theorem giveE_snoc (n : Nat) (l : List (Int × Int)) (j : Nat) (hj : j < l.length) : giveF n (l.take (j + 1)) = giveE (giveF n (l.take j)) l[j] := by
  unfold giveF
  rw [take_snoc l j hj, List.foldl_append]
  rfl
theorem own_base {W : World} {B B' : Nat} {e : TypeId} {z n : Nat} {v : Value} {xs : List Value} (h : W.ownsRow B e z v n xs) (hB : B' ≤ B) : W.ownsRow B' e z v n xs := by
  obtain ⟨hl, h'⟩ := h
  refine ⟨hl, ?_⟩
  rcases h' with h' | ⟨g, cap, cur, hv, hg, r⟩
  · exact .inl h'
  · exact .inr ⟨g, cap, cur, hv, Nat.le_trans hB hg, r⟩
theorem PM.base {W : World} {B B' g : Nat} {vs : List Value} {L : List (List Int)} (h : PM W B g vs L) (hB : B' ≤ B) : PM W B' g vs L :=
  ⟨h.len, own_base h.row hB, fun j h1 h2 => own_base (h.el j h1 h2) hB, h.ne, h.ng⟩
set_option maxRecDepth 20000 in
set_option maxHeartbeats 4000000 in
theorem successors46 {w : World} {v : Value} {l : List (Int × Int)} {n : Nat} (h : Src ecell w v l) (hn : n ≤ 4096) (hl : l.length ≤ 65536) (he : edgesF l n = true) :
    Calls Tryd.prog 46 #[.int .i64 n, v] w fun e w' => ∃ g vs, e = .returned (.slice (some ⟨g, 0, none⟩) n n) ∧ PM w' w.heap.size g vs (succF n l) ∧ Below w.heap.size w w' := by
  obtain ⟨ao, cap, rfl, hf⟩ := h.edges
  have HF := hid' hf
  obtain ⟨w1, hm, hpm, hbw, hs1⟩ := make_sl w (base := w.heap.size) (n := n) (by unfold big; omega) (Nat.le_refl _)
  have HPM := hid' hpm
  have HBW := hid' hbw
  obtain ⟨ti3, hi3, z0', z1', z2'⟩ := info_parts info3
  have HI3 := hid' hi3
  have HE := hid' he
  clear h hf hpm hbw he
  go_enter Tryd.func46, Tryd.ntmps46
  go_wp2_with fail
  clear hm
  go_loopw [12] (fun i wr => ∃ (j : Nat) (vs : List Value), j ≤ l.length ∧ i = .int .i64 j ∧ PM wr w.heap.size w.heap.size vs (giveF n (l.take j)) ∧ Below w.heap.size w wr) (fun i _ => l.length - (intOf i).toNat)
  case atStart => exact ⟨0, _, Nat.zero_le _, rfl, HPM.out, HBW.out⟩
  case round =>
    obtain ⟨j, vs, hj, rfl, hP, hbr⟩ := hrel
    have HP := hid' hP
    have HB := hid' hbr
    clear hP hbr
    by_cases hlt : j < l.length
    · obtain ⟨b, o, rfl, hb1, hc1, hx⟩ := HF.out j hlt
      obtain ⟨c0, c1⟩ := hx wr HB.out
      have hb := edges_at HE.out hlt
      have HS := hid' (giveE_snoc n l j hlt)
      clear hx
      generalize l[j] = ed at *
      obtain ⟨a, x⟩ := ed
      obtain ⟨hb1, hb2, _, _⟩ := hb
      dsimp only at *
      obtain ⟨an, rfl⟩ : ∃ an : Nat, a = an := ⟨a.toNat, by omega⟩
      have han : an < n := by omega
      have hlen : (giveF n (l.take j)).length = n := giveF_len _ _
      have hsz : ((giveF n (l.take j)).getD an []).length ≤ 65536 := by
        have := gives_le (l.take j) (List.replicate n []) 0 (fun x hx => by rw [List.eq_of_mem_replicate hx]; exact Nat.le_refl _)
        by_cases c : an < (giveF n (l.take j)).length
        · have h2 := this _ (List.getElem_mem c)
          have e1 : (giveF n (l.take j)).getD an [] = (giveF n (l.take j))[an] := by simp [c]
          rw [e1]
          rw [List.length_take] at h2
          show (giveF n (l.take j))[an].length ≤ _
          unfold giveF at *
          omega
        · omega
      obtain ⟨W0, eW0⟩ : ∃ W0, W0 = (wr.alloc (.cells #[.int .i64 an, .int .i64 x] 44)).drew := ⟨_, rfl⟩
      have hP0 : PM W0 w.heap.size w.heap.size vs (giveF n (l.take j)) := by
        rw [eW0]
        exact HP.out.on (bdrew (below1 _ _) 1)
      have hB0 : Below w.heap.size w W0 := by
        rw [eW0]
        exact bdrew (HB.out.alloc HB.out.size _) 1
      obtain ⟨b7, cap7, w7, hr7, hc7, hf7, hP7, hB7, hK7, hg7, hk7⟩ := hP0.push (j := an) (x := x) (by omega) hB0.size (by
        have e1 : (giveF n (l.take j)).getD an [] = (giveF n (l.take j))[an]'(by omega) := by simp [show an < (giveF n (l.take j)).length by omega]
        rw [← e1]
        omega)
      have hv : an < vs.length := by rw [hP0.len]; omega
      have hPl := HP.out
      have hgl := hPl.g.2
      have hob : ∀ b, vs[an].ownBlock = some b → b < wr.heap.size := fun b hb => ((hPl.el an hv (by omega)).lt b hb).2
      have hn0 : ¬ (wr.heap.size = w.heap.size ∨ vs[an].ownBlock = some wr.heap.size) := by
        rintro (e | e)
        · omega
        · have := hob _ e; omega
      have hsz0 : W0.heap.size = wr.heap.size + 1 := by rw [eW0]; simp
      have e0 : w7.cell? ⟨wr.heap.size, 0, none⟩ = some (.int .i64 an) := by
        rw [hk7.cell (by omega) hn0, eW0]
        simp
      have e1 : w7.cell? ⟨wr.heap.size, 1, none⟩ = some (.int .i64 x) := by
        rw [hk7.cell (by omega) hn0, eW0]
        simp
      have r0 : wr.cell? ⟨w.heap.size, an, none⟩ = some vs[an] := by
        have := World.ownsRow.cellAt hPl.row an (by omega)
        rw [this, List.getElem?_eq_getElem hv]
      have r1 : wr.frozen? ⟨w.heap.size, an, none⟩ = false := World.ownsRow.frozenAt hPl.row an
      have HP7 := hid' hP7
      have HB7 := hid' (hB0.trans hB7)
      have hlt7 := hk7.size
      subst eW0
      have HR7 : Hid (∀ ty, (Builtin.append_ #[46, 46] ty #[vs[an], .slice (some ⟨wr.heap.size + 1, 0, none⟩) 1 1]).run Tryd.prog ((wr.alloc (.cells #[.int .i64 an, .int .i64 x] 44)).drew.alloc (.cells #[.int .i64 x] 3)) = .ok (.slice (some ⟨b7, 0, none⟩) (((giveF n (l.take j))[an]'(by omega)).length + 1) cap7) w7) := fun ty => by
        have := hr7 ty
        rw [hsz0] at this
        exact this
      have FIN : Hid (PM (w7.setCell ⟨w.heap.size, an, none⟩ (.slice (some ⟨b7, 0, none⟩) (((giveF n (l.take j))[an]'(by omega)).length + 1) cap7)) w.heap.size w.heap.size (vs.set an (.slice (some ⟨b7, 0, none⟩) (((giveF n (l.take j))[an]'(by omega)).length + 1) cap7)) (giveF n (l.take (j + 1)))) := by
        have e9 : (giveF n (l.take j)).getD an [] = (giveF n (l.take j))[an]'(by omega) := by simp [show an < (giveF n (l.take j)).length by omega]
        unfold Hid
        rw [HS.out]
        unfold giveE
        dsimp only
        rw [Int.toNat_natCast, e9]
        exact hP7
      have hc8 : w7.cell? ⟨w.heap.size, an, none⟩ = some vs[an] := hc7
      clear hP7 hB7 hK7 hk7 hg7 hc7 hr7 hn0 hob hPl hP0 hB0
      generalize vs[an] = V at *
      generalize ((giveF n (l.take j))[an]'(by omega)).length + 1 = N7 at *
      go_wp2_with fail
      go_region_law (first | (refine step_run rfl _ _ _ rfl _ _ _ (by simp [Act.eval, Act.put]) (by simp [Act.eval, Act.put]) (HR7.out _) ?_))
      all_goals go_wp2_with fail
      all_goals exact ⟨⟨j + 1, _, by omega, by go_num, FIN.out, HB7.out⟩, by simp [intOf]; omega⟩
    · have e : j = l.length := by omega
      subst e
      have hI := HP.out
      rw [List.take_length] at hI
      have hI2 := hI.rows
      rw [giveF_len] at hI2
      have hIN := hid' (giveF_in HE.out)
      have hLE := hid' (gives_le l (List.replicate n []) 0 (fun x hx => by rw [List.eq_of_mem_replicate hx]; exact Nat.le_refl _))
      clear HF hI HP
      go_wp2_with (go_at_call 54; refine of_mark ?_)
      unfold Mark
      refine (turned54 hI2 (by rw [giveF_len]; exact hn) hIN.out (fun m hm => by
        have := hLE.out m hm
        unfold big
        omega)).mono ?_
      rintro e1 w4 ⟨vs4, rfl, hP4, hB4⟩
      have hJ := hP4.rows
      rw [turnF_len] at hJ
      have hS4 := hB4.size
      clear hI2
      have HB4 := hid' (below_on HB.out hB4 HB.out.size)
      have HP4 := hid' hP4
      clear hP4 hB4
      go_wp2_with (go_at_call 54; refine of_mark ?_)
      unfold Mark
      refine (turned54 hJ (by rw [turnF_len, giveF_len]; exact hn) (turnF_in hIN.out) (fun m hm => by
        have := turnF_le _ m hm
        rw [giveF_len] at this
        unfold big
        omega)).mono ?_
      rintro e1 w5 ⟨vs5, rfl, hP5, hB5⟩
      have HP5 := hid' hP5
      have HB5 := hid' (below_on HB4.out hB5 HB4.out.size)
      have EL : Hid ((turnF (giveF n l)).length = n) := by unfold Hid; rw [turnF_len, giveF_len]
      have HZ : Hid (w.heap.size ≤ w4.heap.size) := HB4.out.size
      clear hP5 hB5
      go_wp2_with fail
      go_ret
      refine ⟨w4.heap.size, vs5, by rw [EL.out]; rfl, ?_, HB5.out⟩
      exact PM.base HP5.out HZ.out
end Go.Proofs.YtjhndnhldhmjnaaDoor
