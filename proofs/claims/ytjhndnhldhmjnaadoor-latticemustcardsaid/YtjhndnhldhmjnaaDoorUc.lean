/- A copy of a row; sets joined. -/
import Derived.Test.YtjhndnhldhmjnaaDoorUs
namespace Go.Proofs.YtjhndnhldhmjnaaDoor
open Go Go.RowKit Go.Maps
set_option linter.unusedVariables false
set_option linter.unusedSimpArgs false
theorem eqs47 (a : Addr) (n c : Nat) (W : World) : Sem.run Tryd.prog (Go.binOp BinOp.eql 47 (.slice (some a) n c) (.slice none 0 0)) W = .ok (.bool false) W := rfl
theorem eqn47 (n c : Nat) (W : World) : Sem.run Tryd.prog (Go.binOp BinOp.eql 47 (.slice none n c) (.slice none 0 0)) W = .ok (.bool true) W := rfl
set_option maxRecDepth 20000 in
set_option maxHeartbeats 4000000 in
theorem clone39 {w : World} {v : Value} {xs : List Wd} (h : Src ucell w v xs) (hl : xs.length ≤ 1024) :
    Calls Tryd.prog 39 #[v] w fun e w' => ∃ cv, e = .returned cv ∧ Own 29 1 ucell w' w.heap.size cv xs ∧ Below w.heap.size w w' := by
  obtain ⟨ao, cp, rfl⟩ := h.len
  cases ao with
  | none =>
    have h0 : xs = [] := by
      rcases h with ⟨e, _⟩ | ⟨b, off, cap, e, _⟩
      · exact e
      · cases e
    subst h0
    clear h
    have e0 := eqn47
    go_enter Tryd.func39, Tryd.ntmps39
    go_wp2_with fail
    go_ret
    exact ⟨_, rfl, World.ownsRow_nil _ _ _ _, Below.refl _ _⟩
  | some a =>
    have hb := below1 w (.cells #[] 29)
    have hO : Own 29 1 ucell (w.alloc (.cells #[] 29)) w.heap.size (.slice (some ⟨w.heap.size, 0, none⟩) 0 0) [] := ⟨rfl, .inr ⟨w.heap.size, 0, #[], rfl, Nat.le_refl _, heap_alloc_new _ _, Nat.le_refl _, Nat.zero_le _, rfl, rfl⟩⟩
    obtain ⟨v', w7, h1, h2, h3, h4⟩ := append_own2 (f := ucell) (st := 47) (et := 29) (bytes := 8) uc1 (base := w.heap.size) (l := []) (m := xs) (w := w.alloc (.cells #[] 29)) (fun y hy u hu => by
      simp only [ucell, List.mem_cons, List.not_mem_nil, or_false] at hu
      subst hu
      rfl) Tryd.underlying47 info29 rfl (by decide) hO (h.on hb) (by simp; omega) (by simp; unfold maxLen; omega) hb.size 47
    rw [List.nil_append] at h2
    have K := Kept.of_grown (S := fun k => k = w.heap.size) h3 (fun k e => by injection e with e; exact e.symm)
    have HB7 : Hid (Below w.heap.size w w7) := hb.trans (K.below hb.size (fun k e => by omega))
    have HO7 := hid' h2
    have HR7 := hid' h1
    clear h hb hO h1 h2 h3 h4 K
    have e0 := eqs47
    go_enter Tryd.func39, Tryd.ntmps39
    go_wp2_with (at_builtin; refine of_mark ?_)
    unfold Mark
    refine wpList_append_run rfl _ _ rfl _ _ _ rfl rfl HR7.out ?_
    go_wp2_with fail
    go_ret
    exact ⟨_, rfl, HO7.out, HB7.out⟩
def mixL (J : Wd → Wd → Wd) (xs ys : List Wd) (m j : Nat) : List Wd := (List.range m).map fun i => if i < j then J (xs.getD i 0) (ys.getD i 0) else xs.getD i 0
theorem mixL_len (J : Wd → Wd → Wd) (xs ys : List Wd) (m j : Nat) : (mixL J xs ys m j).length = m := by simp [mixL]
theorem mixL_zero (J : Wd → Wd → Wd) (xs ys : List Wd) : mixL J xs ys xs.length 0 = xs := by
  refine List.ext_getElem (by simp [mixL]) fun i h1 h2 => ?_
  simp [mixL, h2]
theorem mixL_set (J : Wd → Wd → Wd) (xs ys : List Wd) {m j : Nat} (hj : j < m) : (flat ucell (mixL J xs ys m j)).set j (uv (J (xs.getD j 0) (ys.getD j 0))) = flat ucell (mixL J xs ys m (j + 1)) := by
  rw [flat_u, flat_u]
  refine List.ext_getElem (by simp [mixL]) fun i h1 h2 => ?_
  simp only [List.length_set, List.length_map, List.length_range, mixL] at h1
  by_cases e : j = i
  · subst e
    simp [mixL]
  · rw [List.getElem_set_ne e]
    simp only [mixL, List.getElem_map, List.getElem_range]
    congr 1
    by_cases c : i < j
    · rw [if_pos c, if_pos (by omega)]
    · rw [if_neg c, if_neg (by omega)]
theorem mixL_get {w : World} {B g cap m j : Nat} {J : Wd → Wd → Wd} {xs ys : List Wd} (h : Own 29 1 ucell w B (.slice (some ⟨g, 0, none⟩) m cap) (mixL J xs ys m j)) (hj : j < m) : w.cell? ⟨g, j, none⟩ = some (uv (xs.getD j 0)) := by
  unfold Own at h
  rw [mixL_len] at h
  rw [World.ownsRow.cellAt h j (by omega), flat_u]
  simp [mixL, hj]
theorem mixL_put {w : World} {B g cap m j : Nat} {J : Wd → Wd → Wd} {xs ys : List Wd} (h : Own 29 1 ucell w B (.slice (some ⟨g, 0, none⟩) m cap) (mixL J xs ys m j)) (hj : j < m) : Own 29 1 ucell (w.setCell ⟨g, j, none⟩ (uv (J (xs.getD j 0) (ys.getD j 0)))) B (.slice (some ⟨g, 0, none⟩) m cap) (mixL J xs ys m (j + 1)) := by
  unfold Own at h ⊢
  rw [mixL_len] at h ⊢
  have := (World.ownsRow.stored h j (uv (J (xs.getD j 0) (ys.getD j 0)))).1
  rw [mixL_set _ _ _ hj] at this
  exact this
/-- What either has. -/
def orL (xs ys : List Wd) : List Wd := mixL (· ||| ·) xs ys xs.length ys.length
theorem orL_mem {xs ys : List Wd} (hle : ys.length ≤ xs.length) (n : Nat) : memL (orL xs ys) n = (memL xs n || memL ys n) := by
  unfold memL orL
  by_cases c : n / 64 < xs.length
  · rw [getD_lt (by rw [mixL_len]; exact c)]
    simp only [mixL, List.getElem_map, List.getElem_range]
    by_cases c2 : n / 64 < ys.length
    · rw [if_pos c2, BitVec.getLsbD_or]
    · rw [if_neg c2, getD_ge (xs := ys) (by omega)]
      simp
  · rw [getD_ge (by rw [mixL_len]; omega), getD_ge (xs := xs) (by omega), getD_ge (xs := ys) (by omega)]
    simp
theorem or_ne {x y : Wd} (h : x ≠ 0) : x ||| y ≠ 0 := fun e => by
  obtain ⟨i, hi, hb⟩ := bit_ne h
  have := bit_of e i
  rw [BitVec.getLsbD_or] at this
  simp at this hb
  rw [hb] at this
  cases this.1
theorem orL_can {xs ys : List Wd} (h : Can xs) (hle : ys.length ≤ xs.length) : Can (orL xs ys) := by
  intro hp
  have hl : (orL xs ys).length = xs.length := mixL_len _ _ _ _ _
  have hp2 : 0 < xs.length := by omega
  have e : (orL xs ys)[(orL xs ys).length - 1] = if xs.length - 1 < ys.length then xs.getD (xs.length - 1) 0 ||| ys.getD (xs.length - 1) 0 else xs.getD (xs.length - 1) 0 := by
    simp [orL, mixL]
  have h2 := h hp2
  rw [e, getD_lt (by omega : xs.length - 1 < xs.length)]
  split
  · exact or_ne h2
  · exact h2
theorem boxes3 (w : World) (A B C : Array Value) (t u v : TypeId) : (((w.alloc (.cells A t)).alloc (.cells B u)).alloc (.cells C v)).heap[w.heap.size]? = some (.cells A t (0, 0)) ∧ (((w.alloc (.cells A t)).alloc (.cells B u)).alloc (.cells C v)).heap[w.heap.size + 1]? = some (.cells B u (0, 0)) ∧ (((w.alloc (.cells A t)).alloc (.cells B u)).alloc (.cells C v)).heap[w.heap.size + 1 + 1]? = some (.cells C v (0, 0)) := by
  have e1 : (w.alloc (.cells A t)).heap.size = w.heap.size + 1 := by simp
  have e2 : ((w.alloc (.cells A t)).alloc (.cells B u)).heap.size = w.heap.size + 1 + 1 := by simp
  have h1 := heap_alloc_new w (.cells A t)
  have h2 := heap_alloc_new (w.alloc (.cells A t)) (.cells B u)
  have h3 := heap_alloc_new ((w.alloc (.cells A t)).alloc (.cells B u)) (.cells C v)
  rw [e1] at h2
  rw [e2] at h3
  refine ⟨?_, ?_, h3⟩
  · rw [Below.heap_alloc _ _ _ (by omega), Below.heap_alloc _ _ _ (by omega), h1]
  · rw [Below.heap_alloc _ _ _ (by omega), h2]
theorem fro_of_row (W : World) (b o : Nat) {cs : Array Value} {t : TypeId} (h : W.heap[b]? = some (.cells cs t (0, 0))) : W.frozen? ⟨b, o, none⟩ = false := by simp [World.frozen?, h]
/-- The two sets, and what is to be told, in boxes: the walk behind the choice of the longer one. -/
theorem union_end {w : World} {B b : Nat} {cv : Value} {xs ys : List Wd} (ho : Own 29 1 ucell w B cv (orL xs ys)) (hx : Can xs) (hle : ys.length ≤ xs.length) (h1024 : xs.length ≤ 1024) (hb : b < B) : SetIs (w.setCell ⟨b, 0, none⟩ cv) (.agg #[cv]) (orL xs ys) := by
  have K := setK w b 0 cv
  have h2 : Own 29 1 ucell (w.setCell ⟨b, 0, none⟩ cv) B cv (orL xs ys) := K.owns ho (fun c hc e => by have := (World.ownsRow.lt ho c hc).1; omega)
  exact ⟨⟨cv, rfl, h2.src uc1⟩, orL_can hx hle, by unfold orL; rw [mixL_len]; exact h1024⟩
set_option maxRecDepth 20000 in
set_option maxHeartbeats 4000000 in
theorem union20_a {w : World} {v v' : Value} {xs ys : List Wd} (h : SetIs w v xs) (h' : SetIs w v' ys) (hlt : ¬ xs.length < ys.length) :
    Calls Tryd.prog 20 #[v, v'] w fun e w' => ∃ sv, e = .returned sv ∧ SetIs w' sv (orL xs ys) ∧ Below w.heap.size w w' := by
  obtain ⟨⟨rv, rfl, hs⟩, hc, hle⟩ := h
  obtain ⟨⟨rv', rfl, hs'⟩, hc', hle'⟩ := h'
  obtain ⟨ao, cp, rfl⟩ := hs.len
  obtain ⟨ao', cp', rfl⟩ := hs'.len
  have hll : ys.length ≤ xs.length := by omega
  obtain ⟨W0, eW0⟩ : ∃ W0, W0 = ((w.alloc (.cells #[.slice ao xs.length cp] 49)).alloc (.cells #[.slice ao' ys.length cp'] 49)).alloc (.cells #[.slice none 0 0] 49) := ⟨_, rfl⟩
  have hB0 : Below w.heap.size w W0 := by rw [eW0]; exact below3 _ _ _ _
  have hs0 : W0.heap.size = w.heap.size + 1 + 1 + 1 := by rw [eW0]; simp
  obtain ⟨k1, k2, k3⟩ := boxes3 w #[.slice ao xs.length cp] #[.slice ao' ys.length cp'] #[.slice none 0 0] 49 49 49
  rw [← eW0] at k1 k2 k3
  have hbx : W0.cell? ⟨w.heap.size + 1 + 1, 0, none⟩ = some (.slice none 0 0) ∧ W0.frozen? ⟨w.heap.size + 1 + 1, 0, none⟩ = false := ⟨cell_of_row W0 _ 0 _ 49 (0, 0) k3, fro_of_row W0 _ 0 k3⟩
  have hbr : W0.cell? ⟨w.heap.size, 0, none⟩ = some (.slice ao xs.length cp) ∧ W0.cell? ⟨w.heap.size + 1, 0, none⟩ = some (.slice ao' ys.length cp') := ⟨cell_of_row W0 _ 0 _ 49 (0, 0) k1, cell_of_row W0 _ 0 _ 49 (0, 0) k2⟩
  clear k1 k2 k3
  have HBX := hid' hbx
  have HB0 := hid' hB0
  have HS := hid' (hs'.on hB0)
  have HL := hid' (hs.on hB0)
  obtain ⟨r1, r2⟩ := hbr
  clear hs hs' hB0 hbx
  go_enter Tryd.func20, Tryd.ntmps20
  go_upto_region 1 with fail
  rw [← eW0]
  have q1 : W0.cell? ⟨w.heap.size, 0, none⟩ = some (.slice ao xs.length cp) := r1
  have q2 : W0.cell? ⟨w.heap.size + 1, 0, none⟩ = some (.slice ao' ys.length cp') := r2
  clear eW0 r1 r2
  go_quiet (fail)
  have KC := clone39 (w := W0.drewN nq) (HL.out.on (bdrew (Below.refl _ _) nq)) (by omega)
  have HBN : Hid (Below W0.heap.size W0 (W0.drewN nq)) := bdrew (Below.refl _ _) nq
  have hsn : (W0.drewN nq).heap.size = W0.heap.size := rfl
  go_wp2_with (go_at_call 39; refine of_mark ?_)
  unfold Mark
  refine KC.mono ?_
  rintro e9 w9 ⟨cv, rfl, hO9, hB9⟩
  rw [hsn] at hO9
  have HB9 := hid' (below_up HBN.out hB9)
  have HO9 : Hid (Own 29 1 ucell w9 W0.heap.size cv (mixL (· ||| ·) xs ys xs.length 0)) := by unfold Hid; rw [mixL_zero]; exact hO9
  have hform : Hid (0 < ys.length → ∃ g c, cv = .slice (some ⟨g, 0, none⟩) xs.length c) := fun hp => by
    rcases hO9.2 with ⟨_, e⟩ | ⟨g, c, cur, e, _⟩
    · omega
    · exact ⟨g, c, e⟩
  obtain ⟨so, sc, es, hf⟩ := HS.out.words
  injection es with e1 e2 e3
  subst e1 e3
  have HF := hid' hf
  clear KC hO9 hB9 q1 q2 hf e2
  go_wp2_with fail
  go_loopw [25] (fun iv wr => ∃ j : Nat, j ≤ ys.length ∧ iv = .int .i64 j ∧ Own 29 1 ucell wr W0.heap.size cv (mixL (· ||| ·) xs ys xs.length j) ∧ Below W0.heap.size W0 wr) (fun iv _ => ys.length - (intOf iv).toNat)
  case atStart => exact ⟨0, Nat.zero_le _, rfl, HO9.out, HB9.out⟩
  case round =>
    obtain ⟨j, hj, rfl, hO, hB⟩ := hrel
    have HB := hid' hB
    by_cases hjl : j < ys.length
    · obtain ⟨g, c, rfl⟩ := hform.out (by omega)
      obtain ⟨b, off, rfl, hb1, hc1, hx⟩ := HF.out j hjl
      have d0 := hx wr hB
      have d1 := mixL_get hO (by omega : j < xs.length)
      have f1 : wr.frozen? ⟨g, j, none⟩ = false := by
        have h2 := hO
        unfold Own at h2
        rw [mixL_len] at h2
        exact World.ownsRow.frozenAt h2 j
      have HN := hid' (mixL_put hO (by omega : j < xs.length))
      have hg : W0.heap.size ≤ g := (World.ownsRow.lt hO g rfl).1
      have hgd : ys.getD j 0 = ys[j] := getD_lt hjl
      rw [hgd] at HN
      have hor := b_or (xs.getD j 0) ys[j]
      clear hx hO hB hgd
      generalize ys[j] = y at *
      generalize xs.getD j 0 = x at *
      unfold uv at *
      go_wp2_with fail
      rw [n_or]
      exact ⟨⟨j + 1, by omega, by go_num, HN.out, HB.out.setCell hg _⟩, by simp [intOf]; omega⟩
    · have e : j = ys.length := by omega
      subst e
      have bx : wr.cell? ⟨w.heap.size + 1 + 1, 0, none⟩ = some (.slice none 0 0) := keep_cell HBX.out.1 hB
      have fx : wr.frozen? ⟨w.heap.size + 1 + 1, 0, none⟩ = false := (hB.frozen (p := ⟨w.heap.size + 1 + 1, 0, none⟩) (by show w.heap.size + 1 + 1 < _; omega)).trans HBX.out.2
      have HO := hid' hO
      obtain ⟨ko, kc, ecv⟩ := (hO.src uc1).len
      clear hO hB
      have HE := union_end (b := w.heap.size + 1 + 1) HO.out hc hll (by omega) (by omega)
      rw [mixL_len] at ecv
      subst ecv
      have HE2 := hid' HE
      clear HE HO hform
      go_wp2_with fail
      refine bodyPost_ret (v := .agg #[.slice ko xs.length kc]) (by simp [results, Tryd.results20, go_sem, bx]) rfl ?_
      exact ⟨_, rfl, HE2.out, (below_up HB0.out HB.out).setCell (by show w.heap.size ≤ w.heap.size + 1 + 1; omega) _⟩
set_option maxRecDepth 20000 in
set_option maxHeartbeats 4000000 in
theorem union20_b {w : World} {v v' : Value} {xs ys : List Wd} (h : SetIs w v xs) (h' : SetIs w v' ys) (hlt : xs.length < ys.length) :
    Calls Tryd.prog 20 #[v, v'] w fun e w' => ∃ sv, e = .returned sv ∧ SetIs w' sv (orL ys xs) ∧ Below w.heap.size w w' := by
  obtain ⟨⟨rv, rfl, hs⟩, hc, hle⟩ := h
  obtain ⟨⟨rv', rfl, hs'⟩, hc', hle'⟩ := h'
  obtain ⟨ao, cp, rfl⟩ := hs.len
  obtain ⟨ao', cp', rfl⟩ := hs'.len
  have hll : xs.length ≤ ys.length := by omega
  obtain ⟨W0, eW0⟩ : ∃ W0, W0 = ((w.alloc (.cells #[.slice ao xs.length cp] 49)).alloc (.cells #[.slice ao' ys.length cp'] 49)).alloc (.cells #[.slice none 0 0] 49) := ⟨_, rfl⟩
  have hB0 : Below w.heap.size w W0 := by rw [eW0]; exact below3 _ _ _ _
  have hs0 : W0.heap.size = w.heap.size + 1 + 1 + 1 := by rw [eW0]; simp
  obtain ⟨k1, k2, k3⟩ := boxes3 w #[.slice ao xs.length cp] #[.slice ao' ys.length cp'] #[.slice none 0 0] 49 49 49
  rw [← eW0] at k1 k2 k3
  have hbx : W0.cell? ⟨w.heap.size + 1 + 1, 0, none⟩ = some (.slice none 0 0) ∧ W0.frozen? ⟨w.heap.size + 1 + 1, 0, none⟩ = false := ⟨cell_of_row W0 _ 0 _ 49 (0, 0) k3, fro_of_row W0 _ 0 k3⟩
  have hbr : W0.cell? ⟨w.heap.size, 0, none⟩ = some (.slice ao xs.length cp) ∧ W0.cell? ⟨w.heap.size + 1, 0, none⟩ = some (.slice ao' ys.length cp') := ⟨cell_of_row W0 _ 0 _ 49 (0, 0) k1, cell_of_row W0 _ 0 _ 49 (0, 0) k2⟩
  clear k1 k2 k3
  have HBX := hid' hbx
  have HB0 := hid' hB0
  have HS := hid' (hs.on hB0)
  have HL := hid' (hs'.on hB0)
  obtain ⟨r1, r2⟩ := hbr
  clear hs hs' hB0 hbx
  go_enter Tryd.func20, Tryd.ntmps20
  go_upto_region 1 with fail
  rw [← eW0]
  have q1 : W0.cell? ⟨w.heap.size, 0, none⟩ = some (.slice ao xs.length cp) := r1
  have q2 : W0.cell? ⟨w.heap.size + 1, 0, none⟩ = some (.slice ao' ys.length cp') := r2
  clear eW0 r1 r2
  go_quiet (fail)
  have KC := clone39 (w := W0.drewN nq) (HL.out.on (bdrew (Below.refl _ _) nq)) (by omega)
  have HBN : Hid (Below W0.heap.size W0 (W0.drewN nq)) := bdrew (Below.refl _ _) nq
  have hsn : (W0.drewN nq).heap.size = W0.heap.size := rfl
  go_wp2_with (go_at_call 39; refine of_mark ?_)
  unfold Mark
  refine KC.mono ?_
  rintro e9 w9 ⟨cv, rfl, hO9, hB9⟩
  rw [hsn] at hO9
  have HB9 := hid' (below_up HBN.out hB9)
  have HO9 : Hid (Own 29 1 ucell w9 W0.heap.size cv (mixL (· ||| ·) ys xs ys.length 0)) := by unfold Hid; rw [mixL_zero]; exact hO9
  have hform : Hid (0 < xs.length → ∃ g c, cv = .slice (some ⟨g, 0, none⟩) ys.length c) := fun hp => by
    rcases hO9.2 with ⟨_, e⟩ | ⟨g, c, cur, e, _⟩
    · omega
    · exact ⟨g, c, e⟩
  obtain ⟨so, sc, es, hf⟩ := HS.out.words
  injection es with e1 e2 e3
  subst e1 e3
  have HF := hid' hf
  clear KC hO9 hB9 q1 q2 hf e2
  go_wp2_with fail
  go_loopw [25] (fun iv wr => ∃ j : Nat, j ≤ xs.length ∧ iv = .int .i64 j ∧ Own 29 1 ucell wr W0.heap.size cv (mixL (· ||| ·) ys xs ys.length j) ∧ Below W0.heap.size W0 wr) (fun iv _ => xs.length - (intOf iv).toNat)
  case atStart => exact ⟨0, Nat.zero_le _, rfl, HO9.out, HB9.out⟩
  case round =>
    obtain ⟨j, hj, rfl, hO, hB⟩ := hrel
    have HB := hid' hB
    by_cases hjl : j < xs.length
    · obtain ⟨g, c, rfl⟩ := hform.out (by omega)
      obtain ⟨b, off, rfl, hb1, hc1, hx⟩ := HF.out j hjl
      have d0 := hx wr hB
      have d1 := mixL_get hO (by omega : j < ys.length)
      have f1 : wr.frozen? ⟨g, j, none⟩ = false := by
        have h2 := hO
        unfold Own at h2
        rw [mixL_len] at h2
        exact World.ownsRow.frozenAt h2 j
      have HN := hid' (mixL_put hO (by omega : j < ys.length))
      have hg : W0.heap.size ≤ g := (World.ownsRow.lt hO g rfl).1
      have hgd : xs.getD j 0 = xs[j] := getD_lt hjl
      rw [hgd] at HN
      have hor := b_or (ys.getD j 0) xs[j]
      clear hx hO hB hgd
      generalize xs[j] = y at *
      generalize ys.getD j 0 = x at *
      unfold uv at *
      go_wp2_with fail
      rw [n_or]
      exact ⟨⟨j + 1, by omega, by go_num, HN.out, HB.out.setCell hg _⟩, by simp [intOf]; omega⟩
    · have e : j = xs.length := by omega
      subst e
      have bx : wr.cell? ⟨w.heap.size + 1 + 1, 0, none⟩ = some (.slice none 0 0) := keep_cell HBX.out.1 hB
      have fx : wr.frozen? ⟨w.heap.size + 1 + 1, 0, none⟩ = false := (hB.frozen (p := ⟨w.heap.size + 1 + 1, 0, none⟩) (by show w.heap.size + 1 + 1 < _; omega)).trans HBX.out.2
      have HO := hid' hO
      obtain ⟨ko, kc, ecv⟩ := (hO.src uc1).len
      clear hO hB
      have HE := union_end (b := w.heap.size + 1 + 1) HO.out hc' hll (by omega) (by omega)
      rw [mixL_len] at ecv
      subst ecv
      have HE2 := hid' HE
      clear HE HO hform
      go_wp2_with fail
      refine bodyPost_ret (v := .agg #[.slice ko ys.length kc]) (by simp [results, Tryd.results20, go_sem, bx]) rfl ?_
      exact ⟨_, rfl, HE2.out, (below_up HB0.out HB.out).setCell (by show w.heap.size ≤ w.heap.size + 1 + 1; omega) _⟩
end Go.Proofs.YtjhndnhldhmjnaaDoor
