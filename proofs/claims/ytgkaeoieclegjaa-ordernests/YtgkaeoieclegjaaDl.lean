/- slices.DeleteFunc of those that are not reached. -/
import Derived.Test.YtgkaeoieclegjaaFm
import Derived.Lib.SliceRun
namespace Go.Proofs.Ytgkaeoieclegjaa
open Go.RowKit Go.Maps
set_option linter.unusedVariables false
set_option linter.unusedSimpArgs false
/-- A built-in, by what its run is. -/
theorem wpList_builtin_run {w w' : World} {ops : Array Oper} {rest : List Oper} {o : Oper} {a : Act} {Q : Exit → Act → World → Prop} (hgd : o.guard = none) (xs : Array Operand) (ts : Array TypeId) (ho : o.op = .call { callee := .builtin .clear, args := xs, argTypes := ts })
    (vs : Array Value) (v' : Value) (hs : xs.map a.eval = vs) (hr : (Builtin.clear_ ts o.type vs).run Try.prog w = .ok v' w') (h : wpList Try.prog ops Q rest (a.put o.dst v') w') : wpList Try.prog ops Q (o :: rest) a w := by
  refine wpList_plain hgd fun K hK => ?_
  unfold Oper.wp execOp
  simp only [ho, resolve, invoke, builtin, Sem.run_bind, Sem.run_pure, Result.andThen_ok, hs, hr]
  exact hK _ _ h
/-- Whether it is reached, as the closure sees it. -/
structure ReM (w : World) (q h off cp m : Nat) (re : Nat → Bool) : Prop where
  var : w.cell? ⟨q, 0, none⟩ = some (.slice (some ⟨h, off, none⟩) m cp)
  row : ∀ k, k < m → w.cell? ⟨h, off + k, none⟩ = some (.bool (re k))
def keepF (re : Nat → Bool) (l : List Int) : List Int := l.filter (fun x => re x.toNat)
set_option maxRecDepth 20000 in
theorem pred46 {w : World} {q h off cp m : Nat} {re : Nat → Bool} (hR : ReM w q h off cp m re) {x : Int} (h0 : 0 ≤ x) (hx : x < m) (hm : m ≤ big) :
    Calls Try.prog 46 #[.int .i64 x, .pointer (some ⟨q, 0, none⟩)] w fun e w' => e = .returned (.bool (!re x.toNat)) ∧ w' = w := by
  obtain ⟨k, rfl⟩ : ∃ k : Nat, x = k := ⟨x.toNat, by omega⟩
  have c0 := hR.var
  have hk : k < m := by omega
  have c1 := hR.row k hk
  unfold big at hm
  clear hR
  go_enter Try.func46, Try.ntmps46
  go_wp2_with fail
  go_ret
  exact ⟨by simp, rfl⟩
/-- Where the first stands that goes. -/
def firstF (re : Nat → Bool) : List Int → Nat
  | [] => 0
  | x :: l => if re x.toNat then firstF re l + 1 else 0
theorem firstF_le (re : Nat → Bool) : ∀ l, firstF re l ≤ l.length
  | [] => Nat.le_refl _
  | x :: l => by have := firstF_le re l; unfold firstF; split <;> simp <;> omega
theorem firstF_at (re : Nat → Bool) : ∀ (l : List Int) (h : firstF re l < l.length), re (l[firstF re l].toNat) = false
  | [], h => by simp [firstF] at h
  | x :: l, h => by
    unfold firstF at h
    by_cases e : re x.toNat = true
    · simp only [firstF, e, if_true, List.getElem_cons_succ]
      exact firstF_at re l (by simp [e] at h; exact h)
    · simp only [firstF, e, if_false]
      simpa using e
theorem firstF_ahead (re : Nat → Bool) : ∀ (l : List Int) (k : Nat) (h : k < l.length), k < firstF re l → re (l[k].toNat) = true
  | [], k, h, _ => by simp at h
  | x :: l, k, h, hk => by
    unfold firstF at hk
    split at hk
    · rename_i e
      cases k with
      | zero => exact e
      | succ k => exact firstF_ahead re l k (by simpa using h) (by omega)
    · omega
theorem keepF_snoc (re : Nat → Bool) (l : List Int) (k : Nat) (h : k < l.length) : keepF re (l.take (k + 1)) = if re l[k].toNat then keepF re (l.take k) ++ [l[k]] else keepF re (l.take k) := by
  unfold keepF
  rw [take_snoc l k h, List.filter_append]
  split <;> rename_i e <;> simp [e]
theorem keepF_first (re : Nat → Bool) (l : List Int) : ∀ k, k ≤ firstF re l → keepF re (l.take k) = l.take k
  | 0, _ => by simp [keepF]
  | k + 1, h => by
    have := firstF_le re l
    rw [keepF_snoc re l k (by omega), if_pos (firstF_ahead re l k (by omega) (by omega)), keepF_first re l k (by omega), ← take_snoc l k (by omega)]
def idxF (re : Nat → Bool) (l : List Int) : Int := if firstF re l < l.length then (firstF re l : Int) else -1
theorem keepF_len (re : Nat → Bool) (l : List Int) : (keepF re l).length ≤ l.length := List.length_filter_le _ _
set_option maxRecDepth 20000 in
theorem index52 {w : World} {v : Value} {l : List Int} {q h off cp m : Nat} {re : Nat → Bool} (hR : ReM w q h off cp m re) (hs : Src icell w v l) (hl : l.length * 8 ≤ big) (hb : ∀ x ∈ l, 0 ≤ x ∧ x < m) (hm : m ≤ big) :
    Calls Try.prog 52 #[v, .func (.func 46) #[] #[.pointer (some ⟨q, 0, none⟩)]] w fun e w' => e = .returned (.int .i64 (idxF re l)) ∧ w' = w := by
  obtain ⟨ao, cap, rfl, hf⟩ := hs.ints
  have HF := hid' hf
  have HR := hid' hR
  unfold big at hl
  clear hf hs hR
  go_enter Try.func52, Try.ntmps52
  go_wp2_with fail
  go_loopw [8] (fun i wr => ∃ k : Nat, k ≤ l.length ∧ i = .int .i64 k ∧ wr = w ∧ k ≤ firstF re l) (fun i _ => l.length - (intOf i).toNat)
  case atStart => exact ⟨0, Nat.zero_le _, rfl, rfl, Nat.zero_le _⟩
  case round =>
    obtain ⟨k, hk, rfl, rfl, hkf⟩ := hrel
    by_cases hkl : k < l.length
    · obtain ⟨b, off', rfl, hbl, hcp, hc⟩ := HF.out k hkl
      have c0 := hc wr (Below.refl _ _)
      obtain ⟨x0, x1⟩ := hb l[k] (List.getElem_mem hkl)
      have hp := pred46 HR.out x0 x1 hm
      clear hc
      cases e : re l[k].toNat with
      | true =>
        rw [e] at hp
        have hlt : k + 1 ≤ firstF re l := by
          have h1 : k ≠ firstF re l := fun e2 => by
            have := firstF_at re l (by omega)
            subst e2
            rw [e] at this
            cases this
          omega
        generalize l[k] = x at *
        go_wp2_with (go_at_call 46; refine hp.mono ?_; rintro e1 w1 ⟨rfl, rfl⟩)
        go_roundw
        case rel => exact ⟨k + 1, by omega, by go_num, by simp, hlt⟩
        case measure => simp [intOf]; omega
      | false =>
        rw [e] at hp
        have hlt : firstF re l = k := by
          apply Classical.byContradiction
          intro hne
          have := firstF_ahead re l k hkl (by omega)
          rw [e] at this
          cases this
        generalize l[k] = x at *
        go_wp2_with (go_at_call 46; refine hp.mono ?_; rintro e1 w1 ⟨rfl, rfl⟩)
        go_ret
        have e : idxF re l = k := by unfold idxF; rw [hlt, if_pos hkl]
        rw [e]
        exact ⟨rfl, rfl⟩
    · go_wp2_with fail
      go_ret
      have := firstF_le re l
      have e : idxF re l = -1 := by unfold idxF; rw [if_neg (by omega)]
      rw [e]
      exact ⟨rfl, rfl⟩
theorem own_set {W : World} {B b c t : Nat} {l : List Int} (h : Own 3 1 icell W B (.slice (some ⟨b, 0, none⟩) l.length c) l) (x : Int) : Own 3 1 icell (W.setCell ⟨b, t, none⟩ (.int .i64 x)) B (.slice (some ⟨b, 0, none⟩) l.length c) (l.set t x) := by
  have h1 := (World.ownsRow.stored h t (.int .i64 x)).1
  unfold Own
  rw [List.length_set, flat_i, List.map_set, ← flat_i]
  exact h1
theorem own_cell {W : World} {B b c t : Nat} {l : List Int} (h : Own 3 1 icell W B (.slice (some ⟨b, 0, none⟩) l.length c) l) (ht : t < l.length) : W.cell? ⟨b, t, none⟩ = some (.int .i64 l[t]) ∧ W.frozen? ⟨b, t, none⟩ = false := by
  refine ⟨(World.ownsRow.cellAt h t (by omega)).trans ?_, World.ownsRow.frozenAt h t⟩
  rw [flat_i]
  simp [ht]
theorem own_sets {B b c : Nat} : ∀ (k t : Nat) (W : World) (l : List Int), Own 3 1 icell W B (.slice (some ⟨b, 0, none⟩) l.length c) l → t + k ≤ l.length → Own 3 1 icell (W.setCells b t (List.replicate k (.int .i64 0))) B (.slice (some ⟨b, 0, none⟩) l.length c) (l.take t ++ List.replicate k 0 ++ l.drop (t + k)) ∧ Kept (fun i => i = b) W (W.setCells b t (List.replicate k (.int .i64 0)))
  | 0, t, W, l, h, _ => by
    simp only [List.replicate_zero, List.append_nil, Nat.add_zero, List.take_append_drop]
    exact ⟨h, Kept.rfl _ _⟩
  | k + 1, t, W, l, h, hk => by
    have h1 := own_set (t := t) h 0
    have hl : (l.set t 0).length = l.length := List.length_set
    rw [← hl] at h1
    obtain ⟨h2, h3⟩ := own_sets k (t + 1) _ _ h1 (by rw [hl]; omega)
    rw [hl] at h2
    have e : (l.set t 0).take (t + 1) ++ List.replicate k 0 ++ (l.set t 0).drop (t + 1 + k) = l.take t ++ List.replicate (k + 1) 0 ++ l.drop (t + (k + 1)) := by
      rw [take_snoc _ t (by rw [hl]; omega), List.take_set_of_le (Nat.le_refl _), List.drop_set_of_lt (by omega), List.getElem_set_self, List.replicate_succ]
      simp [Nat.add_assoc, Nat.add_comm 1 k]
    rw [e] at h2
    exact ⟨h2, (((Kept.rfl (fun i => i = b) W).set (.inl (Eq.refl _)) _)).trans h3⟩
theorem ReM.kept {w w' : World} {q h off cp m : Nat} {re : Nat → Bool} (hR : ReM w q h off cp m re) {S : Nat → Prop} (K : Kept S w w') (hq : ¬ S q) (hh : ¬ S h) (hql : q < w.heap.size) (hhl : h < w.heap.size) : ReM w' q h off cp m re :=
  ⟨(K.cell hql hq).trans hR.var, fun k hk => (K.cell hhl hh).trans (hR.row k hk)⟩
set_option maxRecDepth 20000 in
set_option maxHeartbeats 8000000 in
/-- Those stay that are reached. -/
theorem delete45 {w : World} {B : Nat} {v : Value} {l : List Int} {q h off cp m : Nat} {re : Nat → Bool} (hR : ReM w q h off cp m re) (hv : Own 3 1 icell w B v l) (hl : l.length * 8 ≤ big) (hb : ∀ x ∈ l, 0 ≤ x ∧ x < m) (hm : m ≤ big)
    (hq : v.ownBlock ≠ some q) (hh : v.ownBlock ≠ some h) (hql : q < w.heap.size) (hhl : h < w.heap.size) :
    Calls Try.prog 45 #[v, .func (.func 46) #[] #[.pointer (some ⟨q, 0, none⟩)]] w fun e w' => ∃ v', e = .returned v' ∧ Own 3 1 icell w' B v' (keepF re l) ∧ (∀ b, v'.ownBlock = some b → v.ownBlock = some b) ∧ Kept (fun k => v.ownBlock = some k) w w' := by
  have H52 := hid' (index52 hR (hv.src ic1) hl hb hm)
  have HR := hid' hR
  have HV := hid' hv
  have hfl := firstF_le re l
  unfold big at hl
  by_cases hf : firstF re l < l.length
  · have e1 : idxF re l = firstF re l := by unfold idxF; rw [if_pos hf]
    rw [e1] at H52
    obtain ⟨b, c, rfl, hlc⟩ : ∃ b c, v = .slice (some ⟨b, 0, none⟩) l.length c ∧ l.length ≤ c := by
      rcases hv.2 with ⟨_, e⟩ | ⟨g5, c5, cu5, e5, _, _, a3, _⟩
      · omega
      · exact ⟨g5, c5, e5, a3⟩
    have hqb : b ≠ q := fun e => hq (by rw [e]; rfl)
    have hhb : b ≠ h := fun e => hh (by rw [e]; rfl)
    have hatf := firstF_at re l hf
    generalize hk0 : firstF re l = k0 at *
    have hne : ((k0 : Int) == -1) = false := beq_eq_false_iff_ne.2 (by omega)
    have HK0 : Hid (keepF re (l.take (k0 + 1)) = l.take k0) := by
      have h1 := keepF_snoc re l k0 hf
      rw [hatf, keepF_first re l k0 (by omega)] at h1
      unfold Hid
      simpa using h1
    have HB := hid' hb
    clear hR hv e1 hq hh hk0 hatf hb
    go_enter Try.func45, Try.ntmps45
    go_wp2_with (go_at_call 52; refine H52.out.mono ?_; rintro e1 w1 ⟨rfl, rfl⟩)
    go_loopw [5, 6] (fun iv jv wr => ∃ (i j : Nat) (L : List Int), iv = .int .i64 i ∧ jv = .int .i64 j ∧ i < j ∧ j ≤ l.length ∧ L.length = l.length ∧ L.take i = keepF re (l.take j) ∧ i = (keepF re (l.take j)).length ∧ L.drop j = l.drop j ∧ Own 3 1 icell wr B (.slice (some ⟨b, 0, none⟩) L.length c) L ∧ Kept (fun k => k = b) w1 wr) (fun _ jv _ => l.length - (intOf jv).toNat)
    case atStart =>
      refine ⟨k0, k0 + 1, l, rfl, by go_num, by omega, by omega, rfl, HK0.out.symm, ?_, rfl, HV.out, Kept.rfl _ _⟩
      rw [HK0.out, List.length_take]
      omega
    case round =>
      obtain ⟨i, j, L, rfl, rfl, hij, hjl, hLl, hLt, hil, hLd, hO, hK⟩ := hrel
      have HO := hid' hO
      have HK := hid' hK
      have HLT := hid' hLt
      have HIL := hid' hil
      have HLD := hid' hLd
      clear hil hLt hLd
      by_cases hj : j < l.length
      · obtain ⟨c0, _⟩ := own_cell hO (t := j) (by omega)
        have ej : L[j]'(by omega) = l[j] := by
          have := congrArg (fun z => z[0]?) HLD.out
          simpa [hj, hLl] using this
        rw [ej] at c0
        obtain ⟨x0, x1⟩ := HB.out l[j] (List.getElem_mem hj)
        have hp := pred46 (HR.out.kept hK (fun e => hqb e.symm) (fun e => hhb e.symm) hql hhl) x0 x1 hm
        obtain ⟨ci, fi⟩ := own_cell hO (t := i) (by omega)
        have HSN := hid' (keepF_snoc re l j hj)
        have HJE := hid' ej
        clear hO hK ej
        cases e : re l[j].toNat with
        | true =>
          rw [e] at hp
          rw [e] at HSN
          have hS := own_set (t := i) HO.out l[j]
          have hlS : (L.set i l[j]).length = L.length := List.length_set
          rw [← hlS] at hS
          have HS := hid' hS
          have HKS : Hid (Kept (fun k => k = b) w1 (wr.setCell ⟨b, i, none⟩ (.int .i64 l[j]))) := HK.out.set (.inl (Eq.refl _)) _
          have HT2 : Hid ((L.set i l[j]).take (i + 1) = keepF re (l.take (j + 1))) := by
            unfold Hid
            rw [HSN.out, if_pos rfl, take_snoc _ i (by rw [hlS]; omega), List.take_set_of_le (Nat.le_refl _), HLT.out, List.getElem_set_self]
          have HD2 : Hid ((L.set i l[j]).drop (j + 1) = l.drop (j + 1)) := by
            unfold Hid
            rw [List.drop_set_of_lt (by omega), ← List.drop_drop (i := 1) (j := j), HLD.out, List.drop_drop]
          have HL2 : Hid (i + 1 = (keepF re (l.take (j + 1))).length) := by
            unfold Hid
            rw [HSN.out, if_pos rfl, List.length_append, ← HIL.out]
            rfl
          have hLS2 : Hid ((L.set i l[j]).length = l.length) := by unfold Hid; rw [hlS, hLl]
          clear hS hlS
          generalize L.set i l[j] = L2 at *
          generalize l[j] = x at *
          go_wp2_with (go_at_call 46; refine hp.mono ?_; rintro e1 w2 ⟨rfl, rfl⟩)
          go_roundw
          case rel => exact ⟨i + 1, j + 1, L2, by go_num, by go_num, by omega, by omega, hLS2.out, HT2.out, HL2.out, HD2.out, HS.out, HKS.out⟩
          case measure => simp [intOf]; omega
        | false =>
          rw [e] at hp
          rw [e] at HSN
          have HT2 : Hid (keepF re (l.take (j + 1)) = keepF re (l.take j)) := by
            unfold Hid
            rw [HSN.out]
            simp
          have HD2 : Hid (L.drop (j + 1) = l.drop (j + 1)) := by
            unfold Hid
            rw [← List.drop_drop (i := 1) (j := j), HLD.out, List.drop_drop]
          generalize l[j] = x at *
          go_wp2_with (go_at_call 46; refine hp.mono ?_; rintro e1 w2 ⟨rfl, rfl⟩)
          go_roundw
          case rel => exact ⟨i, j + 1, L, rfl, by go_num, by omega, by omega, hLl, by rw [HT2.out]; exact HLT.out, by rw [HT2.out]; exact HIL.out, HD2.out, HO.out, HK.out⟩
          case measure => simp [intOf]; omega
      · have ej : j = l.length := by omega
        subst ej
        rw [List.take_length] at HLT HIL
        obtain ⟨hO2, hK2⟩ := own_sets (L.length - i) i wr L hO (by omega)
        have HO2 := hid' hO2
        have HK2 := hid' hK2
        have hrun := fun ty => Lib.run_clear_slice (P := Try.prog) wr 26 3 ty (.int .i64 0) Try.underlying26 (fun w => by simp [go_sem]) rfl rfl b i (L.length - i) (c - i) (by omega) (fun j hj => by rw [(own_cell hO (t := i + j) (by omega)).1]; rfl) (fun j hj => (own_cell hO (t := i + j) (by omega)).2)
        rw [hLl] at hrun
        clear hO hK hO2 hK2
        go_wp2_with fail
        go_ret
        have h5 := own_take (k := i) HO2.out (by simp; omega)
        have e5 : (L.take i ++ List.replicate (L.length - i) (0 : Int) ++ L.drop (i + (L.length - i))).take i = keepF re l := by
          rw [List.append_assoc, List.take_append_of_le_length (by rw [List.length_take]; omega), List.take_take, Nat.min_self, HLT.out]
        rw [e5] at h5
        rw [hLl] at h5 HK2
        exact ⟨_, rfl, h5, fun b h => h, HK.out.mono (fun k _ e => by subst e; rfl) |>.trans (HK2.out.mono (fun k _ e => by subst e; rfl))⟩
  · have e1 : idxF re l = -1 := by unfold idxF; rw [if_neg hf]
    rw [e1] at H52
    have HE : Hid (keepF re l = l) := by
      have := keepF_first re l l.length (by omega)
      rwa [List.take_length] at this
    clear hR hv e1
    go_enter Try.func45, Try.ntmps45
    go_wp2_with (go_at_call 52; refine H52.out.mono ?_; rintro e1 w1 ⟨rfl, rfl⟩)
    go_ret
    exact ⟨v, rfl, by rw [HE.out]; exact HV.out, fun b h => h, Kept.rfl _ _⟩
end Go.Proofs.Ytgkaeoieclegjaa
