/- The order of the rounds: each node once. -/
import Derived.Test.YtjhndnhldhmjnaaDoorRv
import Derived.Laws.EntriesVeiled
namespace Go.Proofs.YtjhndnhldhmjnaaDoor
open Go Go.RowKit Go.Maps
set_option linter.unusedVariables false
set_option linter.unusedSimpArgs false
/-- A list that holds each number below n once. -/
structure Perm (F : List Nat) (n : Nat) : Prop where
  nd : F.Nodup
  lt : ∀ x ∈ F, x < n
  all : ∀ x, x < n → x ∈ F
theorem Perm.len {F : List Nat} {n : Nat} (h : Perm F n) : F.length = n := by
  refine Nat.le_antisymm ?_ ?_
  · exact pigeon n F.length (fun i => F.getD i 0) (fun i hi => by
      have : F.getD i 0 = F[i] := by simp [hi]
      rw [this]
      exact h.lt _ (List.getElem_mem hi)) (fun i j hi hj e => by
      have e1 : F.getD i 0 = F[i] := by simp [hi]
      have e2 : F.getD j 0 = F[j] := by simp [hj]
      simp only [e1, e2] at e
      exact (List.getElem_inj h.nd).1 e)
  · exact pigeon F.length n (fun x => F.idxOf x) (fun i hi => List.idxOf_lt_length_of_mem (h.all i hi)) (fun i j hi hj e => by
      have e1 : F[F.idxOf i]? = some i := by
        have := List.idxOf_lt_length_of_mem (h.all i hi)
        rw [List.getElem?_eq_getElem this, List.getElem_idxOf]
      have e2 : F[F.idxOf j]? = some j := by
        have := List.idxOf_lt_length_of_mem (h.all j hj)
        rw [List.getElem?_eq_getElem this, List.getElem_idxOf]
      have e3 : F.idxOf i = F.idxOf j := e
      rw [e3, e2] at e1
      exact (Option.some.inj e1).symm)
theorem Perm.rev {F : List Nat} {n : Nat} (h : Perm F n) : Perm F.reverse n :=
  ⟨List.pairwise_reverse.2 (h.nd.imp fun h => Ne.symm h), fun x hx => h.lt x (List.mem_reverse.1 hx), fun x hx => List.mem_reverse.2 (h.all x hx)⟩
theorem perm_of {n : Nat} {S : Nat → Bool} {F : List Nat} (h : VisR n (fun _ => false) S F) (hS : ∀ x, x < n → S x = true) : Perm F n :=
  ⟨h.nd, fun x hx => (h.un x hx).1, fun x hx => by
    have := h.se x hx
    rw [hS x hx] at this
    simpa using this.symm⟩
theorem rev_list (F : List Nat) : rowL F.length (fun k => (fun k => F.getD k 0) (F.length - 1 - k)) = flat icell (ints F.reverse) := by
  rw [rowL_list, List.length_reverse]
  refine rowL_congr fun k hk => ?_
  have h1 : F.length - 1 - k < F.length := by omega
  simp [hk, h1]
set_option maxRecDepth 20000 in
set_option maxHeartbeats 8000000 in
theorem roundOrder48 {w : World} {n : Nat} {v : Value} {us : List Value} {I : List (List Int)} (hI : RowsI w v us I) (hIn : I.length = n) (hn : n ≤ 4096) (hr : ∀ l ∈ I, ∀ x ∈ l, 0 ≤ x ∧ x < n) (hl : ∀ l ∈ I, l.length * 8 ≤ big) :
    Calls Tryd.prog 48 #[v] w fun e w' => ∃ lv F, e = .returned lv ∧ Own 3 1 icell w' w.heap.size lv (ints F) ∧ Perm F n ∧ Below w.heap.size w w' := by
  obtain ⟨ao, cap, rfl⟩ := hI.src.len
  have hlu : us.length = n := by rw [hI.len, hIn]
  rw [hlu] at hI ⊢
  have hmf : ∀ (fn : Fn) (first cap : Array Value) (w : World), (Instr.makeFunc fn first cap).run Tryd.prog w = .ok (.func fn first cap) w := fun _ _ _ _ => rfl
  have HMB : Hid (∀ W : World, ∃ w', (Instr.makeSlice 81 (.int .i64 (n : Nat)) (.int .i64 (n : Nat))).run Tryd.prog W = .ok (.slice (some ⟨W.heap.size, 0, none⟩) n n) w' ∧ RowB w' W.heap.size n (fun _ => false) ∧ Below W.heap.size W w' ∧ w'.heap.size = W.heap.size + 1) := fun W => make_bools W (by unfold big; omega)
  have HML : Hid (∀ (W : World) (base : Nat), base ≤ W.heap.size → ∃ w', (Instr.makeSlice 46 (.int .i64 0) (.int .i64 (n : Nat))).run Tryd.prog W = .ok (.slice (some ⟨W.heap.size, 0, none⟩) 0 n) w' ∧ Own 3 1 icell w' base (.slice (some ⟨W.heap.size, 0, none⟩) 0 n) [] ∧ Below W.heap.size W w' ∧ w'.heap.size = W.heap.size + 1) := fun W base hb => make_left W (by omega) hb
  obtain ⟨w1, ew1⟩ : ∃ w1, w1 = w.alloc (.cells #[.slice ao n cap] 64) := ⟨_, rfl⟩
  obtain ⟨w2, hm2, hR2, hB2, hs2⟩ := HMB.out w1
  obtain ⟨w3, ew3⟩ : ∃ w3, w3 = w2.alloc (.cells #[.slice (some ⟨w1.heap.size, 0, none⟩) n n] 81) := ⟨_, rfl⟩
  have hs1 : w1.heap.size = w.heap.size + 1 := by rw [ew1]; simp
  have hs3 : w3.heap.size = w.heap.size + 3 := by rw [ew3]; simp [hs2, hs1]
  obtain ⟨w4, hm4, hO4, hB4, hs4⟩ := HML.out w3 w.heap.size (by omega)
  have c1 : w1.cell? ⟨w.heap.size, 0, none⟩ = some (.slice ao n cap) := by rw [ew1]; simp
  have c2 : w2.cell? ⟨w.heap.size, 0, none⟩ = some (.slice ao n cap) := keep_cell c1 hB2
  have B3 : Below w2.heap.size w2 w3 := by rw [ew3]; exact below1 _ _
  have c3 : w3.cell? ⟨w.heap.size, 0, none⟩ = some (.slice ao n cap) := keep_cell c2 B3
  have c4 : w4.cell? ⟨w.heap.size, 0, none⟩ = some (.slice ao n cap) := keep_cell c3 hB4
  have HI := hid' hI
  have s2 : w2.heap.size = w.heap.size + 1 + 1 := by omega
  have s4 : w4.heap.size = w.heap.size + 1 + 1 + 1 + 1 := by omega
  have VM0 : Hid (VM w ((w4.alloc (.cells #[.slice (some ⟨w.heap.size + 3, 0, none⟩) 0 n] 46)).alloc (.cells #[.func (.func 55) #[] #[.pointer (some ⟨w.heap.size + 1 + 1, 0, none⟩), .pointer (some ⟨w.heap.size, 0, none⟩), .pointer (some ⟨w.heap.size + 1 + 1 + 1 + 1 + 1, 0, none⟩), .pointer (some ⟨w.heap.size + 1 + 1 + 1 + 1, 0, none⟩)]] 70)) n (w.heap.size + 1) (w.heap.size + 1 + 1) w.heap.size (w.heap.size + 1 + 1 + 1 + 1 + 1) (w.heap.size + 1 + 1 + 1 + 1) (.slice ao n cap) (.slice (some ⟨w.heap.size + 3, 0, none⟩) 0 n) (fun _ => false) []) := by
    have r2 := World.rowIs_alloc w #[.slice ao n cap] 64 (fun _ => .slice ao n cap) (fun i hi => by
      match i, hi with
      | 0, _ => rfl)
    have r1 := World.rowIs_alloc w2 #[.slice (some ⟨w1.heap.size, 0, none⟩) n n] 81 (fun _ => .slice (some ⟨w1.heap.size, 0, none⟩) n n) (fun i hi => by
      match i, hi with
      | 0, _ => rfl)
    rw [← ew1] at r2
    rw [← ew3] at r1
    have r4 := World.rowIs_alloc w4 #[.slice (some ⟨w.heap.size + 3, 0, none⟩) 0 n] 46 (fun _ => .slice (some ⟨w.heap.size + 3, 0, none⟩) 0 n) (fun i hi => by
      match i, hi with
      | 0, _ => rfl)
    have fnv : ∃ fv : Value, fv = .func (.func 55) #[] #[.pointer (some ⟨w.heap.size + 1 + 1, 0, none⟩), .pointer (some ⟨w.heap.size, 0, none⟩), .pointer (some ⟨w.heap.size + 1 + 1 + 1 + 1 + 1, 0, none⟩), .pointer (some ⟨w.heap.size + 1 + 1 + 1 + 1, 0, none⟩)] := ⟨_, rfl⟩
    obtain ⟨fv, efv⟩ := fnv
    rw [← efv]
    have r3 := World.rowIs_alloc (w4.alloc (.cells #[.slice (some ⟨w.heap.size + 3, 0, none⟩) 0 n] 46)) #[fv] 70 (fun _ => fv) (fun i hi => by
      match i, hi with
      | 0, _ => rfl)
    have al : ∀ {W : World} {b n t f} (o : Obj), W.rowIs b t n f → (W.alloc o).rowIs b t n f := fun o hr => hr.of_block ((below1 _ o).block _ hr.lt)
    have up : ∀ {W W' : World} {b n t f}, W.rowIs b t n f → Below W.heap.size W W' → W'.rowIs b t n f := fun hr hb => hr.of_block (hb.block _ hr.lt)
    have B1 : Below w.heap.size w w1 := by rw [ew1]; exact below1 _ _
    have B4 : Below w.heap.size w w4 := below_up (below_up (below_up B1 hB2) B3) hB4
    have sz5 : (w4.alloc (.cells #[.slice (some ⟨w.heap.size + 3, 0, none⟩) 0 n] 46)).heap.size = w.heap.size + 1 + 1 + 1 + 1 + 1 := by simp [s4]
    refine ⟨(B4.alloc B4.size _).alloc (by have := B4.size; simp; omega) _, ?_, ?_, ?_, ?_, ?_, ?_, by omega⟩
    · have := al (.cells #[fv] 70) (al (.cells #[.slice (some ⟨w.heap.size + 3, 0, none⟩) 0 n] 46) (up r1 hB4))
      rw [s2, hs1] at this
      exact this
    · exact al _ (al _ (up (up (up r2 hB2) B3) hB4))
    · rw [sz5] at r3
      rw [← efv]
      exact r3
    · have := al (.cells #[fv] 70) r4
      rw [s4] at this
      exact this
    · have r5 : w2.rowIs w1.heap.size 4 n (fun _ => .bool false) := hR2
      have := al (.cells #[fv] 70) (al (.cells #[.slice (some ⟨w.heap.size + 3, 0, none⟩) 0 n] 46) (up (up r5 B3) hB4))
      rw [hs1] at this
      exact this
    · have := World.ownsRow.alloc (World.ownsRow.alloc hO4 (.cells #[.slice (some ⟨w.heap.size + 3, 0, none⟩) 0 n] 46)) (.cells #[fv] 70)
      rw [hs3] at this
      exact this
  have h46 : (w4.alloc (.cells #[.slice (some ⟨w3.heap.size, 0, none⟩) 0 n] 46)).heap.size = w4.heap.size + 1 := by simp
  rw [hs1] at hm2
  rw [ew1] at hm2
  rw [hs3] at hm4
  rw [ew3, hs1] at hm4
  clear HMB HML
  go_enter Tryd.func48, Tryd.ntmps48
  go_wp2_with fail
  clear hm2 hm4 hmf c1 c2 c3 c4 h46
  generalize (w4.alloc (.cells #[.slice (some ⟨w.heap.size + 3, 0, none⟩) 0 n] 46)).alloc (.cells #[.func (.func 55) #[] #[.pointer (some ⟨w.heap.size + 1 + 1, 0, none⟩), .pointer (some ⟨w.heap.size, 0, none⟩), .pointer (some ⟨w.heap.size + 1 + 1 + 1 + 1 + 1, 0, none⟩), .pointer (some ⟨w.heap.size + 1 + 1 + 1 + 1, 0, none⟩)]] 70) = W0 at *
  go_loopw [16] (fun i wr => ∃ (k : Nat) (lv : Value) (S : Nat → Bool) (F : List Nat), k ≤ n ∧ i = .int .i64 k ∧ VM w wr n (w.heap.size + 1) (w.heap.size + 1 + 1) w.heap.size (w.heap.size + 1 + 1 + 1 + 1 + 1) (w.heap.size + 1 + 1 + 1 + 1) (.slice ao n cap) lv S F ∧ VisR n (fun _ => false) S F ∧ ∀ j, j < k → S j = true) (fun i _ => n - (intOf i).toNat)
  case atStart => exact ⟨0, _, _, [], Nat.zero_le _, rfl, VM0.out, VisR.rfl' _ _, fun j hj => by omega⟩
  case round =>
    obtain ⟨k, lv, S, F, hk, rfl, hV, hR, hS⟩ := hrel
    have HV := hid' hV
    have HR := hid' hR
    have HS := hid' hS
    have c3 := hV.c3.cell (i := 0) (by omega)
    have hun : unseen (fun _ => false) n = n := by
      have : unseen (fun _ => false) n = sumTo (fun _ => 1) n := rfl
      rw [this, sum_const, Nat.mul_one]
    by_cases hkn : k < n
    · have hcall := visit55 HI.out hIn hn hr hl (unseen S n) wr lv S F k (Nat.le_refl _) (by have := hR.le; omega) hkn hV
      clear hV hR hS
      go_wp2_with (go_at_call 55; refine hcall.mono ?_; rintro e9 w9 ⟨rfl, lv9, S9, M9, hV9, hR9, hS9⟩; have HV9 := hid' hV9; have HR9 := hid' hR9; have HS9 := hid' hS9; clear hV9 hR9 hS9)
      refine ⟨⟨k + 1, lv9, S9, F ++ M9, by omega, by go_num, HV9.out, HR.out.trans HR9.out, fun j hj => ?_⟩, by simp [intOf]; omega⟩
      by_cases e : j = k
      · subst e; exact HS9.out
      · rw [HR9.out.se j (by omega), HS.out j (by omega), Bool.true_or]
    · have e : k = n := by omega
      subst e
      have HP := hid' (perm_of hR hS)
      have c4 := hV.c4.cell (i := 0) (by omega)
      have hown := hV.own
      have hFl : F.length ≤ 65536 := by have := hR.le; omega
      have hVc4 := hV.c4
      clear hR hS
      rcases hown.2 with ⟨rfl, h0⟩ | ⟨g, cap', cur, rfl, hge, _⟩
      · clear hV
        go_wp2_with (go_at_call 56; refine (reverse56_nil _).mono ?_; rintro e8 w8 ⟨rfl, rfl⟩)
        go_ret
        have hF0 : F = [] := List.eq_nil_of_length_eq_zero (by rw [ints_len] at h0; exact h0)
        subst hF0
        exact ⟨_, [], rfl, HV.out.own, HP.out, HV.out.below⟩
      · rw [ints_len] at c4 hown hVc4 HV
        have hO : wr.ownsRow w.heap.size 3 1 (.slice (some ⟨g, 0, none⟩) F.length cap') F.length (rowL F.length (fun k => F.getD k 0)) := by
          have := hown
          unfold Own at this
          rw [rowL_list, ints_len] at this
          exact this
        have hrev := reverse56 hO hFl
        have hne := row_own hVc4 hown (by decide)
        clear hV hown
        go_wp2_with (go_at_call 56; refine hrev.mono ?_; rintro e8 w8 ⟨rfl, hO8, hK8⟩; have c48 := (hK8.row hVc4 (fun e => hne (by rw [← e]; rfl))).cell (i := 0) (by omega); have HO8 := hid' hO8; have HK8 := hid' hK8; clear hO8 hK8)
        go_ret
        refine ⟨_, F.reverse, rfl, ?_, HP.out.rev, HV.out.below.trans (HK8.out.below (by have := HV.out.below.size; omega) (fun b e => by rw [e]; exact hge))⟩
        have := HO8.out
        rw [rev_list] at this
        unfold Own
        rw [ints_len, List.length_reverse]
        exact this
end Go.Proofs.YtjhndnhldhmjnaaDoor
