/- The law TypesApart. -/
import Derived.Test.YtmcadffagnbiaaaWake
namespace Go.Proofs.Ytmcadffagnbiaaa
open Go.RowKit Go.Maps
set_option linter.unusedVariables false
set_option linter.unusedSimpArgs false

theorem lay_err {nm : ByteArray} {w : World} {v : Value} {l : List Mb} (h : Src Mb.cells w v l) (hnm : nm.size ≤ 140737488351232) (hns : ∀ m ∈ l, m.nm.size ≤ 140737488351232) (hb : ¬ (l.length ≤ 32 ∧ goodL l)) :
    Calls Try.prog 19 #[.string nm, v] w fun e w' => ∃ (rn : ByteArray) (ao : Option Addr) (cap : Nat) (er : Int), e = .returned (.tuple #[.agg #[.string rn, .slice ao 0 cap, .int .i64 0], .int .i64 er]) ∧ ¬ er = 0 ∧ Below w.heap.size w w' := by
  refine (layout19 h hnm hns).mono ?_
  rintro e w' ⟨rn, rv, rz, er, ms, rfl, hL, hs, hB⟩
  rcases hL with ⟨a, rfl, rfl, rfl, rfl⟩ | ⟨a, b, rfl, rfl, rfl, rfl⟩ | ⟨a, b, rfl, rfl, rfl, rfl⟩
  · obtain ⟨ao, cap, rfl⟩ := hs.len
    exact ⟨_, ao, cap, _, rfl, by decide, hB⟩
  · obtain ⟨ao, cap, rfl⟩ := hs.len
    exact ⟨_, ao, cap, _, rfl, by decide, hB⟩
  · exact absurd ⟨a, b⟩ hb
theorem lay_ok {nm : ByteArray} {w : World} {v : Value} {l : List Mb} (h : Src Mb.cells w v l) (hnm : nm.size ≤ 140737488351232) (hns : ∀ m ∈ l, m.nm.size ≤ 140737488351232) (h32 : l.length ≤ 32) (hg : goodL l) :
    Calls Try.prog 19 #[.string nm, v] w fun e w' => ∃ (ao : Option Addr) (cap : Nat), e = .returned (.tuple #[.agg #[.string nm, .slice ao l.length cap, .int .i64 (upF (runL l).z (runL l).g)], .int .i64 0]) ∧ Src Mb.cells w' (.slice ao l.length cap) (runL l).d ∧ Below w.heap.size w w' := by
  refine (layout19 h hnm hns).mono ?_
  rintro e w' ⟨rn, rv, rz, er, ms, rfl, hL, hs, hB⟩
  rcases hL with ⟨a, rfl, rfl, rfl, rfl⟩ | ⟨a, b, rfl, rfl, rfl, rfl⟩ | ⟨a, b, rfl, rfl, rfl, rfl⟩
  · omega
  · exact absurd hg b
  · obtain ⟨ao, cap, rfl⟩ := hs.len
    rw [runL_len] at hs ⊢
    exact ⟨ao, cap, rfl, hs, hB⟩

theorem runL_append (l : List Mb) : ∀ m : List Mb, ∃ t, (runL (l ++ m)).d = (runL l).d ++ t := by
  have : ∀ (m : List Mb) (s : LS), ∃ t, (m.foldl stepL s).d = s.d ++ t := fun m => by
    induction m with
    | nil => intro s; exact ⟨[], by simp⟩
    | cons x m ih => intro s; obtain ⟨t, ht⟩ := ih (stepL s x); exact ⟨[⟨x.nm, x.ty, upF s.z (alF x.ty)⟩] ++ t, by rw [List.foldl_cons, ht]; simp [stepL]⟩
  intro m
  obtain ⟨t, ht⟩ := this m (runL l)
  exact ⟨t, by rw [runL, List.foldl_append]; exact ht⟩
theorem runL_get (l : List Mb) (k : Nat) (hk : k < l.length) : (runL l).d[k]? = some ⟨l[k].nm, l[k].ty, upF (runL (l.take k)).z (alF l[k].ty)⟩ := by
  obtain ⟨t, ht⟩ := runL_append (l.take (k + 1)) (l.drop (k + 1))
  rw [List.take_append_drop] at ht
  rw [ht, take_snoc l k hk, runL_snoc]
  have e : (runL (l.take k)).d.length = k := by rw [runL_len, List.length_take]; omega
  simp only [stepL]
  rw [List.append_assoc, List.getElem?_append_right (by omega), e, Nat.sub_self]
  rfl
theorem g_ge (l : List Mb) (k : Nat) (hk : k < l.length) (h4 : alF l[k].ty = 4) (hl : ∀ m ∈ l, okM m = true) : (runL l).g = 4 := by
  have hm : ∀ (m : List Mb) (s : LS), s.g ≤ (m.foldl stepL s).g := fun m => by
    induction m with
    | nil => intro s; exact Int.le_refl _
    | cons x m ih => intro s; rw [List.foldl_cons]; have := ih (stepL s x); have h2 : s.g ≤ (stepL s x).g := by simp only [stepL]; omega
                     omega
  have h1 := hm (l.drop (k + 1)) (runL (l.take (k + 1)))
  have e : (l.drop (k + 1)).foldl stepL (runL (l.take (k + 1))) = runL l := by
    conv => rhs; rw [← List.take_append_drop (k + 1) l]
    rw [runL, runL, List.foldl_append]
  rw [e, take_snoc l k hk, runL_snoc] at h1
  simp only [stepL, h4] at h1
  rcases (run_le hl).2.2 with h | h <;> omega

/-- Is it a wide one? -/
def wideF (t : Ty) : Bool := !(t.k == 3) && !(t.k == 4 && t.e == 3)
theorem wide_is (t : Ty) : wideF t = true → alF t = 4 := by
  obtain ⟨k, e, n, s⟩ := t
  unfold wideF alF byF
  dsimp only
  intro h
  simp at h
  by_cases h4 : k = 4
  · rw [if_pos h4, if_neg (by omega)]
  · rw [if_neg h4, if_neg h.1]

set_option maxRecDepth 20000 in
set_option maxHeartbeats 4000000 in
theorem apart6_err {nm : ByteArray} {w : World} {v : Value} (H : ∀ W, Below w.heap.size w W → Calls Try.prog 19 #[.string nm, v] W fun e w' => ∃ (rn : ByteArray) (ao : Option Addr) (cap : Nat) (er : Int), e = .returned (.tuple #[.agg #[.string rn, .slice ao 0 cap, .int .i64 0], .int .i64 er]) ∧ ¬ er = 0 ∧ Below W.heap.size W w') :
    Calls Try.prog 6 #[.string nm, v] w fun e w' => e = .returned (.bool true) ∧ Below w.heap.size w w' := by
  have HH := hid' H
  clear H
  go_enter Try.func6, Try.ntmps6
  go_wp2_with (first
    | (go_at_call 19; refine (HH.out _ (Below.refl _ _)).mono ?_; rintro e w1 ⟨rn, ao, cap, er, rfl, hne, hb1⟩; have hs1 := hb1.size)
    | (go_at_call 9; refine (awake9 _).mono ?_; rintro e2 w2 ⟨rfl, hb2⟩))
  go_ret
  exact ⟨rfl, below_on (hb1.alloc hb1.size _) hb2 (by simp; omega)⟩

set_option maxRecDepth 20000 in
set_option maxHeartbeats 8000000 in
theorem apart6_ok {nm : ByteArray} {w : World} {v : Value} {l : List Mb} (h32 : l.length ≤ 32) (hg : goodL l)
    (H : ∀ W, Below w.heap.size w W → Calls Try.prog 19 #[.string nm, v] W fun e w' => ∃ (ao : Option Addr) (cap : Nat), e = .returned (.tuple #[.agg #[.string nm, .slice ao l.length cap, .int .i64 (upF (runL l).z (runL l).g)], .int .i64 0]) ∧ Src Mb.cells w' (.slice ao l.length cap) (runL l).d ∧ Below W.heap.size W w') :
    Calls Try.prog 6 #[.string nm, v] w fun e w' => e = .returned (.bool true) ∧ Below w.heap.size w w' := by
  have HH := hid' H
  have hok := fine_ok hg.1
  rw [List.take_length] at hok
  have HOK := hid' hok
  obtain ⟨rz, hrz⟩ : ∃ rz, rz = upF (runL l).z (runL l).g := ⟨_, rfl⟩
  have HRZ := hid' hrz
  rw [← hrz] at HH
  have hrun := run_le hok
  have hup := up_le hrun.1 hrun.2.2
  rw [← hrz] at hup
  have HUP := hid' hup
  have HRUN := hid' hrun
  have hzb : 0 ≤ rz ∧ rz ≤ 140000 := by
    have := hrun.2.1
    have := hrun.1
    omega
  clear H hg hok hrz hrun hup
  go_enter Try.func6, Try.ntmps6
  go_wp2_with (go_at_call 19; refine (HH.out _ (Below.refl _ _)).mono ?_; rintro e w1 ⟨ao, cap, rfl, hs, hb1⟩)
  obtain ⟨ao', cap', hv, hf⟩ := hs.form mb6
  have hd := runL_len l
  obtain ⟨rfl, rfl⟩ : ao = ao' ∧ cap = cap' := by injection hv with a1 a2 a3; exact ⟨a1, a3⟩
  have HF := hid' hf
  have HB1 := hid' hb1
  clear hf hv hs hb1
  go_loopw [7, 8] (fun a i wr => ∃ k : Nat, k ≤ l.length ∧ i = .int .i64 k ∧ a = .int .i64 (runL (l.take k)).z ∧ Below (w1.alloc (.cells #[.string nm, .slice ao l.length cap, .int .i64 rz] 37)).heap.size (w1.alloc (.cells #[.string nm, .slice ao l.length cap, .int .i64 rz] 37)) wr) (fun _ i _ => l.length - (intOf i).toNat)
  case atStart => exact ⟨0, Nat.zero_le _, rfl, by simp [runL], Below.refl _ _⟩
  case round =>
    obtain ⟨k, hk, rfl, rfl, hb⟩ := hrel
    have HB := hid' hb
    have R : IsRec wr w1.heap.size nm (.slice ao l.length cap) rz := (hb.block _ (by simp)).trans (heap_alloc_new _ _)
    have r0 := R.c0
    have r1 := R.c1
    have r2 := R.c2
    have hrl := R.lt
    clear R hb
    by_cases hlt : k < l.length
    · obtain ⟨b, off, rfl, hbl, hcp, hc⟩ := HF.out k (by rw [hd]; exact hlt)
      have hget := runL_get l k hlt
      rw [List.getElem?_eq_getElem (by rw [hd]; exact hlt)] at hget
      have hget' := Option.some.inj hget
      rw [hget'] at hc
      obtain ⟨c0, c1, c2, c3, c4, c5⟩ := mb_cells (hc wr ((below1 _ _).trans (HB.out.mono (by simp))))
      have hokk := HOK.out l[k] (List.getElem_mem hlt)
      have H10 := fun W => size10 (w := W) (v := .slice none 0 0) (l := []) (.inl ⟨rfl, _, _, rfl⟩) (by simp) l[k].ty
      rw [okM_size hokk] at H10
      have hrk := run_le (l := l.take k) (fun m hm => HOK.out m (List.mem_of_mem_take hm))
      have hsz := szM_le hokk
      have hal := al_or l[k].ty
      have hupk := up_le hrk.1 hal
      have HNZ : Hid ((runL (l.take (k + 1))).z = upF (runL (l.take k)).z (alF l[k].ty) + szM l[k].ty) := by unfold Hid; rw [take_snoc l k hlt, runL_snoc]; rfl
      have hzl : 0 ≤ (runL (l.take k)).z ∧ (runL (l.take k)).z ≤ 140000 := by have := hrk.2.1; rw [List.length_take] at this; have := hrk.1; omega
      have HW : Hid (wideF l[k].ty = true → alF l[k].ty = 4 ∧ rz % 4 = 0) := fun h => ⟨wide_is _ h, by
        have h4 := g_ge l k hlt (wide_is _ h) HOK.out
        have := HUP.out.2.2.1
        rw [h4] at this
        exact this⟩
      clear hc hget hget' hokk hrk
      generalize upF (runL (l.take k)).z (alF l[k].ty) = at' at *
      generalize szM l[k].ty = sz at *
      generalize alF l[k].ty = al at *
      generalize (runL (l.take k)).z = z at *
      generalize l[k] = m at *
      obtain ⟨mn, ⟨tk, te, tn, ts⟩, mp⟩ := m
      unfold Ty.val at *
      dsimp only at *
      have hw1 : IntKind.i64.wrap (at' - z) = at' - z := by simp [IntKind.wrap, IntKind.bits, IntKind.signed]; omega
      have hw2 : IntKind.i64.wrap (at' + sz) = at' + sz := by simp [IntKind.wrap, IntKind.bits, IntKind.signed]; omega
      have g1 : ¬ at' < z := by omega
      have g2 : ¬ 3 < at' - z := by omega
      have HG3 : Hid (wideF ⟨tk, te, tn, ts⟩ = true → Int.tmod at' 4 = 0 ∧ Int.tmod rz 4 = 0) := fun h => by
        obtain ⟨e1, e2⟩ := HW.out h
        have h3 := hupk.2.2.1
        rw [e1] at h3
        rw [Int.tmod_eq_emod_of_nonneg (by omega), Int.tmod_eq_emod_of_nonneg hzb.1]
        exact ⟨h3, e2⟩
      have HF0 : Hid (RF (wr.alloc (.cells #[.string mn, .int .i64 tk, .int .i64 te, .int .i64 tn, .int .i64 ts, .int .i64 at'] 49)) wr.heap.size w1.heap.size mn tk te tn ts at' (.slice (some ⟨b, off, none⟩) l.length cap) rz) := rf_new r1 r2
      have hlt' : (k : Int) < l.length := by omega
      clear HW hupk r0 r2 HF HUP HRUN HOK
      unfold wideF at HG3
      dsimp only at HG3
      by_cases t3 : tk = 3
      · subst t3
        clear HG3
        go_wp2_with (go_at_call 10; refine (H10 _).mono ?_; rintro e3 w3 ⟨rfl, hb3⟩; have HF3 := hid' (HF0.out.on hb3); replace hb3 := hid' hb3; obtain ⟨m0, m1, m2, m3, m4, m5, s1, s2⟩ := HF3.out)
        go_roundw
        case rel => exact ⟨k + 1, by omega, by go_num, by rw [HNZ.out], below_on (HB.out.alloc HB.out.size _) hb3.out (by have := HB.out.size; simp at this ⊢; omega)⟩
        case measure => simp [intOf]; omega
      · by_cases t4 : tk = 4
        · subst t4
          by_cases e3 : te = 3
          · subst e3
            clear HG3
            go_wp2_with (go_at_call 10; refine (H10 _).mono ?_; rintro e3 w3 ⟨rfl, hb3⟩; have HF3 := hid' (HF0.out.on hb3); replace hb3 := hid' hb3; obtain ⟨m0, m1, m2, m3, m4, m5, s1, s2⟩ := HF3.out)
            go_roundw
            case rel => exact ⟨k + 1, by omega, by go_num, by rw [HNZ.out], below_on (HB.out.alloc HB.out.size _) hb3.out (by have := HB.out.size; simp at this ⊢; omega)⟩
            case measure => simp [intOf]; omega
          · obtain ⟨g3, g4⟩ := HG3.out (by simp [e3])
            clear HG3
            go_wp2_with (go_at_call 10; refine (H10 _).mono ?_; rintro e3 w3 ⟨rfl, hb3⟩; have HF3 := hid' (HF0.out.on hb3); replace hb3 := hid' hb3; obtain ⟨m0, m1, m2, m3, m4, m5, s1, s2⟩ := HF3.out)
            go_roundw
            case rel => exact ⟨k + 1, by omega, by go_num, by rw [HNZ.out], below_on (HB.out.alloc HB.out.size _) hb3.out (by have := HB.out.size; simp at this ⊢; omega)⟩
            case measure => simp [intOf]; omega
        · obtain ⟨g3, g4⟩ := HG3.out (by simp [t3, t4])
          clear HG3
          go_wp2_with (go_at_call 10; refine (H10 _).mono ?_; rintro e3 w3 ⟨rfl, hb3⟩; have HF3 := hid' (HF0.out.on hb3); replace hb3 := hid' hb3; obtain ⟨m0, m1, m2, m3, m4, m5, s1, s2⟩ := HF3.out)
          go_roundw
          case rel => exact ⟨k + 1, by omega, by go_num, by rw [HNZ.out], below_on (HB.out.alloc HB.out.size _) hb3.out (by have := HB.out.size; simp at this ⊢; omega)⟩
          case measure => simp [intOf]; omega
    · have e : k = l.length := by omega
      subst e
      rw [List.take_length]
      have hz := HRUN.out.1
      obtain ⟨u1, u2, _, _⟩ := HUP.out
      generalize (runL l).z = z at *
      have hw1 : IntKind.i64.wrap (rz - z) = rz - z := by simp [IntKind.wrap, IntKind.bits, IntKind.signed]; omega
      have g1 : z ≤ rz := u1
      have g2 : rz - z < 4 := by omega
      clear HH HF HRUN HUP HOK HRZ u1 u2
      go_wp2_with (go_at_call 9; refine (awake9 _).mono ?_; rintro e2 w2 ⟨rfl, hb2⟩)
      go_ret
      exact ⟨rfl, below_on (HB1.out.trans ((below1 _ _).mono HB1.out.size |>.trans (HB.out.mono (by have := HB1.out.size; simp; omega)))) hb2 (by have := HB1.out.size; have := HB.out.size; simp at this; omega)⟩

theorem apart6 {nm : ByteArray} {w : World} {v : Value} {l : List Mb} (h : Src Mb.cells w v l) (hnm : nm.size ≤ 140737488351232) (hns : ∀ m ∈ l, m.nm.size ≤ 140737488351232) :
    Calls Try.prog 6 #[.string nm, v] w fun e w' => e = .returned (.bool true) ∧ Below w.heap.size w w' := by
  by_cases hg : l.length ≤ 32 ∧ goodL l
  · exact apart6_ok hg.1 hg.2 (fun W hW => lay_ok (h.on hW) hnm hns hg.1 hg.2)
  · exact apart6_err (fun W hW => lay_err (h.on hW) hnm hns hg)
end Go.Proofs.Ytmcadffagnbiaaa
