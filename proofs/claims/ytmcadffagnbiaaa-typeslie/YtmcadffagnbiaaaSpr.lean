/- Variables, one behind the other: plain; the program's Spread. -/
import Derived.Test.YtmcadffagnbiaaaWake
namespace Go.Proofs.Ytmcadffagnbiaaa
open Go.RowKit Go.Maps
set_option linter.unusedVariables false
set_option linter.unusedSimpArgs false

structure SS where
  d : List Mb
  z : Int
def stepS (rs : List Rc) (s : SS) (m : Mb) : SS := ⟨s.d ++ [⟨m.nm, m.ty, s.z⟩], upF (s.z + (szE m.ty rs).1) 4⟩
def runS (rs : List Rc) (l : List Mb) : SS := l.foldl (stepS rs) ⟨[], 0⟩
theorem runS_snoc (rs : List Rc) (l : List Mb) (m : Mb) : runS rs (l ++ [m]) = stepS rs (runS rs l) m := by simp [runS]
theorem runS_len (rs : List Rc) (l : List Mb) : (runS rs l).d.length = l.length := by
  have : ∀ (l : List Mb) (s : SS), (l.foldl (stepS rs) s).d.length = s.d.length + l.length := fun l => by
    induction l with
    | nil => intro s; simp
    | cons m l ih => intro s; rw [List.foldl_cons, ih]; simp [stepS]; omega
  rw [runS, this]
  simp
def sizedR (rs : List Rc) : Prop := ∀ x ∈ rs, 0 ≤ x.sz ∧ x.sz ≤ 65536
theorem sz_le {rs : List Rc} (h : sizedR rs) (t : Ty) : 0 ≤ (szE t rs).1 ∧ (szE t rs).1 ≤ 65536 ∧ ((szE t rs).2 = 0 ∨ (szE t rs).2 = 1) := by
  obtain ⟨k, e, n, s⟩ := t
  unfold szE
  dsimp only
  cases hm : mayF ⟨k, e, n, s⟩ (rs.length : Nat)
  · simp
  · rw [if_pos rfl]
    by_cases h13 : k = 1 ∨ k = 2 ∨ k = 3
    · rw [if_pos h13]
      rcases by_or k with e1 | e1 <;> (dsimp only; omega)
    · rw [if_neg h13]
      by_cases h4 : k = 4
      · subst h4
        rw [if_pos rfl]
        obtain ⟨a, b⟩ := may4 hm
        dsimp only
        rcases by_or e with e1 | e1 <;> (rw [e1]; omega)
      · rw [if_neg h4]
        by_cases h5 : k = 5
        · rw [if_pos h5]
          dsimp only
          unfold recAt
          cases hr : rs[s.toNat]? with
          | none => simp
          | some r =>
            have := h r (List.mem_of_getElem? hr)
            exact ⟨this.1, this.2, .inl rfl⟩
        · rw [if_neg h5]
          simp
theorem runS_le {rs : List Rc} (h : sizedR rs) (l : List Mb) : 0 ≤ (runS rs l).z ∧ (runS rs l).z ≤ 65540 * l.length ∧ (runS rs l).z % 4 = 0 := by
  have : ∀ (l : List Mb) (s : SS) (N : Nat), 0 ≤ s.z → s.z ≤ 65540 * N → s.z % 4 = 0 → 0 ≤ (l.foldl (stepS rs) s).z ∧ (l.foldl (stepS rs) s).z ≤ 65540 * (N + l.length : Nat) ∧ (l.foldl (stepS rs) s).z % 4 = 0 := fun l => by
    induction l with
    | nil => intro s N h1 h2 h3; exact ⟨h1, by simpa using h2, h3⟩
    | cons m l ih =>
      intro s N h1 h2 h3
      have hz := sz_le h m.ty
      have hu := up_le (n := s.z + (szE m.ty rs).1) (u := 4) (by omega) (.inr rfl)
      have := ih (stepS rs s m) (N + 1) (by simp only [stepS]; omega) (by simp only [stepS]; omega) (by simp only [stepS]; exact hu.2.2.1)
      rw [List.foldl_cons]
      refine ⟨this.1, ?_, this.2.2⟩
      have h9 := this.2.1
      rw [List.length_cons]
      omega
  have := this l ⟨[], 0⟩ 0 (Int.le_refl _) (by simp) rfl
  rw [Nat.zero_add] at this
  exact this
def okS (rs : List Rc) (l : List Mb) (k : Nat) : Prop := ∀ i (hi : i < l.length), i < k → (szE l[i].ty rs).2 = 0
/-- What Spread tells. -/
def SprIs (rs : List Rc) (l ms : List Mb) (n er : Int) : Prop :=
  (¬ okS rs l l.length ∧ er = 1 ∧ ms = [] ∧ n = 0) ∨ (okS rs l l.length ∧ 65536 < (runS rs l).z ∧ er = 3 ∧ ms = [] ∧ n = 0) ∨ (okS rs l l.length ∧ (runS rs l).z ≤ 65536 ∧ er = 0 ∧ ms = (runS rs l).d ∧ n = (runS rs l).z)
theorem SprIs.unique {rs : List Rc} {l ms ms' : List Mb} {n n' er er' : Int} (h : SprIs rs l ms n er) (h' : SprIs rs l ms' n' er') : ms = ms' ∧ n = n' ∧ er = er' := by
  rcases h with ⟨a, rfl, rfl, rfl⟩ | ⟨a, b, rfl, rfl, rfl⟩ | ⟨a, b, rfl, rfl, rfl⟩ <;> rcases h' with ⟨a', rfl, rfl, rfl⟩ | ⟨a', b', rfl, rfl, rfl⟩ | ⟨a', b', rfl, rfl, rfl⟩ <;> first | exact ⟨rfl, rfl, rfl⟩ | exact absurd a a' | exact absurd a' a | omega
def SprR (rs : List Rc) (l : List Mb) (w : World) (e : Ending) (w' : World) : Prop :=
  ∃ (rv : Value) (n er : Int) (ms : List Mb), e = .returned (.tuple #[rv, .int .i64 n, .int .i64 er]) ∧ SprIs rs l ms n er ∧ Src Mb.cells w' rv ms ∧ Below w.heap.size w w'

def curS (rs : List Rc) (l : List Mb) (k : Nat) : List Mb := (runS rs (l.take k)).d ++ List.replicate (l.length - k) zM
theorem curS_len {rs : List Rc} {l : List Mb} {k : Nat} (hk : k ≤ l.length) : (curS rs l k).length = l.length := by
  unfold curS
  rw [List.length_append, runS_len, List.length_take, List.length_replicate]
  omega
theorem curS_set {rs : List Rc} {l : List Mb} {k : Nat} (hk : k < l.length) : (curS rs l k).set k ⟨l[k].nm, l[k].ty, (runS rs (l.take k)).z⟩ = curS rs l (k + 1) := by
  unfold curS
  have e : (runS rs (l.take k)).d.length = k := by rw [runS_len, List.length_take]; omega
  rw [List.set_append_right _ _ (by omega), e, Nat.sub_self, take_snoc l k hk, runS_snoc, show l.length - k = (l.length - (k + 1)) + 1 by omega, List.replicate_succ, List.set_cons_zero]
  simp [stepS]
theorem curS_all (rs : List Rc) (l : List Mb) : curS rs l l.length = (runS rs l).d := by unfold curS; simp

/-- In the midst of Spread. -/
structure SMid (w : World) (rs : List Rc) (l : List Mb) (k sb : Nat) (W : World) : Prop where
  own : Own 47 6 Mb.cells W w.heap.size (.slice (some ⟨sb, 0, none⟩) l.length l.length) (curS rs l k)
  so : w.heap.size ≤ sb
  below : Below w.heap.size w W
theorem SMid.kept {w W W' : World} {rs : List Rc} {l : List Mb} {k sb : Nat} (h : SMid w rs l k sb W) (hb : Below W.heap.size W W') : SMid w rs l k sb W' := by
  have K : Kept (fun _ => False) W W' := Kept.of_below hb
  exact ⟨K.owns h.own (fun _ _ e => e), h.so, below_on h.below hb h.below.size⟩
theorem SMid.next {w W : World} {rs : List Rc} {l : List Mb} {k sb : Nat} (h : SMid w rs l k sb W) (hk : k < l.length) :
    SMid w rs l (k + 1) sb (put6 W sb k ⟨l[k].nm, l[k].ty, (runS rs (l.take k)).z⟩) := by
  have hl := curS_len (rs := rs) (Nat.le_of_lt hk)
  have ho := h.own
  rw [← hl] at ho
  have h1 := Own.put ho (k := k) (by omega) ⟨l[k].nm, l[k].ty, (runS rs (l.take k)).z⟩
  rw [curS_set hk] at h1
  have K1 := Kept.put6 W sb k ⟨l[k].nm, l[k].ty, (runS rs (l.take k)).z⟩
  refine ⟨?_, h.so, h.below.trans (K1.below h.below.size (fun b e => by have := h.so; omega))⟩
  unfold Own at h1 ⊢
  rw [hl] at h1
  exact h1

set_option maxRecDepth 20000 in
set_option maxHeartbeats 8000000 in
theorem spread24 {w : World} {v rv : Value} {l : List Mb} {rs : List Rc} (h : Src Mb.cells w v l) (hr : Src Rc.cells w rv rs) (hns : ∀ m ∈ l, m.nm.size ≤ 140737488351232) (hl : l.length * 56 ≤ 140737488351232) (hrl : rs.length * 48 ≤ 140737488351232) (hsz : sizedR rs) :
    Calls Try.prog 24 #[v, rv] w (SprR rs l w) := by
  obtain ⟨ao, cap, rfl, hf⟩ := h.form mb6
  have HF := hid' hf
  have H10 : Hid (∀ W, Below w.heap.size w W → ∀ t : Ty, Calls Try.prog 10 #[t.val, rv] W fun e w' => e = .returned (.tuple #[.int .i64 (szE t rs).1, .int .i64 (szE t rs).2]) ∧ Below W.heap.size W w') := fun W hW t => size10 (hr.on hW) (by omega) t
  have HNS := hid' hns
  have HSZ := hid' hsz
  obtain ⟨rao, rcap, rfl⟩ := hr.len
  clear hf h hr hns hsz
  obtain ⟨w1, hm, ho, hb, hs⟩ := make_mbs (et := 47) (st := 43) (w := w) (base := w.heap.size) (n := l.length) Try.underlying43 info47 (by omega) (Nat.le_refl _)
  have HM0 : Hid (SMid w rs l 0 w.heap.size w1) := by
    refine ⟨?_, Nat.le_refl _, hb⟩
    have e : curS rs l 0 = List.replicate l.length zM := by simp [curS, runS]
    rw [e]
    exact ho
  clear ho hb hs
  go_enter Try.func24, Try.ntmps24
  go_wp2_with fail
  clear hm
  go_loopw [8, 18] (fun a i wr => ∃ k : Nat, k ≤ l.length ∧ i = .int .i64 k ∧ a = .int .i64 (runS rs (l.take k)).z ∧ okS rs l k ∧ SMid w rs l k w.heap.size wr) (fun _ i _ => l.length - (intOf i).toNat)
  case atStart => exact ⟨0, Nat.zero_le _, rfl, by simp [runS], fun j _ hj => by omega, HM0.out⟩
  case round =>
    obtain ⟨k, hk, rfl, rfl, hok, hM⟩ := hrel
    have HK := hid' hok
    have HM := hid' hM
    clear hok hM
    by_cases hlt : k < l.length
    · obtain ⟨b, off, rfl, hbl, hcp, hc⟩ := HF.out k hlt
      obtain ⟨c0, c1, c2, c3, c4, c5⟩ := mb_cells (hc wr HM.out.below)
      have hrun := runS_le HSZ.out (l.take k)
      have hszk := sz_le HSZ.out l[k].ty
      have HT : Hid (∀ W, Below w.heap.size w W → Calls Try.prog 10 #[l[k].ty.val, .slice rao rs.length rcap] W fun e w' => e = .returned (.tuple #[.int .i64 (szE l[k].ty rs).1, .int .i64 (szE l[k].ty rs).2]) ∧ Below W.heap.size W w') := fun W hW => H10.out W hW _
      have hzl : 0 ≤ (runS rs (l.take k)).z ∧ (runS rs (l.take k)).z ≤ 400000000000000000 := by have := hrun.2.1; rw [List.length_take] at this; have := hrun.1; omega
      have H34 := fun W => clone34 l[k].nm W (HNS.out l[k] (List.getElem_mem hlt))
      have H36 := fun W => up36 ((runS rs (l.take k)).z + (szE l[k].ty rs).1) 4 (by omega) (by omega) (.inr rfl) W
      have HNX : Hid (∀ W, SMid w rs l k w.heap.size W → SMid w rs l (k + 1) w.heap.size (put6 W w.heap.size k ⟨l[k].nm, l[k].ty, (runS rs (l.take k)).z⟩)) := fun W h => h.next hlt
      have HZX : Hid ((runS rs (l.take (k + 1))).z = upF ((runS rs (l.take k)).z + (szE l[k].ty rs).1) 4) := by unfold Hid; rw [take_snoc l k hlt, runS_snoc]; rfl
      have HE : Hid (∀ j (hj : j < l.length), j = k → (szE l[j].ty rs).2 = (szE l[k].ty rs).2) := fun j hj e => by subst e; rfl
      clear hc hrun
      generalize upF ((runS rs (l.take k)).z + (szE l[k].ty rs).1) 4 = z' at *
      generalize (szE l[k].ty rs).1 = sz at *
      generalize (szE l[k].ty rs).2 = er at *
      generalize (runS rs (l.take k)).z = z at *
      generalize l[k] = m at *
      obtain ⟨mn, ⟨tk, te, tn, ts⟩, mp⟩ := m
      unfold Ty.val at *
      dsimp only at *
      have hw : IntKind.i64.wrap (z + sz) = z + sz := by simp [IntKind.wrap, IntKind.bits, IntKind.signed]; omega
      have HF0 : Hid (∀ w3, Below (wr.alloc (.cells #[.string mn, .int .i64 tk, .int .i64 te, .int .i64 tn, .int .i64 ts, .int .i64 mp] 47)).heap.size (wr.alloc (.cells #[.string mn, .int .i64 tk, .int .i64 te, .int .i64 tn, .int .i64 ts, .int .i64 mp] 47)) w3 → w3.cell? ⟨wr.heap.size, 0, none⟩ = some (.string mn) ∧ w3.cell? ⟨wr.heap.size, 1, none⟩ = some (.int .i64 tk) ∧ w3.cell? ⟨wr.heap.size, 2, none⟩ = some (.int .i64 te) ∧ w3.cell? ⟨wr.heap.size, 3, none⟩ = some (.int .i64 tn) ∧ w3.cell? ⟨wr.heap.size, 4, none⟩ = some (.int .i64 ts)) := fun w3 hb =>
        ⟨keep_cell (by simp [go_sem]) hb, keep_cell (by simp [go_sem]) hb, keep_cell (by simp [go_sem]) hb, keep_cell (by simp [go_sem]) hb, keep_cell (by simp [go_sem]) hb⟩
      by_cases he : er = 0
      · subst he
        have hlt' : (k : Int) < l.length := by omega
        go_wp2_with (go_at_call 10; refine (HT.out _ (below_on HM.out.below (below1 _ _) HM.out.below.size)).mono ?_; rintro e3 w3 ⟨rfl, hb3⟩; obtain ⟨m0, m1, m2, m3, m4⟩ := HF0.out _ hb3)
        have HB3 := hid' hb3
        clear m0 m1 m2 m3 m4 hb3
        go_cut [41] (fun p wx => ∃ W, SMid w rs l k w.heap.size W ∧ wx = put6 W w.heap.size k ⟨mn, ⟨tk, te, tn, ts⟩, z⟩)
        case first =>
          have hx := fun t : After w3 => HF0.out t.1 (below_on HB3.out t.2 HB3.out.size)
          have q0 := fun t => (hx t).1
          have q1 := fun t => (hx t).2.1
          have q2 := fun t => (hx t).2.2.1
          have q3 := fun t => (hx t).2.2.2.1
          have q4 := fun t => (hx t).2.2.2.2
          have K34 : ∀ t : After w3, _ := fun t => Calls.after t (H34 t.1)
          clear hx c0 c1 c2 c3 c4 c5
          have hne := after_some w3
          refine region_after 10 mixed (by kernel_rfl) ?_
          simp only [List.take_succ_cons, List.take_zero, List.drop_succ_cons, List.drop_zero]
          repeat quiet_step (with_reducible exact K34 _)
          refine wpQuiet_nil ?_
          intro w6 hb6
          have hM6 := ((HM.out.kept (below1 _ _)).kept HB3.out).kept hb6
          have HM6 := hid' hM6
          have hlc := curS_len (rs := rs) (l := l) (k := k) hk
          have ho := hM6.own
          rw [← hlc] at ho
          have hcell : ∀ c, c < 6 → ∃ u, w6.cell? ⟨w.heap.size, k * 6 + c, none⟩ = some u := fun c hc => by
            have hx : k * 6 + c < (flat Mb.cells (curS rs l k)).length := by rw [flat_length mb6, hlc]; omega
            exact ⟨_, (World.ownsRow.cellAt ho (k * 6 + c) (by rw [hlc]; omega)).trans (List.getElem?_eq_getElem hx)⟩
          obtain ⟨u0, d0⟩ := hcell 0 (by omega)
          obtain ⟨u1, d1⟩ := hcell 1 (by omega)
          obtain ⟨u2, d2⟩ := hcell 2 (by omega)
          obtain ⟨u3, d3⟩ := hcell 3 (by omega)
          obtain ⟨u4, d4⟩ := hcell 4 (by omega)
          obtain ⟨u5, d5⟩ := hcell 5 (by omega)
          have hfz : ∀ j, w6.frozen? ⟨w.heap.size, j, none⟩ = false := fun j => World.ownsRow.frozenAt ho j
          rw [Nat.add_zero] at d0
          clear hM6 hb6 hcell hlc ho q0 q1 q2 q3 q4 K34 H34
          go_wp2_with fail
          go_meet
          exact ⟨w6, HM6.out, rfl⟩
        case rest =>
          obtain ⟨W, hMW, rfl⟩ := hcut
          have HNW := hid' (HNX.out W hMW)
          have HNK : Hid (okS rs l (k + 1)) := fun j hj hjk => by
            by_cases e : j = k
            · exact HE.out j hj e
            · exact HK.out j hj (by omega)
          clear hMW HNX H34 HF0 c0 c1 c2 c3 c4 c5
          generalize put6 W w.heap.size k ⟨mn, ⟨tk, te, tn, ts⟩, z⟩ = W6 at *
          go_wp2_with (go_at_call 36; with_reducible refine (H36 _).mono ?_; rintro e5 w5 ⟨rfl, rfl⟩)
          go_roundw
          case rel => exact ⟨k + 1, by omega, by go_num, by rw [HZX.out], HNK.out, HNW.out⟩
          case measure => simp [intOf]; omega
      · have HBad : Hid (¬ okS rs l l.length) := fun h => he ((HE.out k hlt rfl).symm.trans (h k hlt hlt))
        have HER : Hid (er = 1) := by rcases hszk.2.2 with h | h; exact absurd h he; exact h
        clear H34 H36 hszk
        go_wp2_with (go_at_call 10; refine (HT.out _ (below_on HM.out.below (below1 _ _) HM.out.below.size)).mono ?_; rintro e3 w3 ⟨rfl, hb3⟩)
        exact bodyPost_ret (v := .tuple #[.slice none 0 0, .int .i64 0, .int .i64 er]) (by simp [results, Try.results24, go_sem]) rfl ⟨_, _, _, [], rfl, .inl ⟨HBad.out, HER.out, rfl, rfl⟩, src_nil, below_on (below_on HM.out.below (below1 _ _) HM.out.below.size) hb3 (by have := HM.out.below.size; simp; omega)⟩
    · have e : k = l.length := by omega
      subst e
      rw [List.take_length]
      have hM := HM.out
      by_cases hz : 65536 < (runS rs l).z
      · have HR : Hid (SprIs rs l [] 0 3) := .inr (.inl ⟨HK.out, hz, rfl, rfl, rfl⟩)
        go_wp2_with fail
        exact bodyPost_ret (v := .tuple #[.slice none 0 0, .int .i64 0, .int .i64 3]) (by simp [results, Try.results24, go_sem]) rfl ⟨_, _, _, [], rfl, HR.out, src_nil, HM.out.below⟩
      · have HR : Hid (SprIs rs l (runS rs l).d (runS rs l).z 0) := .inr (.inr ⟨HK.out, by omega, rfl, rfl, rfl⟩)
        have hO := HM.out.own
        rw [curS_all] at hO
        have HS : Hid (Src Mb.cells wr (.slice (some ⟨w.heap.size, 0, none⟩) l.length l.length) (runS rs l).d) := by
          have e := runS_len rs l
          unfold Own at hO
          rw [← e] at hO
          rw [← e]
          exact Own.src mb6 hO
        clear hO hM
        go_wp2_with fail
        exact bodyPost_ret (v := .tuple #[.slice (some ⟨w.heap.size, 0, none⟩) l.length l.length, .int .i64 (runS rs l).z, .int .i64 0]) (by simp [results, Try.results24, go_sem]) rfl ⟨_, _, _, (runS rs l).d, rfl, HR.out, HS.out, HM.out.below⟩
end Go.Proofs.Ytmcadffagnbiaaa
