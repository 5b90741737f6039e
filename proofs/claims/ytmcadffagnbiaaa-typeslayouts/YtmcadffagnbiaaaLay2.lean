/- Where members lie: plain; the program's Layout. -/
import Derived.Test.YtmcadffagnbiaaaLay1
import Derived.Test.YtmcadffagnbiaaaClone
import Derived.Test.YtmcadffagnbiaaaKept
namespace Go.Proofs.Ytmcadffagnbiaaa
open Go.RowKit Go.Maps
set_option linter.unusedVariables false
set_option linter.unusedSimpArgs false

/-- Laid so far: the members, the size, the greatest alignment. -/
structure LS where
  d : List Mb
  z : Int
  g : Int
def szM (t : Ty) : Int := (szE t []).1
def stepL (s : LS) (m : Mb) : LS := ⟨s.d ++ [⟨m.nm, m.ty, upF s.z (alF m.ty)⟩], upF s.z (alF m.ty) + szM m.ty, max s.g (alF m.ty)⟩
def runL (l : List Mb) : LS := l.foldl stepL ⟨[], 0, 1⟩
theorem runL_snoc (l : List Mb) (m : Mb) : runL (l ++ [m]) = stepL (runL l) m := by simp [runL]
theorem take_snoc {α : Type} (l : List α) (k : Nat) (h : k < l.length) : l.take (k + 1) = l.take k ++ [l[k]] := by
  rw [List.take_add_one, List.getElem?_eq_getElem h]
  rfl
theorem runL_len (l : List Mb) : (runL l).d.length = l.length := by
  have : ∀ (l : List Mb) (s : LS), (l.foldl stepL s).d.length = s.d.length + l.length := fun l => by
    induction l with
    | nil => intro s; simp
    | cons m l ih => intro s; rw [List.foldl_cons, ih]; simp [stepL]; omega
  rw [runL, this]
  simp
theorem al_or (t : Ty) : alF t = 1 ∨ alF t = 4 := by unfold alF; split <;> exact by_or _
theorem up_le {n u : Int} (h0 : 0 ≤ n) (hu : u = 1 ∨ u = 4) : n ≤ upF n u ∧ upF n u ≤ n + 3 ∧ upF n u % u = 0 ∧ (u = 1 → upF n u = n) := by
  unfold upF
  rcases hu with rfl | rfl <;> omega
theorem szM_le {m : Mb} (h : okM m = true) : 1 ≤ szM m.ty ∧ szM m.ty ≤ 4096 := by
  obtain ⟨nm, ⟨k, e, n, s⟩, pl⟩ := m
  unfold okM at h
  rw [Bool.and_eq_true] at h
  obtain ⟨h1, h2⟩ := h
  unfold szM szE
  dsimp only at *
  have h2' : mayF ⟨k, e, n, s⟩ ((([] : List Rc).length : Nat) : Int) = true := h2
  rw [if_pos h2']
  by_cases h13 : k = 1 ∨ k = 2 ∨ k = 3
  · rw [if_pos h13]
    rcases by_or k with e1 | e1 <;> (dsimp only; omega)
  · rw [if_neg h13]
    have h4 : k = 4 := by
      unfold scalF at h1
      simp at h1
      omega
    subst h4
    rw [if_pos rfl]
    obtain ⟨a, b⟩ := may4 h2
    dsimp only
    rcases by_or e with e1 | e1 <;> (rw [e1]; omega)
theorem okM_size {m : Mb} (h : okM m = true) : szE m.ty [] = (szM m.ty, 0) := by
  obtain ⟨nm, ⟨k, e, n, s⟩, pl⟩ := m
  unfold okM at h
  rw [Bool.and_eq_true] at h
  obtain ⟨h1, h2⟩ := h
  unfold szM szE
  dsimp only at *
  have h2' : mayF ⟨k, e, n, s⟩ ((([] : List Rc).length : Nat) : Int) = true := h2
  rw [if_pos h2']
  by_cases h13 : k = 1 ∨ k = 2 ∨ k = 3
  · rw [if_pos h13]
  · rw [if_neg h13]
    have h4 : k = 4 := by
      unfold scalF at h1
      simp at h1
      omega
    rw [if_pos h4]
/-- All is within bounds. -/
theorem run_le {l : List Mb} (h : ∀ m ∈ l, okM m = true) : 0 ≤ (runL l).z ∧ (runL l).z ≤ 4100 * l.length ∧ ((runL l).g = 1 ∨ (runL l).g = 4) := by
  have : ∀ (l : List Mb) (s : LS) (N : Nat), (∀ m ∈ l, okM m = true) → 0 ≤ s.z → s.z ≤ 4100 * N → (s.g = 1 ∨ s.g = 4) → 0 ≤ (l.foldl stepL s).z ∧ (l.foldl stepL s).z ≤ 4100 * (N + l.length : Nat) ∧ ((l.foldl stepL s).g = 1 ∨ (l.foldl stepL s).g = 4) := fun l => by
    induction l with
    | nil => intro s N _ h1 h2 h3; exact ⟨h1, by simpa using h2, h3⟩
    | cons m l ih =>
      intro s N h h1 h2 h3
      have hz := szM_le (h m (List.mem_cons_self ..))
      have hu := up_le h1 (al_or m.ty)
      have := ih (stepL s m) (N + 1) (fun x hx => h x (List.mem_cons_of_mem _ hx)) (by simp only [stepL]; omega) (by simp only [stepL]; omega) (by
        simp only [stepL]
        rcases al_or m.ty with e | e <;> rcases h3 with e3 | e3 <;> rw [e, e3] <;> decide)
      rw [List.foldl_cons]
      refine ⟨this.1, ?_, this.2.2⟩
      have h9 := this.2.1
      rw [List.length_cons]
      omega
  have := this l ⟨[], 0, 1⟩ 0 h (Int.le_refl _) (by simp) (.inl rfl)
  rw [Nat.zero_add] at this
  exact this
theorem fine_ok {l : List Mb} {k : Nat} (h : fine l k) : ∀ m ∈ l.take k, okM m = true := fun m hm => by
  obtain ⟨i, hi, rfl⟩ := List.getElem_of_mem hm
  have hi' : i < k ∧ i < l.length := by simp at hi; omega
  rw [List.getElem_take]
  exact (h i hi'.2 hi'.1).1

/-- The row in the midst. -/
def curM (l : List Mb) (k : Nat) : List Mb := (runL (l.take k)).d ++ List.replicate (l.length - k) zM
theorem curM_len {l : List Mb} {k : Nat} (hk : k ≤ l.length) : (curM l k).length = l.length := by
  unfold curM
  rw [List.length_append, runL_len, List.length_take, List.length_replicate]
  omega
theorem curM_set {l : List Mb} {k : Nat} (hk : k < l.length) : (curM l k).set k ⟨l[k].nm, l[k].ty, upF (runL (l.take k)).z (alF l[k].ty)⟩ = curM l (k + 1) := by
  unfold curM
  have e : (runL (l.take k)).d.length = k := by rw [runL_len, List.length_take]; omega
  rw [List.set_append_right _ _ (by omega), e, Nat.sub_self, take_snoc l k hk, runL_snoc, show l.length - k = (l.length - (k + 1)) + 1 by omega, List.replicate_succ, List.set_cons_zero]
  simp [stepL]
theorem curM_all (l : List Mb) : curM l l.length = (runL l).d := by unfold curM; simp

/-- In the midst of Layout. -/
structure LMid (w : World) (nm : ByteArray) (l : List Mb) (k rb mb : Nat) (W : World) : Prop where
  own : Own 49 6 Mb.cells W (w.heap.size + 1) (.slice (some ⟨mb, 0, none⟩) l.length l.length) (curM l k)
  rc : IsRec W rb nm (.slice (some ⟨mb, 0, none⟩) l.length l.length) (runL (l.take k)).z
  ob : IsRec W w.heap.size ⟨#[]⟩ (.slice none 0 0) 0
  rm : rb ≠ mb
  ro : w.heap.size < rb
  mo : w.heap.size < mb
  below : Below w.heap.size w W
theorem LMid.kept {w W W' : World} {nm : ByteArray} {l : List Mb} {k rb mb : Nat} (h : LMid w nm l k rb mb W) (hb : Below W.heap.size W W') : LMid w nm l k rb mb W' := by
  have K : Kept (fun _ => False) W W' := Kept.of_below hb
  exact ⟨K.owns h.own (fun _ _ e => e), K.isRec h.rc (fun e => e), K.isRec h.ob (fun e => e), h.rm, h.ro, h.mo, below_on h.below hb h.below.size⟩
theorem LMid.next {w W : World} {nm : ByteArray} {l : List Mb} {k rb mb : Nat} (h : LMid w nm l k rb mb W) (hk : k < l.length) :
    LMid w nm l (k + 1) rb mb ((put6 W mb k ⟨l[k].nm, l[k].ty, upF (runL (l.take k)).z (alF l[k].ty)⟩).setCell ⟨rb, 2, none⟩ (.int .i64 (upF (runL (l.take k)).z (alF l[k].ty) + szM l[k].ty))) := by
  have hl := curM_len (Nat.le_of_lt hk)
  have ho := h.own
  rw [← hl] at ho
  have h1 := Own.put ho (k := k) (by omega) ⟨l[k].nm, l[k].ty, upF (runL (l.take k)).z (alF l[k].ty)⟩
  rw [curM_set hk] at h1
  have K1 := Kept.put6 W mb k ⟨l[k].nm, l[k].ty, upF (runL (l.take k)).z (alF l[k].ty)⟩
  have hr1 := K1.isRec h.rc h.rm
  have hr2 := hr1.set2 (upF (runL (l.take k)).z (alF l[k].ty) + szM l[k].ty)
  generalize put6 W mb k ⟨l[k].nm, l[k].ty, upF (runL (l.take k)).z (alF l[k].ty)⟩ = W1 at *
  have K2 := (Kept.rfl (fun b => b = rb) W1).set (a := ⟨rb, 2, none⟩) (.inl rfl) (.int .i64 (upF (runL (l.take k)).z (alF l[k].ty) + szM l[k].ty))
  generalize W1.setCell ⟨rb, 2, none⟩ (.int .i64 (upF (runL (l.take k)).z (alF l[k].ty) + szM l[k].ty)) = W2 at *
  refine ⟨?_, ?_, ?_, h.rm, h.ro, h.mo, ?_⟩
  · have := K2.owns h1 (fun b hb e => h.rm (by simp [Value.ownBlock] at hb; omega))
    unfold Own
    rw [hl] at this
    exact this
  · rw [take_snoc l k hk, runL_snoc]
    exact hr2
  · exact K2.isRec (K1.isRec h.ob (fun e => by have := h.mo; omega)) (fun e => by have := h.ro; omega)
  · exact h.below.trans ((K1.below h.below.size (fun b e => by have := h.mo; omega)).trans (K2.below (Nat.le_trans h.below.size K1.size) (fun b e => by have := h.ro; omega)))
end Go.Proofs.Ytmcadffagnbiaaa
