/- Slices of things that are several cells each; records, members, variables. -/
import Derived.Test.YtmcadffagnbiaaaTy
import Derived.Deep.AppendSrc
import Derived.Maps.AppendAt
import Derived.Laws.AppendOwn
import Derived.Laws.OwnMore
import Derived.Maps.OwnSet
import Derived.BigQuiet
import Derived.Deep.QuietTactic
import Derived.Deep.RegionWith
namespace Go.Proofs.Ytmcadffagnbiaaa
open Go.RowKit Go.Maps
set_option linter.unusedVariables false
set_option linter.unusedSimpArgs false

theorem hid' {p : Prop} (h : p) : Hid p := h

section
variable {α : Type} {f : α → List Value} {z : Nat}
def flat (f : α → List Value) (l : List α) : List Value := l.flatMap f
theorem flat_cons (x : α) (l : List α) : flat f (x :: l) = f x ++ flat f l := by simp [flat]
theorem flat_append (l m : List α) : flat f (l ++ m) = flat f l ++ flat f m := by simp [flat]
theorem flat_length (hz : ∀ x, (f x).length = z) (l : List α) : (flat f l).length = l.length * z := by
  induction l with
  | nil => simp [flat]
  | cons x l ih => rw [flat_cons, List.length_append, hz, ih, List.length_cons, Nat.succ_mul, Nat.add_comm]
theorem flat_get (hz : ∀ x, (f x).length = z) : ∀ (l : List α) (i c : Nat) (hi : i < l.length), c < z → (flat f l)[i * z + c]? = (f l[i])[c]?
  | x :: l, 0, c, _, hc => by
    rw [flat_cons, List.getElem?_append_left (by rw [hz]; omega)]
    simp
  | x :: l, i + 1, c, hi, hc => by
    have := flat_get hz l i c (by simpa using hi) hc
    rw [flat_cons, List.getElem?_append_right (by rw [hz, Nat.succ_mul]; omega), hz, show (i + 1) * z + c - z = i * z + c by rw [Nat.succ_mul]; omega, this]
    simp

/-- A slice, wherever it came from: its cells are these things. -/
def Src (f : α → List Value) (w : World) (v : Value) (l : List α) : Prop :=
  (l = [] ∧ ∃ ao cap, v = .slice ao 0 cap) ∨ (∃ b off cap, v = .slice (some ⟨b, off, none⟩) l.length cap ∧ b < w.heap.size ∧ l.length ≤ cap ∧ ∀ j u, (flat f l)[j]? = some u → w.cell? ⟨b, off + j, none⟩ = some u)
theorem Src.below {w w' : World} {B : Nat} {v : Value} {l : List α} (h : Src f w v l) (hB : w.heap.size ≤ B) (hb : Below B w w') : Src f w' v l := by
  rcases h with h | ⟨b, off, cap, hv, hl, hcp, hc⟩
  · exact .inl h
  · exact .inr ⟨b, off, cap, hv, Nat.lt_of_lt_of_le hl hb.size, hcp, fun j u hj => (hb.cell (p := ⟨b, off + j, none⟩) (Nat.lt_of_lt_of_le hl hB)).trans (hc j u hj)⟩
theorem Src.on {w w' : World} {v : Value} {l : List α} (h : Src f w v l) (hb : Below w.heap.size w w') : Src f w' v l := h.below (Nat.le_refl _) hb
theorem Src.form {w : World} {v : Value} {l : List α} (hz : ∀ x, (f x).length = z) (h : Src f w v l) :
    ∃ ao cap, v = .slice ao l.length cap ∧ ∀ k (hk : k < l.length), ∃ b off, ao = some ⟨b, off, none⟩ ∧ b < w.heap.size ∧ l.length ≤ cap ∧ ∀ w', Below w.heap.size w w' → ∀ c, c < z → w'.cell? ⟨b, off + k * z + c, none⟩ = (f l[k])[c]? := by
  rcases h with ⟨rfl, ao, cap, rfl⟩ | ⟨b, off, cap, rfl, hl, hcp, hc⟩
  · exact ⟨ao, cap, rfl, fun k hk => by simp at hk⟩
  · refine ⟨_, cap, rfl, fun k hk => ⟨b, off, rfl, hl, hcp, fun w' hb c hcz => ?_⟩⟩
    have e := flat_get hz l k c hk hcz
    have hcl : c < (f l[k]).length := by rw [hz]; exact hcz
    rw [List.getElem?_eq_getElem hcl] at e ⊢
    rw [hb.cell (p := ⟨b, off + k * z + c, none⟩) hl, Nat.add_assoc]
    exact hc _ _ e
theorem Src.take {w : World} {ao : Option Addr} {n cap : Nat} {l : List α} (h : Src f w (.slice ao n cap) l) (k : Nat) (hk : k ≤ l.length) (c2 : Nat) (hc2 : k ≤ c2) : Src f w (.slice ao k c2) (l.take k) := by
  rcases h with ⟨rfl, ao', cap', e⟩ | ⟨b, off, cap', e, hl, hcp, hc⟩
  · injection e with e1 e2 e3
    have : k = 0 := by simpa using hk
    subst this
    exact .inl ⟨by simp, _, _, rfl⟩
  · injection e with e1 e2 e3
    subst e1
    refine .inr ⟨b, off, c2, by rw [List.length_take, Nat.min_eq_left hk], hl, by rw [List.length_take, Nat.min_eq_left hk]; exact hc2, fun j u hj => hc j u ?_⟩
    have : flat f l = flat f (l.take k) ++ flat f (l.drop k) := by rw [← flat_append, List.take_append_drop]
    rw [this, List.getElem?_append_left (List.getElem?_eq_some_iff.1 hj).1]
    exact hj
theorem Src.len {w : World} {v : Value} {l : List α} (h : Src f w v l) : ∃ ao cap, v = .slice ao l.length cap := by
  rcases h with ⟨rfl, ao, cap, rfl⟩ | ⟨b, off, cap, rfl, _, _⟩
  · exact ⟨_, _, rfl⟩
  · exact ⟨_, _, rfl⟩

/-- A slice of the call's own. -/
def Own (t : TypeId) (z : Nat) (f : α → List Value) (w : World) (base : Nat) (v : Value) (l : List α) : Prop := w.ownsRow base t z v l.length (flat f l)
theorem Own.src {t : TypeId} {w : World} {base : Nat} {v : Value} {l : List α} (hz : ∀ x, (f x).length = z) (h : Own t z f w base v l) : Src f w v l := by
  have h0 := h
  rcases h.2 with ⟨rfl, e⟩ | ⟨g, cap, cur, rfl, hb, hh, hn, _⟩
  · exact .inl ⟨List.eq_nil_of_length_eq_zero e, _, _, rfl⟩
  · refine .inr ⟨g, 0, cap, rfl, (Array.getElem?_eq_some_iff.1 hh).1, hn, fun j u hj => ?_⟩
    have := (List.getElem?_eq_some_iff.1 hj).1
    rw [flat_length hz] at this
    rw [Nat.zero_add, World.ownsRow.cellAt h0 j this]
    exact hj

/-- append(l, m...). -/
theorem append_own {st et : TypeId} {z0 : Value} {bytes : Nat} {w : World} {base : Nat} {v x : Value} {l m : List α} (hz : ∀ x, (f x).length = z) (h1 : ∀ x, ∀ u ∈ f x, u.oneCell' = true) (hst : Try.prog.underlying st = some (.slice et))
    (hi' : (Try.prog.info? et).map (fun i => (i.zero, i.size, i.bytes)) = some (some z0, z, bytes)) (hz0 : z0.cells.size = z) (hzp : 0 < z)
    (h : Own et z f w base v l) (hs : Src f w x m) (hl : (l.length + m.length) * bytes ≤ 140737488355328) (hl2 : l.length + m.length ≤ maxLen) (hb : base ≤ w.heap.size) (ty : TypeId) :
    ∃ v' w', (Builtin.append_ #[st, st] ty #[v, x]).run Try.prog w = .ok v' w' ∧ Own et z f w' base v' (l ++ m) ∧ w.grownBy w' v.ownBlock ∧ (v'.ownBlock = v.ownBlock ∨ v'.ownBlock = some w.heap.size) := by
  obtain ⟨i0, hi, e0, e1, e2⟩ := info_parts hi'
  have hone : ∀ u ∈ flat f m, u.oneCell' = true := fun u hu => by
    obtain ⟨x, _, hx⟩ := List.mem_flatMap.1 hu
    exact h1 x u hx
  have some_case : ∀ (a : Addr) (c : Nat), (∀ j u, (flat f m)[j]? = some u → w.cell? (a.add j) = some u) → ∃ v' w', (Builtin.append_ #[st, st] ty #[v, .slice (some a) m.length c]).run Try.prog w = .ok v' w' ∧ Own et z f w' base v' (l ++ m) ∧ w.grownBy w' v.ownBlock ∧ (v'.ownBlock = v.ownBlock ∨ v'.ownBlock = some w.heap.size) := fun a c hc => by
    obtain ⟨v', w', h1, h2, h3, h4, h5⟩ := run_append_own_at (P := Try.prog) w base st ty et i0 _ z bytes hst hi e0 e1 e2 hz0 hzp v l.length (flat f l) h a m.length c (flat f m) (flat_length hz m) hc hone hl2 hl hb
    exact ⟨v', w', h1, by unfold Own; rw [flat_append, List.length_append]; exact h2, h3, h5⟩
  rcases hs with ⟨rfl, ao, cap, rfl⟩ | ⟨b, off, cap, rfl, hlt, _, hc⟩
  · cases ao with
    | some a => exact some_case a cap (fun j u hj => by simp [flat] at hj)
    | none =>
      refine ⟨v, w, ?_, by rw [List.append_nil]; exact h, ⟨rfl, rfl, rfl, Nat.le_refl _, fun _ _ _ => rfl⟩, .inl rfl⟩
      rcases h.2 with ⟨rfl, _⟩ | ⟨g, cp, cur, rfl, hg, hh, hn, _⟩
      · simp [Builtin.append_, run_underlying hst, sizeOf, typeInfo, hi, Builtin.lenOf, Builtin.firstCells]
      · have := run_append_room_src (P := Try.prog) w st st ty et i0 hst hi g 0 l.length cp (.slice none 0 cap) 0 [] (Src.ofNil w hst cap) (by omega) (by simp) (by simp)
        simpa [World.setCells] using this
  · exact some_case ⟨b, off, none⟩ cap (fun j u hj => by rw [Addr.add_lit]; exact hc j u hj)
end

/-- append, by what its run is. -/
theorem wpList_append_run {st : TypeId} {w w' : World} {ops : Array Oper} {rest : List Oper} {o : Oper} {a : Act} {Q : Exit → Act → World → Prop} (hgd : o.guard = none) (s x : Operand) (ho : o.op = .call { callee := .builtin .append, args := #[s, x], argTypes := #[st, st] })
    (v xv v' : Value) (hs : a.eval s = v) (hx : a.eval x = xv) (hr : (Builtin.append_ #[st, st] o.type #[v, xv]).run Try.prog w = .ok v' w') (h : wpList Try.prog ops Q rest (a.put o.dst v') w') : wpList Try.prog ops Q (o :: rest) a w := by
  refine wpList_plain hgd fun K hK => ?_
  unfold Oper.wp execOp
  simp only [ho, resolve, invoke, builtin, Sem.run_bind, Sem.run_pure, Result.andThen_ok, List.map_toArray, List.map_cons, List.map_nil, hs, hx, hr]
  exact hK _ _ h

/-- A record: what counts is its size. -/
structure Rc where
  nm : ByteArray
  ao : Option Addr
  len : Nat
  cap : Nat
  sz : Int
def Rc.cells (r : Rc) : List Value := [.string r.nm, .slice r.ao r.len r.cap, .int .i64 r.sz]
theorem rc3 (r : Rc) : (Rc.cells r).length = 3 := rfl
theorem rc1 (r : Rc) : ∀ u ∈ Rc.cells r, u.oneCell' = true := by
  intro u hu
  simp [Rc.cells] at hu
  rcases hu with rfl | rfl | rfl <;> rfl
/-- A member, or a variable. -/
structure Mb where
  nm : ByteArray
  ty : Ty
  pl : Int
def Mb.cells (m : Mb) : List Value := [.string m.nm, .int .i64 m.ty.k, .int .i64 m.ty.e, .int .i64 m.ty.n, .int .i64 m.ty.s, .int .i64 m.pl]
theorem mb_cells {w : World} {b o : Nat} {m : Mb} (h : ∀ c, c < 6 → w.cell? ⟨b, o + c, none⟩ = (Mb.cells m)[c]?) :
    w.cell? ⟨b, o, none⟩ = some (.string m.nm) ∧ w.cell? ⟨b, o + 1, none⟩ = some (.int .i64 m.ty.k) ∧ w.cell? ⟨b, o + 2, none⟩ = some (.int .i64 m.ty.e) ∧ w.cell? ⟨b, o + 3, none⟩ = some (.int .i64 m.ty.n) ∧ w.cell? ⟨b, o + 4, none⟩ = some (.int .i64 m.ty.s) ∧ w.cell? ⟨b, o + 5, none⟩ = some (.int .i64 m.pl) :=
  ⟨h 0 (by omega), h 1 (by omega), h 2 (by omega), h 3 (by omega), h 4 (by omega), h 5 (by omega)⟩
theorem mb6 (m : Mb) : (Mb.cells m).length = 6 := rfl
theorem mb1 (m : Mb) : ∀ u ∈ Mb.cells m, u.oneCell' = true := by
  intro u hu
  simp [Mb.cells] at hu
  rcases hu with rfl | rfl | rfl | rfl | rfl | rfl <;> rfl
def mz : Value := .agg #[.string ⟨#[]⟩, .int .i64 0, .int .i64 0, .int .i64 0, .int .i64 0, .int .i64 0]
theorem info49 : (Try.prog.info? 49).map (fun i => (i.zero, i.size, i.bytes)) = some (some mz, 6, 56) := by kernel_rfl
theorem info47 : (Try.prog.info? 47).map (fun i => (i.zero, i.size, i.bytes)) = some (some mz, 6, 56) := by kernel_rfl
def rz : Value := .agg #[.string ⟨#[]⟩, .slice none 0 0, .int .i64 0]
theorem info37 : (Try.prog.info? 37).map (fun i => (i.zero, i.size, i.bytes)) = some (some rz, 3, 48) := by kernel_rfl

theorem toList_ne {s t : ByteArray} (h : ¬ s = t) : (s.toList == t.toList) = false := by
  rw [ByteArray.toList_eq, ByteArray.toList_eq]
  refine beq_eq_false_iff_ne.2 (fun e => h ?_)
  cases s; cases t
  simp at e
  rw [e]
/-- The first of a name. -/
def findF (nm : ByteArray) : List Mb → Int
  | [] => -1
  | m :: l => if m.nm = nm then 0 else if findF nm l < 0 then -1 else findF nm l + 1
theorem findF_none {nm : ByteArray} : ∀ {l : List Mb}, (∀ x ∈ l, x.nm ≠ nm) → findF nm l = -1
  | [], _ => rfl
  | m :: l, h => by
    have := findF_none (l := l) (fun x hx => h x (List.mem_cons_of_mem _ hx))
    unfold findF
    rw [if_neg (h m (List.mem_cons_self ..)), this]
    rfl
theorem findF_at {nm : ByteArray} : ∀ {l : List Mb} (k : Nat) (hk : k < l.length), (∀ j (hj : j < l.length), j < k → l[j].nm ≠ nm) → l[k].nm = nm → findF nm l = k
  | m :: l, 0, _, _, h => by
    unfold findF
    rw [if_pos (by simpa using h)]
    rfl
  | m :: l, k + 1, hk, hn, h => by
    have := findF_at (l := l) k (by simpa using hk) (fun j hj hjk => by have := hn (j + 1) (by simp; omega) (by omega); simpa using this) (by simpa using h)
    unfold findF
    rw [if_neg (by have := hn 0 (by simp) (by omega); simpa using this), this, if_neg (by omega)]
    simp
theorem findF_lt {nm : ByteArray} {l : List Mb} : findF nm l < 0 ↔ ∀ x ∈ l, x.nm ≠ nm := by
  constructor
  · intro h x hx e
    induction l with
    | nil => cases hx
    | cons m l ih =>
      unfold findF at h
      by_cases e1 : m.nm = nm
      · rw [if_pos e1] at h; omega
      · rw [if_neg e1] at h
        by_cases e2 : findF nm l < 0
        · rcases List.mem_cons.1 hx with rfl | hx
          · exact e1 e
          · exact ih e2 hx
        · rw [if_neg e2] at h; omega
  · intro h
    rw [findF_none h]
    omega
theorem none_all {nm : ByteArray} {l : List Mb} (h : ∀ j (hj : j < l.length), j < l.length → l[j].nm ≠ nm) : ∀ x ∈ l, x.nm ≠ nm := by
  intro x hx
  obtain ⟨i, hi, rfl⟩ := List.getElem_of_mem hx
  exact h i hi hi

set_option maxHeartbeats 1000000 in
theorem named39 {w : World} {v : Value} {l : List Mb} (h : Src Mb.cells w v l) (nm : ByteArray) (hl : l.length ≤ 9000000000000000000) :
    Calls Try.prog 39 #[v, .string nm] w fun e w' => e = .returned (.int .i64 (findF nm l)) ∧ Below w.heap.size w w' := by
  obtain ⟨ao, cap, rfl, hf⟩ := h.form mb6
  have HF := hid' hf
  clear hf h
  go_enter Try.func39, Try.ntmps39
  go_wp2
  go_loopw [9] (fun i wr => ∃ k : Nat, k ≤ l.length ∧ i = .int .i64 k ∧ (∀ j (hj : j < l.length), j < k → l[j].nm ≠ nm) ∧ Below w.heap.size w wr) (fun i _ => l.length - (intOf i).toNat)
  case atStart => exact ⟨0, Nat.zero_le _, rfl, fun j _ hj => by omega, Below.refl _ _⟩
  case round =>
    obtain ⟨k, hk, rfl, hok, hb⟩ := hrel
    have HK := hid' hok
    have HB := hid' hb
    clear hok hb
    by_cases hlt : k < l.length
    · obtain ⟨b, off, rfl, hbl, hcp, hc⟩ := HF.out k hlt
      obtain ⟨c0, c1, c2, c3, c4, c5⟩ := mb_cells (hc wr HB.out)
      clear hc
      by_cases he : l[k].nm = nm
      · have HR : Hid (findF nm l = k) := findF_at k hlt HK.out he
        rw [he] at c0
        clear he
        go_wp2
        go_ret
        exact ⟨by rw [HR.out]; rfl, (HB.out).alloc HB.out.size _⟩
      · have HN : Hid (∀ j (hj : j < l.length), j < k + 1 → l[j].nm ≠ nm) := fun j hj hjk => by
          by_cases e : j = k
          · subst e; exact he
          · exact HK.out j hj (by omega)
        have he' := toList_ne he
        clear he
        go_wp2
        go_roundw
        case rel => exact ⟨k + 1, by omega, by go_num, HN.out, (HB.out).alloc HB.out.size _⟩
        case measure => simp [intOf]; omega
    · have e : k = l.length := by omega
      subst e
      have HR : Hid (findF nm l = -1) := findF_none (none_all HK.out)
      go_wp2
      go_ret
      exact ⟨by rw [HR.out]; rfl, HB.out⟩

set_option maxHeartbeats 1000000 in
theorem find23 {w : World} {v : Value} {l : List Mb} (h : Src Mb.cells w v l) (rn nm : ByteArray) (sz : Int) (hl : l.length ≤ 9000000000000000000) :
    Calls Try.prog 23 #[.agg #[.string rn, v, .int .i64 sz], .string nm] w fun e w' => e = .returned (.int .i64 (findF nm l)) ∧ Below w.heap.size w w' := by
  obtain ⟨ao, cap, rfl, hf⟩ := h.form mb6
  have HF := hid' hf
  clear hf h
  go_enter Try.func23, Try.ntmps23
  go_wp2
  go_loop [5] (fun i => ∃ k : Nat, k ≤ l.length ∧ i = .int .i64 k ∧ (∀ j (hj : j < l.length), j < k → l[j].nm ≠ nm)) (fun i => l.length - (intOf i).toNat)
  case atStart => exact ⟨0, Nat.zero_le _, rfl, fun j _ hj => by omega⟩
  case round =>
    obtain ⟨k, hk, rfl, hok⟩ := hrel
    have HK := hid' hok
    clear hok
    by_cases hlt : k < l.length
    · obtain ⟨b, off, rfl, hbl, hcp, hc⟩ := HF.out k hlt
      obtain ⟨c0, c1, c2, c3, c4, c5⟩ := mb_cells (hc w (Below.refl _ _))
      clear hc
      by_cases he : l[k].nm = nm
      · have HR : Hid (findF nm l = k) := findF_at k hlt HK.out he
        rw [he] at c0
        clear he
        go_wp2
        go_ret
        exact ⟨by rw [HR.out]; rfl, below1 _ _⟩
      · have HN : Hid (∀ j (hj : j < l.length), j < k + 1 → l[j].nm ≠ nm) := fun j hj hjk => by
          by_cases e : j = k
          · subst e; exact he
          · exact HK.out j hj (by omega)
        have he' := toList_ne he
        clear he
        go_wp2
        go_round
        case rel => exact ⟨k + 1, by omega, by go_num, HN.out⟩
        case measure => simp [intOf]; omega
    · have e : k = l.length := by omega
      subst e
      have HR : Hid (findF nm l = -1) := findF_none (none_all HK.out)
      go_wp2
      go_ret
      exact ⟨by rw [HR.out]; rfl, below1 _ _⟩

theorem find22 {w : World} {v : Value} {l : List Mb} (h : Src Mb.cells w v l) (rn nm : ByteArray) (sz : Int) (hl : l.length ≤ 9000000000000000000) :
    Calls Try.prog 22 #[.agg #[.string rn, v, .int .i64 sz], .string nm] w fun e w' => e = .returned (.int .i64 (findF nm l)) ∧ Below w.heap.size w w' := by
  have hN : Hid (∀ W, Below w.heap.size w W → Calls Try.prog 39 #[v, .string nm] W fun e w' => e = .returned (.int .i64 (findF nm l)) ∧ Below W.heap.size W w') := fun W hW => named39 (h.on hW) nm hl
  obtain ⟨ao, cap, rfl⟩ := h.len
  clear h
  go_enter Try.func22, Try.ntmps22
  go_wp2_with (go_at_call 39; refine (hN.out _ (below1 _ _)).mono ?_; rintro e w1 ⟨rfl, hb1⟩)
  go_ret
  exact ⟨rfl, (below1 _ _).trans (hb1.mono (by simp))⟩

set_option maxHeartbeats 1000000 in
/-- Are all records of a size that may be? -/
theorem sized8 {w : World} {v : Value} {l : List Rc} (h : Src Rc.cells w v l) (hl : l.length ≤ 9000000000000000000) :
    Calls Try.prog 8 #[v] w fun e w' => e = .returned (.bool (decide (∀ x ∈ l, 0 ≤ x.sz ∧ x.sz ≤ 65536))) ∧ w' = w := by
  obtain ⟨ao, cap, rfl, hf⟩ := h.form rc3
  have HF := hid' hf
  clear hf h
  go_enter Try.func8, Try.ntmps8
  go_wp2
  go_loop [3] (fun i => ∃ k : Nat, k ≤ l.length ∧ i = .int .i64 k ∧ (∀ j (hj : j < l.length), j < k → 0 ≤ l[j].sz ∧ l[j].sz ≤ 65536)) (fun i => l.length - (intOf i).toNat)
  case atStart => exact ⟨0, Nat.zero_le _, rfl, fun j _ hj => by omega⟩
  case round =>
    obtain ⟨k, hk, rfl, hok⟩ := hrel
    have HK := hid' hok
    clear hok
    by_cases hlt : k < l.length
    · obtain ⟨b, off, rfl, hbl, hcp, hc⟩ := HF.out k hlt
      have c2 : w.cell? ⟨b, off + k * 3 + 2, none⟩ = some (.int .i64 l[k].sz) := hc w (Below.refl _ _) 2 (by omega)
      clear hc
      have HM := hid' (List.getElem_mem hlt)
      by_cases h1 : l[k].sz < 0
      · have HR : Hid (¬ ∀ x ∈ l, 0 ≤ x.sz ∧ x.sz ≤ 65536) := fun h => by have := h _ HM.out; omega
        go_wp2
        go_ret
        exact ⟨by rw [decide_eq_false HR.out]; rfl, rfl⟩
      · by_cases h2 : 65536 < l[k].sz
        · have HR : Hid (¬ ∀ x ∈ l, 0 ≤ x.sz ∧ x.sz ≤ 65536) := fun h => by have := h _ HM.out; omega
          go_wp2
          go_ret
          exact ⟨by rw [decide_eq_false HR.out]; rfl, rfl⟩
        · have HN : Hid (∀ j (hj : j < l.length), j < k + 1 → 0 ≤ l[j].sz ∧ l[j].sz ≤ 65536) := fun j hj hjk => by
            by_cases e : j = k
            · subst e; omega
            · exact HK.out j hj (by omega)
          go_wp2
          go_round
          case rel => exact ⟨k + 1, by omega, by go_num, HN.out⟩
          case measure => simp [intOf]; omega
    · have e : k = l.length := by omega
      subst e
      have HR : Hid (∀ x ∈ l, 0 ≤ x.sz ∧ x.sz ≤ 65536) := fun x hx => by
        obtain ⟨i, hi, rfl⟩ := List.getElem_of_mem hx
        exact HK.out i hi hi
      go_wp2
      go_ret
      exact ⟨by rw [decide_eq_true HR.out]; rfl, rfl⟩

set_option maxRecDepth 100000 in
theorem own11 {w : World} {v : Value} {l : List Rc} (hs : Src Rc.cells w v l) (hl : l.length * 48 ≤ 140737488355328) :
    Calls Try.prog 11 #[v] w fun e w' => ∃ v', e = .returned v' ∧ Own 37 3 Rc.cells w' w.heap.size v' l ∧ Below w.heap.size w w' := by
  obtain ⟨v', w', hr, ho, hg, hloc⟩ := append_own (st := 24) (et := 37) (base := w.heap.size) (v := .slice none 0 0) (l := []) rc3 rc1 Try.underlying24 info37 rfl (by decide) (World.ownsRow_nil _ _ _ _) hs (by simp; omega) (by unfold maxLen; simp; omega) (Nat.le_refl _) 24
  have HO := hid' ho
  have HG : Hid (Below w.heap.size w w') := (Below.refl _ _).grown hg (Nat.le_refl _) (fun k hk => by simp [Value.ownBlock] at hk)
  clear ho hg hloc
  go_enter Try.func11, Try.ntmps11
  go_wp2_with (at_builtin; refine wpList_append_run rfl _ _ rfl _ _ _ rfl rfl hr ?_)
  go_ret
  exact ⟨_, rfl, HO.out, HG.out⟩
end Go.Proofs.Ytmcadffagnbiaaa
