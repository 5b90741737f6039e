/- A row of rows that the call makes; lists turned about. -/
import Derived.Test.YtjhndnhldhmjnaaDoorTk
import Derived.Deep.AppendLies
namespace Go.Proofs.YtjhndnhldhmjnaaDoor
open Go.RowKit Go.Maps
set_option linter.unusedVariables false
set_option linter.unusedSimpArgs false
theorem Src.ints {w : World} {v : Value} {l : List Int} (h : Src icell w v l) :
    ∃ ao cap, v = .slice ao l.length cap ∧ ∀ k (hk : k < l.length), ∃ b off, ao = some ⟨b, off, none⟩ ∧ b < w.heap.size ∧ l.length ≤ cap ∧ ∀ w', Below w.heap.size w w' → w'.cell? ⟨b, off + k, none⟩ = some (.int .i64 l[k]) := by
  obtain ⟨ao, cap, e, hf⟩ := h.form ic1
  refine ⟨ao, cap, e, fun k hk => ?_⟩
  obtain ⟨b, off, e1, hb, hc, h2⟩ := hf k hk
  refine ⟨b, off, e1, hb, hc, fun w' hw => ?_⟩
  have := h2 w' hw 0 (by omega)
  simpa [icell] using this

def vcell (v : Value) : List Value := [v]
theorem vc1 (v : Value) : (vcell v).length = 1 := rfl
theorem flat_v : ∀ l : List Value, flat vcell l = l
  | [] => rfl
  | x :: l => by rw [flat_cons, flat_v l]; rfl
theorem flat_i : ∀ l : List Int, flat icell l = l.map (fun n => .int .i64 n)
  | [] => rfl
  | x :: l => by rw [flat_cons, flat_i l]; rfl
def bcl (b : Bool) : List Value := [.bool b]
theorem bc1 (b : Bool) : (bcl b).length = 1 := rfl
theorem flat_b : ∀ l : List Bool, flat bcl l = l.map (fun b => .bool b)
  | [] => rfl
  | x :: l => by rw [flat_cons, flat_b l]; rfl

/-- The outer row lies in block g, each inner one in a block of its own. -/
structure PM (W : World) (B g : Nat) (vs : List Value) (L : List (List Int)) : Prop where
  len : vs.length = L.length
  row : W.ownsRow B 46 1 (.slice (some ⟨g, 0, none⟩) L.length L.length) L.length vs
  el : ∀ j (h1 : j < vs.length) (h2 : j < L.length), Own 3 1 icell W B vs[j] L[j]
  ne : ∀ i j (hi : i < vs.length) (hj : j < vs.length), i ≠ j → ∀ b, vs[i].ownBlock = some b → vs[j].ownBlock ≠ some b
  ng : ∀ j (hj : j < vs.length), vs[j].ownBlock ≠ some g
theorem PM.g {W : World} {B g : Nat} {vs : List Value} {L : List (List Int)} (h : PM W B g vs L) : B ≤ g ∧ g < W.heap.size := h.row.lt g rfl
theorem PM.on {W W' : World} {B g : Nat} {vs : List Value} {L : List (List Int)} (h : PM W B g vs L) (hb : Below W.heap.size W W') : PM W' B g vs L :=
  have K : Kept (fun _ => False) W W' := Kept.of_below hb
  ⟨h.len, K.owns h.row (fun _ _ e => e), fun j h1 h2 => K.owns (h.el j h1 h2) (fun _ _ e => e), h.ne, h.ng⟩
theorem PM.app {W W2 : World} {B g j : Nat} {vs : List Value} {L : List (List Int)} {v' : Value} {x : Int} {o : Obj} (h : PM W B g vs L) (hj : j < L.length) (hj' : j < vs.length)
    (hown : Own 3 1 icell W2 B v' (L[j] ++ [x])) (hg : (W.alloc o).grownBy W2 vs[j].ownBlock) (hloc : v'.ownBlock = vs[j].ownBlock ∨ v'.ownBlock = some (W.alloc o).heap.size) :
    PM (W2.setCell ⟨g, j, none⟩ v') B g (vs.set j v') (L.set j (L[j] ++ [x])) := by
  have hgl := h.g
  have hbl : ∀ i (hi : i < vs.length) b, vs[i].ownBlock = some b → b < W.heap.size := fun i hi b hb => ((h.el i hi (by rw [← h.len]; exact hi)).lt b hb).2
  have hv' : ∀ b, v'.ownBlock = some b → b ≠ g ∧ (b = W.heap.size + 1 ∨ vs[j].ownBlock = some b) := fun b hb => by
    rcases hloc with e | e
    · rw [hb] at e
      exact ⟨fun e2 => h.ng j hj' (by rw [← e, e2]), .inr e.symm⟩
    · rw [hb] at e
      have : b = W.heap.size + 1 := by simpa using e
      exact ⟨by omega, .inl this⟩
  have hr1 := (h.row.alloc o).kept hg (.inr (fun e => h.ng j hj' e.symm))
  have K : Kept (fun k => k = g) W2 (W2.setCell ⟨g, j, none⟩ v') := (Kept.rfl (fun k => k = g) W2).set (.inl (Eq.refl _)) _
  refine ⟨by rw [List.length_set, List.length_set, h.len], ?_, ?_, ?_, ?_⟩
  · have := (hr1.stored j v').1
    rw [List.length_set]
    exact this
  · intro i h1 h2
    rw [List.length_set] at h1 h2
    by_cases e : i = j
    · subst e
      rw [List.getElem_set_self, List.getElem_set_self]
      exact K.owns hown (fun b hb e => (hv' b hb).1 e)
    · rw [List.getElem_set_ne (Ne.symm e), List.getElem_set_ne (Ne.symm e)]
      refine K.owns (World.ownsRow.kept (World.ownsRow.alloc (h.el i h1 h2) o) hg ?_) (fun b hb e2 => h.ng i h1 (by rw [hb, e2]))
      cases hb : vs[i].ownBlock with
      | none => exact .inl rfl
      | some b => exact .inr (fun e2 => h.ne i j h1 hj' e b hb e2.symm)
  · intro i k hi0 hk0 hik b hb
    have hi : i < vs.length := by rw [List.length_set] at hi0; exact hi0
    have hk : k < vs.length := by rw [List.length_set] at hk0; exact hk0
    by_cases e : i = j
    · subst e
      rw [List.getElem_set_self] at hb
      rw [List.getElem_set_ne hik]
      intro hb2
      rcases (hv' b hb).2 with e2 | e2
      · have := hbl k hk b hb2; omega
      · exact h.ne i k hi hk hik b e2 hb2
    · rw [List.getElem_set_ne (Ne.symm e)] at hb
      by_cases e3 : k = j
      · subst e3
        rw [List.getElem_set_self]
        intro hb2
        rcases (hv' b hb2).2 with e2 | e2
        · have := hbl i hi b hb; omega
        · exact h.ne i k hi hk hik b hb e2
      · rw [List.getElem_set_ne (Ne.symm e3)]
        exact h.ne i k hi hk hik b hb
  · intro i hi
    rw [List.length_set] at hi
    by_cases e : i = j
    · subst e
      rw [List.getElem_set_self]
      exact fun hb => (hv' g hb).1 rfl
    · rw [List.getElem_set_ne (Ne.symm e)]
      exact h.ng i hi
theorem PM.appBelow {W W2 : World} {B g j : Nat} {vs : List Value} {L : List (List Int)} {v' : Value} {o : Obj} (h : PM W B g vs L) (hB : B ≤ W.heap.size) (hj : j < L.length) (hj' : j < vs.length)
    (hg : (W.alloc o).grownBy W2 vs[j].ownBlock) : Below B W (W2.setCell ⟨g, j, none⟩ v') := by
  have h1 : Below B W W2 := ((Below.refl B W).alloc hB o).grown hg (by simp; omega) (fun b hb => ((h.el j hj' hj).lt b hb).1)
  have h2 : Below B W2 (W2.setCell ⟨g, j, none⟩ v') := ((Kept.rfl (fun k => k = g) W2).set (.inl (Eq.refl _)) _).below (Nat.le_trans hB h1.size) (fun k e => e ▸ h.g.1)
  exact h1.trans h2

def svz : Value := .slice none 0 0
theorem info41 : (Tryd.prog.info? 46).map (fun i => (i.zero, i.size, i.bytes)) = some (some (.slice none 0 0), 1, 24) := by kernel_rfl
theorem info3 : (Tryd.prog.info? 3).map (fun i => (i.zero, i.size, i.bytes)) = some (some (.int .i64 0), 1, 8) := by kernel_rfl
theorem info4 : (Tryd.prog.info? 4).map (fun i => (i.zero, i.size, i.bytes)) = some (some (.bool false), 1, 1) := by kernel_rfl
theorem made1 (v : Value) (n : Nat) : (madeCells #[v] (n * 1)).toList = List.replicate n v := by
  have e : ∀ j, j % 1 = 0 := fun j => by omega
  simp only [madeCells, Array.toList_map, Array.toList_range, Nat.mul_one]
  refine List.ext_getElem (by simp) (fun i h1 h2 => ?_)
  simp [e]
theorem make_rowv {et st : TypeId} {v : Value} {by_ : Nat} (hvc : v.cells = #[v]) (w : World) {base n : Nat} (hst : Tryd.prog.underlying st = some (.slice et)) (hi' : (Tryd.prog.info? et).map (fun i => (i.zero, i.size, i.bytes)) = some (some v, 1, by_)) (hn : n * by_ ≤ 140737488355328) (hn2 : n ≤ 140737488355328) (hb : base ≤ w.heap.size) :
    ∃ w', (Instr.makeSlice st (.int .i64 (n : Nat)) (.int .i64 (n : Nat))).run Tryd.prog w = .ok (.slice (some ⟨w.heap.size, 0, none⟩) n n) w' ∧ w'.ownsRow base et 1 (.slice (some ⟨w.heap.size, 0, none⟩) n n) n (List.replicate n v) ∧ Below w.heap.size w w' ∧ w'.heap.size = w.heap.size + 1 := by
  obtain ⟨i0, hi, e0, e1, e2⟩ := info_parts hi'
  have hmul : ((by_ : Nat) : Int) * ((n : Nat) : Int) ≤ 281474976710656 := by
    have : ((by_ : Int) * (n : Int)) = ((n * by_ : Nat) : Int) := by rw [Int.mul_comm]; simp
    omega
  have hr := run_make (P := Tryd.prog) w st et i0 v hst hi e0 .i64 .i64 (n : Nat) (n : Nat) (by omega) (Int.le_refl _) (by rw [e2]; exact hmul) (by omega)
  rw [Int.toNat_natCast, e1, hvc] at hr
  refine ⟨_, hr, ?_, below1 _ _, by simp⟩
  refine ⟨by simp, .inr ⟨w.heap.size, n, _, rfl, hb, by rw [heap_alloc_new], Nat.le_refl _, by unfold maxLen; omega, size_madeCells _ _, ?_⟩⟩
  rw [List.take_of_length_le (by rw [Array.length_toList, size_madeCells]; exact Nat.le_refl _)]
  exact made1 v n
theorem make_sl (w : World) {base n : Nat} (hn : n * 64 ≤ big) (hb : base ≤ w.heap.size) :
    ∃ w', (Instr.makeSlice 64 (.int .i64 (n : Nat)) (.int .i64 (n : Nat))).run Tryd.prog w = .ok (.slice (some ⟨w.heap.size, 0, none⟩) n n) w' ∧ PM w' base w.heap.size (List.replicate n svz) (List.replicate n []) ∧ Below w.heap.size w w' ∧ w'.heap.size = w.heap.size + 1 := by
  unfold big at hn
  obtain ⟨w', h1, h2, h3, h4⟩ := make_rowv (v := .slice none 0 0) rfl w (base := base) Tryd.underlying64 info41 (by omega : n * 24 ≤ _) (by omega) hb
  refine ⟨w', h1, ⟨by simp, by simpa [svz] using h2, ?_, ?_, ?_⟩, h3, h4⟩
  · intro j k1 k2
    rw [List.getElem_replicate, List.getElem_replicate]
    exact World.ownsRow_nil _ _ _ _
  · intro i j hi hj _ b hb
    rw [List.getElem_replicate] at hb
    cases hb
  · intro j hj hb
    rw [List.getElem_replicate] at hb
    cases hb

/-- One number more at its place. -/
def addP (L : List (List Int)) (b q0 : Int) : List (List Int) :=
  if 0 ≤ q0 ∧ q0 < L.length then (if b ∈ L.getD q0.toNat [] then L else L.set q0.toNat (L.getD q0.toNat [] ++ [b])) else L
def addB (L : List (List Int)) (b : Int) (tos : List Int) : List (List Int) := tos.foldl (fun L t => addP L b t) L
def turnN (I : List (List Int)) : Nat → List (List Int)
  | 0 => List.replicate I.length []
  | k + 1 => addB (turnN I k) k ((I[k]?).getD [])
/-- Lists turned about. -/
def turnF (I : List (List Int)) : List (List Int) := turnN I I.length
def hasF (l : List Int) (n : Int) : Bool := decide (n ∈ l)
theorem addP_len (L : List (List Int)) (b q0 : Int) : (addP L b q0).length = L.length := by
  unfold addP
  split
  · split
    · rfl
    · simp
  · rfl
theorem addB_len : ∀ (tos : List Int) (L : List (List Int)) (b : Int), (addB L b tos).length = L.length
  | [], L, b => rfl
  | t :: tos, L, b => by
    have := addB_len tos (addP L b t) b
    unfold addB at *
    rw [List.foldl_cons, this, addP_len]
theorem turnN_len (bl : List (List Int)) : ∀ k, (turnN bl k).length = bl.length
  | 0 => by simp [turnN]
  | k + 1 => by rw [turnN, addB_len, turnN_len bl k]
theorem addB_snoc (L : List (List Int)) (b : Int) (tos : List Int) (j : Nat) (hj : j < tos.length) : addB L b (tos.take (j + 1)) = addP (addB L b (tos.take j)) b tos[j] := by
  unfold addB
  rw [take_snoc tos j hj, List.foldl_append]
  rfl
theorem turnN_succ (bl : List (List Int)) (k : Nat) (hk : k < bl.length) : turnN bl (k + 1) = addB (turnN bl k) k bl[k] := by
  rw [turnN, List.getElem?_eq_getElem hk]
  rfl
/-- What is so in block k's round. -/
def Inv (k : Nat) (l : List Int) : Prop := (∀ x ∈ l, x ≤ k) ∧ ((k : Int) ∈ l → l.getLast? = some (k : Int)) ∧ ((k : Int) ∉ l → l.length ≤ k) ∧ l.length ≤ k + 1
theorem inv_addP {L : List (List Int)} {k : Nat} {q0 : Int} (h : ∀ l ∈ L, Inv k l) : ∀ l ∈ addP L k q0, Inv k l := by
  unfold addP
  split
  · rename_i hto
    split
    · exact h
    · rename_i hb
      intro l hl
      have hlt : q0.toNat < L.length := by omega
      have e : L.getD q0.toNat [] = L[q0.toNat] := by simp [hlt]
      rw [e] at hb hl
      rcases List.mem_or_eq_of_mem_set hl with hl | rfl
      · exact h l hl
      · obtain ⟨a, b, c, d⟩ := h _ (List.getElem_mem hlt)
        refine ⟨fun x hx => ?_, fun _ => by simp, fun hn => absurd (by simp) hn, by rw [List.length_append]; have := c hb; simp; omega⟩
        rcases List.mem_append.1 hx with hx | hx
        · exact a x hx
        · simp at hx; omega
  · exact h
theorem inv_addB : ∀ (tos : List Int) {L : List (List Int)} {k : Nat}, (∀ l ∈ L, Inv k l) → ∀ l ∈ addB L k tos, Inv k l
  | [], L, k, h => h
  | t :: tos, L, k, h => by
    have := inv_addB tos (inv_addP (q0 := t) h)
    unfold addB at *
    rw [List.foldl_cons]
    exact this
theorem inv_turnN (bl : List (List Int)) : ∀ k, ∀ l ∈ turnN bl k, Inv k l
  | 0 => fun l hl => by
    have := List.eq_of_mem_replicate hl
    subst this
    exact ⟨by simp, by simp, by simp, by simp⟩
  | k + 1 => fun l hl => by
    rw [turnN] at hl
    obtain ⟨a, b, c, d⟩ := inv_addB _ (inv_turnN bl k) l hl
    have hn : ((k + 1 : Nat) : Int) ∉ l := fun h => by have := a _ h; omega
    exact ⟨fun x hx => by have := a x hx; omega, fun h => absurd h hn, fun _ => by omega, by omega⟩
theorem inv_in {L : List (List Int)} {k : Nat} {q0 : Int} (h : ∀ l ∈ L, Inv k l) (hlt : q0.toNat < L.length) : Inv k (L.getD q0.toNat []) := by
  have e : L.getD q0.toNat [] = L[q0.toNat] := by simp [hlt]
  rw [e]
  exact h _ (List.getElem_mem hlt)
theorem inv_last {k : Nat} {l : List Int} (h : Inv k l) : decide (l.getLast? = some (k : Int)) = hasF l k := by
  unfold hasF
  by_cases e : (k : Int) ∈ l
  · rw [decide_eq_true e, decide_eq_true (h.2.1 e)]
  · rw [decide_eq_false e, decide_eq_false (fun e2 => e (List.mem_of_getLast? e2))]
theorem addP_out {L : List (List Int)} {b q0 : Int} (h : ¬ (0 ≤ q0 ∧ q0 < L.length)) : addP L b q0 = L := by unfold addP; rw [if_neg h]
theorem addP_has {L : List (List Int)} {b q0 : Int} (h : hasF (L.getD q0.toNat []) b = true) : addP L b q0 = L := by
  unfold addP
  split
  · rw [if_pos (of_decide_eq_true h)]
  · rfl
theorem addP_new {L : List (List Int)} {b q0 : Int} (h : 0 ≤ q0 ∧ q0 < L.length) (hn : hasF (L.getD q0.toNat []) b = false) : addP L b q0 = L.set q0.toNat (L.getD q0.toNat [] ++ [b]) := by
  unfold addP
  rw [if_pos h, if_neg (of_decide_eq_false hn)]
theorem endsWith57 {w : World} {v : Value} {l : List Int} (h : Src icell w v l) (hl : l.length * 8 ≤ big) (n : Int) :
    Calls Tryd.prog 57 #[v, .int .i64 n] w fun e w' => e = .returned (.bool (decide (l.getLast? = some n))) ∧ w' = w := by
  obtain ⟨ao, cap, rfl, hf⟩ := h.ints
  unfold big at hl
  have HF := hid' hf
  clear hf h
  by_cases h0 : l.length = 0
  · have e : l = [] := List.eq_nil_of_length_eq_zero h0
    subst e
    clear h0
    simp only [List.length_nil, List.getLast?_nil]
    go_enter Tryd.func57, Tryd.ntmps57
    go_wp2
    go_ret
    exact ⟨rfl, rfl⟩
  · obtain ⟨b, off, rfl, hbl, hcp, hc⟩ := HF.out (l.length - 1) (by omega)
    have c0 := hc w (Below.refl _ _)
    clear hc
    have e1 : l.getLast? = some l[l.length - 1] := by rw [List.getLast?_eq_getElem?, List.getElem?_eq_getElem]
    rw [e1]
    have hi : ((l.length : Int) - 1).toNat = l.length - 1 := by omega
    have hpos : 0 < l.length := by omega
    clear e1
    by_cases he : l[l.length - 1] = n
    · rw [decide_eq_true (by rw [he])]
      rw [he] at c0
      clear he
      go_enter Tryd.func57, Tryd.ntmps57
      go_wp2
      go_ret
      exact ⟨rfl, rfl⟩
    · rw [decide_eq_false (fun h => he (Option.some.inj h))]
      go_enter Tryd.func57, Tryd.ntmps57
      go_wp2
      go_ret
      exact ⟨by simp [he], rfl⟩
end Go.Proofs.YtjhndnhldhmjnaaDoor
