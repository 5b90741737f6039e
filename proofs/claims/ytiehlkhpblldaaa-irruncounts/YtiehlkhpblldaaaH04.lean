/- A row of rows that the call makes: each block's predecessors. -/
import Derived.Test.YtiehlkhpblldaaaH00
import Derived.Test.YtiehlkhpblldaaaH02
import Derived.Test.YtiehlkhpblldaaaH03
import Derived.WalkSmall
import Derived.Deep.RegionLaw
set_option linter.unusedVariables false
set_option linter.unusedSimpArgs false
set_option maxRecDepth 20000
set_option maxHeartbeats 8000000
namespace Go.Proofs.Ytiehlkhpblldaaa
open Go.RowKit Go.Maps

/-- The outer row lies in block g, each inner one in a block of its own. -/
structure PM (W : World) (B g : Nat) (vs : List Value) (L : List (List Int)) : Prop where
  len : vs.length = L.length
  row : W.ownsRow B 34 1 (.slice (some ⟨g, 0, none⟩) L.length L.length) L.length vs
  el : ∀ j (h1 : j < vs.length) (h2 : j < L.length), Own 3 1 icell W B vs[j] L[j]
  ne : ∀ i j (hi : i < vs.length) (hj : j < vs.length), i ≠ j → ∀ b, vs[i].ownBlock = some b → vs[j].ownBlock ≠ some b
  ng : ∀ j (hj : j < vs.length), vs[j].ownBlock ≠ some g
theorem PM.g {W : World} {B g : Nat} {vs : List Value} {L : List (List Int)} (h : PM W B g vs L) : B ≤ g ∧ g < W.heap.size := h.row.lt g rfl
theorem PM.on {W W' : World} {B g : Nat} {vs : List Value} {L : List (List Int)} (h : PM W B g vs L) (hb : Below W.heap.size W W') : PM W' B g vs L :=
  have K : Kept (fun _ => False) W W' := Kept.of_below hb
  ⟨h.len, K.owns h.row (fun _ _ e => e), fun j h1 h2 => K.owns (h.el j h1 h2) (fun _ _ e => e), h.ne, h.ng⟩
theorem PM.app {W W2 : World} {B g j : Nat} {vs : List Value} {L : List (List Int)} {v' : Value} {x : Int} {o : Obj} (h : PM W B g vs L) (hj : j < L.length) (hj' : j < vs.length)
    (hown : Own 3 1 icell W2 B v' (L[j] ++ [x])) (hg : (W.alloc o).grownBy W2 vs[j].ownBlock) (hloc : v'.ownBlock = vs[j].ownBlock ∨ v'.ownBlock = some (W.alloc o).heap.size) :
    PM (W2.setCell ⟨g, j, none⟩ v') B g (vs.set j v') (L.set j (L[j] ++ [x])) := by
  have hgl := h.g
  have hbl : ∀ i (hi : i < vs.length) b, vs[i].ownBlock = some b → b < W.heap.size := fun i hi b hb => ((h.el i hi (by rw [← h.len]; exact hi)).lt b hb).2
  have hv' : ∀ b, v'.ownBlock = some b → b ≠ g ∧ (b = W.heap.size + 1 ∨ vs[j].ownBlock = some b) := fun b hb => by
    rcases hloc with e | e
    · rw [hb] at e
      exact ⟨fun e2 => h.ng j hj' (by rw [← e, e2]), .inr e.symm⟩
    · rw [hb] at e
      have : b = W.heap.size + 1 := by simpa using e
      exact ⟨by omega, .inl this⟩
  have hr1 := (h.row.alloc o).kept hg (.inr (fun e => h.ng j hj' e.symm))
  have K : Kept (fun k => k = g) W2 (W2.setCell ⟨g, j, none⟩ v') := (Kept.rfl (fun k => k = g) W2).set (.inl (Eq.refl _)) _
  refine ⟨by rw [List.length_set, List.length_set, h.len], ?_, ?_, ?_, ?_⟩
  · have := (hr1.stored j v').1
    rw [List.length_set]
    exact this
  · intro i h1 h2
    rw [List.length_set] at h1 h2
    by_cases e : i = j
    · subst e
      rw [List.getElem_set_self, List.getElem_set_self]
      exact K.owns hown (fun b hb e => (hv' b hb).1 e)
    · rw [List.getElem_set_ne (Ne.symm e), List.getElem_set_ne (Ne.symm e)]
      refine K.owns (World.ownsRow.kept (World.ownsRow.alloc (h.el i h1 h2) o) hg ?_) (fun b hb e2 => h.ng i h1 (by rw [hb, e2]))
      cases hb : vs[i].ownBlock with
      | none => exact .inl rfl
      | some b => exact .inr (fun e2 => h.ne i j h1 hj' e b hb e2.symm)
  · intro i k hi0 hk0 hik b hb
    have hi : i < vs.length := by rw [List.length_set] at hi0; exact hi0
    have hk : k < vs.length := by rw [List.length_set] at hk0; exact hk0
    by_cases e : i = j
    · subst e
      rw [List.getElem_set_self] at hb
      rw [List.getElem_set_ne hik]
      intro hb2
      rcases (hv' b hb).2 with e2 | e2
      · have := hbl k hk b hb2; omega
      · exact h.ne i k hi hk hik b e2 hb2
    · rw [List.getElem_set_ne (Ne.symm e)] at hb
      by_cases e3 : k = j
      · subst e3
        rw [List.getElem_set_self]
        intro hb2
        rcases (hv' b hb2).2 with e2 | e2
        · have := hbl i hi b hb; omega
        · exact h.ne i k hi hk hik b hb e2
      · rw [List.getElem_set_ne (Ne.symm e3)]
        exact h.ne i k hi hk hik b hb
  · intro i hi
    rw [List.length_set] at hi
    by_cases e : i = j
    · subst e
      rw [List.getElem_set_self]
      exact fun hb => (hv' g hb).1 rfl
    · rw [List.getElem_set_ne (Ne.symm e)]
      exact h.ng i hi
theorem PM.appBelow {W W2 : World} {B g j : Nat} {vs : List Value} {L : List (List Int)} {v' : Value} {o : Obj} (h : PM W B g vs L) (hB : B ≤ W.heap.size) (hj : j < L.length) (hj' : j < vs.length)
    (hg : (W.alloc o).grownBy W2 vs[j].ownBlock) : Below B W (W2.setCell ⟨g, j, none⟩ v') := by
  have h1 : Below B W W2 := ((Below.refl B W).alloc hB o).grown hg (by simp; omega) (fun b hb => ((h.el j hj' hj).lt b hb).1)
  have h2 : Below B W2 (W2.setCell ⟨g, j, none⟩ v') := ((Kept.rfl (fun k => k = g) W2).set (.inl (Eq.refl _)) _).below (Nat.le_trans hB h1.size) (fun k e => e ▸ h.g.1)
  exact h1.trans h2

def svz : Value := .slice none 0 0
theorem info41 : (Try.prog.info? 34).map (fun i => (i.zero, i.size, i.bytes)) = some (some (.slice none 0 0), 1, 24) := by kernel_rfl
theorem info3 : (Try.prog.info? 3).map (fun i => (i.zero, i.size, i.bytes)) = some (some (.int .i64 0), 1, 8) := by kernel_rfl
theorem made1 (v : Value) (n : Nat) : (madeCells #[v] (n * 1)).toList = List.replicate n v := by
  have e : ∀ j, j % 1 = 0 := fun j => by omega
  simp only [madeCells, Array.toList_map, Array.toList_range, Nat.mul_one]
  refine List.ext_getElem (by simp) (fun i h1 h2 => ?_)
  simp [e]
theorem make_row {et st : TypeId} {v : Value} {by_ : Nat} (hvc : v.cells = #[v]) (w : World) {base n : Nat} (hst : Try.prog.underlying st = some (.slice et)) (hi' : (Try.prog.info? et).map (fun i => (i.zero, i.size, i.bytes)) = some (some v, 1, by_)) (hn : n * by_ ≤ 140737488355328) (hn2 : n ≤ 140737488355328) (hb : base ≤ w.heap.size) :
    ∃ w', (Instr.makeSlice st (.int .i64 (n : Nat)) (.int .i64 (n : Nat))).run Try.prog w = .ok (.slice (some ⟨w.heap.size, 0, none⟩) n n) w' ∧ w'.ownsRow base et 1 (.slice (some ⟨w.heap.size, 0, none⟩) n n) n (List.replicate n v) ∧ Below w.heap.size w w' ∧ w'.heap.size = w.heap.size + 1 := by
  obtain ⟨i0, hi, e0, e1, e2⟩ := info_parts hi'
  have hmul : ((by_ : Nat) : Int) * ((n : Nat) : Int) ≤ 281474976710656 := by
    have : ((by_ : Int) * (n : Int)) = ((n * by_ : Nat) : Int) := by rw [Int.mul_comm]; simp
    omega
  have hr := run_make (P := Try.prog) w st et i0 v hst hi e0 .i64 .i64 (n : Nat) (n : Nat) (by omega) (Int.le_refl _) (by rw [e2]; exact hmul) (by omega)
  rw [Int.toNat_natCast, e1, hvc] at hr
  refine ⟨_, hr, ?_, below1 _ _, by simp⟩
  refine ⟨by simp, .inr ⟨w.heap.size, n, _, rfl, hb, by rw [heap_alloc_new], Nat.le_refl _, by unfold maxLen; omega, size_madeCells _ _, ?_⟩⟩
  rw [List.take_of_length_le (by rw [Array.length_toList, size_madeCells]; exact Nat.le_refl _)]
  exact made1 v n
theorem make_sl (w : World) {base n : Nat} (hn : n * 64 ≤ big) (hb : base ≤ w.heap.size) :
    ∃ w', (Instr.makeSlice 94 (.int .i64 (n : Nat)) (.int .i64 (n : Nat))).run Try.prog w = .ok (.slice (some ⟨w.heap.size, 0, none⟩) n n) w' ∧ PM w' base w.heap.size (List.replicate n svz) (List.replicate n []) ∧ Below w.heap.size w w' ∧ w'.heap.size = w.heap.size + 1 := by
  unfold big at hn
  obtain ⟨w', h1, h2, h3, h4⟩ := make_row (v := .slice none 0 0) rfl w (base := base) Try.underlying94 info41 (by omega : n * 24 ≤ _) (by omega) hb
  refine ⟨w', h1, ⟨by simp, by simpa [svz] using h2, ?_, ?_, ?_⟩, h3, h4⟩
  · intro j k1 k2
    rw [List.getElem_replicate, List.getElem_replicate]
    exact World.ownsRow_nil _ _ _ _
  · intro i j hi hj _ b hb
    rw [List.getElem_replicate] at hb
    cases hb
  · intro j hj hb
    rw [List.getElem_replicate] at hb
    cases hb

/-- One predecessor more. -/
def addP (L : List (List Int)) (b to : Int) : List (List Int) :=
  if 0 ≤ to ∧ to < L.length then (if b ∈ L.getD to.toNat [] then L else L.set to.toNat (L.getD to.toNat [] ++ [b])) else L
def addB (L : List (List Int)) (b : Int) (tos : List Int) : List (List Int) := tos.foldl (fun L t => addP L b t) L
def predsN (bl : List Bl) : Nat → List (List Int)
  | 0 => List.replicate bl.length []
  | k + 1 => addB (predsN bl k) k ((bl[k]?.map Bl.to).getD [])
/-- Each block's predecessors. -/
def predsF (bl : List Bl) : List (List Int) := predsN bl bl.length
theorem addP_len (L : List (List Int)) (b to : Int) : (addP L b to).length = L.length := by
  unfold addP
  split
  · split
    · rfl
    · simp
  · rfl
theorem addB_len : ∀ (tos : List Int) (L : List (List Int)) (b : Int), (addB L b tos).length = L.length
  | [], L, b => rfl
  | t :: tos, L, b => by
    have := addB_len tos (addP L b t) b
    unfold addB at *
    rw [List.foldl_cons, this, addP_len]
theorem predsN_len (bl : List Bl) : ∀ k, (predsN bl k).length = bl.length
  | 0 => by simp [predsN]
  | k + 1 => by rw [predsN, addB_len, predsN_len bl k]
theorem addB_snoc (L : List (List Int)) (b : Int) (tos : List Int) (j : Nat) (hj : j < tos.length) : addB L b (tos.take (j + 1)) = addP (addB L b (tos.take j)) b tos[j] := by
  unfold addB
  rw [take_snoc tos j hj, List.foldl_append]
  rfl
theorem predsN_succ (bl : List Bl) (k : Nat) (hk : k < bl.length) : predsN bl (k + 1) = addB (predsN bl k) k bl[k].to := by
  rw [predsN, List.getElem?_eq_getElem hk]
  rfl
/-- What is so in block k's round. -/
def Inv (k : Nat) (l : List Int) : Prop := (∀ x ∈ l, x ≤ k) ∧ ((k : Int) ∈ l → l.getLast? = some (k : Int)) ∧ ((k : Int) ∉ l → l.length ≤ k) ∧ l.length ≤ k + 1
theorem inv_addP {L : List (List Int)} {k : Nat} {to : Int} (h : ∀ l ∈ L, Inv k l) : ∀ l ∈ addP L k to, Inv k l := by
  unfold addP
  split
  · rename_i hto
    split
    · exact h
    · rename_i hb
      intro l hl
      have hlt : to.toNat < L.length := by omega
      have e : L.getD to.toNat [] = L[to.toNat] := by simp [hlt]
      rw [e] at hb hl
      rcases List.mem_or_eq_of_mem_set hl with hl | rfl
      · exact h l hl
      · obtain ⟨a, b, c, d⟩ := h _ (List.getElem_mem hlt)
        refine ⟨fun x hx => ?_, fun _ => by simp, fun hn => absurd (by simp) hn, by rw [List.length_append]; have := c hb; simp; omega⟩
        rcases List.mem_append.1 hx with hx | hx
        · exact a x hx
        · simp at hx; omega
  · exact h
theorem inv_addB : ∀ (tos : List Int) {L : List (List Int)} {k : Nat}, (∀ l ∈ L, Inv k l) → ∀ l ∈ addB L k tos, Inv k l
  | [], L, k, h => h
  | t :: tos, L, k, h => by
    have := inv_addB tos (inv_addP (to := t) h)
    unfold addB at *
    rw [List.foldl_cons]
    exact this
theorem inv_predsN (bl : List Bl) : ∀ k, ∀ l ∈ predsN bl k, Inv k l
  | 0 => fun l hl => by
    have := List.eq_of_mem_replicate hl
    subst this
    exact ⟨by simp, by simp, by simp, by simp⟩
  | k + 1 => fun l hl => by
    rw [predsN] at hl
    obtain ⟨a, b, c, d⟩ := inv_addB _ (inv_predsN bl k) l hl
    have hn : ((k + 1 : Nat) : Int) ∉ l := fun h => by have := a _ h; omega
    exact ⟨fun x hx => by have := a x hx; omega, fun h => absurd h hn, fun _ => by omega, by omega⟩
theorem inv_last {k : Nat} {l : List Int} (h : Inv k l) : decide (l.getLast? = some (k : Int)) = hasF l k := by
  unfold hasF
  by_cases e : (k : Int) ∈ l
  · rw [decide_eq_true e, decide_eq_true (h.2.1 e)]
  · rw [decide_eq_false e, decide_eq_false (fun e2 => e (List.mem_of_getLast? e2))]
theorem addP_out {L : List (List Int)} {b to : Int} (h : ¬ (0 ≤ to ∧ to < L.length)) : addP L b to = L := by unfold addP; rw [if_neg h]
theorem addP_has {L : List (List Int)} {b to : Int} (h : hasF (L.getD to.toNat []) b = true) : addP L b to = L := by
  unfold addP
  split
  · rw [if_pos (of_decide_eq_true h)]
  · rfl
theorem addP_new {L : List (List Int)} {b to : Int} (h : 0 ≤ to ∧ to < L.length) (hn : hasF (L.getD to.toNat []) b = false) : addP L b to = L.set to.toNat (L.getD to.toNat [] ++ [b]) := by
  unfold addP
  rw [if_pos h, if_neg (of_decide_eq_false hn)]
end Go.Proofs.Ytiehlkhpblldaaa
namespace Go.Proofs.Ytiehlkhpblldaaa
open Go.RowKit Go.Maps

/-- A register: its value, and the call that gave it. -/
structure Rg where
  v : Int
  o : Int
def Rg.cells (x : Rg) : List Value := [.int .u32 x.v, .int .i64 x.o]
/-- A call under way. -/
structure Cl where
  no : Int
  fn : Nat
  sl : Int
  hd : Nat
  bk : Nat
  nx : Nat
def Cl.cells (x : Cl) : List Value := [.int .i64 x.no, .int .i64 x.fn, .int .u32 x.sl, .int .i64 x.hd, .int .i64 x.bk, .int .i64 x.nx]
/-- What a register was. -/
structure Hd where
  fn : Nat
  ix : Nat
  was : Rg
def Hd.cells (bb : Nat → Nat) (x : Hd) : List Value := [.pointer (some ⟨bb x.fn, x.ix * 2, none⟩), .int .u32 x.was.v, .int .i64 x.was.o]
def bcel (n : Int) : List Value := [.int .u8 n]
def ucel (n : Int) : List Value := [.int .u32 n]
theorem rg2 (x : Rg) : (Rg.cells x).length = 2 := rfl
theorem cl6 (x : Cl) : (Cl.cells x).length = 6 := rfl
theorem hd3 (bb : Nat → Nat) (x : Hd) : (Hd.cells bb x).length = 3 := rfl
theorem by1 (x : Int) : (bcel x).length = 1 := rfl
theorem uc1 (x : Int) : (ucel x).length = 1 := rfl
/-- What never turns. -/
structure Cst where
  p : Pg
  input : ByteArray
  deep : Int
  sf : Int
  sa : Int
  sv : Value
  sl : List Int
  room : Option (Nat × Array Value)
/-- What turns. -/
structure St where
  banks : List (Option (List Rg))
  hidden : List Hd
  gl : List Int
  sk : List Int
  low : Int
  calls : List Cl
  begun : Int
  ch : List Int
  out : List Int
  fuel : Int
  times : Int
  kind : Int
  code : Int
  trap : Int
  used : Nat
/-- Where its lists lie. -/
structure Vs where
  bv : Value
  hv : Value
  gv : Value
  kv : Value
  cv : Value
  xv : Value
  ov : Value
  bb : Nat → Nat
/-- What the run holds of the innermost call. -/
structure Tp where
  t : Value
  f : Value
  b : Value
def bankV (bb : Nat → Nat) (i : Nat) : Option (List Rg) → Value
  | none => .slice none 0 0
  | some l => .slice (some ⟨bb i, 0, none⟩) l.length l.length
def rcells (C : Cst) (s : St) (x : Vs) (t : Tp) : Array Value :=
  #[C.p.fv, .int .i64 C.p.global, C.p.dv, .int .i64 C.p.main, x.bv, x.hv, x.gv, x.kv, .int .i64 s.low, x.cv, .int .i64 s.begun, t.t, t.f, t.b, x.xv, .string C.input, x.ov, .int .i64 s.fuel, .int .i64 C.deep, .int .i64 C.sf, .int .i64 C.sa, C.sv, .int .i64 s.times, .int .i64 s.kind, .int .i32 s.code, .int .i64 s.trap, .string ⟨#[]⟩, .int .i64 s.used]
/-- Its lists. -/
structure RowsM (C : Cst) (W0 W : World) (s : St) (x : Vs) : Prop where
  below : Below W0.heap.size W0 W
  pg : Pg.ok W0 C.p
  sv : Src icell W0 C.sv C.sl
  svl : C.sl.length * 8 ≤ big
  bs : W.ownsRow W0.heap.size 69 1 x.bv s.banks.length (s.banks.mapIdx (bankV x.bb))
  bk : ∀ i l, s.banks[i]? = some (some l) → W.ownsRow W0.heap.size 109 2 (.slice (some ⟨x.bb i, 0, none⟩) l.length l.length) l.length (flat Rg.cells l)
  bi : ∀ i j l m, s.banks[i]? = some (some l) → s.banks[j]? = some (some m) → x.bb i = x.bb j → i = j
  hs : W.ownsRow W0.heap.size 111 3 x.hv s.hidden.length (flat (Hd.cells x.bb) s.hidden)
  gs : W.ownsRow W0.heap.size 5 1 x.gv s.gl.length (flat bcel s.gl)
  ks : W.ownsRow W0.heap.size 5 1 x.kv s.sk.length (flat bcel s.sk)
  os : W.ownsRow W0.heap.size 5 1 x.ov s.out.length (flat bcel s.out)
  gk : ∀ b, x.gv.ownBlock = some b → x.kv.ownBlock ≠ some b
  go : ∀ b, x.gv.ownBlock = some b → x.ov.ownBlock ≠ some b
  ko : ∀ b, x.kv.ownBlock = some b → x.ov.ownBlock ≠ some b
  cs : W.ownsRow W0.heap.size 86 6 x.cv s.calls.length (flat Cl.cells s.calls)
  xs : W.ownsRow W0.heap.size 79 1 x.xv s.ch.length (flat ucel s.ch)
  rm : ∀ g cs, C.room = some (g, cs) → W.heap[g]? = some (.cells cs 134 (0, 0))
/-- The run, in block r. -/
structure RunM (C : Cst) (W0 : World) (r : Nat) (W : World) (s : St) (x : Vs) (t : Tp) : Prop where
  rows : RowsM C W0 W s x
  rr : W0.heap.size ≤ r
  rc : W.heap[r]? = some (.cells (rcells C s x t) 72 (0, 0))

theorem own_block {W : World} {B : Nat} {e : TypeId} {z n : Nat} {v : Value} {xs : List Value} (h : W.ownsRow B e z v n xs) {b : Nat} (hb : v.ownBlock = some b) : ∃ cur, W.heap[b]? = some (.cells cur e (0, 0)) := by
  rcases h.2 with ⟨rfl, _⟩ | ⟨g, cap, cur, rfl, _, hh, _⟩
  · cases hb
  · injection hb with hb
    subst hb
    exact ⟨cur, hh⟩
/-- A row of another type stands. -/
theorem own_ty {W W' : World} {B : Nat} {e T : TypeId} {z n b : Nat} {v : Value} {xs : List Value} {cur : Array Value} {fr : Nat × Nat} (h : W.ownsRow B e z v n xs) (hb : W.heap[b]? = some (.cells cur T fr)) (hT : e ≠ T) (K : Kept (fun k => k = b) W W') : W'.ownsRow B e z v n xs :=
  K.owns h (fun g hg e2 => by
    subst e2
    obtain ⟨c, hc⟩ := own_block h hg
    rw [hc] at hb
    injection hb with hb
    injection hb with _ h2
    exact hT h2)
theorem setK (W : World) (b o : Nat) (v : Value) : Kept (fun k => k = b) W (W.setCell ⟨b, o, none⟩ v) := by refine Kept.set (Kept.rfl _ _) (.inl ?_) v; rfl

/-- A block of another type stands. -/
theorem blk_ty {W W' : World} {g b : Nat} {cs cur : Array Value} {T : TypeId} {fr : Nat × Nat} (h : W.heap[g]? = some (.cells cs 134 (0, 0))) (hb : W.heap[b]? = some (.cells cur T fr)) (hT : 134 ≠ T) (K : Kept (fun k => k = b) W W') : W'.heap[g]? = some (.cells cs 134 (0, 0)) := by
  refine (K.block g (Array.getElem?_eq_some_iff.1 h).1 (fun e => ?_)).trans h
  subst e
  rw [h] at hb
  injection hb with hb
  injection hb with _ h2
  exact hT h2
section
variable {C : Cst} {W0 W W' : World} {r : Nat} {s s' : St} {x : Vs} {t : Tp}
/-- Rows behind a change of a block that is none of theirs. -/
theorem RowsM.turn (h : RowsM C W0 W s x) {b : Nat} {cur : Array Value} {T : TypeId} {fr : Nat × Nat} (hb : W.heap[b]? = some (.cells cur T fr)) (hB : W0.heap.size ≤ b) (hT : T ≠ 69 ∧ T ≠ 109 ∧ T ≠ 111 ∧ T ≠ 5 ∧ T ≠ 86 ∧ T ≠ 79 ∧ 134 ≠ T) (K : Kept (fun k => k = b) W W') : RowsM C W0 W' s x :=
  { h with
    below := h.below.trans (K.below h.below.size (fun k e => by omega))
    bs := own_ty h.bs hb (Ne.symm hT.1) K
    bk := fun i l hi => own_ty (h.bk i l hi) hb (Ne.symm hT.2.1) K
    hs := own_ty h.hs hb (Ne.symm hT.2.2.1) K
    gs := own_ty h.gs hb (Ne.symm hT.2.2.2.1) K
    ks := own_ty h.ks hb (Ne.symm hT.2.2.2.1) K
    os := own_ty h.os hb (Ne.symm hT.2.2.2.1) K
    cs := own_ty h.cs hb (Ne.symm hT.2.2.2.2.1) K
    xs := own_ty h.xs hb (Ne.symm hT.2.2.2.2.2.1) K
    rm := fun g cs hg => blk_ty (h.rm g cs hg) hb hT.2.2.2.2.2.2 K }
theorem RowsM.on (h : RowsM C W0 W s x) (hb : Below W.heap.size W W') : RowsM C W0 W' s x :=
  have K : Kept (fun _ => False) W W' := Kept.of_below hb
  have f : ∀ b : Nat, ∀ _ : True, ¬ False := fun _ _ e => e
  { h with
    below := below_on h.below hb h.below.size
    bs := K.owns h.bs (fun _ _ e => e)
    bk := fun i l hi => K.owns (h.bk i l hi) (fun _ _ e => e)
    hs := K.owns h.hs (fun _ _ e => e)
    gs := K.owns h.gs (fun _ _ e => e)
    ks := K.owns h.ks (fun _ _ e => e)
    os := K.owns h.os (fun _ _ e => e)
    cs := K.owns h.cs (fun _ _ e => e)
    xs := K.owns h.xs (fun _ _ e => e)
    rm := fun g cs hg => by rw [hb.block g (Array.getElem?_eq_some_iff.1 (h.rm g cs hg)).1]; exact h.rm g cs hg }
theorem RunM.lt (h : RunM C W0 r W s x t) : r < W.heap.size := (Array.getElem?_eq_some_iff.1 h.rc).1
theorem RunM.on (h : RunM C W0 r W s x t) (hb : Below W.heap.size W W') : RunM C W0 r W' s x t :=
  ⟨h.rows.on hb, h.rr, by rw [hb.block r h.lt]; exact h.rc⟩
theorem drewB (W : World) (n : Nat) : Below W.heap.size W (W.drewN n) := ⟨rfl, rfl, rfl, Nat.le_refl _, fun _ _ => rfl⟩
theorem RunM.drewN (h : RunM C W0 r W s x t) (n : Nat) : RunM C W0 r (W.drewN n) s x t := h.on (drewB W n)
theorem RunM.cell (h : RunM C W0 r W s x t) (j : Nat) : W.cell? ⟨r, j, none⟩ = (rcells C s x t)[j]? := by
  rw [cell_of_row W r j _ 72 (0, 0) h.rc]
theorem RunM.fro (h : RunM C W0 r W s x t) (j : Nat) : W.frozen? ⟨r, j, none⟩ = false := frozen_of_row W r j _ 72 h.rc
/-- A cell of the run's own turns, and no list. -/
theorem RunM.put (h : RunM C W0 r W s x t) (j : Nat) (u : Value) {t' : Tp} (hs : (s'.banks, s'.hidden, s'.gl, s'.sk, s'.out, s'.calls, s'.ch) = (s.banks, s.hidden, s.gl, s.sk, s.out, s.calls, s.ch)) (e : rcells C s' x t' = (rcells C s x t).setIfInBounds j u) : RunM C W0 r (W.setCell ⟨r, j, none⟩ u) s' x t' := by
  simp only [Prod.mk.injEq] at hs
  obtain ⟨e1, e2, e3, e4, e5, e6, e7⟩ := hs
  have h1 := h.rows.turn h.rc h.rr (by decide) (setK W r j u)
  refine ⟨?_, h.rr, by rw [e]; exact heap_setCell_same W r j _ 72 u h.rc⟩
  exact { below := h1.below, pg := h1.pg, sv := h1.sv, svl := h1.svl, bs := by rw [e1]; exact h1.bs, bk := by rw [e1]; exact h1.bk, bi := by rw [e1]; exact h1.bi, hs := by rw [e2]; exact h1.hs, gs := by rw [e3]; exact h1.gs, ks := by rw [e4]; exact h1.ks, os := by rw [e5]; exact h1.os, gk := h1.gk, go := h1.go, ko := h1.ko, cs := by rw [e6]; exact h1.cs, xs := by rw [e7]; exact h1.xs, rm := h1.rm }
end
end Go.Proofs.Ytiehlkhpblldaaa
namespace Go.Proofs.Ytiehlkhpblldaaa
open Go.RowKit Go.Maps
section
variable {C : Cst} {W0 W W' : World} {r : Nat} {s s' : St} {x : Vs} {t : Tp}

def spendF (s : St) (n : Int) : St := if s.fuel < n then { s with kind := 3 } else { s with fuel := s.fuel - n }
theorem spend28 (h : RunM C W0 r W s x t) {n : Int} (hn : 0 ≤ n) (hf : s.fuel ≤ 9223372036854775807) :
    Calls Try.prog 28 #[.pointer (some ⟨r, 0, none⟩), .int .i64 n] W fun e w' => e = .returned (.bool (decide (n ≤ s.fuel))) ∧ RunM C W0 r w' (spendF s n) x t := by
  have H := hid' h
  have c17 : W.cell? ⟨r, 17, none⟩ = some (.int .i64 s.fuel) := h.cell 17
  have c23 : W.cell? ⟨r, 23, none⟩ = some (.int .i64 s.kind) := h.cell 23
  have fr := h.fro
  clear h
  by_cases g : s.fuel < n
  · rw [decide_eq_false (by omega)]
    have HE : Hid (spendF s n = { s with kind := 3 }) := by unfold Hid spendF; rw [if_pos g]
    go_enter Try.func28, Try.ntmps28
    go_wp2
    go_ret
    exact ⟨rfl, by rw [HE.out]; exact H.out.put 23 _ rfl rfl⟩
  · rw [decide_eq_true (by omega)]
    have HE : Hid (spendF s n = { s with fuel := s.fuel - n }) := by unfold Hid spendF; rw [if_neg g]
    have hw : IntKind.i64.wrap (s.fuel - n) = s.fuel - n := by simp [IntKind.wrap, IntKind.bits, IntKind.signed]; omega
    go_enter Try.func28, Try.ntmps28
    go_wp2
    go_ret
    exact ⟨rfl, by rw [HE.out]; exact H.out.put 17 _ rfl rfl⟩

def trapF (s : St) (k : Int) : St := { s with kind := 2, trap := k }
theorem trap24 (h : RunM C W0 r W s x t) (k : Int) :
    Calls Try.prog 24 #[.pointer (some ⟨r, 0, none⟩), .int .i64 k] W fun e w' => e = .returned (.tuple #[]) ∧ RunM C W0 r w' (trapF s k) x t := by
  have H := hid' h
  have c25 : W.cell? ⟨r, 25, none⟩ = some (.int .i64 s.trap) := h.cell 25
  have c23 : W.cell? ⟨r, 23, none⟩ = some (.int .i64 s.kind) := h.cell 23
  have fr := h.fro
  clear h
  go_enter Try.func24, Try.ntmps24
  go_wp2
  go_end0
  have h1 := H.out.put (s' := { s with kind := 2 }) (t' := t) 23 (.int .i64 2) rfl rfl
  exact ⟨rfl, h1.put (s' := trapF s k) 25 _ rfl rfl⟩
end
end Go.Proofs.Ytiehlkhpblldaaa
namespace Go.Proofs.Ytiehlkhpblldaaa
open Go.RowKit Go.Maps
theorem step_run {P : Program} {ops : Array Oper} {o : Oper} {a : Act} {w w' : World} {K : Act → World → Prop} {Q : Exit → Act → World → Prop} {E : Prop}
    (hg : o.guard = none) (s x : Operand) (t : TypeId) (hop : o.op = Op.call { callee := Callee.builtin Builtin.append, args := #[s, x], argTypes := #[t, t] })
    (v xv v' : Value) (hs : a.eval s = v) (hx : a.eval x = xv) (hrun : (Builtin.append_ #[t, t] o.type #[v, xv]).run P w = .ok v' w') (hK : K (a.put o.dst v') w') :
    if Region.wanted o (yielded ops a.tmps) = true then Oper.wp P o a w K Q else E := by
  have hw : Region.wanted o (yielded ops a.tmps) = true := by simp [Region.wanted, hg]
  rw [if_pos hw]
  unfold Oper.wp
  simp [execOp, hop, resolve, invoke, builtin, hs, hx, hrun, Result.andThen]
  exact hK
theorem own_form {W : World} {B : Nat} {e : TypeId} {z n : Nat} {v : Value} {xs : List Value} (h : W.ownsRow B e z v (n + 1) xs) : ∃ b cap, v = .slice (some ⟨b, 0, none⟩) (n + 1) cap := by
  rcases h.2 with ⟨_, e⟩ | ⟨g, cap, cur, e, _⟩
  · cases e
  · exact ⟨g, cap, e⟩
theorem own_len {W : World} {B : Nat} {e : TypeId} {z n : Nat} {v : Value} {xs : List Value} (h : W.ownsRow B e z v n xs) : ∃ ao cap, v = .slice ao n cap ∧ n ≤ cap := by
  rcases h.2 with ⟨e, e2⟩ | ⟨g, cap, cur, e, _, _, hc, _⟩
  · subst e2
    exact ⟨_, _, e, Nat.le_refl _⟩
  · exact ⟨_, cap, e, hc⟩
/-- A row of another type stands, behind a change of a row. -/
theorem own_ty2 {W W' : World} {B B' : Nat} {e T : TypeId} {z n z' n' : Nat} {v v' : Value} {xs xs' : List Value} (h : W.ownsRow B e z v n xs) (h' : W.ownsRow B' T z' v' n' xs') (hT : e ≠ T) (K : Kept (fun k => v'.ownBlock = some k) W W') : W'.ownsRow B e z v n xs :=
  K.owns h (fun g hg e2 => by
    obtain ⟨c, hc⟩ := own_block h hg
    obtain ⟨d, hd⟩ := own_block h' e2
    rw [hc] at hd
    injection hd with hd
    injection hd with _ h2
    exact hT h2)
theorem grown_kept {W W' : World} {v : Value} (h : W.grownBy W' v.ownBlock) : Kept (fun k => v.ownBlock = some k) W W' := Kept.of_grown h (fun _ e => e)
theorem grown_r {W W' : World} {B r : Nat} {e T : TypeId} {z n : Nat} {v : Value} {xs : List Value} {cur : Array Value} {fr : Nat × Nat} (h : W.ownsRow B e z v n xs) (hr : W.heap[r]? = some (.cells cur T fr)) (hT : e ≠ T) (K : Kept (fun k => v.ownBlock = some k) W W') : W'.heap[r]? = some (.cells cur T fr) := by
  refine (K.block r (Array.getElem?_eq_some_iff.1 hr).1 (fun e2 => ?_)).trans hr
  obtain ⟨c, hc⟩ := own_block h e2
  rw [hc] at hr
  injection hr with hr
  injection hr with _ h2
  exact hT h2
section
variable {C : Cst} {W0 W W' : World} {r : Nat} {s s' : St} {x : Vs} {t : Tp}
theorem infH : (Try.prog.info? 111).map (fun i => (i.zero, i.size, i.bytes)) = some (some (.agg #[.pointer none, .int .u32 0, .int .i64 0]), 3, 24) := by kernel_rfl
theorem RunM.pushHA {Wa : World} {g : Nat} (ha : RunM C W0 r Wa s x t) (e : Hd) (hl : (s.hidden.length + 1) * 24 ≤ 140737488355328) (hnew : Wa.heap[g]? = some (.cells ((Hd.cells x.bb) e).toArray 111 (0, 0))) :
    ∃ b cap w', (Builtin.append_ #[65, 65] 65 #[x.hv, .slice (some ⟨g, 0, none⟩) 1 1]).run Try.prog Wa = .ok (.slice (some ⟨b, 0, none⟩) (s.hidden.length + 1) cap) w' ∧
      w'.heap[r]? = some (.cells (rcells C s x t) 72 (0, 0)) ∧ RunM C W0 r (w'.setCell ⟨r, 5, none⟩ (.slice (some ⟨b, 0, none⟩) (s.hidden.length + 1) cap)) { s with hidden := s.hidden ++ [e] } { x with hv := .slice (some ⟨b, 0, none⟩) (s.hidden.length + 1) cap } t := by
  have hglt := (Array.getElem?_eq_some_iff.1 hnew).1
  have hsrc : Src (Hd.cells x.bb) Wa (.slice (some ⟨g, 0, none⟩) 1 1) [e] := .inr ⟨g, 0, 1, rfl, hglt, Nat.le_refl _, fun j u hj => by
    rw [Nat.zero_add, cell_of_row Wa g j _ 111 (0, 0) hnew]
    simpa [flat] using hj⟩
  obtain ⟨v', w', h1, h2, h3, h4⟩ := append_own (f := (Hd.cells x.bb)) (st := 65) (et := 111) (bytes := 24) (hd3 x.bb) (by intro y u hu; simp only [Hd.cells, List.mem_cons, List.not_mem_nil, or_false] at hu; rcases hu with rfl | rfl | rfl <;> rfl) Try.underlying65 infH rfl (by decide) (l := s.hidden) (m := [e]) (base := W0.heap.size) (w := Wa) (v := x.hv) (x := .slice (some ⟨g, 0, none⟩) 1 1) ha.rows.hs hsrc (by simp only [List.length_singleton]; omega) (by simp only [List.length_singleton]; unfold maxLen; omega) ha.rows.below.size 65
  unfold Own at h2
  rw [List.length_append, List.length_singleton] at h2
  obtain ⟨b, cap, rfl⟩ := own_form h2
  have K := grown_kept h3
  have hr' : w'.heap[r]? = some (.cells (rcells C s x t) 72 (0, 0)) := grown_r ha.rows.hs ha.rc (by decide) K
  have KS := setK w' r 5 (.slice (some ⟨b, 0, none⟩) (s.hidden.length + 1) cap)
  have R := ha.rows
  refine ⟨b, cap, w', h1, hr', ?_, ha.rr, heap_setCell_same w' r 5 _ 72 _ hr'⟩
  have hbl : Below W0.heap.size W0 w' := R.below.trans (K.below R.below.size (fun k e => (World.ownsRow.lt R.hs k e).1))
  exact { below := hbl.trans (KS.below hbl.size (fun k e => by have := ha.rr; omega)), bs := own_ty (own_ty2 R.bs R.hs (by decide) K) hr' (by decide) KS, hs := by dsimp only; rw [List.length_append, List.length_singleton]; exact own_ty h2 hr' (by decide) KS, gs := own_ty (own_ty2 R.gs R.hs (by decide) K) hr' (by decide) KS, ks := own_ty (own_ty2 R.ks R.hs (by decide) K) hr' (by decide) KS, os := own_ty (own_ty2 R.os R.hs (by decide) K) hr' (by decide) KS, cs := own_ty (own_ty2 R.cs R.hs (by decide) K) hr' (by decide) KS, xs := own_ty (own_ty2 R.xs R.hs (by decide) K) hr' (by decide) KS, bk := fun i l hi => own_ty (own_ty2 (R.bk i l hi) R.hs (by decide) K) hr' (by decide) KS, gk := R.gk, go := R.go, ko := R.ko, pg := R.pg, sv := R.sv, svl := R.svl, bi := R.bi, rm := fun g0 c0 hg0 => blk_ty (grown_r R.hs (R.rm g0 c0 hg0) (by decide) K) hr' (by decide) KS }
theorem RunM.pushH (h : RunM C W0 r W s x t) (e : Hd) (hl : (s.hidden.length + 1) * 24 ≤ 140737488355328) :
    ∃ b cap w', (Builtin.append_ #[65, 65] 65 #[x.hv, .slice (some ⟨W.heap.size, 0, none⟩) 1 1]).run Try.prog ((W.alloc (.cells ((Hd.cells x.bb) e).toArray 111)).drew) = .ok (.slice (some ⟨b, 0, none⟩) (s.hidden.length + 1) cap) w' ∧
      w'.heap[r]? = some (.cells (rcells C s x t) 72 (0, 0)) ∧ RunM C W0 r (w'.setCell ⟨r, 5, none⟩ (.slice (some ⟨b, 0, none⟩) (s.hidden.length + 1) cap)) { s with hidden := s.hidden ++ [e] } { x with hv := .slice (some ⟨b, 0, none⟩) (s.hidden.length + 1) cap } t :=
  RunM.pushHA (Wa := (W.alloc (.cells ((Hd.cells x.bb) e).toArray 111)).drew) (h.on (W' := (W.alloc (.cells ((Hd.cells x.bb) e).toArray 111)).drew) ⟨rfl, rfl, rfl, by simp [World.drew], fun k hk => Below.heap_alloc _ _ _ hk⟩) e hl (heap_alloc_new W _)
theorem infC : (Try.prog.info? 86).map (fun i => (i.zero, i.size, i.bytes)) = some (some (.agg #[.int .i64 0, .int .i64 0, .int .u32 0, .int .i64 0, .int .i64 0, .int .i64 0]), 6, 48) := by kernel_rfl
theorem RunM.pushCA {Wa : World} {g : Nat} (ha : RunM C W0 r Wa s x t) (e : Cl) (hl : (s.calls.length + 1) * 48 ≤ 140737488355328) (hnew : Wa.heap[g]? = some (.cells (Cl.cells e).toArray 86 (0, 0))) :
    ∃ b cap w', (Builtin.append_ #[66, 66] 66 #[x.cv, .slice (some ⟨g, 0, none⟩) 1 1]).run Try.prog Wa = .ok (.slice (some ⟨b, 0, none⟩) (s.calls.length + 1) cap) w' ∧
      w'.heap[r]? = some (.cells (rcells C s x t) 72 (0, 0)) ∧ RunM C W0 r (w'.setCell ⟨r, 9, none⟩ (.slice (some ⟨b, 0, none⟩) (s.calls.length + 1) cap)) { s with calls := s.calls ++ [e] } { x with cv := .slice (some ⟨b, 0, none⟩) (s.calls.length + 1) cap } t := by
  have hglt := (Array.getElem?_eq_some_iff.1 hnew).1
  have hsrc : Src Cl.cells Wa (.slice (some ⟨g, 0, none⟩) 1 1) [e] := .inr ⟨g, 0, 1, rfl, hglt, Nat.le_refl _, fun j u hj => by
    rw [Nat.zero_add, cell_of_row Wa g j _ 86 (0, 0) hnew]
    simpa [flat] using hj⟩
  obtain ⟨v', w', h1, h2, h3, h4⟩ := append_own (f := Cl.cells) (st := 66) (et := 86) (bytes := 48) (cl6) (by intro y u hu; simp only [Cl.cells, List.mem_cons, List.not_mem_nil, or_false] at hu; rcases hu with rfl | rfl | rfl | rfl | rfl | rfl <;> rfl) Try.underlying66 infC rfl (by decide) (l := s.calls) (m := [e]) (base := W0.heap.size) (w := Wa) (v := x.cv) (x := .slice (some ⟨g, 0, none⟩) 1 1) ha.rows.cs hsrc (by simp only [List.length_singleton]; omega) (by simp only [List.length_singleton]; unfold maxLen; omega) ha.rows.below.size 66
  unfold Own at h2
  rw [List.length_append, List.length_singleton] at h2
  obtain ⟨b, cap, rfl⟩ := own_form h2
  have K := grown_kept h3
  have hr' : w'.heap[r]? = some (.cells (rcells C s x t) 72 (0, 0)) := grown_r ha.rows.cs ha.rc (by decide) K
  have KS := setK w' r 9 (.slice (some ⟨b, 0, none⟩) (s.calls.length + 1) cap)
  have R := ha.rows
  refine ⟨b, cap, w', h1, hr', ?_, ha.rr, heap_setCell_same w' r 9 _ 72 _ hr'⟩
  have hbl : Below W0.heap.size W0 w' := R.below.trans (K.below R.below.size (fun k e => (World.ownsRow.lt R.cs k e).1))
  exact { below := hbl.trans (KS.below hbl.size (fun k e => by have := ha.rr; omega)), bs := own_ty (own_ty2 R.bs R.cs (by decide) K) hr' (by decide) KS, hs := own_ty (own_ty2 R.hs R.cs (by decide) K) hr' (by decide) KS, gs := own_ty (own_ty2 R.gs R.cs (by decide) K) hr' (by decide) KS, ks := own_ty (own_ty2 R.ks R.cs (by decide) K) hr' (by decide) KS, os := own_ty (own_ty2 R.os R.cs (by decide) K) hr' (by decide) KS, cs := by dsimp only; rw [List.length_append, List.length_singleton]; exact own_ty h2 hr' (by decide) KS, xs := own_ty (own_ty2 R.xs R.cs (by decide) K) hr' (by decide) KS, bk := fun i l hi => own_ty (own_ty2 (R.bk i l hi) R.cs (by decide) K) hr' (by decide) KS, gk := R.gk, go := R.go, ko := R.ko, pg := R.pg, sv := R.sv, svl := R.svl, bi := R.bi, rm := fun g0 c0 hg0 => blk_ty (grown_r R.cs (R.rm g0 c0 hg0) (by decide) K) hr' (by decide) KS }
theorem infX : (Try.prog.info? 79).map (fun i => (i.zero, i.size, i.bytes)) = some (some (.int .u32 0), 1, 4) := by kernel_rfl
theorem RunM.pushXA {Wa : World} {g : Nat} (ha : RunM C W0 r Wa s x t) (e : Int) (hl : (s.ch.length + 1) * 4 ≤ 140737488355328) (hnew : Wa.heap[g]? = some (.cells (ucel e).toArray 79 (0, 0))) :
    ∃ b cap w', (Builtin.append_ #[70, 70] 70 #[x.xv, .slice (some ⟨g, 0, none⟩) 1 1]).run Try.prog Wa = .ok (.slice (some ⟨b, 0, none⟩) (s.ch.length + 1) cap) w' ∧
      w'.heap[r]? = some (.cells (rcells C s x t) 72 (0, 0)) ∧ RunM C W0 r (w'.setCell ⟨r, 14, none⟩ (.slice (some ⟨b, 0, none⟩) (s.ch.length + 1) cap)) { s with ch := s.ch ++ [e] } { x with xv := .slice (some ⟨b, 0, none⟩) (s.ch.length + 1) cap } t := by
  have hglt := (Array.getElem?_eq_some_iff.1 hnew).1
  have hsrc : Src ucel Wa (.slice (some ⟨g, 0, none⟩) 1 1) [e] := .inr ⟨g, 0, 1, rfl, hglt, Nat.le_refl _, fun j u hj => by
    rw [Nat.zero_add, cell_of_row Wa g j _ 79 (0, 0) hnew]
    simpa [flat] using hj⟩
  obtain ⟨v', w', h1, h2, h3, h4⟩ := append_own (f := ucel) (st := 70) (et := 79) (bytes := 4) (uc1) (by intro y u hu; simp only [ucel, List.mem_singleton] at hu; subst hu; rfl) Try.underlying70 infX rfl (by decide) (l := s.ch) (m := [e]) (base := W0.heap.size) (w := Wa) (v := x.xv) (x := .slice (some ⟨g, 0, none⟩) 1 1) ha.rows.xs hsrc (by simp only [List.length_singleton]; omega) (by simp only [List.length_singleton]; unfold maxLen; omega) ha.rows.below.size 70
  unfold Own at h2
  rw [List.length_append, List.length_singleton] at h2
  obtain ⟨b, cap, rfl⟩ := own_form h2
  have K := grown_kept h3
  have hr' : w'.heap[r]? = some (.cells (rcells C s x t) 72 (0, 0)) := grown_r ha.rows.xs ha.rc (by decide) K
  have KS := setK w' r 14 (.slice (some ⟨b, 0, none⟩) (s.ch.length + 1) cap)
  have R := ha.rows
  refine ⟨b, cap, w', h1, hr', ?_, ha.rr, heap_setCell_same w' r 14 _ 72 _ hr'⟩
  have hbl : Below W0.heap.size W0 w' := R.below.trans (K.below R.below.size (fun k e => (World.ownsRow.lt R.xs k e).1))
  exact { below := hbl.trans (KS.below hbl.size (fun k e => by have := ha.rr; omega)), bs := own_ty (own_ty2 R.bs R.xs (by decide) K) hr' (by decide) KS, hs := own_ty (own_ty2 R.hs R.xs (by decide) K) hr' (by decide) KS, gs := own_ty (own_ty2 R.gs R.xs (by decide) K) hr' (by decide) KS, ks := own_ty (own_ty2 R.ks R.xs (by decide) K) hr' (by decide) KS, os := own_ty (own_ty2 R.os R.xs (by decide) K) hr' (by decide) KS, cs := own_ty (own_ty2 R.cs R.xs (by decide) K) hr' (by decide) KS, xs := by dsimp only; rw [List.length_append, List.length_singleton]; exact own_ty h2 hr' (by decide) KS, bk := fun i l hi => own_ty (own_ty2 (R.bk i l hi) R.xs (by decide) K) hr' (by decide) KS, gk := R.gk, go := R.go, ko := R.ko, pg := R.pg, sv := R.sv, svl := R.svl, bi := R.bi, rm := fun g0 c0 hg0 => blk_ty (grown_r R.xs (R.rm g0 c0 hg0) (by decide) K) hr' (by decide) KS }
theorem RunM.pushXN (h : RunM C W0 r W s x t) (e : Int) (hl : (s.ch.length + 1) * 4 ≤ 140737488355328) :
    ∃ b cap w', (Builtin.append_ #[70, 70] 70 #[x.xv, .slice (some ⟨W.heap.size, 0, none⟩) 1 1]).run Try.prog (W.alloc (.cells (ucel e).toArray 79)) = .ok (.slice (some ⟨b, 0, none⟩) (s.ch.length + 1) cap) w' ∧
      w'.heap[r]? = some (.cells (rcells C s x t) 72 (0, 0)) ∧ RunM C W0 r (w'.setCell ⟨r, 14, none⟩ (.slice (some ⟨b, 0, none⟩) (s.ch.length + 1) cap)) { s with ch := s.ch ++ [e] } { x with xv := .slice (some ⟨b, 0, none⟩) (s.ch.length + 1) cap } t :=
  RunM.pushXA (Wa := W.alloc (.cells (ucel e).toArray 79)) (h.on (below1 W _)) e hl (heap_alloc_new W _)
theorem infO : (Try.prog.info? 5).map (fun i => (i.zero, i.size, i.bytes)) = some (some (.int .u8 0), 1, 1) := by kernel_rfl
theorem RunM.pushOA {Wa : World} {g : Nat} (ha : RunM C W0 r Wa s x t) (e : Int) (hl : (s.out.length + 1) * 1 ≤ 140737488355328) (hnew : Wa.heap[g]? = some (.cells (bcel e).toArray 5 (0, 0))) :
    ∃ b cap w', (Builtin.append_ #[59, 59] 59 #[x.ov, .slice (some ⟨g, 0, none⟩) 1 1]).run Try.prog Wa = .ok (.slice (some ⟨b, 0, none⟩) (s.out.length + 1) cap) w' ∧
      w'.heap[r]? = some (.cells (rcells C s x t) 72 (0, 0)) ∧ RunM C W0 r (w'.setCell ⟨r, 16, none⟩ (.slice (some ⟨b, 0, none⟩) (s.out.length + 1) cap)) { s with out := s.out ++ [e] } { x with ov := .slice (some ⟨b, 0, none⟩) (s.out.length + 1) cap } t := by
  have hglt := (Array.getElem?_eq_some_iff.1 hnew).1
  have hsrc : Src bcel Wa (.slice (some ⟨g, 0, none⟩) 1 1) [e] := .inr ⟨g, 0, 1, rfl, hglt, Nat.le_refl _, fun j u hj => by
    rw [Nat.zero_add, cell_of_row Wa g j _ 5 (0, 0) hnew]
    simpa [flat] using hj⟩
  obtain ⟨v', w', h1, h2, h3, h4⟩ := append_own (f := bcel) (st := 59) (et := 5) (bytes := 1) (by1) (by intro y u hu; simp only [bcel, List.mem_singleton] at hu; subst hu; rfl) Try.underlying59 infO rfl (by decide) (l := s.out) (m := [e]) (base := W0.heap.size) (w := Wa) (v := x.ov) (x := .slice (some ⟨g, 0, none⟩) 1 1) ha.rows.os hsrc (by simp only [List.length_singleton]; omega) (by simp only [List.length_singleton]; unfold maxLen; omega) ha.rows.below.size 59
  unfold Own at h2
  rw [List.length_append, List.length_singleton] at h2
  obtain ⟨b, cap, rfl⟩ := own_form h2
  have K := grown_kept h3
  have hr' : w'.heap[r]? = some (.cells (rcells C s x t) 72 (0, 0)) := grown_r ha.rows.os ha.rc (by decide) K
  have KS := setK w' r 16 (.slice (some ⟨b, 0, none⟩) (s.out.length + 1) cap)
  have R := ha.rows
  refine ⟨b, cap, w', h1, hr', ?_, ha.rr, heap_setCell_same w' r 16 _ 72 _ hr'⟩
  have hbl : Below W0.heap.size W0 w' := R.below.trans (K.below R.below.size (fun k e => (World.ownsRow.lt R.os k e).1))
  have hne : ∀ b0, b0 < Wa.heap.size → x.ov.ownBlock ≠ some b0 → (Value.slice (some ⟨b, 0, none⟩) (s.out.length + 1) cap).ownBlock ≠ some b0 := fun b0 hb0 hn e2 => by
    rcases h4 with e4 | e4
    · rw [e4] at e2; exact hn e2
    · rw [e4] at e2; injection e2 with e2; omega
  have hgs := K.owns R.gs (fun b0 hb0 e2 => R.go b0 hb0 e2)
  have hks := K.owns R.ks (fun b0 hb0 e2 => R.ko b0 hb0 e2)
  exact { below := hbl.trans (KS.below hbl.size (fun k e => by have := ha.rr; omega)), bs := own_ty (own_ty2 R.bs R.os (by decide) K) hr' (by decide) KS, hs := own_ty (own_ty2 R.hs R.os (by decide) K) hr' (by decide) KS, gs := own_ty hgs hr' (by decide) KS, ks := own_ty hks hr' (by decide) KS, os := by dsimp only; rw [List.length_append, List.length_singleton]; exact own_ty h2 hr' (by decide) KS, cs := own_ty (own_ty2 R.cs R.os (by decide) K) hr' (by decide) KS, xs := own_ty (own_ty2 R.xs R.os (by decide) K) hr' (by decide) KS, bk := fun i l hi => own_ty (own_ty2 (R.bk i l hi) R.os (by decide) K) hr' (by decide) KS, go := fun b0 hb0 => hne b0 (World.ownsRow.lt R.gs b0 hb0).2 (R.go b0 hb0), ko := fun b0 hb0 => hne b0 (World.ownsRow.lt R.ks b0 hb0).2 (R.ko b0 hb0), gk := R.gk, pg := R.pg, sv := R.sv, svl := R.svl, bi := R.bi, rm := fun g0 c0 hg0 => blk_ty (grown_r R.os (R.rm g0 c0 hg0) (by decide) K) hr' (by decide) KS }
theorem RunM.pushON (h : RunM C W0 r W s x t) (e : Int) (hl : (s.out.length + 1) * 1 ≤ 140737488355328) :
    ∃ b cap w', (Builtin.append_ #[59, 59] 59 #[x.ov, .slice (some ⟨W.heap.size, 0, none⟩) 1 1]).run Try.prog (W.alloc (.cells (bcel e).toArray 5)) = .ok (.slice (some ⟨b, 0, none⟩) (s.out.length + 1) cap) w' ∧
      w'.heap[r]? = some (.cells (rcells C s x t) 72 (0, 0)) ∧ RunM C W0 r (w'.setCell ⟨r, 16, none⟩ (.slice (some ⟨b, 0, none⟩) (s.out.length + 1) cap)) { s with out := s.out ++ [e] } { x with ov := .slice (some ⟨b, 0, none⟩) (s.out.length + 1) cap } t :=
  RunM.pushOA (Wa := W.alloc (.cells (bcel e).toArray 5)) (h.on (below1 W _)) e hl (heap_alloc_new W _)
end
end Go.Proofs.Ytiehlkhpblldaaa
