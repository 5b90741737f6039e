/- The document's run in memory. -/
import Derived.Test.YtiehlkhpblldaaaH07
set_option linter.unusedVariables false
set_option linter.unusedSimpArgs false
set_option maxRecDepth 20000
set_option maxHeartbeats 8000000
namespace Go.Proofs.Ytiehlkhpblldaaa
open Go.RowKit Go.Maps

/-- What turns. -/
structure Ds where
  fuel : Int
  used : Nat
  out : List Int
  gl : List Int
  sk : List Int
  low : Int
  calls : Int
  trap : Int
  over : Bool
  count : Int
/-- Where its lists lie. -/
structure Dv where
  ov : Value
  gb : Nat
  kb : Nat
def dcells (C : Cst) (d : Ds) (v : Dv) : Array Value :=
  #[C.p.fv, .int .i64 C.p.global, C.p.dv, .int .i64 C.p.main, .string C.input, .int .i64 d.fuel, .int .i64 C.deep, .int .i64 d.used, v.ov, .slice (some ⟨v.gb, 0, none⟩) d.gl.length d.gl.length, .slice (some ⟨v.kb, 0, none⟩) d.sk.length d.sk.length, .int .i64 d.low, .int .i64 d.calls, .int .i64 d.trap, .bool d.over, .int .i64 C.sa, C.sv, .int .i64 C.sf, .int .i64 d.count]
/-- The document's run, in block r. -/
structure DocM (C : Cst) (W0 : World) (r : Nat) (W : World) (d : Ds) (v : Dv) : Prop where
  below : Below W0.heap.size W0 W
  pg : Pg.ok W0 C.p
  sv : Src icell W0 C.sv C.sl
  svl : C.sl.length * 8 ≤ big
  rr : W0.heap.size ≤ r
  rc : W.heap[r]? = some (.cells (dcells C d v) 76 (0, 0))
  gr : W0.heap.size ≤ v.gb
  gs : W.heap[v.gb]? = some (.cells (flat bcel d.gl).toArray 5 (0, 0))
  kr : W0.heap.size ≤ v.kb
  ks : W.heap[v.kb]? = some (.cells (flat bcel d.sk).toArray 5 (0, 0))
  gk : v.gb ≠ v.kb
  os : W.ownsRow W0.heap.size 5 1 v.ov d.out.length (flat bcel d.out)
  og : v.ov.ownBlock ≠ some v.gb
  ok : v.ov.ownBlock ≠ some v.kb
/-- A call's registers, in block b. -/
structure RegM (W0 W : World) (b : Nat) (l : List Int) : Prop where
  hb : W0.heap.size ≤ b
  rc : W.heap[b]? = some (.cells (flat ucel l).toArray 79 (0, 0))
section
variable {C : Cst} {W0 W W' : World} {r : Nat} {d d' : Ds} {v v' : Dv}
theorem kept_blk {W W' : World} {b g : Nat} {cs cur : Array Value} {T U : TypeId} {fr fs : Nat × Nat} (h : W.heap[g]? = some (.cells cs T fr)) (hb : W.heap[b]? = some (.cells cur U fs)) (hT : T ≠ U) (K : Kept (fun k => k = b) W W') : W'.heap[g]? = some (.cells cs T fr) := by
  refine (K.block g (Array.getElem?_eq_some_iff.1 h).1 (fun e => ?_)).trans h
  subst e
  rw [h] at hb
  injection hb with hb
  injection hb with _ h2
  exact hT h2
theorem DocM.lt (h : DocM C W0 r W d v) : r < W.heap.size := (Array.getElem?_eq_some_iff.1 h.rc).1
theorem DocM.cell (h : DocM C W0 r W d v) (j : Nat) : W.cell? ⟨r, j, none⟩ = (dcells C d v)[j]? := by rw [cell_of_row W r j _ 76 (0, 0) h.rc]
theorem DocM.fro (h : DocM C W0 r W d v) (j : Nat) : W.frozen? ⟨r, j, none⟩ = false := frozen_of_row W r j _ 76 h.rc
theorem DocM.on (h : DocM C W0 r W d v) (hb : Below W.heap.size W W') : DocM C W0 r W' d v :=
  have K : Kept (fun _ => False) W W' := Kept.of_below hb
  { h with
    below := below_on h.below hb h.below.size
    rc := by rw [hb.block r h.lt]; exact h.rc
    gs := by rw [hb.block _ (Array.getElem?_eq_some_iff.1 h.gs).1]; exact h.gs
    ks := by rw [hb.block _ (Array.getElem?_eq_some_iff.1 h.ks).1]; exact h.ks
    os := K.owns h.os (fun _ _ e => e) }
/-- A block that is none of its own turns. -/
theorem DocM.turn (h : DocM C W0 r W d v) {b : Nat} {cur : Array Value} {T : TypeId} {fr : Nat × Nat} (hb : W.heap[b]? = some (.cells cur T fr)) (hB : W0.heap.size ≤ b) (h76 : T ≠ 76) (h5 : T ≠ 5) (K : Kept (fun k => k = b) W W') : DocM C W0 r W' d v :=
  { h with
    below := h.below.trans (K.below h.below.size (fun k e => by omega))
    rc := kept_blk h.rc hb (Ne.symm h76) K
    gs := kept_blk h.gs hb (Ne.symm h5) K
    ks := kept_blk h.ks hb (Ne.symm h5) K
    os := own_ty h.os hb (Ne.symm h5) K }
/-- A cell of its own turns. -/
theorem DocM.put (h : DocM C W0 r W d v) (j : Nat) (u : Value) (hs : (d'.gl, d'.sk, d'.out) = (d.gl, d.sk, d.out)) (e : dcells C d' v = (dcells C d v).setIfInBounds j u) : DocM C W0 r (W.setCell ⟨r, j, none⟩ u) d' v := by
  simp only [Prod.mk.injEq] at hs
  obtain ⟨e1, e2, e3⟩ := hs
  have K := setK W r j u
  exact { h with
    below := h.below.trans (K.below h.below.size (fun k e => by have := h.rr; omega))
    rc := by rw [e]; exact heap_setCell_same W r j _ 76 u h.rc
    gs := by rw [e1]; exact kept_blk h.gs h.rc (by decide) K
    ks := by rw [e2]; exact kept_blk h.ks h.rc (by decide) K
    os := by rw [e3]; exact own_ty h.os h.rc (by decide) K }
def spendD (d : Ds) : Ds := if d.fuel ≤ 0 then { d with over := true } else { d with fuel := d.fuel - 1 }
theorem spend54 (h : DocM C W0 r W d v) (hf : d.fuel ≤ 9223372036854775807) :
    Calls Try.prog 54 #[.pointer (some ⟨r, 0, none⟩)] W fun e w' => e = .returned (.bool (decide (0 < d.fuel))) ∧ DocM C W0 r w' (spendD d) v ∧ Kept (fun k => k = r) W w' := by
  have H := hid' h
  have c5 : W.cell? ⟨r, 5, none⟩ = some (.int .i64 d.fuel) := h.cell 5
  have c14 : W.cell? ⟨r, 14, none⟩ = some (.bool d.over) := h.cell 14
  have fr := h.fro
  clear h
  unfold spendD
  by_cases g : d.fuel ≤ 0
  · rw [if_pos g, decide_eq_false (by omega)]
    go_enter Try.func54, Try.ntmps54
    go_wp2
    go_ret
    exact ⟨rfl, H.out.put 14 _ rfl rfl, setK _ _ _ _⟩
  · rw [if_neg g, decide_eq_true (by omega)]
    have hw : IntKind.i64.wrap (d.fuel - 1) = d.fuel - 1 := by simp [IntKind.wrap, IntKind.bits, IntKind.signed]; omega
    go_enter Try.func54, Try.ntmps54
    go_wp2
    go_ret
    exact ⟨rfl, H.out.put 5 _ rfl rfl, setK _ _ _ _⟩
/-- Where an address lies: the globals, the stack. -/
def placeD (d : Ds) (a : Int) : Option (Bool × Nat) :=
  if 16777216 ≤ a ∧ a < 16777216 + (d.gl.length : Int) then some (false, (a - 16777216).toNat)
  else if d.low ≤ a ∧ a < 8388608 then some (true, (a - 8126464).toNat) else none
def placeV (d : Ds) (v : Dv) (a : Int) : Value := match placeD d a with
  | none => .pointer none
  | some (st, o) => .pointer (some ⟨if st then v.kb else v.gb, o, none⟩)
end
end Go.Proofs.Ytiehlkhpblldaaa
namespace Go.Proofs.Ytiehlkhpblldaaa
open Go.RowKit Go.Maps
section
variable {C : Cst} {W0 W W' : World} {r : Nat} {d d' : Ds} {v v' : Dv}
/-- What holds of its memory. -/
structure DmOk (d : Ds) : Prop where
  g : d.gl.length ≤ 65536
  k : d.sk.length = 262144
  l : 8126464 ≤ d.low ∧ d.low ≤ 8388608
theorem place91 (h : DocM C W0 r W d v) (hM : DmOk d) {a : Int} (ha : 0 ≤ a ∧ a < 4294967300) :
    Calls Try.prog 91 #[.pointer (some ⟨r, 0, none⟩), .int .i64 a] W fun e w' => e = .returned (placeV d v a) ∧ w' = W := by
  have c9 : W.cell? ⟨r, 9, none⟩ = some (.slice (some ⟨v.gb, 0, none⟩) d.gl.length d.gl.length) := h.cell 9
  have c10 : W.cell? ⟨r, 10, none⟩ = some (.slice (some ⟨v.kb, 0, none⟩) d.sk.length d.sk.length) := h.cell 10
  have c11 : W.cell? ⟨r, 11, none⟩ = some (.int .i64 d.low) := h.cell 11
  obtain ⟨hg, hk, hl⟩ := hM
  rw [hk] at c10
  unfold placeV placeD
  clear h
  generalize d.gl.length = G at *
  generalize d.low = L at *
  have hwG : IntKind.i64.wrap (16777216 + (G : Int)) = 16777216 + G := by simp [IntKind.wrap, IntKind.bits, IntKind.signed]; omega
  by_cases g1 : 16777216 ≤ a
  · have g1' : a ≥ 16777216 := g1
    by_cases g2 : a < 16777216 + (G : Int)
    · rw [if_pos ⟨g1, g2⟩]
      obtain ⟨o, ho⟩ : ∃ o : Nat, a = 16777216 + o := ⟨(a - 16777216).toNat, by omega⟩
      subst ho
      have hw : IntKind.i64.wrap (16777216 + (o : Int) - 16777216) = o := by simp [IntKind.wrap, IntKind.bits, IntKind.signed]; omega
      have h1 : (o : Int) < G := by omega
      have e : (16777216 + (o : Int) - 16777216).toNat = o := by omega
      rw [e]
      go_enter Try.func91, Try.ntmps91
      go_wp2
      go_ret
      exact ⟨by simp, rfl⟩
    · rw [if_neg (fun q => g2 q.2)]
      have g3 : ¬ (L ≤ a ∧ a < 8388608) := by omega
      rw [if_neg g3]
      have g4 : a ≥ L := by omega
      have g5 : ¬ a < 8388608 := by omega
      go_enter Try.func91, Try.ntmps91
      go_wp2
      go_ret
      exact ⟨rfl, rfl⟩
  · rw [if_neg (fun q => g1 q.1)]
    have g1' : ¬ a ≥ 16777216 := g1
    by_cases g2 : L ≤ a
    · have g2' : a ≥ L := g2
      by_cases g3 : a < 8388608
      · rw [if_pos ⟨g2, g3⟩]
        obtain ⟨o, ho⟩ : ∃ o : Nat, a = 8126464 + o := ⟨(a - 8126464).toNat, by omega⟩
        subst ho
        have hw : IntKind.i64.wrap (8126464 + (o : Int) - 8126464) = o := by simp [IntKind.wrap, IntKind.bits, IntKind.signed]; omega
        have h1 : (o : Int) < 262144 := by omega
        have e : (8126464 + (o : Int) - 8126464).toNat = o := by omega
        rw [e]
        go_enter Try.func91, Try.ntmps91
        go_wp2
        go_ret
        exact ⟨by simp, rfl⟩
      · rw [if_neg (fun q => g3 q.2)]
        go_enter Try.func91, Try.ntmps91
        go_wp2
        go_ret
        exact ⟨rfl, rfl⟩
    · rw [if_neg (fun q => g2 q.1)]
      have g2' : ¬ a ≥ L := g2
      go_enter Try.func91, Try.ntmps91
      go_wp2
      go_ret
      exact ⟨rfl, rfl⟩
/-- The byte at an address. -/
def byteD (d : Ds) (a : Int) : Option Int := match placeD d a with
  | none => none
  | some (st, o) => some ((if st then d.sk else d.gl).getD o 0)
/-- The lowest k bytes, behind what is read already. -/
def loadN (d : Ds) (a : Int) : Nat → Int → Option Int
  | 0, w => some w
  | k + 1, w => match byteD d (a + k) with
    | none => none
    | some b => loadN d a k ((w * 256 % 4294967296 + b) % 4294967296)
theorem place_in (hM : DmOk d) {a : Int} {st : Bool} {o : Nat} (h : placeD d a = some (st, o)) : o < (if st then d.sk else d.gl).length := by
  unfold placeD at h
  split at h
  · injection h with h
    injection h with h1 h2
    subst h1 h2
    show _ < d.gl.length
    omega
  · split at h
    · injection h with h
      injection h with h1 h2
      subst h1 h2
      show _ < d.sk.length
      have := hM.k
      have := hM.l
      omega
    · cases h
theorem byte_cell (h : DocM C W0 r W d v) (hM : DmOk d) {a : Int} {st : Bool} {o : Nat} (hp : placeD d a = some (st, o)) : W.cell? ⟨if st then v.kb else v.gb, o, none⟩ = some (.int .u8 ((if st then d.sk else d.gl).getD o 0)) ∧ W.frozen? ⟨if st then v.kb else v.gb, o, none⟩ = false := by
  have hlt := place_in hM hp
  cases st with
  | true =>
    refine ⟨?_, frozen_of_row W _ _ _ 5 h.ks⟩
    show W.cell? ⟨v.kb, o, none⟩ = some (.int .u8 (d.sk.getD o 0))
    rw [cell_of_row W _ _ _ 5 (0, 0) h.ks, List.getElem?_toArray, flat_by]
    have hlt : o < d.sk.length := hlt
    simp [List.getD, hlt]
  | false =>
    refine ⟨?_, frozen_of_row W _ _ _ 5 h.gs⟩
    show W.cell? ⟨v.gb, o, none⟩ = some (.int .u8 (d.gl.getD o 0))
    rw [cell_of_row W _ _ _ 5 (0, 0) h.gs, List.getElem?_toArray, flat_by]
    have hlt : o < d.gl.length := hlt
    simp [List.getD, hlt]
structure DbOk (d : Ds) : Prop where
  g : ∀ o, 0 ≤ d.gl.getD o 0 ∧ d.gl.getD o 0 < 256
  k : ∀ o, 0 ≤ d.sk.getD o 0 ∧ d.sk.getD o 0 < 256
theorem DbOk.at {d : Ds} (h : DbOk d) (st : Bool) (o : Nat) : 0 ≤ (if st then d.sk else d.gl).getD o 0 ∧ (if st then d.sk else d.gl).getD o 0 < 256 := by
  cases st
  · exact h.g o
  · exact h.k o
def optV (x : Option Int) : Value := .tuple #[.int .u32 (x.getD 0), .bool x.isSome]
theorem load75 (h : DocM C W0 r W d v) (hM : DmOk d) (hB : DbOk d) {a : Int} (ha : 0 ≤ a ∧ a < 4294967296) {n : Nat} (hn : n ≤ 4) :
    Calls Try.prog 75 #[.pointer (some ⟨r, 0, none⟩), .int .i64 a, .int .i64 n] W fun e w' => e = .returned (optV (loadN d a n 0)) ∧ w' = W := by
  have H91 : Hid (∀ k : Nat, k < 4 → _) := fun k hk => place91 h hM (a := a + k) (by omega)
  have HC : Hid (∀ k : Nat, ∀ st o, placeD d (a + k) = some (st, o) → _) := fun k st o hp => byte_cell h hM hp
  have HP := hid' hB
  have hw0 : IntKind.i64.wrap ((n : Int) - 1) = n - 1 := by simp [IntKind.wrap, IntKind.bits, IntKind.signed]; omega
  generalize hR : loadN d a n 0 = R
  have HR := hid' hR
  clear h hM hB hR
  go_enter Try.func75, Try.ntmps75
  go_wp2
  go_loopw [8, 9] (fun w i wr => ∃ (k : Nat) (A : Int), k ≤ n ∧ i = .int .i64 ((k : Int) - 1) ∧ w = .int .u32 A ∧ 0 ≤ A ∧ A < 4294967296 ∧ loadN d a k A = R ∧ wr = W) (fun _ i _ => (intOf i + 1).toNat)
  case atStart => exact ⟨n, 0, Nat.le_refl _, rfl, rfl, by omega, by omega, HR.out, rfl⟩
  case round =>
    obtain ⟨k, A, hk, rfl, rfl, hA0, hA1, hL, rfl⟩ := hrel
    have HL := hid' hL
    clear hL
    match k, hk, HL with
    | 0, hk, HL =>
      have e : R = some A := HL.out.symm
      have g0 : ¬ ((0 : Nat) : Int) - 1 ≥ 0 := by omega
      subst e
      go_wp2
      exact bodyPost_ret (v := .tuple #[.int .u32 A, .bool true]) (by simp [results, Try.results75]) rfl ⟨rfl, rfl⟩
    | k + 1, hk, HL =>
      have h91 := H91.out k (by omega)
      have hc := HC.out k
      have hl := HL.out
      unfold loadN byteD at hl
      have ek : ((k + 1 : Nat) : Int) - 1 = k := by omega
      have hwa : IntKind.i64.wrap (a + (k : Int)) = a + k := by simp [IntKind.wrap, IntKind.bits, IntKind.signed]; omega
      have hwk : IntKind.i64.wrap ((k : Int) - 1) = k - 1 := by simp [IntKind.wrap, IntKind.bits, IntKind.signed]; omega
      have g0 : (k : Int) ≥ 0 := by omega
      rw [ek]
      unfold placeV at h91
      cases hp : placeD d (a + k) with
      | none =>
        rw [hp] at hl h91
        dsimp only at hl h91
        subst hl
        clear hc HL hp
        go_wp2_with (go_at_call 91; refine h91.mono ?_; rintro e1 w1 ⟨rfl, rfl⟩)
        exact bodyPost_ret (v := .tuple #[.int .u32 0, .bool false]) (by simp [results, Try.results75]) rfl ⟨rfl, rfl⟩
      | some q =>
        obtain ⟨st, o⟩ := q
        obtain ⟨c1, c2⟩ := hc st o hp
        have hb := HP.out.at st o
        rw [hp] at hl h91
        dsimp only at hl h91
        have HL2 := hid' hl
        clear hc hp HL hl
        generalize (if st then v.kb else v.gb) = pb at *
        generalize (if st then d.sk else d.gl).getD o 0 = bt at *
        have hbw : bt % 4294967296 = bt := by omega
        go_wp2_with (go_at_call 91; refine h91.mono ?_; rintro e1 w1 ⟨rfl, rfl⟩)
        have em : A * 256 % 4294967296 + bt = (A * 256 % 4294967296 + bt) % 4294967296 := by omega
        refine ⟨⟨k, (A * 256 % 4294967296 + bt) % 4294967296, by omega, rfl, by rw [← em], by omega, by omega, HL2.out, trivial⟩, ?_⟩
        simp [intOf]
end
end Go.Proofs.Ytiehlkhpblldaaa
namespace Go.Proofs.Ytiehlkhpblldaaa
open Go.RowKit Go.Maps
section
variable {C : Cst} {W0 W W' : World} {r : Nat} {d d' : Ds} {v v' : Dv}
/-- A byte is laid. -/
def putB (d : Ds) (a b : Int) : Ds := match placeD d a with
  | none => d
  | some (true, o) => { d with sk := d.sk.set o b }
  | some (false, o) => { d with gl := d.gl.set o b }
def storeN (d : Ds) (a w : Int) : Nat → Ds
  | 0 => d
  | k + 1 => putB (storeN d a w k) (a + k) (w / 256 ^ k % 256)
def stOkD (d : Ds) (a : Int) (n : Nat) : Bool := (List.range n).all (fun i => (placeD d (a + i)).isSome)
def storeD (d : Ds) (a : Int) (n : Nat) (w : Int) : Ds := if stOkD d a n then storeN d a w n else d
/-- Lists as long, and the stack as deep. -/
structure SameD (d d' : Ds) : Prop where
  g : d'.gl.length = d.gl.length
  k : d'.sk.length = d.sk.length
  l : d'.low = d.low
theorem put_same (d : Ds) (a b : Int) : SameD d (putB d a b) := by
  unfold putB
  split
  · exact ⟨rfl, rfl, rfl⟩
  · exact ⟨rfl, by simp, rfl⟩
  · exact ⟨by simp, rfl, rfl⟩
theorem store_same (d : Ds) (a w : Int) : ∀ n, SameD d (storeN d a w n)
  | 0 => ⟨rfl, rfl, rfl⟩
  | n + 1 => by
    have h := store_same d a w n
    have k := put_same (storeN d a w n) (a + n) (w / 256 ^ n % 256)
    exact ⟨k.g.trans h.g, k.k.trans h.k, k.l.trans h.l⟩
theorem SameD.place (h : SameD d d') (a : Int) : placeD d' a = placeD d a := by
  unfold placeD
  rw [h.g, h.l]
theorem SameD.ok (h : SameD d d') (hM : DmOk d) : DmOk d' := ⟨by rw [h.g]; exact hM.g, by rw [h.k]; exact hM.k, by rw [h.l]; exact hM.l⟩
theorem kept_two {W W' : World} {b g : Nat} (K : Kept (fun k => k = b) W W') (hlt : g < W.heap.size) (hne : g ≠ b) : W'.heap[g]? = W.heap[g]? := K.block g hlt hne
theorem own_other {W W' : World} {B b : Nat} {e : TypeId} {z n : Nat} {v : Value} {xs : List Value} (h : W.ownsRow B e z v n xs) (hb : v.ownBlock ≠ some b) (K : Kept (fun k => k = b) W W') : W'.ownsRow B e z v n xs :=
  K.owns h (fun g hg e2 => hb (e2 ▸ hg))
theorem DocM.byte (h : DocM C W0 r W d v) {a b : Int} {st : Bool} {o : Nat} (hp : placeD d a = some (st, o)) : DocM C W0 r (W.setCell ⟨if st then v.kb else v.gb, o, none⟩ (.int .u8 b)) (putB d a b) v := by
  have hlt1 := (Array.getElem?_eq_some_iff.1 h.gs).1
  have hlt2 := (Array.getElem?_eq_some_iff.1 h.ks).1
  unfold putB
  rw [hp]
  cases st with
  | true =>
    have K := setK W v.kb o (.int .u8 b)
    exact { h with
      below := h.below.trans (K.below h.below.size (fun k e => by have := h.kr; omega))
      rc := by
        have := kept_blk h.rc h.ks (by decide) K
        refine this.trans ?_
        simp [dcells]
      gs := (kept_two K hlt1 h.gk).trans h.gs
      ks := by
        show (W.setCell ⟨v.kb, o, none⟩ (.int .u8 b)).heap[v.kb]? = _
        rw [heap_setCell_same W v.kb o _ 5 _ h.ks, List.setIfInBounds_toArray, by_set]
      os := own_other h.os h.ok K }
  | false =>
    have K := setK W v.gb o (.int .u8 b)
    exact { h with
      below := h.below.trans (K.below h.below.size (fun k e => by have := h.gr; omega))
      rc := by
        have := kept_blk h.rc h.gs (by decide) K
        refine this.trans ?_
        simp [dcells]
      ks := (kept_two K hlt2 (Ne.symm h.gk)).trans h.ks
      gs := by
        show (W.setCell ⟨v.gb, o, none⟩ (.int .u8 b)).heap[v.gb]? = _
        rw [heap_setCell_same W v.gb o _ 5 _ h.gs, List.setIfInBounds_toArray, by_set]
      os := own_other h.os h.og K }
def TwoB (v : Dv) (k : Nat) : Prop := k = v.gb ∨ k = v.kb
theorem store76 (h : DocM C W0 r W d v) (hM : DmOk d) {a w : Int} (ha : 0 ≤ a ∧ a < 4294967296) (hw : 0 ≤ w ∧ w < 4294967296) {n : Nat} (hn : n ≤ 4) :
    Calls Try.prog 76 #[.pointer (some ⟨r, 0, none⟩), .int .i64 a, .int .i64 n, .int .u32 w] W fun e w' => e = .returned (.bool (stOkD d a n)) ∧ DocM C W0 r w' (storeD d a n w) v ∧ Kept (TwoB v) W w' := by
  have H := hid' h
  have HM := hid' hM
  have H91 : Hid (∀ k : Nat, k < 4 → _) := fun k hk => place91 h hM (a := a + k) (by omega)
  clear h hM
  generalize hOK : stOkD d a n = OK
  unfold storeD
  rw [hOK]
  have HOK := hid' hOK
  clear hOK
  go_enter Try.func76, Try.ntmps76
  go_wp2
  go_loopw [9] (fun i wr => ∃ (k : Nat), k ≤ n ∧ i = .int .i64 k ∧ (∀ j : Nat, j < k → (placeD d (a + j)).isSome = true) ∧ wr = W) (fun i _ => n - (intOf i).toNat)
  case atStart => exact ⟨0, Nat.zero_le _, rfl, fun j hj => absurd hj (Nat.not_lt_zero _), rfl⟩
  case round =>
    obtain ⟨k, hk, rfl, hall, rfl⟩ := hrel
    have HA := hid' hall
    clear hall
    by_cases hlt : k < n
    · have h91 := H91.out k (by omega)
      have hwa : IntKind.i64.wrap (a + (k : Int)) = a + k := by simp [IntKind.wrap, IntKind.bits, IntKind.signed]; omega
      have hki : (k : Int) < n := by omega
      unfold placeV at h91
      cases hp : placeD d (a + k) with
      | none =>
        have e : OK = false := by
          rw [← HOK.out]
          unfold stOkD
          rw [List.all_eq_false]
          exact ⟨k, List.mem_range.2 hlt, by rw [hp]; simp⟩
        subst e
        rw [hp] at h91
        dsimp only at h91
        clear hp
        go_wp2_with (go_at_call 91; refine h91.mono ?_; rintro e1 w1 ⟨rfl, rfl⟩)
        go_ret
        exact ⟨rfl, H.out, Kept.rfl _ _⟩
      | some q =>
        obtain ⟨st, o⟩ := q
        have HN : Hid (∀ j : Nat, j < k + 1 → (placeD d (a + j)).isSome = true) := fun j hj => by
          by_cases e : j = k
          · subst e; rw [hp]; rfl
          · exact HA.out j (by omega)
        rw [hp] at h91
        dsimp only at h91
        clear hp HA
        generalize (if st then v.kb else v.gb) = pb at *
        go_wp2_with (go_at_call 91; refine h91.mono ?_; rintro e1 w1 ⟨rfl, rfl⟩)
        refine ⟨⟨k + 1, by omega, by go_num, HN.out, trivial⟩, ?_⟩
        simp [intOf]
        omega
    · have e : k = n := by omega
      subst e
      have eOK : OK = true := by
        rw [← HOK.out]
        unfold stOkD
        rw [List.all_eq_true]
        exact fun j hj => HA.out j (List.mem_range.1 hj)
      subst eOK
      clear HOK
      have HAL := hid' HA.out
      clear H91
      go_wp2
      go_loopw [3, 10] (fun z i wq => ∃ (m : Nat) (V : Int), m ≤ k ∧ i = .int .i64 m ∧ z = .int .u32 V ∧ V = w / 256 ^ m ∧ 0 ≤ V ∧ V < 4294967296 ∧ DocM C W0 r wq (storeN d a w m) v ∧ Kept (TwoB v) wr wq) (fun _ i _ => k - (intOf i).toNat)
      case atStart => exact ⟨0, w, Nat.zero_le _, rfl, rfl, by simp, by omega, by omega, H.out, Kept.rfl _ _⟩
      case round =>
        obtain ⟨m, V, hm, rfl, rfl, hV, hV0, hV1, hD, hKp⟩ := hrel
        have HD := hid' hD
        have HKp := hid' hKp
        have HV := hid' hV
        clear hD hKp hV
        by_cases hlt2 : m < k
        · have hSM := store_same d a w m
          have h91 := place91 HD.out (hSM.ok HM.out) (a := a + m) (by omega)
          have hwa : IntKind.i64.wrap (a + (m : Int)) = a + m := by simp [IntKind.wrap, IntKind.bits, IntKind.signed]; omega
          have hki : (m : Int) < k := by omega
          have hso := HAL.out m hlt2
          have hpl := hSM.place (a + m)
          unfold placeV at h91
          rw [hpl] at h91
          cases hp : placeD d (a + m) with
          | none => rw [hp] at hso; cases hso
          | some q =>
            obtain ⟨st, o⟩ := q
            rw [hp] at h91 hpl
            dsimp only at h91
            obtain ⟨c1, c2⟩ := byte_cell HD.out (hSM.ok HM.out) hpl
            have hN := HD.out.byte (b := V % 256) hpl
            have HN := hid' hN
            have HKN := hid' (HKp.out.ahead (setK _ (if st then v.kb else v.gb) o (.int .u8 (V % 256))) (fun i _ e => by
              cases st
              · exact .inl e
              · exact .inr e))
            have hV2 : V.tdiv 256 = V / 256 := Int.tdiv_eq_ediv_of_nonneg hV0
            have hV3 : V / 256 = w / 256 ^ (m + 1) := by rw [HV.out, Int.pow_succ, Int.ediv_ediv_of_nonneg (Int.pow_nonneg (by omega))]
            have HV3 := hid' hV3
            clear hN hp hpl hso hSM hV3
            generalize (if st then v.kb else v.gb) = pb at *
            go_wp2_with (go_at_call 91; refine h91.mono ?_; rintro e1 w1 ⟨rfl, rfl⟩)
            refine ⟨⟨m + 1, V / 256, by omega, by go_num, rfl, HV3.out, by omega, by omega, ?_, HKN.out⟩, ?_⟩
            · show DocM C W0 r _ (putB (storeN d a w m) (a + m) (w / 256 ^ m % 256)) v
              rw [← HV.out]
              exact HN.out
            · simp [intOf]
              omega
        · have e : m = k := by omega
          subst e
          go_wp2
          go_ret
          exact ⟨rfl, HD.out, HKp.out⟩
end
end Go.Proofs.Ytiehlkhpblldaaa
