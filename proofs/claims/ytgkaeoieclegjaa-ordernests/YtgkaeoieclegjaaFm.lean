/- The finder in memory. -/
import Derived.Test.YtgkaeoieclegjaaNn
namespace Go.Proofs.Ytgkaeoieclegjaa
open Go.RowKit Go.Maps
set_option linter.unusedVariables false
set_option linter.unusedSimpArgs false
/-- Where the finder's lists lie. -/
structure Fv where
  g0 : Nat
  g1 : Nat
  g2 : Nat
  g3 : Nat
  g4 : Nat
  g6 : Nat
  g7 : Nat
  wv : Value
def sl (g n : Nat) : Value := .slice (some ⟨g, 0, none⟩) n n
def Fv.cell (v : Fv) (n : Nat) : Nat → Value
  | 0 => .slice (some ⟨v.g0, 0, none⟩) n n
  | 1 => .slice (some ⟨v.g1, 0, none⟩) n n
  | 2 => .slice (some ⟨v.g2, 0, none⟩) n n
  | 3 => .slice (some ⟨v.g3, 0, none⟩) n n
  | 4 => .slice (some ⟨v.g4, 0, none⟩) n n
  | 5 => v.wv
  | 6 => .slice (some ⟨v.g6, 0, none⟩) n n
  | _ => .slice (some ⟨v.g7, 0, none⟩) n n
def oi (o : Option Nat) : Int := match o with
  | some k => k
  | none => -1
def ints (l : List Nat) : List Int := l.map (fun k : Nat => (k : Int))
/-- The finder is block r; nothing of it lies below B. -/
structure FM (B : Nat) (W : World) (r : Nat) (v : Fv) (n : Nat) (ab : Nat → Option Nat) (s : Fs) (way : List Nat) : Prop where
  box : W.rowIs r 66 8 (v.cell n)
  ra : RowI W v.g0 n (fun j => oi (ab j))
  rs : RowI W v.g1 n (fun j => (s.sm j : Int))
  rd : RowI W v.g2 n (fun j => oi (s.dom j))
  ru : RowI W v.g3 n (fun j => oi (s.up j))
  rb : RowI W v.g4 n (fun j => (s.best j : Int))
  rq : RowI W v.g6 n (fun j => oi (s.wt j))
  rx : RowI W v.g7 n (fun j => oi (s.nx j))
  own : Own 3 1 icell W B v.wv (ints way)
  fm : (way = [] ∧ v.wv = .slice none 0 0) ∨ ∃ h c, v.wv = .slice (some ⟨h, 0, none⟩) way.length c ∧ way.length ≤ c
  lo : B ≤ r ∧ B ≤ v.g0 ∧ B ≤ v.g1 ∧ B ≤ v.g2 ∧ B ≤ v.g3 ∧ B ≤ v.g4 ∧ B ≤ v.g6 ∧ B ≤ v.g7
  ne : v.g0 ≠ r ∧ v.g1 ≠ r ∧ v.g1 ≠ v.g0 ∧ v.g2 ≠ r ∧ v.g2 ≠ v.g0 ∧ v.g2 ≠ v.g1 ∧ v.g3 ≠ r ∧ v.g3 ≠ v.g0 ∧ v.g3 ≠ v.g1 ∧ v.g3 ≠ v.g2 ∧ v.g4 ≠ r ∧ v.g4 ≠ v.g0 ∧ v.g4 ≠ v.g1 ∧ v.g4 ≠ v.g2 ∧ v.g4 ≠ v.g3 ∧ v.g6 ≠ r ∧ v.g6 ≠ v.g0 ∧ v.g6 ≠ v.g1 ∧ v.g6 ≠ v.g2 ∧ v.g6 ≠ v.g3 ∧ v.g6 ≠ v.g4 ∧ v.g7 ≠ r ∧ v.g7 ≠ v.g0 ∧ v.g7 ≠ v.g1 ∧ v.g7 ≠ v.g2 ∧ v.g7 ≠ v.g3 ∧ v.g7 ≠ v.g4 ∧ v.g7 ≠ v.g6
  wn : ∀ h, v.wv.ownBlock = some h → h ≠ r ∧ h ≠ v.g0 ∧ h ≠ v.g1 ∧ h ≠ v.g2 ∧ h ≠ v.g3 ∧ h ≠ v.g4 ∧ h ≠ v.g6 ∧ h ≠ v.g7
variable {B r n : Nat} {W : World} {v : Fv} {ab : Nat → Option Nat} {s : Fs} {way : List Nat}
theorem FM.cell (h : FM B W r v n ab s way) (k : Nat) (hk : k < 8) : W.cell? ⟨r, k, none⟩ = some (v.cell n k) := World.rowIs.cell h.box hk
theorem FM.c0 (h : FM B W r v n ab s way) : W.cell? ⟨r, 0, none⟩ = some (.slice (some ⟨v.g0, 0, none⟩) n n) := h.cell 0 (by omega)
theorem FM.c1 (h : FM B W r v n ab s way) : W.cell? ⟨r, 1, none⟩ = some (.slice (some ⟨v.g1, 0, none⟩) n n) := h.cell 1 (by omega)
theorem FM.c2 (h : FM B W r v n ab s way) : W.cell? ⟨r, 2, none⟩ = some (.slice (some ⟨v.g2, 0, none⟩) n n) := h.cell 2 (by omega)
theorem FM.c3 (h : FM B W r v n ab s way) : W.cell? ⟨r, 3, none⟩ = some (.slice (some ⟨v.g3, 0, none⟩) n n) := h.cell 3 (by omega)
theorem FM.c4 (h : FM B W r v n ab s way) : W.cell? ⟨r, 4, none⟩ = some (.slice (some ⟨v.g4, 0, none⟩) n n) := h.cell 4 (by omega)
theorem FM.c6 (h : FM B W r v n ab s way) : W.cell? ⟨r, 6, none⟩ = some (.slice (some ⟨v.g6, 0, none⟩) n n) := h.cell 6 (by omega)
theorem FM.c7 (h : FM B W r v n ab s way) : W.cell? ⟨r, 7, none⟩ = some (.slice (some ⟨v.g7, 0, none⟩) n n) := h.cell 7 (by omega)
theorem FM.c5 (h : FM B W r v n ab s way) : W.cell? ⟨r, 5, none⟩ = some v.wv := h.cell 5 (by omega)
theorem FM.fro (h : FM B W r v n ab s way) (k : Nat) : W.frozen? ⟨r, k, none⟩ = false := World.rowIs.frozen h.box k
/-- What lies apart of it turns. -/
theorem FM.kept {S : Nat → Prop} {W' : World} (h : FM B W r v n ab s way) (K : Kept S W W') (hS : ∀ b, S b → b < B ∨ W.heap.size ≤ b) : FM B W' r v n ab s way := by
  have hl := h.lo
  have ap : ∀ b, B ≤ b → b < W.heap.size → ¬ S b := fun b h1 h2 hb => by
    have := hS b hb
    omega
  refine ⟨World.rowIs.of_block h.box (K.block _ h.box.lt (ap _ (by omega) h.box.lt)), h.ra.kept K (ap _ h.lo.2.1 h.ra.lt), h.rs.kept K (ap _ h.lo.2.2.1 h.rs.lt), h.rd.kept K (ap _ h.lo.2.2.2.1 h.rd.lt), h.ru.kept K (ap _ h.lo.2.2.2.2.1 h.ru.lt), h.rb.kept K (ap _ h.lo.2.2.2.2.2.1 h.rb.lt), h.rq.kept K (ap _ h.lo.2.2.2.2.2.2.1 h.rq.lt), h.rx.kept K (ap _ h.lo.2.2.2.2.2.2.2 h.rx.lt), K.owns h.own (fun b hb => ?_), h.fm, h.lo, h.ne, h.wn⟩
  have := World.ownsRow.lt h.own b hb
  exact ap b this.1 this.2
theorem FM.on {W' : World} (h : FM B W r v n ab s way) (hb : Below W.heap.size W W') : FM B W' r v n ab s way :=
  h.kept (Kept.of_below (S := fun _ => False) hb) (fun b e => e.elim)
theorem FM.drew (h : FM B W r v n ab s way) : FM B W.drew r v n ab s way := ⟨h.box, h.ra, h.rs, h.rd, h.ru, h.rb, h.rq, h.rx, h.own, h.fm, h.lo, h.ne, h.wn⟩
theorem FM.drewN (h : FM B W r v n ab s way) (k : Nat) : FM B (W.drewN k) r v n ab s way := ⟨h.box, h.ra, h.rs, h.rd, h.ru, h.rb, h.rq, h.rx, h.own, h.fm, h.lo, h.ne, h.wn⟩
theorem FM.big (h : FM B W r v n ab s way) : B ≤ W.heap.size := by
  have := h.lo
  have := h.box.lt
  omega
theorem FM.set_below (h : FM B W r v n ab s way) {b i : Nat} {x : Value} (hb : B ≤ b) : Below B W (W.setCell ⟨b, i, none⟩ x) :=
  ((Kept.rfl (fun k => k = b) W).set (.inl (Eq.refl _)) _).below h.big (fun k e => by omega)
theorem FM.put_sm (h : FM B W r v n ab s way) (i : Nat) (x : Nat) : FM B (W.setCell ⟨v.g1, i, none⟩ (.int .i64 (x : Int))) r v n ab { s with sm := Dfs.upd s.sm i x } way ∧ Below B W (W.setCell ⟨v.g1, i, none⟩ (.int .i64 (x : Int))) := by
  refine ⟨⟨World.rowIs.setOther h.box (Ne.symm h.ne.2.1) _, h.ra.other (Ne.symm h.ne.2.2.1), (h.rs.set i (x : Int)).congr (fun j _ => by simp only [Dfs.upd]; split <;> rfl), h.rd.other h.ne.2.2.2.2.2.1, h.ru.other h.ne.2.2.2.2.2.2.2.2.1, h.rb.other h.ne.2.2.2.2.2.2.2.2.2.2.2.2.1, h.rq.other h.ne.2.2.2.2.2.2.2.2.2.2.2.2.2.2.2.2.2.1, h.rx.other h.ne.2.2.2.2.2.2.2.2.2.2.2.2.2.2.2.2.2.2.2.2.2.2.2.1, ?_, h.fm, h.lo, h.ne, h.wn⟩, h.set_below h.lo.2.2.1⟩
  have K : Kept (fun k => k = v.g1) W (W.setCell ⟨v.g1, i, none⟩ (.int .i64 (x : Int))) := (Kept.rfl (fun k => k = v.g1) W).set (.inl (Eq.refl _)) _
  exact K.owns h.own (fun b hb e => (h.wn b hb).2.2.1 e)
theorem FM.put_dom (h : FM B W r v n ab s way) (i : Nat) (x : Option Nat) : FM B (W.setCell ⟨v.g2, i, none⟩ (.int .i64 (oi x))) r v n ab { s with dom := Dfs.upd s.dom i x } way ∧ Below B W (W.setCell ⟨v.g2, i, none⟩ (.int .i64 (oi x))) := by
  refine ⟨⟨World.rowIs.setOther h.box (Ne.symm h.ne.2.2.2.1) _, h.ra.other (Ne.symm h.ne.2.2.2.2.1), h.rs.other (Ne.symm h.ne.2.2.2.2.2.1), (h.rd.set i (oi x)).congr (fun j _ => by simp only [Dfs.upd]; split <;> rfl), h.ru.other h.ne.2.2.2.2.2.2.2.2.2.1, h.rb.other h.ne.2.2.2.2.2.2.2.2.2.2.2.2.2.1, h.rq.other h.ne.2.2.2.2.2.2.2.2.2.2.2.2.2.2.2.2.2.2.1, h.rx.other h.ne.2.2.2.2.2.2.2.2.2.2.2.2.2.2.2.2.2.2.2.2.2.2.2.2.1, ?_, h.fm, h.lo, h.ne, h.wn⟩, h.set_below h.lo.2.2.2.1⟩
  have K : Kept (fun k => k = v.g2) W (W.setCell ⟨v.g2, i, none⟩ (.int .i64 (oi x))) := (Kept.rfl (fun k => k = v.g2) W).set (.inl (Eq.refl _)) _
  exact K.owns h.own (fun b hb e => (h.wn b hb).2.2.2.1 e)
theorem FM.put_up (h : FM B W r v n ab s way) (i : Nat) (x : Option Nat) : FM B (W.setCell ⟨v.g3, i, none⟩ (.int .i64 (oi x))) r v n ab { s with up := Dfs.upd s.up i x } way ∧ Below B W (W.setCell ⟨v.g3, i, none⟩ (.int .i64 (oi x))) := by
  refine ⟨⟨World.rowIs.setOther h.box (Ne.symm h.ne.2.2.2.2.2.2.1) _, h.ra.other (Ne.symm h.ne.2.2.2.2.2.2.2.1), h.rs.other (Ne.symm h.ne.2.2.2.2.2.2.2.2.1), h.rd.other (Ne.symm h.ne.2.2.2.2.2.2.2.2.2.1), (h.ru.set i (oi x)).congr (fun j _ => by simp only [Dfs.upd]; split <;> rfl), h.rb.other h.ne.2.2.2.2.2.2.2.2.2.2.2.2.2.2.1, h.rq.other h.ne.2.2.2.2.2.2.2.2.2.2.2.2.2.2.2.2.2.2.2.1, h.rx.other h.ne.2.2.2.2.2.2.2.2.2.2.2.2.2.2.2.2.2.2.2.2.2.2.2.2.2.1, ?_, h.fm, h.lo, h.ne, h.wn⟩, h.set_below h.lo.2.2.2.2.1⟩
  have K : Kept (fun k => k = v.g3) W (W.setCell ⟨v.g3, i, none⟩ (.int .i64 (oi x))) := (Kept.rfl (fun k => k = v.g3) W).set (.inl (Eq.refl _)) _
  exact K.owns h.own (fun b hb e => (h.wn b hb).2.2.2.2.1 e)
theorem FM.put_best (h : FM B W r v n ab s way) (i : Nat) (x : Nat) : FM B (W.setCell ⟨v.g4, i, none⟩ (.int .i64 (x : Int))) r v n ab { s with best := Dfs.upd s.best i x } way ∧ Below B W (W.setCell ⟨v.g4, i, none⟩ (.int .i64 (x : Int))) := by
  refine ⟨⟨World.rowIs.setOther h.box (Ne.symm h.ne.2.2.2.2.2.2.2.2.2.2.1) _, h.ra.other (Ne.symm h.ne.2.2.2.2.2.2.2.2.2.2.2.1), h.rs.other (Ne.symm h.ne.2.2.2.2.2.2.2.2.2.2.2.2.1), h.rd.other (Ne.symm h.ne.2.2.2.2.2.2.2.2.2.2.2.2.2.1), h.ru.other (Ne.symm h.ne.2.2.2.2.2.2.2.2.2.2.2.2.2.2.1), (h.rb.set i (x : Int)).congr (fun j _ => by simp only [Dfs.upd]; split <;> rfl), h.rq.other h.ne.2.2.2.2.2.2.2.2.2.2.2.2.2.2.2.2.2.2.2.2.1, h.rx.other h.ne.2.2.2.2.2.2.2.2.2.2.2.2.2.2.2.2.2.2.2.2.2.2.2.2.2.2.1, ?_, h.fm, h.lo, h.ne, h.wn⟩, h.set_below h.lo.2.2.2.2.2.1⟩
  have K : Kept (fun k => k = v.g4) W (W.setCell ⟨v.g4, i, none⟩ (.int .i64 (x : Int))) := (Kept.rfl (fun k => k = v.g4) W).set (.inl (Eq.refl _)) _
  exact K.owns h.own (fun b hb e => (h.wn b hb).2.2.2.2.2.1 e)
theorem FM.put_wt (h : FM B W r v n ab s way) (i : Nat) (x : Option Nat) : FM B (W.setCell ⟨v.g6, i, none⟩ (.int .i64 (oi x))) r v n ab { s with wt := Dfs.upd s.wt i x } way ∧ Below B W (W.setCell ⟨v.g6, i, none⟩ (.int .i64 (oi x))) := by
  refine ⟨⟨World.rowIs.setOther h.box (Ne.symm h.ne.2.2.2.2.2.2.2.2.2.2.2.2.2.2.2.1) _, h.ra.other (Ne.symm h.ne.2.2.2.2.2.2.2.2.2.2.2.2.2.2.2.2.1), h.rs.other (Ne.symm h.ne.2.2.2.2.2.2.2.2.2.2.2.2.2.2.2.2.2.1), h.rd.other (Ne.symm h.ne.2.2.2.2.2.2.2.2.2.2.2.2.2.2.2.2.2.2.1), h.ru.other (Ne.symm h.ne.2.2.2.2.2.2.2.2.2.2.2.2.2.2.2.2.2.2.2.1), h.rb.other (Ne.symm h.ne.2.2.2.2.2.2.2.2.2.2.2.2.2.2.2.2.2.2.2.2.1), (h.rq.set i (oi x)).congr (fun j _ => by simp only [Dfs.upd]; split <;> rfl), h.rx.other h.ne.2.2.2.2.2.2.2.2.2.2.2.2.2.2.2.2.2.2.2.2.2.2.2.2.2.2.2, ?_, h.fm, h.lo, h.ne, h.wn⟩, h.set_below h.lo.2.2.2.2.2.2.1⟩
  have K : Kept (fun k => k = v.g6) W (W.setCell ⟨v.g6, i, none⟩ (.int .i64 (oi x))) := (Kept.rfl (fun k => k = v.g6) W).set (.inl (Eq.refl _)) _
  exact K.owns h.own (fun b hb e => (h.wn b hb).2.2.2.2.2.2.1 e)
theorem FM.put_nx (h : FM B W r v n ab s way) (i : Nat) (x : Option Nat) : FM B (W.setCell ⟨v.g7, i, none⟩ (.int .i64 (oi x))) r v n ab { s with nx := Dfs.upd s.nx i x } way ∧ Below B W (W.setCell ⟨v.g7, i, none⟩ (.int .i64 (oi x))) := by
  refine ⟨⟨World.rowIs.setOther h.box (Ne.symm h.ne.2.2.2.2.2.2.2.2.2.2.2.2.2.2.2.2.2.2.2.2.2.1) _, h.ra.other (Ne.symm h.ne.2.2.2.2.2.2.2.2.2.2.2.2.2.2.2.2.2.2.2.2.2.2.1), h.rs.other (Ne.symm h.ne.2.2.2.2.2.2.2.2.2.2.2.2.2.2.2.2.2.2.2.2.2.2.2.1), h.rd.other (Ne.symm h.ne.2.2.2.2.2.2.2.2.2.2.2.2.2.2.2.2.2.2.2.2.2.2.2.2.1), h.ru.other (Ne.symm h.ne.2.2.2.2.2.2.2.2.2.2.2.2.2.2.2.2.2.2.2.2.2.2.2.2.2.1), h.rb.other (Ne.symm h.ne.2.2.2.2.2.2.2.2.2.2.2.2.2.2.2.2.2.2.2.2.2.2.2.2.2.2.1), h.rq.other (Ne.symm h.ne.2.2.2.2.2.2.2.2.2.2.2.2.2.2.2.2.2.2.2.2.2.2.2.2.2.2.2), (h.rx.set i (oi x)).congr (fun j _ => by simp only [Dfs.upd]; split <;> rfl), ?_, h.fm, h.lo, h.ne, h.wn⟩, h.set_below h.lo.2.2.2.2.2.2.2⟩
  have K : Kept (fun k => k = v.g7) W (W.setCell ⟨v.g7, i, none⟩ (.int .i64 (oi x))) := (Kept.rfl (fun k => k = v.g7) W).set (.inl (Eq.refl _)) _
  exact K.owns h.own (fun b hb e => (h.wn b hb).2.2.2.2.2.2.2 e)
theorem FM.put_ab (h : FM B W r v n ab s way) (i : Nat) (x : Option Nat) : FM B (W.setCell ⟨v.g0, i, none⟩ (.int .i64 (oi x))) r v n (Dfs.upd ab i x) s way ∧ Below B W (W.setCell ⟨v.g0, i, none⟩ (.int .i64 (oi x))) := by
  refine ⟨⟨World.rowIs.setOther h.box (Ne.symm h.ne.1) _, (h.ra.set i (oi x)).congr (fun j _ => by simp only [Dfs.upd]; split <;> rfl), h.rs.other h.ne.2.2.1, h.rd.other h.ne.2.2.2.2.1, h.ru.other h.ne.2.2.2.2.2.2.2.1, h.rb.other h.ne.2.2.2.2.2.2.2.2.2.2.2.1, h.rq.other h.ne.2.2.2.2.2.2.2.2.2.2.2.2.2.2.2.2.1, h.rx.other h.ne.2.2.2.2.2.2.2.2.2.2.2.2.2.2.2.2.2.2.2.2.2.2.1, ?_, h.fm, h.lo, h.ne, h.wn⟩, h.set_below h.lo.2.1⟩
  have K : Kept (fun k => k = v.g0) W (W.setCell ⟨v.g0, i, none⟩ (.int .i64 (oi x))) := (Kept.rfl (fun k => k = v.g0) W).set (.inl (Eq.refl _)) _
  exact K.owns h.own (fun b hb e => (h.wn b hb).2.1 e)
theorem FM.congr {ab' : Nat → Option Nat} {s' : Fs} (h : FM B W r v n ab s way) (e : ∀ j, j < n → ab j = ab' j ∧ s.sm j = s'.sm j ∧ s.dom j = s'.dom j ∧ s.up j = s'.up j ∧ s.best j = s'.best j ∧ s.wt j = s'.wt j ∧ s.nx j = s'.nx j) : FM B W r v n ab' s' way :=
  ⟨h.box, h.ra.congr (fun j hj => by rw [(e j hj).1]), h.rs.congr (fun j hj => by rw [(e j hj).2.1]), h.rd.congr (fun j hj => by rw [(e j hj).2.2.1]), h.ru.congr (fun j hj => by rw [(e j hj).2.2.2.1]), h.rb.congr (fun j hj => by rw [(e j hj).2.2.2.2.1]), h.rq.congr (fun j hj => by rw [(e j hj).2.2.2.2.2.1]), h.rx.congr (fun j hj => by rw [(e j hj).2.2.2.2.2.2]), h.own, h.fm, h.lo, h.ne, h.wn⟩
/-- The way's list becomes another one. -/
theorem FM.put_way {W2 : World} {v' : Value} {way' : List Nat} (h : FM B W r v n ab s way) {S : Nat → Prop} (K : Kept S W W2) (hS : ∀ b, S b → (v.wv.ownBlock = some b ∨ W.heap.size ≤ b))
    (hown : Own 3 1 icell W2 B v' (ints way')) (hfm : (way' = [] ∧ v' = .slice none 0 0) ∨ ∃ h c, v' = .slice (some ⟨h, 0, none⟩) way'.length c ∧ way'.length ≤ c)
    (hloc : ∀ b, v'.ownBlock = some b → v.wv.ownBlock = some b ∨ W.heap.size ≤ b) : FM B (W2.setCell ⟨r, 5, none⟩ v') r { v with wv := v' } n ab s way' ∧ Below B W (W2.setCell ⟨r, 5, none⟩ v') := by
  have hl := h.lo.1
  have ap : ∀ b, B ≤ b → b < W.heap.size → (∀ c, v.wv.ownBlock = some c → b ≠ c) → ¬ S b := fun b h1 h2 h3 hb => by
    rcases hS b hb with e | e
    · exact h3 b e rfl
    · omega
  have q0 := h.box.lt
  have q_ra := h.ra.lt
  have q_rs := h.rs.lt
  have q_rd := h.rd.lt
  have q_ru := h.ru.lt
  have q_rb := h.rb.lt
  have q_rq := h.rq.lt
  have q_rx := h.rx.lt
  have KB : Kept (fun k => k = r) W2 (W2.setCell ⟨r, 5, none⟩ v') := (Kept.rfl (fun k => k = r) W2).set (.inl (Eq.refl _)) _
  have hwb : ∀ b, v'.ownBlock = some b → b ≠ r ∧ b ≠ v.g0 ∧ b ≠ v.g1 ∧ b ≠ v.g2 ∧ b ≠ v.g3 ∧ b ≠ v.g4 ∧ b ≠ v.g6 ∧ b ≠ v.g7 := fun b hb => by
    rcases hloc b hb with e | e
    · exact h.wn b e
    · exact ⟨by omega, by omega, by omega, by omega, by omega, by omega, by omega, by omega⟩
  have b2 : W2.rowIs r 66 8 (v.cell n) := World.rowIs.of_block h.box (K.block _ q0 (ap _ hl q0 (fun c hc => Ne.symm (h.wn c hc).1)))
  refine ⟨⟨(World.rowIs.set b2 5 v').congr (fun i hi => ?_), (h.ra.kept K (ap _ h.lo.2.1 q_ra (fun c hc => Ne.symm (h.wn c hc).2.1))).kept KB h.ne.1, (h.rs.kept K (ap _ h.lo.2.2.1 q_rs (fun c hc => Ne.symm (h.wn c hc).2.2.1))).kept KB h.ne.2.1, (h.rd.kept K (ap _ h.lo.2.2.2.1 q_rd (fun c hc => Ne.symm (h.wn c hc).2.2.2.1))).kept KB h.ne.2.2.2.1, (h.ru.kept K (ap _ h.lo.2.2.2.2.1 q_ru (fun c hc => Ne.symm (h.wn c hc).2.2.2.2.1))).kept KB h.ne.2.2.2.2.2.2.1, (h.rb.kept K (ap _ h.lo.2.2.2.2.2.1 q_rb (fun c hc => Ne.symm (h.wn c hc).2.2.2.2.2.1))).kept KB h.ne.2.2.2.2.2.2.2.2.2.2.1, (h.rq.kept K (ap _ h.lo.2.2.2.2.2.2.1 q_rq (fun c hc => Ne.symm (h.wn c hc).2.2.2.2.2.2.1))).kept KB h.ne.2.2.2.2.2.2.2.2.2.2.2.2.2.2.2.1, (h.rx.kept K (ap _ h.lo.2.2.2.2.2.2.2 q_rx (fun c hc => Ne.symm (h.wn c hc).2.2.2.2.2.2.2))).kept KB h.ne.2.2.2.2.2.2.2.2.2.2.2.2.2.2.2.2.2.2.2.2.2.1, KB.owns hown (fun b hb e => (hwb b hb).1 e), hfm, h.lo, h.ne, hwb⟩, ?_⟩
  · match i, hi with
    | 0, _ => rfl
    | 1, _ => rfl
    | 2, _ => rfl
    | 3, _ => rfl
    | 4, _ => rfl
    | 5, _ => rfl
    | 6, _ => rfl
    | 7, _ => rfl
  · have K2 : Kept (fun b => B ≤ b) W W2 := ⟨K.os, K.tape, K.output, K.size, fun k hk hn' => K.block k hk (fun hs => by
      have hn' : ¬ B ≤ k := hn'
      rcases hS k hs with e | e
      · have := World.ownsRow.lt h.own k e
        omega
      · omega)⟩
    exact (K2.set (.inl hl) _).below h.big (fun k e => e)
theorem FM.app {W2 : World} {v' : Value} {t : Nat} {o : Obj} (h : FM B W r v n ab s way) (hown : Own 3 1 icell W2 B v' (ints way ++ [(t : Int)])) (hg : (W.alloc o).grownBy W2 v.wv.ownBlock)
    (hloc : v'.ownBlock = v.wv.ownBlock ∨ v'.ownBlock = some (W.alloc o).heap.size) : FM B (W2.setCell ⟨r, 5, none⟩ v') r { v with wv := v' } n ab s (way ++ [t]) ∧ Below B W (W2.setCell ⟨r, 5, none⟩ v') := by
  have K1 : Kept (fun b => v.wv.ownBlock = some b) W W2 := ((Kept.rfl (fun b => v.wv.ownBlock = some b) W).alloc o).ahead (Kept.of_grown (S := fun b => v.wv.ownBlock = some b) hg (fun k e => e)) (fun i _ e => e)
  have e1 : ints (way ++ [t]) = ints way ++ [(t : Int)] := by simp [ints]
  refine h.put_way K1 (fun b e => .inl e) (by rw [e1]; exact hown) (.inr ?_) (fun b hb => ?_)
  · rcases hown.2 with ⟨_, e0⟩ | ⟨g5, c5, cu5, e5, _, _, a3, _⟩
    · simp at e0
    · refine ⟨g5, c5, ?_, ?_⟩
      · rw [e5]; simp [ints]
      · simpa [ints] using a3
  · rcases hloc with e | e
    · exact .inl (e ▸ hb)
    · rw [e] at hb
      injection hb with hb
      right
      simp at hb
      omega
theorem own_take {W : World} {h n c k : Nat} {l : List Int} (H : Own 3 1 icell W B (.slice (some ⟨h, 0, none⟩) n c) l) (hk : k ≤ l.length) : Own 3 1 icell W B (.slice (some ⟨h, 0, none⟩) k c) (l.take k) := by
  have hl : (l.take k).length = k := by rw [List.length_take]; omega
  rcases H.2 with ⟨e, _⟩ | ⟨g5, c5, cu5, e5, a1, a2, a3, a4, a5, a6⟩
  · cases e
  · injection e5 with e1 e2 e3
    injection e1 with e1
    injection e1 with e1
    subst e1 e3
    refine ⟨by rw [flat_length ic1], .inr ⟨h, c, cu5, by rw [hl], a1, a2, by omega, a4, a5, ?_⟩⟩
    have e7 : (cu5.toList.take (l.length * 1)).take (k * 1) = cu5.toList.take (k * 1) := by rw [List.take_take]; congr 1; omega
    rw [hl, ← e7, a6, flat_i, flat_i, Nat.mul_one, List.map_take]
end Go.Proofs.Ytgkaeoieclegjaa
