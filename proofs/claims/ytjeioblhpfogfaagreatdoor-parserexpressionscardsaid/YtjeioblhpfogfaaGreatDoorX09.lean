/- Trees: as plain data, and how they lie in memory. -/
import Derived.Test.YtjeioblhpfogfaaGreatDoorProg
import Derived.WalkKit
import Derived.Deep.OwnRows
import Derived.Deep.QuietTactic
import Derived.BigQuiet
import Derived.Laws.OwnMore
import Derived.Maps.AppendAt
import Derived.Deep.RegionLaw
set_option linter.unusedVariables false
set_option linter.unusedSimpArgs false
set_option maxRecDepth 20000
set_option maxHeartbeats 8000000
namespace Go.Proofs.YtjeioblhpfogfaaGreatDoor
open Go.RowKit

theorem below1 (w : World) (o : Obj) : Below w.heap.size w (w.alloc o) := (Below.refl _ _).alloc (Nat.le_refl _) o
theorem hid' {x : Prop} (h : x) : Hid x := h
theorem below_call {w w' : World} {o : Obj} (h : Below (w.alloc o).heap.size (w.alloc o) w') : Below w.heap.size w w' := (below1 w o).trans (h.mono (by simp))
theorem below_on {a b c : World} (h : Below a.heap.size a b) (k : Below b.heap.size b c) : Below a.heap.size a c := h.trans (k.mono h.size)

/-- All that has been there is as it was, but what S names. -/
structure Kept (S : Nat → Prop) (w w' : World) : Prop where
  os : w'.os = w.os
  tape : w'.tape = w.tape
  output : w'.output = w.output
  size : w.heap.size ≤ w'.heap.size
  block : ∀ k, k < w.heap.size → ¬ S k → w'.heap[k]? = w.heap[k]?
theorem Kept.rfl (S : Nat → Prop) (w : World) : Kept S w w := ⟨Eq.refl _, Eq.refl _, Eq.refl _, Nat.le_refl _, fun _ _ _ => Eq.refl _⟩
theorem Kept.trans {S : Nat → Prop} {a b c : World} (h : Kept S a b) (k : Kept S b c) : Kept S a c :=
  ⟨k.os.trans h.os, k.tape.trans h.tape, k.output.trans h.output, Nat.le_trans h.size k.size, fun i hi hn => (k.block i (Nat.lt_of_lt_of_le hi h.size) hn).trans (h.block i hi hn)⟩
theorem Kept.alloc {S : Nat → Prop} {w w' : World} (h : Kept S w w') (o : Obj) : Kept S w (w'.alloc o) :=
  ⟨h.os, h.tape, h.output, by have := h.size; simp; omega, fun k hk hn => (Below.heap_alloc _ _ _ (Nat.lt_of_lt_of_le hk h.size)).trans (h.block k hk hn)⟩
theorem Kept.drew {S : Nat → Prop} {w w' : World} (h : Kept S w w') : Kept S w w'.drew := ⟨h.os, h.tape, h.output, h.size, h.block⟩
theorem Kept.of_below {S : Nat → Prop} {w w' : World} (h : Below w.heap.size w w') : Kept S w w' := ⟨h.os, h.tape, h.output, h.size, fun k hk _ => h.block k hk⟩
theorem Kept.cell {S : Nat → Prop} {w w' : World} (h : Kept S w w') {b o : Nat} (hb : b < w.heap.size) (hn : ¬ S b) : w'.cell? ⟨b, o, none⟩ = w.cell? ⟨b, o, none⟩ := World.cell?_of_block (w := w) (h.block b hb hn)
theorem Kept.frozen {S : Nat → Prop} {w w' : World} (h : Kept S w w') {b o : Nat} (hb : b < w.heap.size) (hn : ¬ S b) : w'.frozen? ⟨b, o, none⟩ = w.frozen? ⟨b, o, none⟩ := World.frozen?_of_block (w := w) (h.block b hb hn)
theorem Kept.grown {S : Nat → Prop} {w w' w'' : World} {row : Option Nat} (h : Kept S w w') (hg : w'.grownBy w'' row) (hr : ∀ k, row = some k → k < w.heap.size → S k) : Kept S w w'' :=
  ⟨hg.os.trans h.os, hg.tape.trans h.tape, hg.output.trans h.output, Nat.le_trans h.size hg.size, fun k hk hn => (hg.block k (Nat.lt_of_lt_of_le hk h.size) (fun e => hn (hr k e.symm hk))).trans (h.block k hk hn)⟩
theorem Kept.setC {S : Nat → Prop} {w w' : World} (h : Kept S w w') {b o : Nat} (hb : b < w.heap.size → S b) (u : Value) : Kept S w (w'.setCell ⟨b, o, none⟩ u) :=
  ⟨h.os, h.tape, h.output, by rw [World.size_setCell]; exact h.size, fun k hk hn => (Below.heap_setCell _ _ _ _ (fun e => hn (by subst e; exact hb hk))).trans (h.block k hk hn)⟩

/-- What a node holds, but for its kids. -/
structure NdH where
  kind : Int
  str : ByteArray
  num : Int
  flag : Bool
  pos : Int
/-- A tree: the library's data type, of which one form is used: a node and its kids. -/
abbrev Tr := DataW NdH
def Tr.node (x : NdH) (ks : List Tr) : Tr := .slice ks [.held x]

/-- How many nodes. -/
def szT : Tr → Nat
  | .slice ks _ => 1 + (ks.map szT).sum
  | _ => 1
def szL (ks : List Tr) : Nat := (ks.map szT).sum
/-- How deep. -/
def dpT : Tr → Nat
  | .slice ks _ => 1 + (ks.map dpT).foldr max 0
  | _ => 1
def dpL (ks : List Tr) : Nat := (ks.map dpT).foldr max 0
theorem szT_node (x : NdH) (ks : List Tr) : szT (Tr.node x ks) = 1 + szL ks := by unfold Tr.node; rw [szT]; rfl
theorem dpT_node (x : NdH) (ks : List Tr) : dpT (Tr.node x ks) = 1 + dpL ks := by unfold Tr.node; rw [dpT]; rfl
theorem szL_nil : szL [] = 0 := rfl
theorem dpL_nil : dpL [] = 0 := rfl
theorem szL_cons (t : Tr) (r : List Tr) : szL (t :: r) = szT t + szL r := by unfold szL; rw [List.map_cons, List.sum_cons]
theorem dpL_cons (t : Tr) (r : List Tr) : dpL (t :: r) = max (dpT t) (dpL r) := by unfold dpL; rw [List.map_cons, List.foldr_cons]
theorem szL_append : ∀ (a b : List Tr), szL (a ++ b) = szL a + szL b
  | [], b => by rw [List.nil_append, szL_nil]; omega
  | t :: r, b => by rw [List.cons_append, szL_cons, szL_cons, szL_append r b]; omega
theorem dpL_append : ∀ (a b : List Tr), dpL (a ++ b) = max (dpL a) (dpL b)
  | [], b => by rw [List.nil_append, dpL_nil]; omega
  | t :: r, b => by rw [List.cons_append, dpL_cons, dpL_cons, dpL_append r b]; omega
theorem take_next {α : Type} (l : List α) (k : Nat) (h : k < l.length) : l.take (k + 1) = l.take k ++ [l[k]] := by rw [List.take_succ_eq_append_getElem h]
theorem szL_next (l : List Tr) (k : Nat) (h : k < l.length) : szL (l.take (k + 1)) = szL (l.take k) + szT l[k] := by rw [take_next l k h, szL_append, szL_cons, szL_nil]; omega
theorem dpL_next (l : List Tr) (k : Nat) (h : k < l.length) : dpL (l.take (k + 1)) = max (dpL (l.take k)) (dpT l[k]) := by rw [take_next l k h, dpL_append, dpL_cons, dpL_nil]; omega
theorem szL_take_le (l : List Tr) (k : Nat) : szL (l.take k) ≤ szL l := by
  have h := szL_append (l.take k) (l.drop k)
  rw [List.take_append_drop] at h
  omega

def ndV (x : NdH) (kv : Value) : Value := .agg #[.int .i64 x.kind, .string x.str, .int .u32 x.num, .bool x.flag, kv, .int .i64 x.pos]
/-- A node's cells. -/
def NdAt (w : World) (b o : Nat) (x : NdH) (kv : Value) : Prop := w.cell? ⟨b, o, none⟩ = some (.int .i64 x.kind) ∧ w.cell? ⟨b, o + 1, none⟩ = some (.string x.str) ∧ w.cell? ⟨b, o + 2, none⟩ = some (.int .u32 x.num) ∧ w.cell? ⟨b, o + 3, none⟩ = some (.bool x.flag) ∧ w.cell? ⟨b, o + 4, none⟩ = some kv ∧ w.cell? ⟨b, o + 5, none⟩ = some (.int .i64 x.pos)
theorem NdAt.kept {S : Nat → Prop} {w w' : World} {b o : Nat} {x : NdH} {kv : Value} (h : NdAt w b o x kv) (hb : Kept S w w') (hl : b < w.heap.size) (hn : ¬ S b) : NdAt w' b o x kv := by
  obtain ⟨h0, h1, h2, h3, h4, h5⟩ := h
  exact ⟨(hb.cell hl hn).trans h0, (hb.cell hl hn).trans h1, (hb.cell hl hn).trans h2, (hb.cell hl hn).trans h3, (hb.cell hl hn).trans h4, (hb.cell hl hn).trans h5⟩
/-- A slice is trees, no deeper than a number, none of them in a certain block. -/
def Ks (cb : Nat) : Nat → World → Value → List Tr → Prop
  | 0, _, v, ks => ks = [] ∧ ∃ ao cap, v = .slice ao 0 cap
  | n + 1, w, v, ks => ks.length ≤ 9223372036854775807 ∧ ∃ ao cap, v = .slice ao ks.length cap ∧ ∀ i (h : i < ks.length), ∃ b off x kv ks', ao = some ⟨b, off, none⟩ ∧ (b < w.heap.size ∧ b ≠ cb) ∧ (ks[i] = Tr.node x ks' ∧ ks.length ≤ cap) ∧ NdAt w b (off + i * 6) x kv ∧ Ks cb n w kv ks'
theorem Ks.kept {cb : Nat} {w w' : World} (hb : Kept (fun b => b = cb) w w') : ∀ {n : Nat} {v : Value} {ks : List Tr}, Ks cb n w v ks → Ks cb n w' v ks
  | 0, _, _, h => h
  | n + 1, v, ks, h => by
    rw [Ks] at h ⊢
    obtain ⟨hl, ao, cap, rfl, h⟩ := h
    refine ⟨hl, ao, cap, rfl, fun i hi => ?_⟩
    obtain ⟨b, off, x, kv, ks', e, ⟨hlt, hne⟩, he, hc, hk⟩ := h i hi
    exact ⟨b, off, x, kv, ks', e, ⟨Nat.lt_of_lt_of_le hlt hb.size, hne⟩, he, hc.kept hb hlt hne, Ks.kept hb hk⟩
theorem Ks.below {cb : Nat} {w w' : World} (hb : Below w.heap.size w w') {n : Nat} {v : Value} {ks : List Tr} (h : Ks cb n w v ks) : Ks cb n w' v ks := h.kept (Kept.of_below hb)
theorem Ks.shape {cb : Nat} {w : World} : ∀ {n : Nat} {v : Value} {ks : List Tr}, Ks cb n w v ks → ks.length ≤ 9223372036854775807 ∧ ∃ ao cap, v = .slice ao ks.length cap
  | 0, _, _, h => by
    obtain ⟨rfl, ao, cap, rfl⟩ := h
    exact ⟨by simp, ao, cap, rfl⟩
  | n + 1, v, ks, h => by
    rw [Ks] at h
    obtain ⟨hl, ao, cap, rfl, h⟩ := h
    exact ⟨hl, ao, cap, rfl⟩
/-- A kid, where it stands. -/
theorem Ks.kid {cb : Nat} {w : World} : ∀ {n : Nat} {ao : Option Addr} {l cap : Nat} {ks : List Tr}, Ks cb n w (.slice ao l cap) ks → ∀ i (h : i < ks.length), ∃ m b off x kv ks', m < n ∧ ao = some ⟨b, off, none⟩ ∧ (b < w.heap.size ∧ b ≠ cb) ∧ ks[i] = Tr.node x ks' ∧ NdAt w b (off + i * 6) x kv ∧ Ks cb m w kv ks'
  | 0, _, _, _, _, h, i, hi => by
    obtain ⟨rfl, _⟩ := h
    simp at hi
  | n + 1, ao, l, cap, ks, h, i, hi => by
    rw [Ks] at h
    obtain ⟨hl, ao', cap', e, h⟩ := h
    injection e with e1 e2 e3
    subst e1
    obtain ⟨b, off, x, kv, ks', e, hlt, he, hc, hk⟩ := h i hi
    exact ⟨n, b, off, x, kv, ks', by omega, e, hlt, he.1, hc, hk⟩
/-- A slice's room. -/
theorem Ks.room {cb : Nat} {w : World} : ∀ {n : Nat} {ao : Option Addr} {l cap : Nat} {ks : List Tr}, Ks cb n w (.slice ao l cap) ks → 0 < ks.length → ks.length ≤ cap
  | 0, _, _, _, _, h, hi => by
    obtain ⟨rfl, _⟩ := h
    simp at hi
  | n + 1, ao, l, cap, ks, h, hi => by
    rw [Ks] at h
    obtain ⟨hl, ao', cap', e, h⟩ := h
    injection e with e1 e2 e3
    subst e3
    obtain ⟨b, off, x, kv, ks', e, hlt, he, hc, hk⟩ := h 0 hi
    exact he.2
/-- All kids but the first. -/
theorem Ks.tail {cb : Nat} {w : World} : ∀ {n : Nat} {b off l cap : Nat} {t : Tr} {ks : List Tr}, Ks cb n w (.slice (some ⟨b, off, none⟩) l cap) (t :: ks) → Ks cb n w (.slice (some ⟨b, off + 6, none⟩) ks.length (cap - 1)) ks
  | 0, _, _, _, _, _, _, h => by
    obtain ⟨h, _⟩ := h
    cases h
  | n + 1, b, off, l, cap, t, ks, h => by
    rw [Ks] at h ⊢
    obtain ⟨hl, ao', cap', e, h⟩ := h
    injection e with e1 e2 e3
    subst e1 e3
    simp at hl
    refine ⟨by omega, _, _, rfl, fun i hi => ?_⟩
    obtain ⟨b', off', x, kv, ks', e, hlt, he, hc, hk⟩ := h (i + 1) (by simp; omega)
    injection e with e
    injection e with e4 e5
    subst e4 e5
    have hlen := he.2
    simp at hlen
    refine ⟨b, off + 6, x, kv, ks', rfl, hlt, ⟨by simpa using he.1, by omega⟩, ?_, hk⟩
    have e6 : off + 6 + i * 6 = off + (i + 1) * 6 := by omega
    rw [e6]
    exact hc
end Go.Proofs.YtjeioblhpfogfaaGreatDoor
namespace Go.Proofs.YtjeioblhpfogfaaGreatDoor
open Go.RowKit

/-- A node's box, later. -/
theorem box6W {w w1 : World} {x : NdH} {kv : Value} (hb : Below (w.alloc (.cells #[.int .i64 x.kind, .string x.str, .int .u32 x.num, .bool x.flag, kv, .int .i64 x.pos] 25)).heap.size (w.alloc (.cells #[.int .i64 x.kind, .string x.str, .int .u32 x.num, .bool x.flag, kv, .int .i64 x.pos] 25)) w1) :
    w1.cell? ⟨w.heap.size, 0, none⟩ = some (.int .i64 x.kind) ∧ w1.cell? ⟨w.heap.size, 1, none⟩ = some (.string x.str) ∧ w1.cell? ⟨w.heap.size, 2, none⟩ = some (.int .u32 x.num) ∧ w1.cell? ⟨w.heap.size, 3, none⟩ = some (.bool x.flag) ∧ w1.cell? ⟨w.heap.size, 4, none⟩ = some kv ∧ w1.cell? ⟨w.heap.size, 5, none⟩ = some (.int .i64 x.pos) := by
  refine ⟨?_, ?_, ?_, ?_, ?_, ?_⟩
  all_goals (rw [hb.cell (by simp)]; simp [go_sem])

/-- counted. -/
theorem counted18 {cb : Nat} : ∀ (n : Nat) {w : World} {x : NdH} {kv : Value} {ks : List Tr} {had : Nat}, Ks cb n w kv ks → had ≤ 262144 →
    Calls Tryz.prog 64 #[ndV x kv, .int .i64 (had : Int)] w fun e w' => e = .returned (.int .i64 ((min (had + 1 + szL ks) 262145 : Nat) : Int)) ∧ Below w.heap.size w w' := fun n => by
  induction n using Nat.strongRecOn with
  | ind n ih =>
  intro w x kv ks had hK hh
  obtain ⟨hlen, ao, cap, rfl⟩ := hK.shape
  have hkid : Hid (∀ (W : World), Below w.heap.size w W → ∀ i (h : i < ks.length), ∃ b off x kv ks', ao = some ⟨b, off, none⟩ ∧ b < W.heap.size ∧ NdAt W b (off + i * 6) x kv ∧ szT ks[i] = 1 + szL ks' ∧ ∀ had : Nat, had ≤ 262144 → Calls Tryz.prog 64 #[ndV x kv, .int .i64 (had : Int)] W fun e w' => e = .returned (.int .i64 ((min (had + 1 + szL ks') 262145 : Nat) : Int)) ∧ Below W.heap.size W w') := fun W hb i hi => by
    obtain ⟨m, b, off, x', kv', ks', hm, e, ⟨hlt, hne⟩, he, hc, hk⟩ := (hK.below hb).kid i hi
    exact ⟨b, off, x', kv', ks', e, hlt, hc, by rw [he, szT_node], fun had hh => ih m hm hk hh⟩
  clear ih hK
  unfold ndV
  obtain ⟨w0, hw0⟩ : ∃ w0, w0 = w.alloc (.cells #[.int .i64 x.kind, .string x.str, .int .u32 x.num, .bool x.flag, .slice ao ks.length cap, .int .i64 x.pos] 25) := ⟨_, rfl⟩
  have hb0 : Below w.heap.size w w0 := by rw [hw0]; exact below1 _ _
  have c4 : w0.cell? ⟨w.heap.size, 4, none⟩ = some (.slice ao ks.length cap) := by rw [hw0]; simp [go_sem]
  have hl0 : w.heap.size < w0.heap.size := by rw [hw0]; simp
  have HB0 := hid' hb0
  clear hb0
  go_enter Tryz.func64, Tryz.ntmps64
  go_wp2_with fail
  rw [← hw0]
  clear hw0
  go_loopw [1, 5] (fun h i wr => ∃ k : Nat, k ≤ ks.length ∧ i = .int .i64 (k : Nat) ∧ h = .int .i64 ((min (had + 1 + szL (ks.take k)) 262145 : Nat) : Int) ∧ Below w0.heap.size w0 wr) (fun _ i _ => ks.length - (intOf i).toNat)
  case atStart => exact ⟨0, Nat.zero_le _, rfl, by rw [List.take_zero, szL_nil, Nat.add_zero, Nat.min_eq_left (by omega)]; go_num, Below.refl _ _⟩
  case round =>
    obtain ⟨k, hk, rfl, rfl, hBw⟩ := hrel
    have HBW := hid' hBw
    have d4 := (hBw.cell (p := ⟨w.heap.size, 4, none⟩) hl0).trans c4
    obtain ⟨H, hH⟩ : ∃ H, H = min (had + 1 + szL (ks.take k)) 262145 := ⟨_, rfl⟩
    rw [← hH]
    have hH1 : H ≤ 262145 := by omega
    have hl' : w.heap.size < wr.heap.size := Nat.lt_of_lt_of_le hl0 hBw.size
    by_cases hlt : k < ks.length
    · by_cases hm : H ≤ 262144
      · obtain ⟨b, off, x', kv', ks', rfl, hlb, ⟨c0, c1, c2, c3, c5, c6⟩, hsz, hC⟩ := hkid.out wr (below_on HB0.out hBw) k hlt
        have hnx : min (H + 1 + szL ks') 262145 = min (had + 1 + szL (ks.take (k + 1))) 262145 := by rw [szL_next ks k hlt, hsz, hH]; omega
        have hc := hid' (hC H hm)
        rw [hnx] at hc
        have HNX := hid' hnx
        clear hnx hC hsz hH hBw
        unfold ndV at hc
        obtain ⟨H', hH'⟩ : ∃ H', H' = min (had + 1 + szL (ks.take (k + 1))) 262145 := ⟨_, rfl⟩
        rw [← hH'] at hc
        have HH := hid' hH'
        clear hH'
        go_wp2_with (go_at_call 64; (with_reducible refine hc.out.mono ?_); rintro e w3 ⟨rfl, hb3⟩; replace hb3 := hid' hb3)
        go_roundw
        case rel => exact ⟨k + 1, by omega, by go_num, by rw [HH.out], below_on HBW.out hb3.out⟩
        case measure => simp [intOf]; omega
      · have hr : H = min (had + 1 + szL ks) 262145 := by have := szL_take_le ks k; omega
        have HR := hid' hr
        clear hr hH
        go_wp2
        go_ret
        exact ⟨by rw [← HR.out]; rfl, below_on HB0.out HBW.out⟩
    · have hk' : k = ks.length := by omega
      have hr : H = min (had + 1 + szL ks) 262145 := by rw [hH, hk', List.take_length]
      have HR := hid' hr
      clear hr hH hk'
      go_wp2
      go_ret
      exact ⟨by rw [← HR.out]; rfl, below_on HB0.out HBW.out⟩

/-- What Size and Depth tell. -/
def szR (t : Tr) : Nat := if szT t ≤ 262144 then szT t else 0
def dpR (t : Tr) : Nat := if szT t ≤ 262144 then dpT t else 0

theorem size7 {cb n : Nat} {w : World} {x : NdH} {kv : Value} {ks : List Tr} (hK : Ks cb n w kv ks) :
    Calls Tryz.prog 28 #[ndV x kv] w fun e w' => e = .returned (.int .i64 (szR (Tr.node x ks) : Int)) ∧ Below w.heap.size w w' := by
  have hC : Hid (∀ W, Below w.heap.size w W → Calls Tryz.prog 64 #[ndV x kv, .int .i64 0] W fun e w' => e = .returned (.int .i64 ((min (1 + szL ks) 262145 : Nat) : Int)) ∧ Below W.heap.size W w') := fun W hb => by
    have := counted18 n (x := x) (had := 0) (hK.below hb) (by omega)
    rw [Nat.zero_add] at this
    exact this
  have hR : Hid (∀ m : Nat, m = min (1 + szL ks) 262145 → szR (Tr.node x ks) = if m ≤ 262144 then m else 0) := fun m hm => by
    unfold szR
    rw [szT_node, hm]
    split <;> split <;> omega
  obtain ⟨m, hm⟩ : ∃ m, m = min (1 + szL ks) 262145 := ⟨_, rfl⟩
  have h1 := hR.out m hm
  have hm1 : m ≤ 262145 := by omega
  rw [← hm] at hC
  rw [h1]
  clear hR h1 hm hK
  unfold ndV at hC ⊢
  go_enter Tryz.func28, Tryz.ntmps28
  by_cases hle : m ≤ 262144
  · rw [if_pos hle]
    go_wp2_with (go_at_call 64; (with_reducible refine (hC.out _ (below1 _ _)).mono ?_); rintro e w1 ⟨rfl, hb1⟩; replace hb1 := hid' (below_call hb1))
    go_ret
    exact ⟨rfl, hb1.out⟩
  · rw [if_neg hle]
    go_wp2_with (go_at_call 64; (with_reducible refine (hC.out _ (below1 _ _)).mono ?_); rintro e w1 ⟨rfl, hb1⟩; replace hb1 := hid' (below_call hb1))
    go_ret
    exact ⟨rfl, hb1.out⟩

theorem dpL_le_szL : ∀ (l : List Tr), (∀ i (h : i < l.length), dpT l[i] ≤ szT l[i]) → dpL l ≤ szL l
  | [], _ => by rw [dpL_nil]; omega
  | t :: r, h => by
    have h0 := h 0 (by simp)
    have hr := dpL_le_szL r (fun i hi => h (i + 1) (by simpa using hi))
    rw [List.getElem_cons_zero] at h0
    rw [dpL_cons, szL_cons]
    omega
theorem Ks.deep {cb : Nat} {w : World} : ∀ {n : Nat} {v : Value} {ks : List Tr}, Ks cb n w v ks → dpL ks ≤ szL ks
  | 0, _, _, h => by
    obtain ⟨rfl, _⟩ := h
    rw [dpL_nil]
    omega
  | n + 1, v, ks, h => by
    rw [Ks] at h
    obtain ⟨hl, ao, cap, rfl, h⟩ := h
    refine dpL_le_szL ks (fun i hi => ?_)
    obtain ⟨b, off, x, kv, ks', e, hlt, he, hc, hk⟩ := h i hi
    have := Ks.deep hk
    rw [he.1, dpT_node, szT_node]
    omega
theorem sz_kid (l : List Tr) (k : Nat) (h : k < l.length) : szT l[k] ≤ szL l := by
  have h1 := szL_next l k h
  have h2 := szL_take_le l (k + 1)
  omega

end Go.Proofs.YtjeioblhpfogfaaGreatDoor
namespace Go.Proofs.YtjeioblhpfogfaaGreatDoor
open Go.RowKit

/-- A token. -/
structure Tk where
  kind : Int
  text : ByteArray
  num : Int
  uns : Bool
  pos : Int
  fin : Int
def tkC (x : Tk) : List Value := [.int .i64 x.kind, .string x.text, .int .u32 x.num, .bool x.uns, .int .i64 x.pos, .int .i64 x.fin]
def tksC (l : List Tk) : List Value := l.flatMap tkC
/-- A node that lacks kids. -/
structure Bg where
  x : NdH
  level : Int
  first : Nat
def nilV : Value := .slice none 0 0
def bgC (b : Bg) : List Value := [.int .i64 b.x.kind, .string b.x.str, .int .u32 b.x.num, .bool b.x.flag, nilV, .int .i64 b.x.pos, .int .i64 b.level, .int .i64 (b.first : Int)]
def bgsC (l : List Bg) : List Value := l.flatMap bgC
/-- A node that was read. -/
structure Dn where
  x : NdH
  ks : List Tr
  start : Int
/-- What the reader is at. The next step first; the innermost node first; the nodes that were read in their order. -/
structure St where
  pl : Nat
  todo : List Nat
  begun : List Bg
  done : List Dn
def fnV (k : Nat) : Value := .func (.func k) #[] #[]
def dnC (d : Dn) (kv : Value) : List Value := [.int .i64 d.x.kind, .string d.x.str, .int .u32 d.x.num, .bool d.x.flag, kv, .int .i64 d.x.pos, .int .i64 d.start]
def dnsC : List Dn → List Value → List Value
  | d :: l, v :: r => dnC d v ++ dnsC l r
  | _, _ => []
/-- A slice is trees, in rows of nodes. -/
def Kr (B : Nat) : Nat → World → Value → List Tr → Prop
  | 0, _, v, ks => ks = [] ∧ ∃ ao cap, v = .slice ao 0 cap
  | n + 1, w, v, ks => ks.length ≤ 9223372036854775807 ∧ ∃ ao cap, v = .slice ao ks.length cap ∧ ∀ i (h : i < ks.length), ∃ b off x kv ks', ao = some ⟨b, off, none⟩ ∧ (∃ cs f, w.heap[b]? = some (.cells cs 25 f)) ∧ (ks[i] = Tr.node x ks' ∧ ks.length ≤ cap ∧ B ≤ b) ∧ NdAt w b (off + i * 6) x kv ∧ Kr B n w kv ks'
/-- What a reader turns: its own block, and rows of its lists. -/
def SQ (B p : Nat) (w : World) (b : Nat) : Prop := b = p ∨ (B ≤ b ∧ ((∃ cs f, w.heap[b]? = some (.cells cs 60 f)) ∨ (∃ cs f, w.heap[b]? = some (.cells cs 68 f)) ∨ (∃ cs f, w.heap[b]? = some (.cells cs 107 f))))
def KQ (B p : Nat) (w w' : World) : Prop := Kept (SQ B p w) w w'
/-- The reader in memory. -/
structure Rd (w : World) (B p : Nat) (toks : List Tk) (s : St) (tv ov bv dv : Value) (kvs : List Value) : Prop where
  head : w.heap[p]? = some (.cells #[tv, .int .i64 (s.pl : Int), ov, bv, dv] 65 (0, 0))
  low : B ≤ w.heap.size
  tok : w.ownsRow 0 42 6 tv toks.length (tksC toks)
  todo : w.ownsRow B 60 1 ov s.todo.length (s.todo.reverse.map fnV)
  begun : w.ownsRow B 68 8 bv s.begun.length (bgsC s.begun.reverse)
  done : w.ownsRow B 107 7 dv s.done.length (dnsC s.done kvs)
  kids : kvs.length = s.done.length ∧ ∀ i (h : i < s.done.length) (h' : i < kvs.length), ∃ n, Kr B n w kvs[i] s.done[i].ks
def RdS (w : World) (B p : Nat) (toks : List Tk) (s : St) : Prop := ∃ tv ov bv dv kvs, Rd w B p toks s tv ov bv dv kvs

theorem Rd.cells {w : World} {B p : Nat} {toks : List Tk} {s : St} {tv ov bv dv : Value} {kvs : List Value} (h : Rd w B p toks s tv ov bv dv kvs) :
    w.cell? ⟨p, 0, none⟩ = some tv ∧ w.cell? ⟨p, 1, none⟩ = some (.int .i64 (s.pl : Int)) ∧ w.cell? ⟨p, 2, none⟩ = some ov ∧ w.cell? ⟨p, 3, none⟩ = some bv ∧ w.cell? ⟨p, 4, none⟩ = some dv ∧ p < w.heap.size := by
  have h0 := h.head
  refine ⟨?_, ?_, ?_, ?_, ?_, (Array.getElem?_eq_some_iff.1 h0).1⟩ <;> rw [cell_of_row w p _ _ _ _ h0] <;> rfl
theorem Rd.frz {w : World} {B p : Nat} {toks : List Tk} {s : St} {tv ov bv dv : Value} {kvs : List Value} (h : Rd w B p toks s tv ov bv dv kvs) (o : Nat) : w.frozen? ⟨p, o, none⟩ = false := by
  simp [World.frozen?, h.head]
theorem tksC_at : ∀ (l : List Tk) (i j : Nat) (h : i < l.length), j < 6 → (tksC l)[i * 6 + j]? = (tkC l[i])[j]?
  | x :: r, 0, j, h, hj => by
    have : tksC (x :: r) = tkC x ++ tksC r := rfl
    rw [this, List.getElem?_append_left (by show 0 * 6 + j < 6; omega)]
    simp
  | x :: r, i + 1, j, h, hj => by
    have : tksC (x :: r) = tkC x ++ tksC r := rfl
    rw [this, List.getElem?_append_right (by show 6 ≤ _; omega), show (i + 1) * 6 + j - (tkC x).length = i * 6 + j by show _ - 6 = _; omega, tksC_at r i j (by simpa using h) hj]
    simp
/-- A token's cells. -/
theorem Rd.tokAt {w : World} {B p : Nat} {toks : List Tk} {s : St} {tv ov bv dv : Value} {kvs : List Value} (h : Rd w B p toks s tv ov bv dv kvs) (i : Nat) (hi : i < toks.length) :
    ∃ g cap, tv = .slice (some ⟨g, 0, none⟩) toks.length cap ∧ toks.length ≤ cap ∧ w.cell? ⟨g, i * 6, none⟩ = some (.int .i64 toks[i].kind) ∧ w.cell? ⟨g, i * 6 + 1, none⟩ = some (.string toks[i].text) ∧ w.cell? ⟨g, i * 6 + 2, none⟩ = some (.int .u32 toks[i].num) ∧ w.cell? ⟨g, i * 6 + 3, none⟩ = some (.bool toks[i].uns) ∧ w.cell? ⟨g, i * 6 + 4, none⟩ = some (.int .i64 toks[i].pos) ∧ w.cell? ⟨g, i * 6 + 5, none⟩ = some (.int .i64 toks[i].fin) := by
  have ho := h.tok
  obtain ⟨hlen, ⟨_, e⟩ | ⟨g, cap, cur, e, hg, hh, hn, hm, hs, ht⟩⟩ := h.tok
  · omega
  refine ⟨g, cap, e, hn, ?_⟩
  have hc : ∀ j, j < 6 → ∀ u, (tkC toks[i])[j]? = some u → w.cell? ⟨g, i * 6 + j, none⟩ = some u := fun j hj u hu => by
    have := ho.cells (g := g) (by rw [e]; rfl) (i * 6 + j) u (by rw [tksC_at _ _ _ hi hj]; exact hu)
    rwa [Addr.add_lit, Nat.zero_add] at this
  exact ⟨hc 0 (by omega) _ rfl, hc 1 (by omega) _ rfl, hc 2 (by omega) _ rfl, hc 3 (by omega) _ rfl, hc 4 (by omega) _ rfl, hc 5 (by omega) _ rfl⟩
end Go.Proofs.YtjeioblhpfogfaaGreatDoor
