/- The speller: a list of pieces in memory of its own. -/
import Derived.Test.YtnnnfabpceapcaaGreatDoorTree
import Derived.Test.YtnnnfabpceapcaaGreatDoorWalkI
import Derived.Deep.AppendLies
import Derived.Test.YtnnnfabpceapcaaGreatDoorName
import Derived.Test.YtnnnfabpceapcaaGreatDoorMay3
import Derived.Test.YtnnnfabpceapcaaGreatDoorWalkC
import Derived.Test.YtnnnfabpceapcaaGreatDoorMay5
import Derived.Test.YtnnnfabpceapcaaGreatDoorMay4
namespace Go.Proofs.YtnnnfabpceapcaaGreatDoor
set_option linter.unusedSimpArgs false
open Go.RowKit
set_option linter.unusedVariables false

/-- A piece of a text: bytes, or a node. -/
structure Pc where
  text : ByteArray
  ptr : Option (Nat × Nat)
  t : Tr
def noT : Tr := Tr.node ⟨0, ⟨#[]⟩, 0, false, 0⟩ []
def txt (s : ByteArray) : Pc := ⟨s, none, noT⟩
def nod (b o : Nat) (t : Tr) : Pc := ⟨⟨#[]⟩, some (b, o), t⟩
def pcP (p : Pc) : Value := .pointer (p.ptr.map fun a => ⟨a.1, a.2, none⟩)
def pcC : List Pc → List Value
  | [] => []
  | p :: r => .string p.text :: pcP p :: pcC r
theorem pcC_length : ∀ (T : List Pc), (pcC T).length = T.length * 2
  | [] => rfl
  | p :: r => by
    show (pcC r).length + 1 + 1 = (r.length + 1) * 2
    rw [pcC_length r]
    omega
theorem pcC_append : ∀ (a b : List Pc), pcC (a ++ b) = pcC a ++ pcC b
  | [], b => rfl
  | p :: r, b => by
    show .string p.text :: pcP p :: pcC (r ++ b) = _
    rw [pcC_append r b]
    rfl

/-- Nothing of a set of blocks has turned. -/
structure On (A : Nat → Prop) (w w' : World) : Prop where
  os : w'.os = w.os
  tape : w'.tape = w.tape
  output : w'.output = w.output
  size : w.heap.size ≤ w'.heap.size
  block : ∀ k, A k → k < w.heap.size → w'.heap[k]? = w.heap[k]?
section
variable {A A' : Nat → Prop} {w w' w'' : World}
theorem On.rfl (A : Nat → Prop) (w : World) : On A w w := ⟨Eq.refl _, Eq.refl _, Eq.refl _, Nat.le_refl _, fun _ _ _ => Eq.refl _⟩
theorem On.trans (h : On A w w') (k : On A w' w'') : On A w w'' :=
  ⟨k.os.trans h.os, k.tape.trans h.tape, k.output.trans h.output, Nat.le_trans h.size k.size, fun i hA hi => (k.block i hA (Nat.lt_of_lt_of_le hi h.size)).trans (h.block i hA hi)⟩
theorem On.alloc (h : On A w w') (o : Obj) : On A w (w'.alloc o) :=
  ⟨h.os, h.tape, h.output, by have := h.size; simp; omega, fun k hA hk => (Below.heap_alloc _ _ _ (Nat.lt_of_lt_of_le hk h.size)).trans (h.block k hA hk)⟩
theorem On.less (h : On A w w') (hs : ∀ k, A' k → A k) : On A' w w' := ⟨h.os, h.tape, h.output, h.size, fun k hA hk => h.block k (hs k hA) hk⟩
theorem On.grown {row : Option Nat} (h : On A w w') (hg : w'.grownBy w'' row) (hr : ∀ k, row = some k → ¬ A k) : On A w w'' :=
  ⟨hg.os.trans h.os, hg.tape.trans h.tape, hg.output.trans h.output, Nat.le_trans h.size hg.size, fun k hA hk => (hg.block k (Nat.lt_of_lt_of_le hk h.size) (fun e => hr k e.symm hA)).trans (h.block k hA hk)⟩
theorem On.setC (h : On A w w') {b o : Nat} (hb : ¬ A b) (u : Value) : On A w (w'.setCell ⟨b, o, none⟩ u) :=
  ⟨h.os, h.tape, h.output, by rw [World.size_setCell]; exact h.size, fun k hA hk => (Below.heap_setCell _ _ _ _ (fun e => hb (by subst e; exact hA))).trans (h.block k hA hk)⟩
theorem On.cell (h : On A w w') {b o : Nat} (hA : A b) (hb : b < w.heap.size) : w'.cell? ⟨b, o, none⟩ = w.cell? ⟨b, o, none⟩ := World.cell?_of_block (w := w) (h.block b hA hb)
theorem On.below {n : Nat} (h : On A w w') (hA : ∀ k, k < n → A k) (hn : n ≤ w.heap.size) : Below n w w' := ⟨h.os, h.tape, h.output, h.size, fun k hk => h.block k (hA k hk) (by omega)⟩
theorem On.of_below (h : Below w.heap.size w w') : On A w w' := ⟨h.os, h.tape, h.output, h.size, fun k _ hk => h.block k hk⟩
end

/-- The speller in block sb has these pieces to do; none of its memory is among A's. -/
structure Sp (A : Nat → Prop) (sb : Nat) (T : List Pc) (w : World) : Prop where
  lt : ∀ k, A k → k < w.heap.size
  nsb : ¬ A sb
  slt : sb < w.heap.size
  own : ∃ v, w.heap[sb]? = some (.cells #[v] 59 (0, 0)) ∧ w.ownsRow 0 56 2 v T.length (pcC T) ∧ ∀ b, v.ownBlock = some b → b ≠ sb ∧ ¬ A b
section
variable {A A' : Nat → Prop} {sb : Nat} {T : List Pc} {w w' : World}
theorem Sp.less (h : Sp A sb T w) (hs : ∀ k, A' k → A k) : Sp A' sb T w := by
  obtain ⟨h1, h2, h3, v, h4, h5, h6⟩ := h
  exact ⟨fun k hk => h1 k (hs k hk), fun hk => h2 (hs _ hk), h3, v, h4, h5, fun b hb => ⟨(h6 b hb).1, fun hA => (h6 b hb).2 (hs b hA)⟩⟩
theorem Sp.below (h : Sp A sb T w) (hb : Below w.heap.size w w') : Sp A sb T w' := by
  obtain ⟨h1, h2, h3, v, h4, h5, h6⟩ := h
  exact ⟨fun k hk => Nat.lt_of_lt_of_le (h1 k hk) hb.size, h2, Nat.lt_of_lt_of_le h3 hb.size, v, (hb.block sb h3).trans h4, h5.kept (row := none) ⟨hb.os, hb.tape, hb.output, hb.size, fun k hk _ => hb.block k hk⟩ (by cases hq : v.ownBlock with | none => exact .inl rfl | some k => exact .inr (by simp)), h6⟩
/-- A new block joins those that are let be. -/
theorem Sp.also (h : Sp A sb T w) (o : Obj) : Sp (fun k => A k ∨ k = w.heap.size) sb T (w.alloc o) := by
  obtain ⟨h1, h2, h3, v, h4, h5, h6⟩ := h.below (below1 w o)
  have hs := h.slt
  refine ⟨fun k hk => ?_, fun hk => ?_, h3, v, h4, h5, fun b hb => ⟨(h6 b hb).1, fun hk => ?_⟩⟩
  · rcases hk with hk | rfl
    · exact h1 k hk
    · simp
  · rcases hk with hk | hk
    · exact h2 hk
    · omega
  · rcases hk with hk | rfl
    · exact (h6 b hb).2 hk
    · obtain ⟨_, _, _, v', h4', h5', _⟩ := h
      have e : (w.alloc o).heap[sb]? = w.heap[sb]? := (below1 w o).block sb hs
      rw [e, h4'] at h4
      injection h4 with h4
      injection h4 with h4
      injection h4 with h4
      injection h4 with h4
      subst h4
      have := (h5'.lt _ hb).2
      omega
end

def Mark (x : Prop) : Prop := x
theorem of_mark {x : Prop} (h : Mark x) : x := h
theorem info56' : (Tryz.prog.info? 56).map (fun i => (i.zero, i.size, i.bytes)) = some (some (.agg #[.string ⟨#[]⟩, .pointer none]), 2, 24) := by kernel_rfl

/-- Behind a push. -/
theorem Sp.push {A : Nat → Prop} {sb g cap : Nat} {T : List Pc} {p : Pc} {w w1 w2 : World} {v : Value} (hlt : ∀ k, A k → k < w.heap.size) (hns : ¬ A sb) (hs : sb < w.heap.size) (h4 : w.heap[sb]? = some (.cells #[v] 59 (0, 0))) (h6 : ∀ b, v.ownBlock = some b → b ≠ sb ∧ ¬ A b)
    (hb : Below w.heap.size w w1) (hown : w2.ownsRow 0 56 2 (.slice (some ⟨g, 0, none⟩) (T.length + 1) cap) (T.length + 1) (pcC T ++ [.string p.text, pcP p])) (hg : w1.grownBy w2 v.ownBlock) (hloc : v.ownBlock = some g ∨ g = w1.heap.size) :
    Sp A sb (T ++ [p]) (w2.setCell ⟨sb, 0, none⟩ (.slice (some ⟨g, 0, none⟩) (T.length + 1) cap)) ∧ On A w (w2.setCell ⟨sb, 0, none⟩ (.slice (some ⟨g, 0, none⟩) (T.length + 1) cap)) := by
  have hbs := hb.size
  have hgs := hg.size
  have hgA : g ≠ sb ∧ ¬ A g := by
    rcases hloc with h | rfl
    · exact h6 g h
    · exact ⟨by omega, fun hA => by have := hlt _ hA; omega⟩
  have hblk : w2.heap[sb]? = some (.cells #[v] 59 (0, 0)) := by
    rw [hg.block sb (by omega) (fun e => (h6 sb e.symm).1 rfl), hb.block sb hs, h4]
  refine ⟨⟨fun k hk => ?_, hns, ?_, .slice (some ⟨g, 0, none⟩) (T.length + 1) cap, ?_, ?_, fun b hb' => ?_⟩, ?_⟩
  · have := hlt k hk
    rw [World.size_setCell]
    omega
  · rw [World.size_setCell]
    omega
  · exact heap_setCell_same w2 sb 0 #[v] 59 _ hblk
  · rw [List.length_append, pcC_append]
    exact hown.kept (row := some sb) ⟨rfl, rfl, rfl, by rw [World.size_setCell]; omega, fun k _ hk => Below.heap_setCell _ _ _ _ (fun e => hk (by rw [e]))⟩ (.inr (fun e => hgA.1 (Option.some.inj e)))
  · have : b = g := (Option.some.inj hb').symm
    subst this
    exact hgA
  · exact ((On.of_below hb).grown hg (fun k e => (h6 k e).2)).setC hns _

set_option maxHeartbeats 2000000 in
theorem put55 {A : Nat → Prop} {sb b o : Nat} {T : List Pc} {w : World} (t : Tr) (h : Sp A sb T w) (hT : T.length ≤ 1099511627776) :
    Calls Tryz.prog 84 #[.pointer (some ⟨sb, 0, none⟩), .pointer (some ⟨b, o, none⟩)] w fun e w' => e = .returned (.tuple #[]) ∧ Sp A sb (T ++ [nod b o t]) w' ∧ On A w w' := by
  obtain ⟨i0, hi, hz0, hz1, hz2⟩ := info_parts info56'
  obtain ⟨h1, h2, h3, v, h4, h5, h6⟩ := h
  have c0 : w.cell? ⟨sb, 0, none⟩ = some v := by simp [World.cell?, h4]
  have H4 := hid' h4
  have H6 := hid' h6
  have H1 := hid' h1
  have hvl := pcC_length T
  clear h4 h6 h1
  go_enter Tryz.func84, Tryz.ntmps84
  go_wp2_with (at_builtin; refine of_mark ?_)
  unfold Mark
  refine wpList_append_lies _ rfl _ _ 57 rfl 0 56 i0 (.agg #[.string ⟨#[]⟩, .pointer none]) 2 24 Tryz.underlying57 hi hz0 hz1 hz2 rfl (by decide) v T.length (pcC T) rfl (h5.alloc _) ⟨w.heap.size, 0, none⟩ 1 1 [.string ⟨#[]⟩, .pointer (some ⟨b, o, none⟩)] rfl rfl (cells2 (by simp [go_sem]) (by simp [go_sem])) (fun u hu => by simp at hu; rcases hu with rfl | rfl <;> rfl) (by decide) (by unfold maxLen; omega) (by omega) (by omega) (w.heap.size + 1) (by simp) ?_
  intro g cap w2 hown hgrow hloc hgl
  have HP := hid' (Sp.push (p := nod b o t) H1.out h2 h3 H4.out H6.out (below1 _ _) hown hgrow (hloc.imp id (fun e => by simpa using e)))
  have hfz : w2.frozen? ⟨sb, 0, none⟩ = false := by
    have : w2.heap[sb]? = some (.cells #[v] 59 (0, 0)) := by
      rw [hgrow.block sb (by simp; omega) (fun e => (H6.out sb e.symm).1 rfl), (below1 _ _).block sb h3, H4.out]
    simp [World.frozen?, this]
  have hl2 : sb < w2.heap.size := by have := hgrow.size; simp at this; omega
  have hc2 : ∃ u, w2.cell? ⟨sb, 0, none⟩ = some u := by
    have : w2.heap[sb]? = some (.cells #[v] 59 (0, 0)) := by
      rw [hgrow.block sb (by simp; omega) (fun e => (H6.out sb e.symm).1 rfl), (below1 _ _).block sb h3, H4.out]
    exact ⟨v, by simp [World.cell?, this]⟩
  obtain ⟨u2, hc2⟩ := hc2
  clear hown hgrow hloc
  go_wp2
  go_end0
  exact ⟨rfl, HP.out⟩
end Go.Proofs.YtnnnfabpceapcaaGreatDoor

namespace Go.Proofs.YtnnnfabpceapcaaGreatDoor
set_option linter.unusedSimpArgs false
open Go.RowKit
set_option linter.unusedVariables false

def hdT : Tr → NdH
  | .slice _ [.held x] => x
  | _ => ⟨0, ⟨#[]⟩, 0, false, 0⟩
def ksT : Tr → List Tr
  | .slice ks [.held _] => ks
  | _ => []
theorem hdT_node (x : NdH) (ks : List Tr) : hdT (Tr.node x ks) = x := rfl
theorem ksT_node (x : NdH) (ks : List Tr) : ksT (Tr.node x ks) = ks := rfl

/-- An expression's level. -/
def lvl (x : NdH) : Int := if x.kind = 13 then 0 else if x.kind = 12 then 1 else if x.kind = 11 then logF x.str else if x.kind = 10 then binF x.str else if x.kind = 9 ∨ x.kind = 14 ∨ x.kind = 15 then 12 else 13
def parenL (l : List UInt8) : List UInt8 := 40 :: (l ++ [41])
/-- A kid at a level. -/
def atL (k : Int) (t : Tr) (s : List UInt8) : List UInt8 := if k ≤ lvl (hdT t) then s else parenL s
/-- Texts, with one between each two. -/
def joinL (sep : List UInt8) : List (List UInt8) → List UInt8
  | [] => []
  | [a] => a
  | a :: b :: r => a ++ (sep ++ joinL sep (b :: r))
def digC (n : Nat) : UInt8 := (48 + n).toUInt8
/-- A number's digits. -/
def decF : Nat → Nat → List UInt8
  | 0, _ => []
  | f + 1, n => if n < 10 then [digC n] else decF f (n / 10) ++ [digC (n % 10)]
def numL (x : NdH) : List UInt8 := decF 20 x.num.toNat ++ (if x.flag then [117] else [])
def hdC (n : Nat) : UInt8 := if n < 10 then (48 + n).toUInt8 else (87 + n).toUInt8
def chrL (n : Nat) : List UInt8 := [39, 92, 120, hdC (n / 16), hdC (n % 16), 39]
/-- Perhaps an expression. -/
def perL (t : Tr) (s : List UInt8) : List UInt8 := if (hdT t).kind = 56 then [] else s

/-- A node's text, its kids' given. -/
def spellN (qt : List UInt8 → List UInt8) (x : NdH) (ks : List Tr) (ss : List (List UInt8)) : List UInt8 :=
  let k := fun i => ks.getD i noT
  let s := fun i => ss.getD i []
  let n := lst x.str
  if x.kind = 1 then numL x
  else if x.kind = 2 then chrL x.num.toNat
  else if x.kind = 3 then qt n
  else if x.kind = 4 then n
  else if x.kind = 5 then atL 13 (k 0) (s 0) ++ ([91] ++ (s 1 ++ [93]))
  else if x.kind = 6 then atL 13 (k 0) (s 0) ++ ([46] ++ n)
  else if x.kind = 7 then atL 13 (k 0) (s 0) ++ ([45, 62] ++ n)
  else if x.kind = 8 then n ++ ([40] ++ (joinL [44, 32] ss ++ [41]))
  else if x.kind = 9 then n ++ ((if (hdT (k 0)).kind = 9 ∧ lst (hdT (k 0)).str = n then [32] else []) ++ atL 12 (k 0) (s 0))
  else if x.kind = 14 then parenL (s 0) ++ atL 12 (k 1) (s 1)
  else if x.kind = 15 then [115, 105, 122, 101, 111, 102] ++ (if (hdT (k 0)).kind = 16 then parenL (s 0) else [32] ++ (if (hdT (k 0)).kind = 14 then parenL (s 0) else atL 12 (k 0) (s 0)))
  else if x.kind = 10 ∨ x.kind = 11 then atL (lvl x) (k 0) (s 0) ++ ([32] ++ (n ++ ([32] ++ atL (lvl x + 1) (k 1) (s 1))))
  else if x.kind = 12 then atL 2 (k 0) (s 0) ++ ([32, 63, 32] ++ (s 1 ++ ([32, 58, 32] ++ atL 1 (k 2) (s 2))))
  else if x.kind = 13 then atL 13 (k 0) (s 0) ++ ([32] ++ (n ++ ([32] ++ s 1)))
  else if x.kind = 16 then n
  else if x.kind = 40 then joinL [] ss
  else if x.kind = 41 then [115, 116, 114, 117, 99, 116, 32] ++ (n ++ ([32, 123, 10] ++ (joinL [] ss ++ [125, 59, 10])))
  else if x.kind = 42 then s 0 ++ ([32] ++ (joinL [44, 32] (ss.drop 1) ++ [59, 10]))
  else if x.kind = 43 then n ++ ((if x.flag then [91] ++ (perL (k 0) (s 0) ++ [93]) else []) ++ (if (if x.flag then ss.drop 1 else ss).isEmpty then [] else [32, 61, 32] ++ (if x.flag then ss.drop 1 else ss).getD 0 []))
  else if x.kind = 44 then [123] ++ (joinL [44, 32] ss ++ [125])
  else if x.kind = 45 then s 0 ++ ([32] ++ (n ++ ([40] ++ (joinL [44, 32] ((ss.drop 1).take (ss.length - 2)) ++ ([41, 32] ++ s (ss.length - 1))))))
  else if x.kind = 46 then s 0 ++ ([32] ++ ((if x.num = 1 then [42] else []) ++ (n ++ (if x.flag then [91, 93] else []))))
  else if x.kind = 47 then [123, 10] ++ (joinL [] ss ++ [125, 10])
  else if x.kind = 48 then s 0 ++ [59, 10]
  else if x.kind = 49 then [105, 102, 32, 40] ++ (s 0 ++ ([41, 10] ++ joinL [101, 108, 115, 101, 10] (ss.drop 1)))
  else if x.kind = 50 then [119, 104, 105, 108, 101, 32, 40] ++ (s 0 ++ ([41, 10] ++ s 1))
  else if x.kind = 51 then [100, 111, 10] ++ (s 0 ++ ([119, 104, 105, 108, 101, 32, 40] ++ (s 1 ++ [41, 59, 10])))
  else if x.kind = 52 then [102, 111, 114, 32, 40] ++ (perL (k 0) (s 0) ++ ([59, 32] ++ (perL (k 1) (s 1) ++ ([59, 32] ++ (perL (k 2) (s 2) ++ ([41, 10] ++ s 3))))))
  else if x.kind = 53 then [98, 114, 101, 97, 107, 59, 10]
  else if x.kind = 54 then [99, 111, 110, 116, 105, 110, 117, 101, 59, 10]
  else if x.kind = 55 then [114, 101, 116, 117, 114, 110] ++ ((if ss.isEmpty then [] else [32]) ++ (joinL [] ss ++ [59, 10]))
  else if x.kind = 56 then [59, 10]
  else []
section
variable (qt : List UInt8 → List UInt8)
/-- A tree's text. -/
def spellT : Tr → List UInt8
  | .slice ks [.held x] => spellN qt x ks (ks.map spellT)
  | _ => []
theorem spellT_node (x : NdH) (ks : List Tr) : spellT qt (Tr.node x ks) = spellN qt x ks (ks.map (spellT qt)) := by unfold Tr.node; rw [spellT]
end

/-- A piece's text. -/
def pcL (sp : Tr → List UInt8) (p : Pc) : List UInt8 := match p.ptr with
  | none => lst p.text
  | some _ => sp p.t
def txts (sp : Tr → List UInt8) : List Pc → List UInt8
  | [] => []
  | p :: r => pcL sp p ++ txts sp r
theorem txts_append (sp : Tr → List UInt8) : ∀ (a b : List Pc), txts sp (a ++ b) = txts sp a ++ txts sp b
  | [], b => rfl
  | p :: r, b => by
    show pcL sp p ++ txts sp (r ++ b) = pcL sp p ++ txts sp r ++ txts sp b
    rw [txts_append sp r b, List.append_assoc]
/-- A tree's weight: more than its pieces' together. -/
def wtT (t : Tr) : Nat := 23 * szT t - 3
def wtP (p : Pc) : Nat := match p.ptr with
  | none => 1
  | some _ => wtT p.t
def wts : List Pc → Nat
  | [] => 0
  | p :: r => wtP p + wts r
theorem wts_append : ∀ (a b : List Pc), wts (a ++ b) = wts a + wts b
  | [], b => by show wts b = 0 + wts b; omega
  | p :: r, b => by
    show wtP p + wts (r ++ b) = wtP p + wts r + wts b
    rw [wts_append r b]
    omega
theorem szT_one (t : Tr) : 1 ≤ szT t := szT_pos t
theorem wtP_one (p : Pc) : 1 ≤ wtP p := by
  unfold wtP
  split
  · omega
  · unfold wtT
    have := szT_pos p.t
    omega
theorem len_le_wts : ∀ (T : List Pc), T.length ≤ wts T
  | [] => Nat.le_refl _
  | p :: r => by
    have := len_le_wts r
    have := wtP_one p
    show r.length + 1 ≤ wtP p + wts r
    omega

/-- A piece that is a node lies in memory that is let be, and may be. -/
def Val (G : NdH → List Tr → Bool) (w0 : World) (p : Pc) : Prop := p.ptr = none ∨ ∃ b o x kv n ks cb, p.ptr = some (b, o) ∧ p.t = Tr.node x ks ∧ NdAt w0 b o x kv ∧ b < w0.heap.size ∧ Ks cb n w0 kv ks ∧ allT G (Tr.node x ks) = true
/-- What pieces say. -/
structure Says (G : NdH → List Tr → Bool) (sp : Tr → List UInt8) (w0 : World) (P : List Pc) (L : List UInt8) (n : Nat) : Prop where
  text : txts sp P = L
  wt : wts P ≤ n
  val : ∀ p ∈ P, Val G w0 p
section
variable {G : NdH → List Tr → Bool} {sp : Tr → List UInt8} {w0 : World} {P Q : List Pc} {L M : List UInt8} {m n : Nat}
theorem Says.nil : Says G sp w0 [] [] 0 := ⟨rfl, Nat.le_refl _, fun p hp => by simp at hp⟩
theorem Says.append (h : Says G sp w0 P L m) (k : Says G sp w0 Q M n) : Says G sp w0 (P ++ Q) (L ++ M) (m + n) :=
  ⟨by rw [txts_append, h.text, k.text], by have := h.wt; have := k.wt; rw [wts_append]; omega, fun p hp => (List.mem_append.1 hp).elim (h.val p) (k.val p)⟩
theorem Says.more (h : Says G sp w0 P L m) (hn : m ≤ n) : Says G sp w0 P L n := ⟨h.text, Nat.le_trans h.wt hn, h.val⟩
theorem Says.is (h : Says G sp w0 P L m) (e : L = M) : Says G sp w0 P M m := e ▸ h
theorem Says.txt (s : ByteArray) : Says G sp w0 [txt s] (lst s) 1 := ⟨by show lst s ++ [] = _; rw [List.append_nil], Nat.le_refl _, fun p hp => by simp at hp; subst hp; exact .inl rfl⟩
theorem Says.nod {b o : Nat} {x : NdH} {kv : Value} {i cb : Nat} {ks : List Tr} (h : NdAt w0 b o x kv) (hb : b < w0.heap.size) (hK : Ks cb i w0 kv ks) (hG : allT G (Tr.node x ks) = true) : Says G sp w0 [nod b o (Tr.node x ks)] (sp (Tr.node x ks)) (wtT (Tr.node x ks)) :=
  ⟨by show sp (Tr.node x ks) ++ [] = _; rw [List.append_nil], Nat.le_refl _, fun p hp => by simp at hp; subst hp; exact .inr ⟨b, o, x, kv, i, ks, cb, rfl, rfl, h, hb, hK, hG⟩⟩
end
end Go.Proofs.YtnnnfabpceapcaaGreatDoor

namespace Go.Proofs.YtnnnfabpceapcaaGreatDoor
set_option linter.unusedSimpArgs false
open Go.RowKit
set_option linter.unusedVariables false

theorem Sp.cell {A : Nat → Prop} {sb : Nat} {T : List Pc} {w : World} (h : Sp A sb T w) : ∃ v, w.heap[sb]? = some (.cells #[v] 59 (0, 0)) ∧ w.cell? ⟨sb, 0, none⟩ = some v := by
  obtain ⟨h1, h2, h3, v, h4, h5, h6⟩ := h
  exact ⟨v, h4, by simp [World.cell?, h4]⟩

set_option maxHeartbeats 4000000 in
theorem say50 {A : Nat → Prop} {sb tb : Nat} {T : List Pc} {w : World} {ts : List ByteArray} (h : Sp A sb T w) (hA : A tb) (hts : ∀ i (h : i < ts.length), w.cell? ⟨tb, i, none⟩ = some (.string ts[i])) (hT : T.length + ts.length ≤ 1099511627776) :
    Calls Tryz.prog 79 #[.pointer (some ⟨sb, 0, none⟩), .slice (some ⟨tb, 0, none⟩) ts.length ts.length] w fun e w' => e = .returned (.tuple #[]) ∧ Sp A sb (T ++ ts.map txt) w' ∧ On A w w' := by
  obtain ⟨i0, hi, hz0, hz1, hz2⟩ := info_parts info56'
  have htb := h.lt tb hA
  have HTS := hid' hts
  have HS := hid' h
  clear hts h
  go_enter Tryz.func79, Tryz.ntmps79
  go_wp2
  go_loopw [8] (fun i W => ∃ j : Nat, j ≤ ts.length ∧ i = .int .i64 j ∧ Hid (Sp A sb (T ++ (ts.take j).map txt) W ∧ On A w W)) (fun i _ => ts.length - (intOf i).toNat)
  case atStart => exact ⟨0, Nat.zero_le _, rfl, by simpa using HS.out, On.rfl _ _⟩
  case round =>
    obtain ⟨j, hj, rfl, HR⟩ := hrel
    by_cases hlt : j < ts.length
    · obtain ⟨⟨h1, h2, h3, v, h4, h5, h6⟩, hon⟩ := HR.out
      have c0 : wr.cell? ⟨sb, 0, none⟩ = some v := by simp [World.cell?, h4]
      have ct : wr.cell? ⟨tb, j, none⟩ = some (.string ts[j]) := (hon.cell hA htb).trans (HTS.out j hlt)
      have htb' : tb < wr.heap.size := Nat.lt_of_lt_of_le htb hon.size
      obtain ⟨T', hT'⟩ : ∃ T', T' = T ++ (ts.take j).map txt := ⟨_, rfl⟩
      have hTl : T'.length ≤ 1099511627776 := by rw [hT', List.length_append, List.length_map, List.length_take]; omega
      have hTn : Hid (T ++ (ts.take (j + 1)).map txt = T' ++ [txt ts[j]]) := by
        show _ = _
        rw [hT', take_next ts j hlt, List.map_append, List.append_assoc]
        rfl
      rw [← hT'] at h5
      have H4 := hid' h4
      have H6 := hid' h6
      have H1 := hid' h1
      have HON := hid' hon
      have hvl := pcC_length T'
      clear h4 h6 h1 hT' hon HR
      generalize ts[j] = s at *
      go_wp2_with (at_builtin; refine of_mark ?_)
      unfold Mark
      refine wpList_append_lies _ rfl _ _ 57 rfl 0 56 i0 (.agg #[.string ⟨#[]⟩, .pointer none]) 2 24 Tryz.underlying57 hi hz0 hz1 hz2 rfl (by decide) v T'.length (pcC T') rfl (h5.alloc _) ⟨wr.heap.size, 0, none⟩ 1 1 [.string s, .pointer none] rfl rfl (cells2 (by simp [go_sem]) (by simp [go_sem])) (fun u hu => by simp at hu; rcases hu with rfl | rfl <;> rfl) (by decide) (by unfold maxLen; omega) (by omega) (by omega) (wr.heap.size + 1) (by simp) ?_
      intro g cap w2 hown hgrow hloc hgl
      have HP := hid' (Sp.push (p := txt s) H1.out h2 h3 H4.out H6.out (below1 _ _) hown hgrow (hloc.imp id (fun e => by simpa using e)))
      have hb2 : w2.heap[sb]? = some (.cells #[v] 59 (0, 0)) := by
        rw [hgrow.block sb (by simp; omega) (fun e => (H6.out sb e.symm).1 rfl), (below1 _ _).block sb h3, H4.out]
      have hfz : w2.frozen? ⟨sb, 0, none⟩ = false := by simp [World.frozen?, hb2]
      have hc2 : w2.cell? ⟨sb, 0, none⟩ = some v := by simp [World.cell?, hb2]
      have hl2 : sb < w2.heap.size := by have := hgrow.size; simp at this; omega
      clear hown hgrow hloc hb2
      go_wp2
      exact ⟨⟨j + 1, by omega, by go_num, by rw [hTn.out]; exact HP.out.1, HON.out.trans HP.out.2⟩, by simp [intOf]; omega⟩
    · have e : j = ts.length := by omega
      subst e
      have HE : Hid (Sp A sb (T ++ ts.map txt) wr ∧ On A w wr) := by
        have := HR.out
        rw [List.take_length] at this
        exact this
      go_wp2
      go_end0
      exact ⟨rfl, HE.out⟩

theorem cells_str (w : World) (ts : List ByteArray) : ∀ i (h : i < ts.length), (w.alloc (.cells (ts.map Value.string).toArray 9)).cell? ⟨w.heap.size, i, none⟩ = some (.string ts[i]) := by
  intro i hi
  have : (w.alloc (.cells (ts.map Value.string).toArray 9)).heap[w.heap.size]? = some (.cells (ts.map Value.string).toArray 9 (0, 0)) := heap_alloc_new w _
  rw [cell_of_row _ _ _ _ _ _ this]
  simp [hi]

section
variable {G : NdH → List Tr → Bool} {sp : Tr → List UInt8} {A : Nat → Prop} {sb : Nat} {T : List Pc} {w w0 : World}
/-- A call lays pieces that say a text. -/
def Laid (G : NdH → List Tr → Bool) (sp : Tr → List UInt8) (w0 : World) (A : Nat → Prop) (sb : Nat) (T : List Pc) (w : World) (L : List UInt8) (n : Nat) (e : Ending) (w' : World) : Prop :=
  e = .returned (.tuple #[]) ∧ ∃ P, Sp A sb (T ++ P) w' ∧ On A w w' ∧ Says G sp w0 P L n
theorem says_txts : ∀ (ts : List ByteArray), Says G sp w0 (ts.map txt) (ts.map lst).flatten ts.length
  | [] => Says.nil
  | s :: r => ((Says.txt s).append (says_txts r)).more (by simp; omega)
/-- Texts that the caller lays out himself. -/
theorem say_new (G : NdH → List Tr → Bool) (sp : Tr → List UInt8) (w0 : World) (ts : List ByteArray) (h : Sp A sb T w) (hT : T.length + ts.length ≤ 1099511627776) (tb m : Nat) (e1 : tb = w.heap.size) (e2 : m = ts.length) :
    Calls Tryz.prog 79 #[.pointer (some ⟨sb, 0, none⟩), .slice (some ⟨tb, 0, none⟩) m m] (w.alloc (.cells (ts.map Value.string).toArray 9)) (Laid G sp w0 A sb T w (ts.map lst).flatten ts.length) := by
  subst e1 e2
  refine (say50 (h.also _) (.inr rfl) (cells_str w ts) hT).mono fun e w' hq => ⟨hq.1, ts.map txt, hq.2.1.less (fun k hk => .inl hk), ?_, says_txts ts⟩
  have h1 : On A w (w.alloc (.cells (ts.map Value.string).toArray 9)) := (On.rfl _ _).alloc _
  exact h1.trans (hq.2.2.less (fun k hk => .inl hk))
theorem put_new {b o : Nat} {x : NdH} {kv : Value} {i cb : Nat} {ks : List Tr} (hat : NdAt w0 b o x kv) (hb : b < w0.heap.size) (hK : Ks cb i w0 kv ks) (hG : allT G (Tr.node x ks) = true) (h : Sp A sb T w) (hT : T.length ≤ 1099511627776) :
    Calls Tryz.prog 84 #[.pointer (some ⟨sb, 0, none⟩), .pointer (some ⟨b, o, none⟩)] w (Laid G sp w0 A sb T w (sp (Tr.node x ks)) (wtT (Tr.node x ks))) :=
  (put55 (Tr.node x ks) h hT).mono fun e w' hq => ⟨hq.1, _, hq.2.1, hq.2.2, Says.nod hat hb hK hG⟩

/-- Kids' weights, and one for what stands between. -/
def wtL : List Tr → Nat
  | [] => 0
  | t :: r => wtT t + 1 + wtL r
theorem wtL_append : ∀ (a b : List Tr), wtL (a ++ b) = wtL a + wtL b
  | [], b => by show wtL b = 0 + wtL b; omega
  | t :: r, b => by
    show wtT t + 1 + wtL (r ++ b) = wtT t + 1 + wtL r + wtL b
    rw [wtL_append r b]
    omega
theorem wtL_le : ∀ (l : List Tr), wtL l ≤ 23 * szL l
  | [] => Nat.zero_le _
  | t :: r => by
    have := wtL_le r
    have := szT_pos t
    show wtT t + 1 + wtL r ≤ 23 * szL (t :: r)
    rw [szL_cons]
    unfold wtT
    omega
theorem joinL_snoc (sep : List UInt8) : ∀ (l : List (List UInt8)) (a : List UInt8), joinL sep (l ++ [a]) = joinL sep l ++ ((if l.isEmpty then [] else sep) ++ a)
  | [], a => rfl
  | [b], a => rfl
  | b :: c :: r, a => by
    show b ++ (sep ++ joinL sep ((c :: r) ++ [a])) = b ++ (sep ++ joinL sep (c :: r)) ++ (sep ++ a)
    rw [joinL_snoc sep (c :: r) a]
    simp [List.append_assoc]
theorem allL_get {G : NdH → List Tr → Bool} {ks : List Tr} (h : allL G ks = true) (j : Nat) (hj : j < ks.length) : allT G ks[j] = true := by
  unfold allL at h
  rw [List.all_eq_true] at h
  exact h _ (List.mem_map.2 ⟨_, List.getElem_mem hj, rfl⟩)

set_option maxHeartbeats 4000000 in
theorem list56 {kv : Value} {n cb : Nat} {ks : List Tr} (bt : ByteArray) (hw : Below w0.heap.size w0 w) (hA : ∀ k, k < w0.heap.size → A k) (hK : Ks cb n w0 kv ks) (hG : allL G ks = true) (h : Sp A sb T w) (hT : T.length + wtL ks ≤ 549755813888) :
    Calls Tryz.prog 85 #[.pointer (some ⟨sb, 0, none⟩), kv, .string bt] w (Laid G sp w0 A sb T w (joinL (lst bt) (ks.map sp)) (wtL ks)) := by
  obtain ⟨hkl, ao, cap, rfl⟩ := hK.shape
  have HK := hid' hK
  have HS := hid' h
  have HG := hid' hG
  have HW := hid' hw
  clear hK h hG hw
  go_enter Tryz.func85, Tryz.ntmps85
  go_wp2
  go_loopw [9] (fun i W => ∃ j : Nat, j ≤ ks.length ∧ i = .int .i64 j ∧ Hid (∃ P, Sp A sb (T ++ P) W ∧ On A w W ∧ Says G sp w0 P (joinL (lst bt) ((ks.take j).map sp)) (wtL (ks.take j)))) (fun i _ => ks.length - (intOf i).toNat)
  case atStart => exact ⟨0, Nat.zero_le _, rfl, [], by simpa using HS.out, On.rfl _ _, Says.nil⟩
  case round =>
    obtain ⟨j, hj, rfl, HR⟩ := hrel
    by_cases hlt : j < ks.length
    · obtain ⟨P, hS, hon, hSay⟩ := HR.out
      obtain ⟨m', b, off, x', kv', ks', hm', rfl, ⟨hbl, hbn⟩, hke, hat, hK'⟩ := HK.out.kid j hlt
      have hGk : allT G (Tr.node x' ks') = true := by rw [← hke]; exact allL_get HG.out j hlt
      have hwt : wtL (ks.take (j + 1)) = wtL (ks.take j) + (wtT (Tr.node x' ks') + 1) := by
        rw [take_next ks j hlt, wtL_append, hke]
        rfl
      have hwl : wtL (ks.take (j + 1)) ≤ wtL ks := by
        have := wtL_append (ks.take (j + 1)) (ks.drop (j + 1))
        rw [List.take_append_drop] at this
        omega
      have hjn : joinL (lst bt) ((ks.take (j + 1)).map sp) = joinL (lst bt) ((ks.take j).map sp) ++ ((if j = 0 then [] else lst bt) ++ sp (Tr.node x' ks')) := by
        rw [take_next ks j hlt, List.map_append, hke]
        show joinL (lst bt) (_ ++ [sp (Tr.node x' ks')]) = _
        rw [joinL_snoc]
        congr 2
        by_cases h0 : j = 0
        · subst h0
          rfl
        · rw [if_neg h0, if_neg]
          simp
          exact ⟨h0, fun e => by rw [e] at hlt; simp at hlt⟩
      have hPl := Nat.le_trans (len_le_wts P) hSay.wt
      have HF : Hid (∀ (P' : List Pc) (W' : World) (c : Nat), Sp A sb (T ++ P ++ P') W' → On A wr W' → Says G sp w0 P' ((if j = 0 then [] else lst bt) ++ sp (Tr.node x' ks')) c → c ≤ wtT (Tr.node x' ks') + 1 → ∃ P, Sp A sb (T ++ P) W' ∧ On A w W' ∧ Says G sp w0 P (joinL (lst bt) ((ks.take (j + 1)).map sp)) (wtL (ks.take (j + 1)))) :=
        fun P' W' c k1 k2 k3 k4 => ⟨P ++ P', by rw [← List.append_assoc]; exact k1, hon.trans k2, ((hSay.append k3).is hjn.symm).more (by omega)⟩
      have HSP : Hid (Sp A sb (T ++ P) wr) := hS
      have hPL : (T ++ P).length + 1 ≤ 1099511627776 := by rw [List.length_append]; omega
      generalize T ++ P = T1 at *
      have HPUT : Hid (∀ (T2 : List Pc) (W : World), Sp A sb T2 W → T2.length ≤ 1099511627776 → Calls Tryz.prog 84 #[.pointer (some ⟨sb, 0, none⟩), .pointer (some ⟨b, off + j * 6, none⟩)] W (Laid G sp w0 A sb T2 W (sp (Tr.node x' ks')) (wtT (Tr.node x' ks')))) := fun T2 W k1 k2 => put_new hat hbl hK' hGk k1 k2
      clear hke hat hK' hGk hwt hwl hjn hSay hS hon HR
      cases hbt : bt.toList == [] with
      | true =>
        have hb0 : Hid ((if j = 0 then [] else lst bt) = []) := by
          show _ = _
          split
          · rfl
          · rw [← lst_eq]; simpa using hbt
        by_cases h0 : j = 0
        · subst h0
          go_wp2_with (go_at_call 84; refine (HPUT.out T1 wr HSP.out (by omega)).mono ?_; rintro e w1 ⟨rfl, hq⟩; replace hq := hid' hq)
          obtain ⟨P', k1, k2, k3⟩ := hq.out
          exact ⟨⟨1, by omega, by go_num, HF.out P' w1 _ k1 k2 (k3.is (by rw [hb0.out]; rfl)) (Nat.le_succ _)⟩, by simp [intOf]; omega⟩
        · go_wp2_with (go_at_call 84; refine (HPUT.out T1 wr HSP.out (by omega)).mono ?_; rintro e w1 ⟨rfl, hq⟩; replace hq := hid' hq)
          obtain ⟨P', k1, k2, k3⟩ := hq.out
          exact ⟨⟨j + 1, by omega, by go_num, HF.out P' w1 _ k1 k2 (k3.is (by rw [hb0.out]; rfl)) (Nat.le_succ _)⟩, by simp [intOf]; omega⟩
      | false =>
        by_cases h0 : j = 0
        · subst h0
          rw [if_pos rfl] at HF
          go_wp2_with (go_at_call 84; refine (HPUT.out T1 wr HSP.out (by omega)).mono ?_; rintro e w1 ⟨rfl, hq⟩; replace hq := hid' hq)
          obtain ⟨P', k1, k2, k3⟩ := hq.out
          exact ⟨⟨1, by omega, by go_num, HF.out P' w1 _ k1 k2 (k3.is rfl) (Nat.le_succ _)⟩, by simp [intOf]; omega⟩
        · rw [if_neg h0] at HF
          go_wp2_with (first
            | (go_at_call 79; refine (say_new G sp w0 [bt] HSP.out (by simpa using hPL) _ _ rfl rfl).mono ?_; rintro e w1 ⟨rfl, P1, a1, a2, a3⟩; have hP1 : (T1 ++ P1).length ≤ 1099511627776 := by { have := a3.wt; have := len_le_wts P1; rw [List.length_append]; simp at *; omega }; replace a1 := hid' a1; replace a2 := hid' a2; replace a3 := hid' a3)
            | (go_at_call 84; refine (HPUT.out (T1 ++ P1) w1 a1.out hP1).mono ?_; rintro e w2 ⟨rfl, hq⟩; replace hq := hid' hq))
          obtain ⟨P', k1, k2, k3⟩ := hq.out
          exact ⟨⟨j + 1, by omega, by go_num, HF.out (P1 ++ P') w2 _ (by rw [← List.append_assoc]; exact k1) (a2.out.trans k2) (((a3.out.append k3)).is (by simp)) (by simp; omega)⟩, by simp [intOf]; omega⟩
    · have e : j = ks.length := by omega
      subst e
      have HE : Hid (∃ P, Sp A sb (T ++ P) wr ∧ On A w wr ∧ Says G sp w0 P (joinL (lst bt) (ks.map sp)) (wtL ks)) := by
        have := HR.out
        rw [List.take_length] at this
        exact this
      go_wp2
      go_end0
      exact ⟨rfl, HE.out⟩
end
end Go.Proofs.YtnnnfabpceapcaaGreatDoor

namespace Go.Proofs.YtnnnfabpceapcaaGreatDoor
set_option linter.unusedSimpArgs false
open Go.RowKit
set_option linter.unusedVariables false

/-- In a split's midst: pieces that say a text are laid. -/
def St (G : NdH → List Tr → Bool) (sp : Tr → List UInt8) (w0 : World) (A : Nat → Prop) (sb : Nat) (T : List Pc) (w : World) (L : List UInt8) (n : Nat) (W : World) : Prop := ∃ P, Sp A sb (T ++ P) W ∧ On A w W ∧ Says G sp w0 P L n
section
variable {G : NdH → List Tr → Bool} {sp : Tr → List UInt8} {A : Nat → Prop} {sb : Nat} {T : List Pc} {w w0 W : World} {L : List UInt8} {n : Nat}
theorem St.start (h : Sp A sb T w) : Hid (St G sp w0 A sb T w [] 0 w) := ⟨[], by simpa using h, On.rfl _ _, Says.nil⟩
theorem St.bel (h : St G sp w0 A sb T w L n W) (hw : Below w0.heap.size w0 w) (hA : ∀ k, k < w0.heap.size → A k) : Below w0.heap.size w0 W := by
  obtain ⟨P, _, h2, _⟩ := h
  exact hw.trans (h2.below hA hw.size)
theorem St.laid {M : List UInt8} {m : Nat} (h : St G sp w0 A sb T w L n W) (e : L = M) (hm : n ≤ m) : Laid G sp w0 A sb T w M m (.returned (.tuple #[])) W := by
  obtain ⟨P, h1, h2, h3⟩ := h
  exact ⟨rfl, P, h1, h2, (h3.is e).more hm⟩
theorem St.step {f : FuncId} {args : Array Value} {W' : World} {M : List UInt8} {m : Nat} (h : St G sp w0 A sb T w L n W) (hc : ∀ P, Sp A sb (T ++ P) W → P.length ≤ n → Calls Tryz.prog f args W' (Laid G sp w0 A sb (T ++ P) W M m)) : Calls Tryz.prog f args W' fun e w' => e = .returned (.tuple #[]) ∧ Hid (St G sp w0 A sb T w (L ++ M) (n + m) w') := by
  obtain ⟨P, h1, h2, h3⟩ := h
  refine (hc P h1 (Nat.le_trans (len_le_wts P) h3.wt)).mono fun e w' hq => ⟨hq.1, ?_⟩
  obtain ⟨_, Q, k1, k2, k3⟩ := hq
  exact ⟨P ++ Q, by rw [← List.append_assoc]; exact k1, h2.trans k2, h3.append k3⟩
theorem say_st (ts : List ByteArray) (h : St G sp w0 A sb T w L n W) (hT : T.length + n + ts.length ≤ 1099511627776) (tb m : Nat) (e1 : tb = W.heap.size) (e2 : m = ts.length) :
    Calls Tryz.prog 79 #[.pointer (some ⟨sb, 0, none⟩), .slice (some ⟨tb, 0, none⟩) m m] (W.alloc (.cells (ts.map Value.string).toArray 9)) fun e w' => e = .returned (.tuple #[]) ∧ Hid (St G sp w0 A sb T w (L ++ (ts.map lst).flatten) (n + ts.length) w') :=
  h.step fun P h1 hl => say_new G sp w0 ts h1 (by rw [List.length_append]; omega) tb m e1 e2
theorem put_st {b o : Nat} {x : NdH} {kv : Value} {i cb : Nat} {ks : List Tr} (hat : NdAt w0 b o x kv) (hb : b < w0.heap.size) (hK : Ks cb i w0 kv ks) (hG : allT G (Tr.node x ks) = true) (h : St G sp w0 A sb T w L n W) (hT : T.length + n ≤ 1099511627776) :
    Calls Tryz.prog 84 #[.pointer (some ⟨sb, 0, none⟩), .pointer (some ⟨b, o, none⟩)] W fun e w' => e = .returned (.tuple #[]) ∧ Hid (St G sp w0 A sb T w (L ++ sp (Tr.node x ks)) (n + wtT (Tr.node x ks)) w') :=
  h.step fun P h1 hl => put_new hat hb hK hG h1 (by rw [List.length_append]; omega)
theorem list_st {kv : Value} {i cb : Nat} {ks : List Tr} (bt : ByteArray) (hw : Below w0.heap.size w0 w) (hA : ∀ k, k < w0.heap.size → A k) (hK : Ks cb i w0 kv ks) (hG : allL G ks = true) (h : St G sp w0 A sb T w L n W) (hT : T.length + n + wtL ks ≤ 549755813888) :
    Calls Tryz.prog 85 #[.pointer (some ⟨sb, 0, none⟩), kv, .string bt] W fun e w' => e = .returned (.tuple #[]) ∧ Hid (St G sp w0 A sb T w (L ++ joinL (lst bt) (ks.map sp)) (n + wtL ks) w') :=
  h.step fun P h1 hl => list56 bt (h.bel hw hA) hA hK hG h1 (by rw [List.length_append]; omega)
end
theorem wtT_node (x : NdH) (ks : List Tr) : wtT (Tr.node x ks) = 20 + 23 * szL ks := by unfold wtT; rw [szT_node]; omega
theorem wtL_cons (t : Tr) (r : List Tr) : wtL (t :: r) = wtT t + 1 + wtL r := rfl

section
variable {G : NdH → List Tr → Bool} {qt : List UInt8 → List UInt8} {A : Nat → Prop} {sb : Nat} {T : List Pc} {w w0 : World} {b o : Nat} {x : NdH} {kv : Value} {n cb : Nat} {ks : List Tr}
/-- A node that is to be split, and where. -/
structure Job (G : NdH → List Tr → Bool) (A : Nat → Prop) (sb : Nat) (T : List Pc) (w0 w : World) (b o : Nat) (x : NdH) (kv : Value) (n cb : Nat) (ks : List Tr) : Prop where
  hw : Below w0.heap.size w0 w
  hA : ∀ k, k < w0.heap.size → A k
  sp : Sp A sb T w
  hat : NdAt w0 b o x kv
  hb : b < w0.heap.size
  hK : Ks cb n w0 kv ks
  hG : allL G ks = true
  hT : T.length + 30 + 23 * szL ks ≤ 549755813888
/-- What is laid says the node. -/
abbrev Spelt (G : NdH → List Tr → Bool) (qt : List UInt8 → List UInt8) (A : Nat → Prop) (sb : Nat) (T : List Pc) (w0 w : World) (x : NdH) (ks : List Tr) : Ending → World → Prop := Laid G (spellT qt) w0 A sb T w (spellN qt x ks (ks.map (spellT qt))) (19 + 23 * szL ks)

set_option maxHeartbeats 2000000 in
theorem prog39 (J : Job G A sb T w0 w b o x kv n cb ks) (hk : x.kind = 40) : Calls Tryz.prog 57 #[.pointer (some ⟨sb, 0, none⟩), .pointer (some ⟨b, o, none⟩)] w (Spelt G qt A sb T w0 w x ks) := by
  have hL := wtL_le ks
  have hT := J.hT
  obtain ⟨c0, _, _, _, c4, _⟩ := J.hat.below J.hw J.hb
  have hbw := Nat.lt_of_lt_of_le J.hb J.hw.size
  have s0 := St.start (G := G) (sp := spellT qt) (w0 := w0) J.sp
  obtain ⟨hkl, ao, cap, rfl⟩ := J.hK.shape
  have hF : Hid (joinL [] (ks.map (spellT qt)) = spellN qt x ks (ks.map (spellT qt))) := by
    show _ = _
    unfold spellN
    simp [hk]
  rw [hk] at c0
  go_enter Tryz.func57, Tryz.ntmps57
  go_wp2_with (go_at_call 85; refine (list_st ⟨#[]⟩ J.hw J.hA J.hK J.hG s0.out (by omega)).mono ?_; rintro e w1 ⟨rfl, s1⟩)
  go_end0
  exact s1.out.laid hF.out (by omega)
set_option maxHeartbeats 2000000 in
theorem type39 (J : Job G A sb T w0 w b o x kv n cb ks) (hk : x.kind = 16) : Calls Tryz.prog 57 #[.pointer (some ⟨sb, 0, none⟩), .pointer (some ⟨b, o, none⟩)] w (Spelt G qt A sb T w0 w x ks) := by
  have hT := J.hT
  obtain ⟨c0, c1, _, _, c4, _⟩ := J.hat.below J.hw J.hb
  have hbw := Nat.lt_of_lt_of_le J.hb J.hw.size
  have s0 := St.start (G := G) (sp := spellT qt) (w0 := w0) J.sp
  obtain ⟨hkl, ao, cap, rfl⟩ := J.hK.shape
  have hF : Hid ([] ++ (List.map lst [x.str]).flatten = spellN qt x ks (ks.map (spellT qt))) := by
    show _ = _
    unfold spellN
    simp [hk]
  rw [hk] at c0
  go_enter Tryz.func57, Tryz.ntmps57
  go_wp2_with (go_at_call 79; refine (say_st [x.str] s0.out (by simp; omega) _ _ rfl rfl).mono ?_; rintro e w1 ⟨rfl, s1⟩)
  go_end0
  exact s1.out.laid hF.out (by simp; omega)
end
end Go.Proofs.YtnnnfabpceapcaaGreatDoor
